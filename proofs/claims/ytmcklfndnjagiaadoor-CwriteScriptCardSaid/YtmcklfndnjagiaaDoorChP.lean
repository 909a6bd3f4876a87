/- The document's own heads (package truchmanref20): PutField, PutList, PutMap. -/
import Derived.Test.YtmcklfndnjagiaaDoorChI
namespace Go.Proofs.YtmcklfndnjagiaaDoor
open Go Go.RowKit
set_option linter.unusedVariables false

theorem rbytes_l {x : Nat} {X : ByteArray} (hx : x < 256) (hX : Hid (X = bA [UInt8.ofNat x])) (w : World) :
    Calls Tryd.prog 52 #[.int .u8 (x : Nat)] w fun e w' => e = .returned (.string X) ∧ Below w.heap.size w w' := by
  rw [hX.out]; exact rbytes_any x hx w
theorem rbytes_zero (w : World) :
    Calls Tryd.prog 52 #[.int .u8 0] w fun e w' => e = .returned (.string (bA [UInt8.ofNat 0])) ∧ Below w.heap.size w w' := rbytes_any 0 (by decide) w
theorem rvput_l {u : Nat} {Y : ByteArray} (hu : u < 18446744073709551616) (hY : Hid (Y = bA (vB u))) (w : World) :
    Calls Tryd.prog 53 #[.int .u64 (u : Nat)] w fun e w' => e = .returned (.string Y) ∧ Below w.heap.size w w' := by
  rw [hY.out]; exact rput_any 10 u w (Nat.lt_of_lt_of_le hu (by decide)) hu
theorem ret_s {a b : ByteArray} (h : a = b) : Ending.returned (.string a) = .returned (.string b) := by rw [h]

def PfRel (last id : Int) (W : World) (i : Value) (wr : World) : Prop :=
  ∃ k : Nat, 1 ≤ k ∧ k ≤ 16 ∧ i = .int .i64 k ∧ wr = W ∧ ∀ j : Nat, 1 ≤ j → j < k → ¬ (-32768 ≤ last ∧ last = id - (j : Int))

set_option maxHeartbeats 1000000 in
theorem rpf_kind (last id : Int) (k : Nat) (w : World) (hk : kB k = false) :
    Calls Tryd.prog 26 #[.int .i64 last, .int .i64 id, .int .u8 (k : Nat)] w fun e w' => e = .returned (.string (bA (hdB last id k))) ∧ Below w.heap.size w w' := by
  have HK := Lib.hid (fun w => ris_l (Lib.hid hk.symm) w)
  have HR := Lib.hid (show hdB last id k = [] by unfold hdB; simp [hk])
  clear hk
  go_enter Tryd.func26, Tryd.ntmps26
  go_wp2_with fail
  with_reducible refine (HK.out _).mono ?_
  rintro e w1 ⟨rfl, rfl⟩
  go_wp2
  go_ret
  exact ⟨ret_s (by rw [HR.out]; rfl), Below.refl _ _⟩

set_option maxHeartbeats 1000000 in
theorem rpf_number (last id : Int) (k : Nat) (w : World) (hk : kB k = true) (hn : numB id = false) :
    Calls Tryd.prog 26 #[.int .i64 last, .int .i64 id, .int .u8 (k : Nat)] w fun e w' => e = .returned (.string (bA (hdB last id k))) ∧ Below w.heap.size w w' := by
  have HK := Lib.hid (fun w => ris_l (Lib.hid hk.symm) w)
  have HN := Lib.hid (fun w => rnum_l (Lib.hid hn.symm) w)
  have HR := Lib.hid (show hdB last id k = [] by unfold hdB; simp [hn])
  clear hk hn
  go_enter Tryd.func26, Tryd.ntmps26
  go_wp2_with fail
  with_reducible refine (HK.out _).mono ?_
  rintro e w1 ⟨rfl, rfl⟩
  go_wp2_with fail
  with_reducible refine (HN.out _).mono ?_
  rintro e w1 ⟨rfl, rfl⟩
  go_wp2
  go_ret
  exact ⟨ret_s (by rw [HR.out]; rfl), Below.refl _ _⟩

set_option maxHeartbeats 1000000 in
theorem rpf_loop (last id : Int) (k : Nat) (w : World) (hk : kB k = true) (hn : numB id = true) :
    Calls Tryd.prog 26 #[.int .i64 last, .int .i64 id, .int .u8 (k : Nat)] w fun e w' => e = .returned (.string (bA (hdB last id k))) ∧ Below w.heap.size w w' := by
  have HK := Lib.hid (fun w => ris_l (Lib.hid hk.symm) w)
  have HN := Lib.hid (fun w => rnum_l (Lib.hid hn.symm) w)
  have hnr := numB_yes hn
  have hkr := kB_yes hk
  have HD := Lib.hid (And.intro hn hk)
  have HZ := Lib.hid (fun w => rzig_any id w (by omega) (by omega))
  obtain ⟨z, hz⟩ : ∃ z : Nat, zigI id = (z : Int) := ⟨(zigI id).toNat, by have := zigI_range hn; omega⟩
  have hz2 := zigI_range hn
  rw [hz] at HZ hz2
  have Hz := Lib.hid hz
  obtain ⟨Y, hY⟩ : ∃ Y, Y = bA (vB z) := ⟨_, rfl⟩
  have HP := Lib.hid (fun w => rvput_l (u := z) (by omega) (Lib.hid hY) w)
  have sY : Y.size ≤ 10 := by rw [hY, bA_size]; exact vB_le10 (by omega)
  obtain ⟨X, hX⟩ : ∃ X, X = bA [UInt8.ofNat k] := ⟨_, rfl⟩
  have HX := Lib.hid (fun w => rbytes_l (x := k) (by omega) (Lib.hid hX) w)
  have sX : X.size = 1 := by rw [hX]; rfl
  have HXY := Lib.hid (show X ++ Y = bA (UInt8.ofNat k :: vB z) by rw [hX, hY, bA_append]; rfl)
  clear hk hn hz hz2 hY hX
  go_enter Tryd.func26, Tryd.ntmps26
  go_wp2_with fail
  with_reducible refine (HK.out _).mono ?_
  rintro e w1 ⟨rfl, hww⟩
  rw [hww]
  clear hww
  go_wp2_with fail
  with_reducible refine (HN.out _).mono ?_
  rintro e w1 ⟨rfl, hww⟩
  rw [hww]
  clear hww
  go_wp2_with fail
  go_loopw [7] (fun i wr => PfRel last id w i wr) (fun i _ => 16 - (intOf i).toNat)
  case atStart => exact ⟨1, Nat.le_refl _, by omega, rfl, rfl, fun j h1 h2 => by omega⟩
  case round =>
    obtain ⟨s, hs1, hs2, rfl, rfl, hno⟩ := hrel
    by_cases hlt : s ≤ 15
    · have q1 : decide ((s : Int) ≤ 15) = true := decide_eq_true (by omega)
      have q1' : decide (s ≤ 15) = true := decide_eq_true hlt
      have e1 : IntKind.i64.wrap (id - (s : Int)) = id - (s : Int) := IntWalk.i64_in _ (by omega)
      by_cases hl : -32768 ≤ last
      · have q2 : decide (-32768 ≤ last) = true := decide_eq_true hl
        by_cases he : last = id - (s : Int)
        · have q3 : (last == id - (s : Int)) = true := by rw [he]; exact beq_self_eq_true _
          have e2 : IntKind.i64.wrap (16 * (s : Int)) = 16 * (s : Int) := IntWalk.i64_in _ (by omega)
          have e3 : IntKind.u8.wrap (16 * (s : Int)) = 16 * (s : Int) := IntWalk.u8_in _ (by omega)
          obtain ⟨x, hx⟩ : ∃ x, x = 16 * s + k := ⟨_, rfl⟩
          have e4 : IntKind.u8.wrap (16 * (s : Int) + (k : Int)) = (x : Int) := by rw [hx, IntWalk.u8_in _ (by omega)]; omega
          have HB := Lib.hid (fun w => rbytes_any x (by omega) w)
          have HR := Lib.hid (show hdB last id k = [UInt8.ofNat x] by
            have hr : nearB last id = true := by unfold nearB; rw [q2, decide_eq_true (by omega), decide_eq_true (by omega)]; rfl
            unfold hdB; rw [if_pos (by rw [HD.out.1, HD.out.2]; rfl), if_pos hr]
            have : (id - last).toNat = s := by omega
            rw [this, hx])
          clear hno hs1 hs2 hlt hl he hx hnr hkr
          go_wp2_with fail
          with_reducible refine (HB.out _).mono ?_
          rintro e w2 ⟨rfl, b2⟩
          go_wp2
          go_ret
          exact ⟨ret_s (by rw [HR.out]), b2⟩
        · have q3 : (last == id - (s : Int)) = false := beq_eq_false_iff_ne.mpr he
          have HNo := Lib.hid (show ∀ j : Nat, 1 ≤ j → j < s + 1 → ¬ (-32768 ≤ last ∧ last = id - (j : Int)) from fun j h1 h2 h3 => by
            by_cases hj : j = s
            · exact he (by rw [← hj]; exact h3.2)
            · exact hno j h1 (by omega) h3)
          clear hno hl he
          go_wp2
          go_roundw
          case rel => exact ⟨s + 1, by omega, by omega, by go_num, rfl, HNo.out⟩
          case measure => simp [intOf]; omega
      · have q2 : decide (-32768 ≤ last) = false := decide_eq_false hl
        have HNo := Lib.hid (show ∀ j : Nat, 1 ≤ j → j < s + 1 → ¬ (-32768 ≤ last ∧ last = id - (j : Int)) from fun j h1 h2 h3 => hl h3.1)
        clear hno hl
        go_wp2
        go_roundw
        case rel => exact ⟨s + 1, by omega, by omega, by go_num, rfl, HNo.out⟩
        case measure => simp [intOf]; omega
    · have q1 : decide ((s : Int) ≤ 15) = false := decide_eq_false (by omega)
      have q1' : decide (s ≤ 15) = false := decide_eq_false hlt
      have HR := Lib.hid (show hdB last id k = UInt8.ofNat k :: vB z by
        have hr : ¬ nearB last id = true := fun hr => by
          have h3 := nearB_yes hr
          exact hno (id - last).toNat (by omega) (by omega) ⟨h3.1, by omega⟩
        unfold hdB; rw [if_pos (by rw [HD.out.1, HD.out.2]; rfl), if_neg hr, Hz.out]; rfl)
      clear hno hs1 hs2 hlt hnr hkr
      go_wp2_with fail
      with_reducible refine (HX.out _).mono ?_
      rintro e w2 ⟨rfl, b2⟩
      go_wp2_with fail
      with_reducible refine (HZ.out _).mono ?_
      rintro e w3 ⟨rfl, rfl⟩
      go_wp2_with fail
      with_reducible refine (HP.out _).mono ?_
      rintro e w4 ⟨rfl, b4⟩
      go_wp2
      go_ret
      exact ⟨ret_s (by rw [HXY.out, HR.out]), grown_then b2 b4⟩

theorem rpf_any (last id : Int) (k : Nat) (w : World) :
    Calls Tryd.prog 26 #[.int .i64 last, .int .i64 id, .int .u8 (k : Nat)] w fun e w' => e = .returned (.string (bA (hdB last id k))) ∧ Below w.heap.size w w' := by
  rcases Bool.eq_false_or_eq_true (kB k) with hk | hk
  · rcases Bool.eq_false_or_eq_true (numB id) with hn | hn
    · exact rpf_loop last id k w hk hn
    · exact rpf_number last id k w hk hn
  · exact rpf_kind last id k w hk

set_option maxHeartbeats 1000000 in
theorem rpl_kind (n : Int) (k : Nat) (w : World) (hk : kB k = false) :
    Calls Tryd.prog 47 #[.int .i64 n, .int .u8 (k : Nat)] w fun e w' => e = .returned (.string (bA (lsB n k))) ∧ Below w.heap.size w w' := by
  have HK := Lib.hid (fun w => ris_l (Lib.hid hk.symm) w)
  have HR := Lib.hid (show lsB n k = [] by unfold lsB; simp [hk])
  clear hk
  go_enter Tryd.func47, Tryd.ntmps47
  go_wp2_with fail
  with_reducible refine (HK.out _).mono ?_
  rintro e w1 ⟨rfl, rfl⟩
  go_wp2
  go_ret
  exact ⟨ret_s (by rw [HR.out]; rfl), Below.refl _ _⟩

set_option maxHeartbeats 1000000 in
theorem rpl_low (n : Int) (k : Nat) (w : World) (hk : kB k = true) (hn : n < 0) :
    Calls Tryd.prog 47 #[.int .i64 n, .int .u8 (k : Nat)] w fun e w' => e = .returned (.string (bA (lsB n k))) ∧ Below w.heap.size w w' := by
  have HK := Lib.hid (fun w => ris_l (Lib.hid hk.symm) w)
  have q1 : decide (n < 0) = true := decide_eq_true (by omega)
  have hc : cntB n = false := by unfold cntB; rw [decide_eq_false (show ¬ 0 ≤ n by omega)]; rfl
  have HR := Lib.hid (show lsB n k = [] by unfold lsB; rw [if_neg (by rw [hc]; simp)])
  clear hk hn hc
  go_enter Tryd.func47, Tryd.ntmps47
  go_wp2_with fail
  with_reducible refine (HK.out _).mono ?_
  rintro e w1 ⟨rfl, rfl⟩
  go_wp2
  go_ret
  exact ⟨ret_s (by rw [HR.out]; rfl), Below.refl _ _⟩

set_option maxHeartbeats 1000000 in
theorem rpl_high (n : Int) (k : Nat) (w : World) (hk : kB k = true) (hn : 2147483647 < n) :
    Calls Tryd.prog 47 #[.int .i64 n, .int .u8 (k : Nat)] w fun e w' => e = .returned (.string (bA (lsB n k))) ∧ Below w.heap.size w w' := by
  have HK := Lib.hid (fun w => ris_l (Lib.hid hk.symm) w)
  have q1 : decide (n < 0) = false := decide_eq_false (by omega)
  have q2 : decide (2147483647 < n) = true := decide_eq_true (by omega)
  have hc : cntB n = false := by unfold cntB; rw [decide_eq_false (show ¬ n ≤ 2147483647 by omega), Bool.and_false]
  have HR := Lib.hid (show lsB n k = [] by unfold lsB; rw [if_neg (by rw [hc]; simp)])
  clear hk hn hc
  go_enter Tryd.func47, Tryd.ntmps47
  go_wp2_with fail
  with_reducible refine (HK.out _).mono ?_
  rintro e w1 ⟨rfl, rfl⟩
  go_wp2
  go_ret
  exact ⟨ret_s (by rw [HR.out]; rfl), Below.refl _ _⟩

set_option maxHeartbeats 1000000 in
theorem rpl_short (d k : Nat) (w : World) (hk : kB k = true) (hd : d < 15) :
    Calls Tryd.prog 47 #[.int .i64 (d : Nat), .int .u8 (k : Nat)] w fun e w' => e = .returned (.string (bA (lsB (d : Int) k))) ∧ Below w.heap.size w w' := by
  have HK := Lib.hid (fun w => ris_l (Lib.hid hk.symm) w)
  have hc : cntB (d : Int) = true := by unfold cntB; rw [decide_eq_true (show (0 : Int) ≤ (d : Int) by omega), decide_eq_true (show (d : Int) ≤ 2147483647 by omega)]; rfl
  have q1 : decide ((d : Int) < 0) = false := decide_eq_false (by omega)
  have q2 : decide (2147483647 < (d : Int)) = false := decide_eq_false (by omega)
  have q2' : decide (2147483647 < d) = false := decide_eq_false (by omega)
  have hkr := kB_yes hk
  have q3 : decide ((d : Int) < 15) = true := decide_eq_true (by omega)
  have q3' : decide (d < 15) = true := decide_eq_true hd
  have e2 : IntKind.i64.wrap (16 * (d : Int)) = 16 * (d : Int) := IntWalk.i64_in _ (by omega)
  have e3 : IntKind.u8.wrap (16 * (d : Int)) = 16 * (d : Int) := IntWalk.u8_in _ (by omega)
  obtain ⟨x, hx⟩ : ∃ x, x = 16 * d + k := ⟨_, rfl⟩
  have e4 : IntKind.u8.wrap (16 * (d : Int) + (k : Int)) = (x : Int) := by rw [hx, IntWalk.u8_in _ (by omega)]; omega
  have HB := Lib.hid (fun w => rbytes_any x (by omega) w)
  have HR := Lib.hid (show lsB (d : Int) k = [UInt8.ofNat x] by unfold lsB; rw [if_pos (by rw [hc, hk]; rfl), if_pos (by omega), hx]; rfl)
  clear hk hd hc hkr hx
  go_enter Tryd.func47, Tryd.ntmps47
  go_wp2_with fail
  with_reducible refine (HK.out _).mono ?_
  rintro e w1 ⟨rfl, rfl⟩
  go_wp2_with fail
  with_reducible refine (HB.out _).mono ?_
  rintro e w2 ⟨rfl, b2⟩
  go_wp2
  go_ret
  exact ⟨ret_s (by rw [HR.out]), b2⟩

set_option maxHeartbeats 1000000 in
theorem rpl_long (d k : Nat) (w : World) (hk : kB k = true) (hd : ¬ d < 15) (hd2 : d ≤ 2147483647) :
    Calls Tryd.prog 47 #[.int .i64 (d : Nat), .int .u8 (k : Nat)] w fun e w' => e = .returned (.string (bA (lsB (d : Int) k))) ∧ Below w.heap.size w w' := by
  have HK := Lib.hid (fun w => ris_l (Lib.hid hk.symm) w)
  have hc : cntB (d : Int) = true := by unfold cntB; rw [decide_eq_true (show (0 : Int) ≤ (d : Int) by omega), decide_eq_true (show (d : Int) ≤ 2147483647 by omega)]; rfl
  have q1 : decide ((d : Int) < 0) = false := decide_eq_false (by omega)
  have q2 : decide (2147483647 < (d : Int)) = false := decide_eq_false (by omega)
  have q2' : decide (2147483647 < d) = false := decide_eq_false (by omega)
  have hkr := kB_yes hk
  have q3 : decide ((d : Int) < 15) = false := decide_eq_false (by omega)
  have q3' : decide (d < 15) = false := decide_eq_false hd
  have e2 : IntKind.u64.wrap (d : Int) = (d : Int) := IntWalk.u64_in _ (by omega)
  obtain ⟨x, hx⟩ : ∃ x, x = 240 + k := ⟨_, rfl⟩
  have e4 : IntKind.u8.wrap (240 + (k : Int)) = (x : Int) := by rw [hx, IntWalk.u8_in _ (by omega)]; omega
  obtain ⟨Y, hY⟩ : ∃ Y, Y = bA (vB d) := ⟨_, rfl⟩
  have HP := Lib.hid (fun w => rvput_l (u := d) (by omega) (Lib.hid hY) w)
  have sY : Y.size ≤ 10 := by rw [hY, bA_size]; exact vB_le10 (by omega)
  obtain ⟨X, hX⟩ : ∃ X, X = bA [UInt8.ofNat x] := ⟨_, rfl⟩
  have HX := Lib.hid (fun w => rbytes_l (x := x) (by omega) (Lib.hid hX) w)
  have sX : X.size = 1 := by rw [hX]; rfl
  have HR := Lib.hid (show X ++ Y = bA (lsB (d : Int) k) by unfold lsB; rw [if_pos (by rw [hc, hk]; rfl), if_neg (by omega), hX, hY, hx, bA_append]; rfl)
  clear hk hd hd2 hc hkr hx hX hY
  go_enter Tryd.func47, Tryd.ntmps47
  go_wp2_with fail
  with_reducible refine (HK.out _).mono ?_
  rintro e w1 ⟨rfl, rfl⟩
  go_wp2_with fail
  with_reducible refine (HX.out _).mono ?_
  rintro e w2 ⟨rfl, b2⟩
  go_wp2_with fail
  with_reducible refine (HP.out _).mono ?_
  rintro e w4 ⟨rfl, b4⟩
  go_wp2
  go_ret
  exact ⟨ret_s HR.out, grown_then b2 b4⟩

theorem rpl_any (n : Int) (k : Nat) (w : World) :
    Calls Tryd.prog 47 #[.int .i64 n, .int .u8 (k : Nat)] w fun e w' => e = .returned (.string (bA (lsB n k))) ∧ Below w.heap.size w w' := by
  rcases Bool.eq_false_or_eq_true (kB k) with hk | hk
  · by_cases h1 : n < 0
    · exact rpl_low n k w hk h1
    · by_cases h2 : 2147483647 < n
      · exact rpl_high n k w hk h2
      · obtain ⟨d, rfl⟩ := Int.eq_ofNat_of_zero_le (show 0 ≤ n by omega)
        by_cases h3 : d < 15
        · exact rpl_short d k w hk h3
        · exact rpl_long d k w hk h3 (by omega)
  · exact rpl_kind n k w hk







end Go.Proofs.YtmcklfndnjagiaaDoor
