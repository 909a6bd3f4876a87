/- CskipWhole, walked. -/
import Derived.Test.YtmaojbhpnflbcaaSkWork
namespace Go.Proofs.Ytmaojbhpnflbcaa
open Go Go.RowKit
set_option linter.unusedVariables false

/-- What a field's value's bytes make of a cursor at a text's first byte. -/
def wholeC (k : Nat) (s : ByteArray) : CS := valTo (inTo 32) k (CS.new s)
theorem whole_ok (k : Nat) {s : ByteArray} (h : s.size ≤ 9223372036854775807) : (wholeC k s).ok := (val_std 32 k _ (CS.new_ok h)).1
theorem extract_list (s : ByteArray) (n : Nat) : (s.extract 0 n).data.toList = s.data.toList.take n := by simp [ByteArray.data_extract]
theorem whole_again {k : Nat} {s : ByteArray} (h : s.size ≤ 9223372036854775807) (h0 : (wholeC k s).er = 0) :
    ∃ n, n ≤ s.size ∧ wholeC k s = ⟨s, n, s.size, 0⟩ ∧ (∀ rest : ByteArray, (s.extract 0 n ++ rest).size ≤ 9223372036854775807 → wholeC k (s.extract 0 n ++ rest) = ⟨s.extract 0 n ++ rest, n, (s.extract 0 n ++ rest).size, 0⟩) ∧ (0 < n → (wholeC k (s.extract 0 (n - 1))).er = 1) := by
  obtain ⟨n, hn, e, hN⟩ := (Loc.value 32 k).good (CS.new s) (CS.new_ok h) h0
  have hl : (CS.new s).rest.length = s.size := by rw [new_rest, toList_size]
  rw [hl] at hn
  refine ⟨n, hn, ?_, fun rest hr => ?_, fun hp => ?_⟩
  · show valTo (inTo 32) k (CS.new s) = _
    rw [e]
    show (⟨s, 0 + n, s.size, 0⟩ : CS) = _
    rw [Nat.zero_add]
  · have hx : (s.extract 0 n).size = n := by simp; omega
    have hy : (s.extract 0 n ++ rest).size = n + rest.size := by rw [ByteArray.size_append, hx]
    have := ((hN (CS.new (s.extract 0 n ++ rest)) (CS.new_ok hr) rfl).1 (by rw [new_rest, toList_size]; omega) (by
      rw [new_rest, new_rest]
      have e1 : (s.extract 0 n ++ rest).data.toList = s.data.toList.take n ++ rest.data.toList := by rw [ByteArray.data_append, Array.toList_append, extract_list]
      rw [e1, List.take_append_of_le_length (by rw [List.length_take, toList_size]; omega), List.take_take, Nat.min_self])).1
    show valTo (inTo 32) k (CS.new _) = _
    rw [this]
    show (⟨s.extract 0 n ++ rest, 0 + n, (s.extract 0 n ++ rest).size, 0⟩ : CS) = _
    rw [Nat.zero_add]
  · have hx : (s.extract 0 (n - 1)).size = n - 1 := by simp; omega
    refine (hN (CS.new (s.extract 0 (n - 1))) (CS.new_ok (by omega)) rfl).2 (by rw [new_rest, toList_size]; omega) ?_
    rw [new_rest, new_rest, extract_list, List.length_take, toList_size, Nat.min_eq_left (by omega)]
theorem wh_l {k b : Nat} {s : ByteArray} {d : CS} {w : World} (hd : Hid (d = wholeC k s)) (hk : k < 256) (hs : s.size ≤ 9223372036854775807) (h : CurT 37 w b (CS.new s)) :
    Calls Try.prog 8 #[.pointer (some ⟨b, 0, none⟩), .int .u8 (k : Nat), .int .i64 0] w fun e w' => e = .returned (.tuple #[]) ∧ CurT 37 w' b d ∧ Only b w w' := by
  rw [hd.out]; exact skip_value k 0 (by decide) hk h (CS.new_ok hs)
theorem skw_out (s : ByteArray) (k : Nat) (rest : ByteArray) (w : World) (h : 300 < s.size ∨ 300 < rest.size) :
    Calls Try.prog 4 #[.string s, .int .u8 (k : Nat), .string rest] w fun e w' => e = .returned (.bool true) ∧ Below w.heap.size w w' := by
  by_cases h1 : 300 < s.size
  · have p1 : decide ((300 : Int) < (s.size : Int)) = true := decide_eq_true (by omega)
    have p1' : decide (300 < s.size) = true := decide_eq_true h1
    clear h
    go_enter Try.func4, Try.ntmps4
    go_wp2_with ((with_reducible refine (works21_any _).mono ?_); rintro e w2 ⟨rfl, hbel2⟩)
    go_ret
    exact ⟨rfl, hbel2⟩
  · have p1 : decide ((300 : Int) < (s.size : Int)) = false := decide_eq_false (by omega)
    have p1' : decide (300 < s.size) = false := decide_eq_false h1
    have p2 : decide ((300 : Int) < (rest.size : Int)) = true := decide_eq_true (by omega)
    have p2' : decide (300 < rest.size) = true := decide_eq_true (by omega)
    clear h
    go_enter Try.func4, Try.ntmps4
    go_wp2_with ((with_reducible refine (works21_any _).mono ?_); rintro e w2 ⟨rfl, hbel2⟩)
    go_ret
    exact ⟨rfl, hbel2⟩
set_option maxRecDepth 100000 in
set_option maxHeartbeats 2000000 in
theorem skw_in (s : ByteArray) (k : Nat) (rest : ByteArray) (w : World) (hk : k < 256) (h1 : s.size ≤ 300) (h2 : rest.size ≤ 300) :
    Calls Try.prog 4 #[.string s, .int .u8 (k : Nat), .string rest] w fun e w' => e = .returned (.bool true) ∧ Below w.heap.size w w' := by
  have p1 : decide ((300 : Int) < (s.size : Int)) = false := decide_eq_false (by omega)
  have p1' : decide (300 < s.size) = false := decide_eq_false (by omega)
  have p2 : decide ((300 : Int) < (rest.size : Int)) = false := decide_eq_false (by omega)
  have p2' : decide (300 < rest.size) = false := decide_eq_false (by omega)
  obtain ⟨A, hA⟩ : ∃ A, A = wholeC k s := ⟨_, rfl⟩
  have HV := Lib.hid (fun b w (h : CurT 37 w b (CS.new s)) => wh_l (k := k) (Lib.hid hA) hk (by omega) h)
  by_cases h0 : A.er = 0
  · rw [hA] at h0
    obtain ⟨n, hn, e1, e2, e3⟩ := whole_again (by omega) h0
    rw [← hA] at e1
    subst e1
    have hx : (s.extract 0 n).size = n := by simp; omega
    have hy : (s.extract 0 n ++ rest).size = n + rest.size := by rw [ByteArray.size_append, hx]
    have E2 := e2 rest (by omega)
    obtain ⟨S, hS⟩ : ∃ S, S = s.extract 0 n ++ rest := ⟨_, rfl⟩
    rw [← hS] at E2 hy
    have HB := Lib.hid (fun b w (h : CurT 37 w b (CS.new S)) => wh_l (k := k) (Lib.hid E2.symm) hk (by omega) h)
    have HN := Lib.hid (fun w => new_cur S w (by omega))
    have HAt := Lib.hid (fun b w (h : CurT 37 w b ⟨S, n, S.size, 0⟩) => at_any h ⟨by show n ≤ S.size; omega, Nat.le_refl _, by show S.size ≤ _; omega⟩)
    have HAa := Lib.hid (fun b w (h : CurT 37 w b ⟨s, n, s.size, 0⟩) => at_any h ⟨hn, Nat.le_refl _, by show s.size ≤ _; omega⟩)
    have q1 : decide ((n : Int) < 0) = false := decide_eq_false (by omega)
    have q2 : decide ((s.size : Int) < (n : Int)) = false := decide_eq_false (by omega)
    have q2' : decide (s.size < n) = false := decide_eq_false (by omega)
    have hle : n ≤ s.size := hn
    have hsum : (s.extract 0 n).size + rest.size ≤ 9223372036854775807 := by omega
    have HS := Lib.hid hS
    by_cases hn0 : n = 0
    · have z1 : ((n : Int) == 0) = true := by rw [hn0]; rfl
      have z1' : (n == 0) = true := by rw [hn0]; rfl
      have z2 : ((n : Int) != (n : Int)) = false := by simp
      clear hA hS E2 e2 e3 h0 hx hy hk hn0
      go_enter Try.func4, Try.ntmps4
      go_wp2_with fail
      refine (new_cur s _ (by omega)).mono ?_
      rintro e w1 ⟨a, rfl, ha, a1, B1⟩
      go_wp2_with fail
      with_reducible refine (HV.out _ _ a1).mono ?_
      rintro e w2 ⟨rfl, a2, o2⟩
      have B2 := Lib.hid (B1.trans (o2.below ha B1.size))
      clear a1 B1 o2 ha
      go_wp2_with (first | ((with_reducible refine (wk_er a2).mono ?_); rintro e w' ⟨rfl, rfl⟩) | ((with_reducible refine (HAa.out _ _ a2).mono ?_); rintro e w' ⟨rfl, rfl⟩))
      rw [← HS.out]
      refine (HN.out _).mono ?_
      rintro e w3 ⟨b, rfl, hb, b3, k3⟩
      have B3 := grown_then B2.out k3
      have hb2 : w.heap.size ≤ b := by have := B2.out.size; omega
      clear a2 k3 B2 hb HAa
      go_wp2_with fail
      with_reducible refine (HB.out _ _ b3).mono ?_
      rintro e w4 ⟨rfl, b4, o4⟩
      have B4 := Lib.hid (B3.trans (o4.below hb2 B3.size))
      clear b3 B3 o4 hb2
      go_wp2_with fail
      with_reducible refine (wk_er b4).mono ?_
      rintro e w5 ⟨rfl, rfl⟩
      go_wp2_with fail
      with_reducible refine (HAt.out _ _ b4).mono ?_
      rintro e w5 ⟨rfl, rfl⟩
      go_wp2_with fail
      with_reducible refine (works21_any _).mono ?_
      rintro e w6 ⟨rfl, k6⟩
      go_wp2
      go_ret
      exact ⟨rfl, grown_then B4.out k6⟩
    · have z1 : ((n : Int) == 0) = false := beq_eq_false_iff_ne.mpr (by omega)
      have z1' : (n == 0) = false := beq_eq_false_iff_ne.mpr hn0
      have z2 : ((n : Int) != (n : Int)) = false := by simp
      obtain ⟨m, hm⟩ : ∃ m, n = m + 1 := ⟨n - 1, by omega⟩
      have E3 := e3 (by omega)
      rw [show n - 1 = m by omega] at E3
      have hx2 : (s.extract 0 m).size = m := by simp; omega
      obtain ⟨D, hD⟩ : ∃ D, D = wholeC k (s.extract 0 m) := ⟨_, rfl⟩
      rw [← hD] at E3
      have HN2 := Lib.hid (fun w => new_cur (s.extract 0 m) w (by omega))
      have HB2 := Lib.hid (fun b w (h : CurT 37 w b (CS.new (s.extract 0 m))) => wh_l (k := k) (Lib.hid hD) hk (by omega) h)
      have HE2 := Lib.hid (fun b w (h : CurT 37 w b D) => err_any h)
      rw [E3] at HE2
      have m1 : IntKind.i64.wrap ((n : Int) - 1) = (m : Int) := by rw [show (n : Int) - 1 = (m : Int) by omega]; exact IntWalk.i64_in _ (by omega)
      have m2 : (n : Int) - 1 = (m : Int) := by omega
      have hlem : m ≤ s.size := by omega
      clear hA hS E2 E3 e2 e3 h0 hx hy hk hn0 hD hx2 hm
      go_enter Try.func4, Try.ntmps4
      go_wp2_with fail
      refine (new_cur s _ (by omega)).mono ?_
      rintro e w1 ⟨a, rfl, ha, a1, B1⟩
      go_wp2_with fail
      with_reducible refine (HV.out _ _ a1).mono ?_
      rintro e w2 ⟨rfl, a2, o2⟩
      have B2 := Lib.hid (B1.trans (o2.below ha B1.size))
      clear a1 B1 o2 ha
      go_wp2_with (first | ((with_reducible refine (wk_er a2).mono ?_); rintro e w' ⟨rfl, rfl⟩) | ((with_reducible refine (HAa.out _ _ a2).mono ?_); rintro e w' ⟨rfl, rfl⟩))
      rw [← HS.out]
      refine (HN.out _).mono ?_
      rintro e w3 ⟨b, rfl, hb, b3, k3⟩
      have B3 := grown_then B2.out k3
      have hb2 : w.heap.size ≤ b := by have := B2.out.size; omega
      clear a2 k3 B2 hb HAa
      go_wp2_with fail
      with_reducible refine (HB.out _ _ b3).mono ?_
      rintro e w4 ⟨rfl, b4, o4⟩
      have B4 := Lib.hid (B3.trans (o4.below hb2 B3.size))
      clear b3 B3 o4 hb2
      go_wp2_with fail
      with_reducible refine (wk_er b4).mono ?_
      rintro e w5 ⟨rfl, rfl⟩
      go_wp2_with fail
      with_reducible refine (HAt.out _ _ b4).mono ?_
      rintro e w5 ⟨rfl, rfl⟩
      go_wp2_with fail
      with_reducible refine (HN2.out _).mono ?_
      rintro e w6 ⟨d, rfl, hd, d6, k6⟩
      have B6 := grown_then B4.out k6
      have hd2 : w.heap.size ≤ d := by have := B4.out.size; omega
      clear k6 B4 hd
      go_wp2_with fail
      with_reducible refine (HB2.out _ _ d6).mono ?_
      rintro e w7 ⟨rfl, d7, o7⟩
      have B7 := Lib.hid (B6.trans (o7.below hd2 B6.size))
      clear d6 B6 o7 hd2
      go_wp2_with fail
      with_reducible refine (HE2.out _ _ d7).mono ?_
      rintro e w8 ⟨rfl, rfl⟩
      go_wp2_with fail
      with_reducible refine (works21_any _).mono ?_
      rintro e w9 ⟨rfl, k9⟩
      go_wp2
      go_ret
      exact ⟨rfl, grown_then B7.out k9⟩
  · have HE := Lib.hid (fun b w (h : CurT 37 w b A) => err_any h)
    have p3 : (A.er != 0) = true := by simp [h0]
    clear hA h0 hk
    go_enter Try.func4, Try.ntmps4
    go_wp2_with fail
    refine (new_cur s _ (by omega)).mono ?_
    rintro e w1 ⟨a, rfl, ha, a1, B1⟩
    go_wp2_with fail
    with_reducible refine (HV.out _ _ a1).mono ?_
    rintro e w2 ⟨rfl, a2, o2⟩
    have B2 := Lib.hid (B1.trans (o2.below ha B1.size))
    clear a1 B1 o2 ha
    go_wp2_with fail
    with_reducible refine (HE.out _ _ a2).mono ?_
    rintro e w3 ⟨rfl, rfl⟩
    go_wp2_with fail
    with_reducible refine (HE.out _ _ a2).mono ?_
    rintro e w3 ⟨rfl, rfl⟩
    go_wp2_with fail
    with_reducible refine (works21_any _).mono ?_
    rintro e w6 ⟨rfl, k6⟩
    go_wp2
    go_ret
    exact ⟨rfl, grown_then B2.out k6⟩
theorem skw_any (s : ByteArray) (kind : Int) (rest : ByteArray) (w : World) (h1 : s.size ≤ 140737488351232) (h2 : 0 ≤ kind) (h3 : kind ≤ 255) (h4 : rest.size ≤ 140737488351232) :
    Calls Try.prog 4 #[.string s, .int .u8 kind, .string rest] w fun e w' => e = .returned (.bool true) ∧ Below w.heap.size w w' := by
  obtain ⟨k, rfl⟩ := Int.eq_ofNat_of_zero_le h2
  by_cases g1 : 300 < s.size
  · exact skw_out s k rest w (.inl g1)
  · by_cases g2 : 300 < rest.size
    · exact skw_out s k rest w (.inr g2)
    · exact skw_in s k rest w (by omega) (by omega) (by omega)
end Go.Proofs.Ytmaojbhpnflbcaa
