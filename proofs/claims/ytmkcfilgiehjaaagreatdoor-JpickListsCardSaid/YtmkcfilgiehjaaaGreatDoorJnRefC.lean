/- The document's own power, zeros. -/
import Derived.Test.YtmkcfilgiehjaaaGreatDoorZL
import Derived.Test.YtmkcfilgiehjaaaGreatDoorZA
import Derived.Deep.Cut
namespace Go.Proofs.YtmkcfilgiehjaaaGreatDoor
open Go Go.RowKit
set_option linter.unusedVariables false

theorem zR_snoc (m : List UInt8) (x : UInt8) : zR (m ++ [x]) = if x = 48 then zR m + 1 else 0 := by
  unfold zR
  rw [List.reverse_append, List.reverse_singleton, List.singleton_append, List.takeWhile_cons]
  by_cases h : x = 48
  · rw [if_pos (by simp [h]), if_pos h, List.length_cons]
  · rw [if_neg (by simpa using h), if_neg h]; rfl
theorem take_snoc {s : ByteArray} {j : Nat} (h : j < s.size) : s.data.toList.take (j + 1) = s.data.toList.take j ++ [s[j]] := by
  have h' : j < s.data.toList.length := by rw [toList_size]; exact h
  rw [List.take_succ_eq_append_getElem h', byte_at s j h h']
theorem whole_take (s : ByteArray) : s.data.toList.take s.size = s.data.toList := List.take_of_length_le (by rw [toList_size]; exact Nat.le_refl _)
theorem back_index {a b : Nat} (h : b < a) (ha : a ≤ 1125899906842624) : IntKind.i64.wrap ((a : Int) - 1) = ((a - 1 : Nat) : Int) ∧ IntKind.i64.wrap (((a - 1 : Nat) : Int) - (b : Int)) = ((a - 1 - b : Nat) : Int) := by
  refine ⟨?_, ?_⟩
  · rw [i64_small (by omega) (by omega)]; omega
  · rw [i64_small (by omega) (by omega)]; omega
theorem next_wrap {a : Nat} (ha : a ≤ 1125899906842624) : IntKind.i64.wrap ((a : Int) + 1) = ((a + 1 : Nat) : Int) := by rw [i64_small (by omega) (by omega)]; omega
def RZeroRel (s : ByteArray) (w : World) (v : Value) (wr : World) : Prop := ∃ k : Nat, v = .int .i64 (k : Nat) ∧ k ≤ s.size ∧ wr = w ∧ Hid (zR s.data.toList = k + zR (s.data.toList.take (s.size - k)))
set_option maxRecDepth 20000 in
theorem rzeros (s : ByteArray) (w : World) (hs : s.size ≤ 1125899906842624) :
    Calls Tryz.prog 55 #[.string s] w fun e w' => e = .returned (.int .i64 (zR s.data.toList : Nat)) ∧ w' = w := by
  go_enter Tryz.func55, Tryz.ntmps55
  go_wp2_with fail
  go_loopw [3] (fun v wr => RZeroRel s w v wr) (fun v _ => s.size + 1 - (intOf v).toNat)
  case atStart => exact ⟨0, rfl, Nat.zero_le _, rfl, Lib.hid (by rw [Nat.sub_zero, whole_take, Nat.zero_add])⟩
  case round =>
    obtain ⟨k, rfl, hk, hww, hz⟩ := hrel
    rw [hww]
    clear hww
    by_cases hlt : k < s.size
    · obtain ⟨y1, y2⟩ := back_index hlt hs
      have y3 := next_wrap (a := k) (by omega)
      have hn : s.size - k = (s.size - 1 - k) + 1 := by omega
      obtain ⟨j, hj⟩ : ∃ j, j = s.size - 1 - k := ⟨_, rfl⟩
      obtain ⟨m, hm⟩ : ∃ m, m = s.size - 1 := ⟨_, rfl⟩
      rw [← hj, ← hm] at y2
      rw [← hm] at y1
      have hjl : j < s.size := by omega
      have hst := take_snoc hjl
      have HZ := hz.out
      rw [hn, ← hj, hst, zR_snoc] at HZ
      have hjk : j = s.size - (k + 1) := by omega
      have p0 : decide (k < s.size) = true := decide_eq_true hlt
      have p1 : decide ((k : Int) < (s.size : Int)) = true := decide_eq_true (by omega)
      have hk0 : (0 : Int) ≤ (j : Int) := by omega
      have hk1 : (j : Int) < (s.size : Int) := by omega
      have HJ := Lib.hid hjk
      obtain ⟨B, hB⟩ : ∃ B, B = s[j] := ⟨_, rfl⟩
      have hBi : (s[j].toNat : Int) = (B.toNat : Int) := by rw [hB]
      rw [← hB] at HZ
      have hx : ((B.toNat : Int) == 48) = decide (B = 48) := by
        rw [Bool.eq_iff_iff, beq_iff_eq, decide_eq_true_iff, ← UInt8.toNat_inj]
        show _ ↔ B.toNat = 48
        omega
      by_cases h1 : B = 48
      · rw [decide_eq_true h1] at hx
        rw [if_pos h1] at HZ
        have HT := Lib.hid (show zR s.data.toList = (k + 1) + zR (s.data.toList.take j) by rw [HZ]; omega)
        clear h1 hB hst HZ hjk hn hm hj hz
        generalize B.toNat = BB at *
        go_wp2
        go_roundw
        case rel => exact ⟨k + 1, by go_num, by omega, rfl, Lib.hid (by rw [← HJ.out]; exact HT.out)⟩
        case measure => simp [intOf]; omega
      · rw [decide_eq_false h1] at hx
        rw [if_neg h1] at HZ
        have HT := Lib.hid (show zR s.data.toList = k from HZ)
        clear h1 hB hst HZ hjk hn hm hj hz
        generalize B.toNat = BB at *
        go_wp2
        go_ret
        exact ⟨ret_i (by rw [HT.out]), rfl⟩
    · have hks : k = s.size := by omega
      have p0 : decide (k < s.size) = false := decide_eq_false hlt
      have p1 : decide ((k : Int) < (s.size : Int)) = false := decide_eq_false (by omega)
      have HT := Lib.hid (show zR s.data.toList = k by rw [hz.out, hks, Nat.sub_self, List.take_zero]; rfl)
      clear hz hks
      go_wp2
      go_ret
      exact ⟨ret_i (by rw [HT.out]), rfl⟩

/-- The digits read so far, cut at 2^40. -/
def pwN (s : ByteArray) (k : Nat) : Nat := min 1099511627776 (dV ((s.data.toList.take k).filter dIs))
theorem pwN_yes {s : ByteArray} {k : Nat} (h : k < s.size) (hd : dIs s[k] = true) : pwN s (k + 1) = min 1099511627776 (10 * pwN s k + (s[k].toNat - 48)) := by
  unfold pwN
  rw [take_snoc h, List.filter_append, List.filter_cons_of_pos hd, List.filter_nil, dV_snoc]
  generalize dV ((s.data.toList.take k).filter dIs) = v
  omega
theorem pwN_no {s : ByteArray} {k : Nat} (h : k < s.size) (hd : ¬ dIs s[k] = true) : pwN s (k + 1) = pwN s k := by
  unfold pwN
  rw [take_snoc h, List.filter_append, List.filter_cons_of_neg hd, List.filter_nil, List.append_nil]
theorem pwN_le (s : ByteArray) (k : Nat) : pwN s k ≤ 1099511627776 := Nat.min_le_left _ _
theorem pw_wraps {V B : Nat} (hV : V ≤ 1099511627776) (h1 : 48 ≤ B) (h2 : B ≤ 57) : IntKind.i64.wrap (10 * (V : Int)) = ((10 * V : Nat) : Int) ∧ IntKind.i64.wrap (B : Int) = (B : Int) ∧ IntKind.i64.wrap (((10 * V : Nat) : Int) + (B : Int)) = ((10 * V + B : Nat) : Int) ∧ IntKind.i64.wrap (((10 * V + B : Nat) : Int) - 48) = ((10 * V + (B - 48) : Nat) : Int) := by
  refine ⟨?_, ?_, ?_, ?_⟩
  · rw [i64_small (by omega) (by omega)]; omega
  · exact i64_small (by omega) (by omega)
  · rw [i64_small (by omega) (by omega)]; omega
  · rw [i64_small (by omega) (by omega)]; omega
def RPowRel (s : ByteArray) (w : World) (n i : Value) (wr : World) : Prop := ∃ k V : Nat, n = .int .i64 (V : Nat) ∧ i = .int .i64 (k : Nat) ∧ k ≤ s.size ∧ wr = w ∧ V ≤ 1099511627776 ∧ Hid (V = pwN s k)
theorem cap_of (s : ByteArray) (S : Int) (hS : (s.data.toList.head? = some 45 ∧ S = -1) ∨ (¬ s.data.toList.head? = some 45 ∧ S = 1)) : IntKind.i64.wrap (S * (pwN s s.size : Nat)) = capV 1099511627776 s.data.toList := by
  have hle := pwN_le s s.size
  have he : pwN s s.size = min 1099511627776 (dV (s.data.toList.filter dIs)) := by unfold pwN; rw [whole_take]
  unfold capV
  rw [← he]
  rcases hS with ⟨h1, rfl⟩ | ⟨h1, rfl⟩
  · rw [if_pos h1, i64_small (by omega) (by omega)]; omega
  · rw [if_neg h1, i64_small (by omega) (by omega)]; omega

set_option maxRecDepth 20000 in
set_option maxHeartbeats 1000000 in
theorem rpower (s : ByteArray) (w : World) (hs : s.size ≤ 1125899906842624) :
    Calls Tryz.prog 54 #[.string s] w fun e w' => e = .returned (.int .i64 (capV 1099511627776 s.data.toList)) ∧ w' = w := by
  by_cases h0 : s.size = 0
  · have pE : s.toList.isEmpty = true := by rw [isEmpty_of]; exact decide_eq_true h0
    have HR := Lib.hid (show (0 : Int) = capV 1099511627776 s.data.toList by
      rw [List.eq_nil_of_length_eq_zero (show s.data.toList.length = 0 by rw [toList_size]; exact h0)]; rfl)
    clear h0
    go_enter Tryz.func54, Tryz.ntmps54
    go_wp2
    go_ret
    exact ⟨ret_i HR.out, rfl⟩
  · have pE : s.toList.isEmpty = false := by rw [isEmpty_of]; exact decide_eq_false h0
    have hj : 0 < s.size := by omega
    have iz : (0 : Int) < (s.size : Int) := by omega
    have HH := Lib.hid (head_at s hj)
    have HC := Lib.hid (cap_of s)
    obtain ⟨D, hD⟩ : ∃ D, D = s[0] := ⟨_, rfl⟩
    have hDi : (s[0].toNat : Int) = (D.toNat : Int) := by rw [hD]
    rw [← hD] at HH
    have hx : ((D.toNat : Int) == 45) = decide (D = 45) := by
      rw [Bool.eq_iff_iff, beq_iff_eq, decide_eq_true_iff, ← UInt8.toNat_inj]
      show _ ↔ D.toNat = 45
      omega
    clear h0 hD
    go_enter Tryz.func54, Tryz.ntmps54
    go_upto_region 4 with fail
    go_upto_if 10 with fail
    go_cut [3] from 6 (fun v wx => ∃ S : Int, v = .int .i64 S ∧ wx = w ∧ ((s.data.toList.head? = some 45 ∧ S = -1) ∨ (¬ s.data.toList.head? = some 45 ∧ S = 1)))
    case first =>
      by_cases h1 : D = 45
      · rw [decide_eq_true h1] at hx
        have HS := Lib.hid (show s.data.toList.head? = some 45 by rw [HH.out, h1])
        rw [decide_eq_true h1]
        clear h1
        go_wp2_with fail
        go_meet
        case rel => exact ⟨-1, rfl, rfl, .inl ⟨HS.out, rfl⟩⟩
      · rw [decide_eq_false h1] at hx
        have HS := Lib.hid (show ¬ s.data.toList.head? = some 45 by rw [HH.out]; exact fun e => h1 (Option.some.inj e))
        rw [decide_eq_false h1]
        clear h1
        go_wp2_with fail
        go_meet
        case rel => exact ⟨1, rfl, rfl, .inr ⟨HS.out, rfl⟩⟩
    case rest =>
      obtain ⟨S, rfl, hww, hS⟩ := hcut
      rw [hww]
      clear hww
      have HCS := Lib.hid (HC.out S hS)
      clear hS hx hDi pE HH HC
      go_wp2_with fail
      go_loopw [4, 5] (fun n i wr => RPowRel s w n i wr) (fun _ i _ => s.size + 1 - (intOf i).toNat)
      case atStart => exact ⟨0, 0, rfl, rfl, Nat.zero_le _, rfl, by omega, Lib.hid rfl⟩
      case round =>
        obtain ⟨k, V, rfl, rfl, hk, hww, hV, hp⟩ := hrel
        rw [hww]
        clear hww
        by_cases hlt : k < s.size
        · have y3 := next_wrap (a := k) (by omega)
          have p0 : decide (k < s.size) = true := decide_eq_true hlt
          have p1 : decide ((k : Int) < (s.size : Int)) = true := decide_eq_true (by omega)
          have hk0 : (0 : Int) ≤ (k : Int) := by omega
          have hk1 : (k : Int) < (s.size : Int) := by omega
          by_cases hd : dIs s[k] = true
          · have HN := pwN_yes hlt hd
            have hb := dIs_iff.mp hd
            obtain ⟨B, hB⟩ : ∃ B, B = s[k].toNat := ⟨_, rfl⟩
            have hBi : (s[k].toNat : Int) = (B : Int) := by omega
            rw [← hB] at hb HN
            rw [← hp.out] at HN
            have q1 : decide ((48 : Int) ≤ (B : Int)) = true := decide_eq_true (by omega)
            have q2 : decide ((B : Int) ≤ 57) = true := decide_eq_true (by omega)
            obtain ⟨m1, m2, m3, m4⟩ := pw_wraps hV hb.1 hb.2
            obtain ⟨X, hX⟩ : ∃ X, X = 10 * V := ⟨_, rfl⟩
            obtain ⟨Y, hY⟩ : ∃ Y, Y = X + B := ⟨_, rfl⟩
            obtain ⟨Z, hZ⟩ : ∃ Z, Z = 10 * V + (B - 48) := ⟨_, rfl⟩
            rw [← hX] at m1 m3 m4
            rw [← hY] at m3 m4
            rw [hX, ← hZ] at m4
            rw [← hZ] at HN
            have HT := Lib.hid (show (if (Z : Int) < 1099511627776 then (Z : Int) else 1099511627776) = ((pwN s (k + 1) : Nat) : Int) by rw [HN]; split <;> omega)
            have HMn := Lib.hid (show min 1099511627776 (Z : Int) = ((pwN s (k + 1) : Nat) : Int) by rw [HN]; omega)
            have HL := Lib.hid (pwN_le s (k + 1))
            clear hd hB hp hX hY hZ HN
            go_wp2
            go_roundw
            case rel => exact ⟨k + 1, pwN s (k + 1), by first | rw [HT.out] | rw [HMn.out], by go_num, by omega, rfl, HL.out, Lib.hid rfl⟩
            case measure => simp [intOf]; omega
          · have HN := Lib.hid (pwN_no hlt hd)
            have hb : ¬ (48 ≤ s[k].toNat ∧ s[k].toNat ≤ 57) := fun h => hd (dIs_iff.mpr h)
            obtain ⟨B, hB⟩ : ∃ B, B = s[k].toNat := ⟨_, rfl⟩
            have hBi : (s[k].toNat : Int) = (B : Int) := by omega
            rw [← hB] at hb
            by_cases hlo : B < 48
            · have q1 : decide ((48 : Int) ≤ (B : Int)) = false := decide_eq_false (by omega)
              clear hB hd
              go_wp2
              go_roundw
              case rel => exact ⟨k + 1, V, rfl, by go_num, by omega, rfl, hV, Lib.hid (by rw [HN.out]; exact hp.out)⟩
              case measure => simp [intOf]; omega
            · have q1 : decide ((48 : Int) ≤ (B : Int)) = true := decide_eq_true (by omega)
              have q2 : decide ((B : Int) ≤ 57) = false := decide_eq_false (by omega)
              clear hB hd
              go_wp2
              go_roundw
              case rel => exact ⟨k + 1, V, rfl, by go_num, by omega, rfl, hV, Lib.hid (by rw [HN.out]; exact hp.out)⟩
              case measure => simp [intOf]; omega
        · have hks : k = s.size := by omega
          have p0 : decide (k < s.size) = false := decide_eq_false hlt
          have p1 : decide ((k : Int) < (s.size : Int)) = false := decide_eq_false (by omega)
          have hw : IntKind.i64.wrap (S * (V : Int)) = capV 1099511627776 s.data.toList := by
            have := HCS.out
            rw [← hks, ← hp.out] at this; exact this
          clear hp hks HCS
          go_wp2
          go_ret
          exact ⟨rfl, rfl⟩
end Go.Proofs.YtmkcfilgiehjaaaGreatDoor
