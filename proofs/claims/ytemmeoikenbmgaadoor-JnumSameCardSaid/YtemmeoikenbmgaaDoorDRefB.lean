/- The document's own reading of digits: Formed, above, worth, ReadU, Read. -/
import Derived.Test.YtemmeoikenbmgaaDoorDRefA
import Derived.Test.YtemmeoikenbmgaaDoorDRead
namespace Go.Proofs.YtemmeoikenbmgaaDoor
open Go Go.RowKit
set_option linter.unusedVariables false

set_option maxRecDepth 20000 in
theorem rformed (s : ByteArray) (w : World) (hs : s.size ≤ 1125899906842624) :
    Calls Tryd.prog 49 #[.string s] w fun e w' => e = .returned (.bool (decide (DOK s.data.toList))) ∧ w' = w := by
  have HZ := Lib.hid (lit_is s [48])
  have HM := Lib.hid (isEmpty_of s)
  go_enter Tryd.func49, Tryd.ntmps49
  go_wp2_with fail
  go_loopw [2, 3] (fun x i wr => DPlainRel s w x i wr) (fun _ i _ => s.size + 1 - (intOf i).toNat)
  case atStart => exact ⟨0, rfl, rfl, Nat.zero_le _, rfl, Lib.hid rfl⟩
  case round =>
    obtain ⟨k, rfl, rfl, hk, hww, hal⟩ := hrel
    rw [hww]
    clear hww
    by_cases hlt : k < s.size
    · have p1 : decide ((k : Int) < (s.size : Int)) = true := decide_eq_true (by omega)
      have hk0 : (0 : Int) ≤ (k : Int) := by omega
      have hk1 : (k : Int) < (s.size : Int) := by omega
      have y4 : IntKind.i64.wrap ((k : Int) + 1) = (k : Int) + 1 := i64_small (by omega) (by omega)
      by_cases hd : 48 ≤ s[k].toNat ∧ s[k].toNat ≤ 57
      · have HT := Lib.hid (all_take hlt hal.out hd)
        obtain ⟨B, hB⟩ : ∃ B, B = s[k].toNat := ⟨_, rfl⟩
        have hBi : (s[k].toNat : Int) = (B : Int) := by omega
        rw [← hB] at hd
        have q1 : decide ((B : Int) < 48) = false := decide_eq_false (by omega)
        have q2 : decide (57 < (B : Int)) = false := decide_eq_false (by omega)
        clear hB hal
        go_wp2
        go_roundw
        case rel => exact ⟨k + 1, rfl, by go_num, by omega, rfl, HT⟩
        case measure => simp [intOf]; omega
      · have HT := Lib.hid (show decide (DOK s.data.toList) = false from decide_eq_false fun h => by have := all_not hlt hd; rw [h.2.1] at this; exact absurd this (by simp))
        obtain ⟨B, hB⟩ : ∃ B, B = s[k].toNat := ⟨_, rfl⟩
        have hBi : (s[k].toNat : Int) = (B : Int) := by omega
        rw [← hB] at hd
        by_cases hlo : B < 48
        · have q1 : decide ((B : Int) < 48) = true := decide_eq_true (by omega)
          clear hB hal
          go_wp2
          go_ret
          exact ⟨by rw [HT.out]; rfl, rfl⟩
        · have q1 : decide ((B : Int) < 48) = false := decide_eq_false (by omega)
          have q2 : decide (57 < (B : Int)) = true := decide_eq_true (by omega)
          clear hB hal
          go_wp2
          go_ret
          exact ⟨by rw [HT.out]; rfl, rfl⟩
    · have p1 : decide ((k : Int) < (s.size : Int)) = false := decide_eq_false (by omega)
      have hks : k = s.size := by omega
      have HT := Lib.hid (show s.data.toList.all dIs = true by have := hal.out; rwa [hks, take_all] at this)
      clear hal
      by_cases h0 : s.size = 0
      · have z1 : (s.toList == [48]) = false := by
          rw [HZ.out]; exact decide_eq_false fun e => by have := toList_size s; rw [e] at this; simp at this; omega
        have z2 : s.toList.isEmpty = true := by rw [HM.out]; exact decide_eq_true h0
        have HD := Lib.hid (dok_not0 h0)
        clear h0 hks
        go_wp2
        go_ret
        exact ⟨by rw [HD.out]; rfl, rfl⟩
      · have z2 : s.toList.isEmpty = false := by rw [HM.out]; exact decide_eq_false h0
        have hj : 0 < s.size := by omega
        have iz : (0 : Int) < (s.size : Int) := by omega
        by_cases hz : s.data.toList = [48]
        · have z1 : (s.toList == [48]) = true := by rw [HZ.out]; exact decide_eq_true hz
          have HD := Lib.hid (show decide (DOK s.data.toList) = true by rw [hz]; decide)
          clear hz hks
          go_wp2
          go_ret
          exact ⟨by rw [HD.out]; rfl, rfl⟩
        · have z1 : (s.toList == [48]) = false := by rw [HZ.out]; exact decide_eq_false hz
          have hn1 : s[0].toNat = 48 → 1 < s.size := fun h => by
            rcases Nat.lt_or_ge 1 s.size with h1 | h1
            · exact h1
            · exfalso
              apply hz
              have h' : 0 < s.data.toList.length := by rw [toList_size]; exact hj
              have hl : s.data.toList.length = 1 := by rw [toList_size]; omega
              obtain ⟨b, hb⟩ := List.length_eq_one_iff.mp hl
              have e := byte_at s 0 hj h'
              simp only [hb, List.getElem_cons_zero] at e
              rw [hb, e]
              congr 1
              exact UInt8.toNat_inj.mp (by rw [h]; rfl)
          have HDz := Lib.hid (fun h48 => dok_zero hj h48 (hn1 h48))
          have HDa := Lib.hid (fun (h : s[0].toNat ≠ 48) => (dok_all hj (fun h2 => h h2.1)).trans HT.out)
          obtain ⟨D, hD⟩ : ∃ D, D = s[0].toNat := ⟨_, rfl⟩
          have hDi : (s[0].toNat : Int) = (D : Int) := by omega
          rw [← hD] at HDz HDa
          clear hn1 hD hz hks
          by_cases h48 : D = 48
          · have q1 : ((D : Int) != 48) = false := by rw [h48]; rfl
            have HD := Lib.hid (HDz.out h48)
            clear h48
            go_wp2
            all_goals go_ret
            all_goals exact ⟨by rw [HD.out]; rfl, rfl⟩
          · have q1 : ((D : Int) != 48) = true := bne_iff_ne.mpr (by omega)
            have HD := Lib.hid (HDa.out h48)
            clear h48
            go_wp2
            all_goals go_ret
            all_goals exact ⟨by rw [HD.out]; rfl, rfl⟩
set_option maxRecDepth 20000 in
theorem rabove (s t : ByteArray) (w : World) (hs : s.size ≤ 1125899906842624) (ht : t.size ≤ 1125899906842624) :
    Calls Tryd.prog 50 #[.string s, .string t] w fun e w' => e = .returned (.bool (dAbove s.data.toList t.data.toList)) ∧ w' = w := by
  rcases Nat.lt_trichotomy t.size s.size with h | h | h
  · have p1 : decide (t.size < s.size) = true := decide_eq_true h
    have HE := Lib.hid (show dAbove s.data.toList t.data.toList = true by unfold dAbove; rw [toList_size, toList_size, p1]; rfl)
    clear h
    go_enter Tryd.func50, Tryd.ntmps50
    go_wp2
    go_ret
    exact ⟨by rw [HE.out]; rfl, rfl⟩
  · have p1 : decide (t.size < s.size) = false := decide_eq_false (by omega)
    have p2 : ((s.size : Int) == (t.size : Int)) = true := beq_iff_eq.mpr (by omega)
    have HE := Lib.hid (show dAbove s.data.toList t.data.toList = (!Op.bytesLess s.toList t.toList && !(s.toList == t.toList)) by
      unfold dAbove; rw [toList_size, toList_size, p1, decide_eq_true h.symm, ByteArray.toList_eq, ByteArray.toList_eq]; simp)
    clear h
    go_enter Tryd.func50, Tryd.ntmps50
    go_wp2
    go_ret
    exact ⟨by rw [HE.out]; rfl, rfl⟩
  · have p1 : decide (t.size < s.size) = false := decide_eq_false (by omega)
    have p2 : ((s.size : Int) == (t.size : Int)) = false := beq_eq_false_iff_ne.mpr (by omega)
    have HE := Lib.hid (show dAbove s.data.toList t.data.toList = false by
      unfold dAbove; rw [toList_size, toList_size, p1, decide_eq_false (show ¬ s.size = t.size by omega)]; rfl)
    clear h
    go_enter Tryd.func50, Tryd.ntmps50
    go_wp2
    go_ret
    exact ⟨by rw [HE.out]; rfl, rfl⟩

/-- A step of the document's own worth: round it goes. -/
theorem rstep_u (V d M : Nat) (hV : V = M % 18446744073709551616) (hd : d < 10) : ∃ T X : Nat, IntKind.u64.wrap (10 * (V : Int)) = (T : Int) ∧ IntKind.u64.wrap ((T : Int) + (d : Int)) = (X : Int) ∧ X = (10 * M + d) % 18446744073709551616 := by
  refine ⟨10 * V % 18446744073709551616, (10 * V + d) % 18446744073709551616, ?_, ?_, ?_⟩
  · rw [IntKind.wrap_u64]; omega
  · rw [IntKind.wrap_u64]; omega
  · subst hV; omega
def RWorthRel (s : ByteArray) (w : World) (n i : Value) (wr : World) : Prop := ∃ k V : Nat, n = .int .u64 V ∧ i = .int .i64 k ∧ k ≤ s.size ∧ wr = w ∧ Hid (V = dV (s.data.toList.take k) % 18446744073709551616)
set_option maxRecDepth 20000 in
theorem rworth (s : ByteArray) (w : World) (hs : s.size ≤ 1125899906842624) (ha : s.data.toList.all dIs = true) :
    Calls Tryd.prog 51 #[.string s] w fun e w' => e = .returned (.int .u64 ((dV s.data.toList % 18446744073709551616 : Nat) : Int)) ∧ w' = w := by
  have HA := Lib.hid ha
  clear ha
  go_enter Tryd.func51, Tryd.ntmps51
  go_wp2_with fail
  go_loopw [3, 4] (fun n i wr => RWorthRel s w n i wr) (fun _ i _ => s.size + 1 - (intOf i).toNat)
  case atStart => exact ⟨0, 0, rfl, rfl, Nat.zero_le _, rfl, Lib.hid rfl⟩
  case round =>
    obtain ⟨k, V, rfl, rfl, hk, hww, hn⟩ := hrel
    rw [hww]
    clear hww
    by_cases hlt : k < s.size
    · have p1 : decide ((k : Int) < (s.size : Int)) = true := decide_eq_true (by omega)
      have hk0 : (0 : Int) ≤ (k : Int) := by omega
      have hk1 : (k : Int) < (s.size : Int) := by omega
      have y4 : IntKind.i64.wrap ((k : Int) + 1) = (k : Int) + 1 := i64_small (by omega) (by omega)
      have hdg := dig_at hlt HA.out
      have hnx := dV_next hlt
      obtain ⟨B, hB⟩ : ∃ B, B = s[k].toNat := ⟨_, rfl⟩
      have hBi : (s[k].toNat : Int) = (B : Int) := by omega
      rw [← hB] at hdg hnx
      obtain ⟨d, hd⟩ : ∃ d, d = B - 48 := ⟨_, rfl⟩
      have m1 : IntKind.u8.wrap ((B : Int) - 48) = (d : Int) := by rw [IntWalk.u8_in _ (by omega)]; omega
      have m2 : IntKind.u64.wrap (d : Int) = (d : Int) := IntWalk.u64_in _ (by omega)
      rw [← hd] at hnx
      obtain ⟨T, X, m3, m4, hX⟩ := rstep_u V d _ hn.out (by omega)
      rw [← hnx] at hX
      have HX := Lib.hid hX
      have HD := Lib.hid hd
      clear hn hnx hdg hB hd hX
      go_wp2
      go_roundw
      case rel => exact ⟨k + 1, X, rfl, by go_num, by omega, rfl, HX⟩
      case measure => simp [intOf]; omega
    · have p1 : decide ((k : Int) < (s.size : Int)) = false := decide_eq_false (by omega)
      have hks : k = s.size := by omega
      have HT := Lib.hid (show V = dV s.data.toList % 18446744073709551616 by have := hn.out; rwa [hks, take_all] at this)
      clear hn
      go_wp2
      go_ret
      exact ⟨by rw [← HT.out]; rfl, rfl⟩
end Go.Proofs.YtemmeoikenbmgaaDoor
