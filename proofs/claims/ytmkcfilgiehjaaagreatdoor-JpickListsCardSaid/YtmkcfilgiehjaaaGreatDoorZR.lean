/- Several texts in one (DRefA, DRefB, DRefC, JnRefD): each begins with its own words. -/
import Derived.Test.YtmkcfilgiehjaaaGreatDoorZO
import Derived.Test.YtmkcfilgiehjaaaGreatDoorJnRefC
import Derived.Test.YtmkcfilgiehjaaaGreatDoorZQ
import Derived.BigQuiet
/- The document's own digits: TextU, Text. -/
namespace Go.Proofs.YtmkcfilgiehjaaaGreatDoor
open Go Go.RowKit
set_option linter.unusedVariables false

theorem dig_slice_all : ∀ r : Fin 10, (ByteArray.mk #[48, 49, 50, 51, 52, 53, 54, 55, 56, 57]).extract r.val (r.val + 1) = bA [UInt8.ofNat (48 + r.val)] := by decide +kernel
theorem dig_slice (r : Nat) (h : r < 10) : (ByteArray.mk #[48, 49, 50, 51, 52, 53, 54, 55, 56, 57]).extract r (r + 1) = bA [UInt8.ofNat (48 + r)] := dig_slice_all ⟨r, h⟩
end Go.Proofs.YtmkcfilgiehjaaaGreatDoor
/- The document's own reading of digits: Formed, above, worth, ReadU, Read. -/
namespace Go.Proofs.YtmkcfilgiehjaaaGreatDoor
open Go Go.RowKit
set_option linter.unusedVariables false

set_option maxRecDepth 20000 in
theorem rformed (s : ByteArray) (w : World) (hs : s.size ≤ 1125899906842624) :
    Calls Tryz.prog 87 #[.string s] w fun e w' => e = .returned (.bool (decide (DOK s.data.toList))) ∧ w' = w := by
  have HZ := Lib.hid (lit_is s [48])
  have HM := Lib.hid (isEmpty_of s)
  go_enter Tryz.func87, Tryz.ntmps87
  go_wp2_with fail
  go_loopw [2, 3] (fun x i wr => DPlainRel s w x i wr) (fun _ i _ => s.size + 1 - (intOf i).toNat)
  case atStart => exact ⟨0, rfl, rfl, Nat.zero_le _, rfl, Lib.hid rfl⟩
  case round =>
    obtain ⟨k, rfl, rfl, hk, hww, hal⟩ := hrel
    rw [hww]
    clear hww
    by_cases hlt : k < s.size
    · have p1 : decide ((k : Int) < (s.size : Int)) = true := decide_eq_true (by omega)
      have hk0 : (0 : Int) ≤ (k : Int) := by omega
      have hk1 : (k : Int) < (s.size : Int) := by omega
      have y4 : IntKind.i64.wrap ((k : Int) + 1) = (k : Int) + 1 := i64_small (by omega) (by omega)
      by_cases hd : 48 ≤ s[k].toNat ∧ s[k].toNat ≤ 57
      · have HT := Lib.hid (all_take hlt hal.out hd)
        obtain ⟨B, hB⟩ : ∃ B, B = s[k].toNat := ⟨_, rfl⟩
        have hBi : (s[k].toNat : Int) = (B : Int) := by omega
        rw [← hB] at hd
        have q1 : decide ((B : Int) < 48) = false := decide_eq_false (by omega)
        have q2 : decide (57 < (B : Int)) = false := decide_eq_false (by omega)
        clear hB hal
        go_wp2
        go_roundw
        case rel => exact ⟨k + 1, rfl, by go_num, by omega, rfl, HT⟩
        case measure => simp [intOf]; omega
      · have HT := Lib.hid (show decide (DOK s.data.toList) = false from decide_eq_false fun h => by have := all_not hlt hd; rw [h.2.1] at this; exact absurd this (by simp))
        obtain ⟨B, hB⟩ : ∃ B, B = s[k].toNat := ⟨_, rfl⟩
        have hBi : (s[k].toNat : Int) = (B : Int) := by omega
        rw [← hB] at hd
        by_cases hlo : B < 48
        · have q1 : decide ((B : Int) < 48) = true := decide_eq_true (by omega)
          clear hB hal
          go_wp2
          go_ret
          exact ⟨by rw [HT.out]; rfl, rfl⟩
        · have q1 : decide ((B : Int) < 48) = false := decide_eq_false (by omega)
          have q2 : decide (57 < (B : Int)) = true := decide_eq_true (by omega)
          clear hB hal
          go_wp2
          go_ret
          exact ⟨by rw [HT.out]; rfl, rfl⟩
    · have p1 : decide ((k : Int) < (s.size : Int)) = false := decide_eq_false (by omega)
      have hks : k = s.size := by omega
      have HT := Lib.hid (show s.data.toList.all dIs = true by have := hal.out; rwa [hks, take_all] at this)
      clear hal
      by_cases h0 : s.size = 0
      · have z1 : (s.toList == [48]) = false := by
          rw [HZ.out]; exact decide_eq_false fun e => by have := toList_size s; rw [e] at this; simp at this; omega
        have z2 : s.toList.isEmpty = true := by rw [HM.out]; exact decide_eq_true h0
        have HD := Lib.hid (dok_not0 h0)
        clear h0 hks
        go_wp2
        go_ret
        exact ⟨by rw [HD.out]; rfl, rfl⟩
      · have z2 : s.toList.isEmpty = false := by rw [HM.out]; exact decide_eq_false h0
        have hj : 0 < s.size := by omega
        have iz : (0 : Int) < (s.size : Int) := by omega
        by_cases hz : s.data.toList = [48]
        · have z1 : (s.toList == [48]) = true := by rw [HZ.out]; exact decide_eq_true hz
          have HD := Lib.hid (show decide (DOK s.data.toList) = true by rw [hz]; decide)
          clear hz hks
          go_wp2
          go_ret
          exact ⟨by rw [HD.out]; rfl, rfl⟩
        · have z1 : (s.toList == [48]) = false := by rw [HZ.out]; exact decide_eq_false hz
          have hn1 : s[0].toNat = 48 → 1 < s.size := fun h => by
            rcases Nat.lt_or_ge 1 s.size with h1 | h1
            · exact h1
            · exfalso
              apply hz
              have h' : 0 < s.data.toList.length := by rw [toList_size]; exact hj
              have hl : s.data.toList.length = 1 := by rw [toList_size]; omega
              obtain ⟨b, hb⟩ := List.length_eq_one_iff.mp hl
              have e := byte_at s 0 hj h'
              simp only [hb, List.getElem_cons_zero] at e
              rw [hb, e]
              congr 1
              exact UInt8.toNat_inj.mp (by rw [h]; rfl)
          have HDz := Lib.hid (fun h48 => dok_zero hj h48 (hn1 h48))
          have HDa := Lib.hid (fun (h : s[0].toNat ≠ 48) => (dok_all hj (fun h2 => h h2.1)).trans HT.out)
          obtain ⟨D, hD⟩ : ∃ D, D = s[0].toNat := ⟨_, rfl⟩
          have hDi : (s[0].toNat : Int) = (D : Int) := by omega
          rw [← hD] at HDz HDa
          clear hn1 hD hz hks
          by_cases h48 : D = 48
          · have q1 : ((D : Int) != 48) = false := by rw [h48]; rfl
            have HD := Lib.hid (HDz.out h48)
            clear h48
            go_wp2
            all_goals go_ret
            all_goals exact ⟨by rw [HD.out]; rfl, rfl⟩
          · have q1 : ((D : Int) != 48) = true := bne_iff_ne.mpr (by omega)
            have HD := Lib.hid (HDa.out h48)
            clear h48
            go_wp2
            all_goals go_ret
            all_goals exact ⟨by rw [HD.out]; rfl, rfl⟩
set_option maxRecDepth 20000 in
theorem rabove (s t : ByteArray) (w : World) (hs : s.size ≤ 1125899906842624) (ht : t.size ≤ 1125899906842624) :
    Calls Tryz.prog 88 #[.string s, .string t] w fun e w' => e = .returned (.bool (dAbove s.data.toList t.data.toList)) ∧ w' = w := by
  rcases Nat.lt_trichotomy t.size s.size with h | h | h
  · have p1 : decide (t.size < s.size) = true := decide_eq_true h
    have HE := Lib.hid (show dAbove s.data.toList t.data.toList = true by unfold dAbove; rw [toList_size, toList_size, p1]; rfl)
    clear h
    go_enter Tryz.func88, Tryz.ntmps88
    go_wp2
    go_ret
    exact ⟨by rw [HE.out]; rfl, rfl⟩
  · have p1 : decide (t.size < s.size) = false := decide_eq_false (by omega)
    have p2 : ((s.size : Int) == (t.size : Int)) = true := beq_iff_eq.mpr (by omega)
    have HE := Lib.hid (show dAbove s.data.toList t.data.toList = (!Op.bytesLess s.toList t.toList && !(s.toList == t.toList)) by
      unfold dAbove; rw [toList_size, toList_size, p1, decide_eq_true h.symm, ByteArray.toList_eq, ByteArray.toList_eq]; simp)
    clear h
    go_enter Tryz.func88, Tryz.ntmps88
    go_wp2
    go_ret
    exact ⟨by rw [HE.out]; rfl, rfl⟩
  · have p1 : decide (t.size < s.size) = false := decide_eq_false (by omega)
    have p2 : ((s.size : Int) == (t.size : Int)) = false := beq_eq_false_iff_ne.mpr (by omega)
    have HE := Lib.hid (show dAbove s.data.toList t.data.toList = false by
      unfold dAbove; rw [toList_size, toList_size, p1, decide_eq_false (show ¬ s.size = t.size by omega)]; rfl)
    clear h
    go_enter Tryz.func88, Tryz.ntmps88
    go_wp2
    go_ret
    exact ⟨by rw [HE.out]; rfl, rfl⟩

/-- A step of the document's own worth: round it goes. -/
theorem rstep_u (V d M : Nat) (hV : V = M % 18446744073709551616) (hd : d < 10) : ∃ T X : Nat, IntKind.u64.wrap (10 * (V : Int)) = (T : Int) ∧ IntKind.u64.wrap ((T : Int) + (d : Int)) = (X : Int) ∧ X = (10 * M + d) % 18446744073709551616 := by
  refine ⟨10 * V % 18446744073709551616, (10 * V + d) % 18446744073709551616, ?_, ?_, ?_⟩
  · rw [IntKind.wrap_u64]; omega
  · rw [IntKind.wrap_u64]; omega
  · subst hV; omega
def RWorthRel (s : ByteArray) (w : World) (n i : Value) (wr : World) : Prop := ∃ k V : Nat, n = .int .u64 V ∧ i = .int .i64 k ∧ k ≤ s.size ∧ wr = w ∧ Hid (V = dV (s.data.toList.take k) % 18446744073709551616)
set_option maxRecDepth 20000 in
theorem rworth (s : ByteArray) (w : World) (hs : s.size ≤ 1125899906842624) (ha : s.data.toList.all dIs = true) :
    Calls Tryz.prog 89 #[.string s] w fun e w' => e = .returned (.int .u64 ((dV s.data.toList % 18446744073709551616 : Nat) : Int)) ∧ w' = w := by
  have HA := Lib.hid ha
  clear ha
  go_enter Tryz.func89, Tryz.ntmps89
  go_wp2_with fail
  go_loopw [3, 4] (fun n i wr => RWorthRel s w n i wr) (fun _ i _ => s.size + 1 - (intOf i).toNat)
  case atStart => exact ⟨0, 0, rfl, rfl, Nat.zero_le _, rfl, Lib.hid rfl⟩
  case round =>
    obtain ⟨k, V, rfl, rfl, hk, hww, hn⟩ := hrel
    rw [hww]
    clear hww
    by_cases hlt : k < s.size
    · have p1 : decide ((k : Int) < (s.size : Int)) = true := decide_eq_true (by omega)
      have hk0 : (0 : Int) ≤ (k : Int) := by omega
      have hk1 : (k : Int) < (s.size : Int) := by omega
      have y4 : IntKind.i64.wrap ((k : Int) + 1) = (k : Int) + 1 := i64_small (by omega) (by omega)
      have hdg := dig_at hlt HA.out
      have hnx := dV_next hlt
      obtain ⟨B, hB⟩ : ∃ B, B = s[k].toNat := ⟨_, rfl⟩
      have hBi : (s[k].toNat : Int) = (B : Int) := by omega
      rw [← hB] at hdg hnx
      obtain ⟨d, hd⟩ : ∃ d, d = B - 48 := ⟨_, rfl⟩
      have m1 : IntKind.u8.wrap ((B : Int) - 48) = (d : Int) := by rw [IntWalk.u8_in _ (by omega)]; omega
      have m2 : IntKind.u64.wrap (d : Int) = (d : Int) := IntWalk.u64_in _ (by omega)
      rw [← hd] at hnx
      obtain ⟨T, X, m3, m4, hX⟩ := rstep_u V d _ hn.out (by omega)
      rw [← hnx] at hX
      have HX := Lib.hid hX
      have HD := Lib.hid hd
      clear hn hnx hdg hB hd hX
      go_wp2
      go_roundw
      case rel => exact ⟨k + 1, X, rfl, by go_num, by omega, rfl, HX⟩
      case measure => simp [intOf]; omega
    · have p1 : decide ((k : Int) < (s.size : Int)) = false := decide_eq_false (by omega)
      have hks : k = s.size := by omega
      have HT := Lib.hid (show V = dV s.data.toList % 18446744073709551616 by have := hn.out; rwa [hks, take_all] at this)
      clear hn
      go_wp2
      go_ret
      exact ⟨by rw [← HT.out]; rfl, rfl⟩
end Go.Proofs.YtmkcfilgiehjaaaGreatDoor
/- The document's own ReadU and Read. -/
namespace Go.Proofs.YtmkcfilgiehjaaaGreatDoor
open Go Go.RowKit
set_option linter.unusedVariables false

theorem above_lit {l m : List UInt8} (v : Nat) (hl : DOK l) (hm : decide (DOK m) = true) (hv : dV m = v) : dAbove l m = decide (v < dV l) := by
  rw [above_val hl (of_decide_eq_true hm), hv]
set_option maxRecDepth 20000 in
theorem rRead_up (s : ByteArray) (w : World) (hs : s.size ≤ 1125899906842624) (h45 : ¬ s.data.toList.head? = some 45) :
    Calls Tryz.prog 56 #[.string s] w fun e w' => e = .returned (.tuple #[.int .i64 (iEnd s.data.toList).1, .int .i64 (iEnd s.data.toList).2]) ∧ w' = w := by
  have HP := Lib.hid (rformed s w hs)
  have HM := isEmpty_of s
  by_cases h0 : s.size = 0
  · have z2 : s.toList.isEmpty = true := by rw [HM]; exact decide_eq_true h0
    have hd := dok_not0 h0
    rw [hd] at HP
    have HE := Lib.hid (show iEnd s.data.toList = (0, 3) by unfold iEnd; rw [if_neg (of_decide_eq_false hd)])
    clear hd h0 HM h45
    go_enter Tryz.func56, Tryz.ntmps56
    go_wp2_with (go_at_call 87; with_reducible refine HP.out.mono ?_; rintro e w1 ⟨rfl, hw⟩; rw [hw]; clear hw)
    go_ret2
    exact ⟨by rw [HE.out]; rfl, rfl⟩
  · have z2 : s.toList.isEmpty = false := by rw [HM]; exact decide_eq_false h0
    have hj : 0 < s.size := by omega
    have iz : (0 : Int) < (s.size : Int) := by omega
    have hne : s[0].toNat ≠ 45 := fun h => h45 (by rw [head_at s hj]; exact congrArg some (UInt8.toNat_inj.mp (by rw [h]; rfl)))
    obtain ⟨D, hD⟩ : ∃ D, D = s[0].toNat := ⟨_, rfl⟩
    have hDi : (s[0].toNat : Int) = (D : Int) := by omega
    rw [← hD] at hne
    have q0 : ((D : Int) == 45) = false := beq_eq_false_iff_ne.mpr (by omega)
    clear hD h45 h0 HM
    by_cases hd : DOK s.data.toList
    · rw [decide_eq_true hd] at HP
      have HA := Lib.hid (rabove s ⟨#[57, 50, 50, 51, 51, 55, 50, 48, 51, 54, 56, 53, 52, 55, 55, 53, 56, 48, 55]⟩ w hs (by decide))
      rw [show (⟨#[57, 50, 50, 51, 51, 55, 50, 48, 51, 54, 56, 53, 52, 55, 55, 53, 56, 48, 55]⟩ : ByteArray).data.toList = [57, 50, 50, 51, 51, 55, 50, 48, 51, 54, 56, 53, 52, 55, 55, 53, 56, 48, 55] from rfl, above_lit 9223372036854775807 hd (by decide +kernel) (by decide +kernel)] at HA
      by_cases hf : dV s.data.toList ≤ 9223372036854775807
      · rw [decide_eq_false (show ¬ 9223372036854775807 < dV s.data.toList by omega)] at HA
        have HW := Lib.hid (rworth s w hs hd.2.1)
        rw [Nat.mod_eq_of_lt (show dV s.data.toList < 18446744073709551616 by omega)] at HW
        have HE := Lib.hid (show iEnd s.data.toList = ((dV s.data.toList : Int), 0) by unfold iEnd; rw [if_pos hd, if_pos hf])
        clear hd
        generalize dV s.data.toList = V at *
        have m1 : IntKind.i64.wrap (V : Int) = (V : Int) := i64_small (by omega) (by omega)
        clear hf
        go_enter Tryz.func56, Tryz.ntmps56
        go_wp2_with (first
          | (go_at_call 87; with_reducible refine HP.out.mono ?_; rintro e w1 ⟨rfl, hw⟩; rw [hw]; clear hw)
          | (go_at_call 88; with_reducible refine HA.out.mono ?_; rintro e w1 ⟨rfl, hw⟩; rw [hw]; clear hw)
          | (go_at_call 89; with_reducible refine HW.out.mono ?_; rintro e w1 ⟨rfl, hw⟩; rw [hw]; clear hw))
        go_ret2
        exact ⟨by rw [HE.out]; rfl, rfl⟩
      · rw [decide_eq_true (show 9223372036854775807 < dV s.data.toList by omega)] at HA
        have HE := Lib.hid (show iEnd s.data.toList = (0, 4) by unfold iEnd; rw [if_pos hd, if_neg hf])
        clear hd hf
        go_enter Tryz.func56, Tryz.ntmps56
        go_wp2_with (first
          | (go_at_call 87; with_reducible refine HP.out.mono ?_; rintro e w1 ⟨rfl, hw⟩; rw [hw]; clear hw)
          | (go_at_call 88; with_reducible refine HA.out.mono ?_; rintro e w1 ⟨rfl, hw⟩; rw [hw]; clear hw))
        go_ret2
        exact ⟨by rw [HE.out]; rfl, rfl⟩
    · rw [decide_eq_false hd] at HP
      have HE := Lib.hid (show iEnd s.data.toList = (0, 3) by unfold iEnd; rw [if_neg hd])
      clear hd
      go_enter Tryz.func56, Tryz.ntmps56
      go_wp2_with (go_at_call 87; with_reducible refine HP.out.mono ?_; rintro e w1 ⟨rfl, hw⟩; rw [hw]; clear hw)
      go_ret2
      exact ⟨by rw [HE.out]; rfl, rfl⟩
set_option maxRecDepth 20000 in
theorem rRead_down (s : ByteArray) (w : World) (hs : s.size ≤ 1125899906842624) (h45 : s.data.toList.head? = some 45) :
    Calls Tryz.prog 56 #[.string s] w fun e w' => e = .returned (.tuple #[.int .i64 (sEnd s.data.toList).1, .int .i64 (sEnd s.data.toList).2]) ∧ w' = w := by
  have h0 : s.size ≠ 0 := fun h => by
    have := toList_size s
    rw [h] at this
    rw [List.eq_nil_of_length_eq_zero this] at h45
    exact absurd h45 (by simp)
  have z2 : s.toList.isEmpty = false := by rw [isEmpty_of s]; exact decide_eq_false h0
  have hj : 0 < s.size := by omega
  have iz : (0 : Int) < (s.size : Int) := by omega
  have iz1 : (1 : Int) ≤ (s.size : Int) := by omega
  have hq : (s[0].toNat : Int) = 45 := by
    have e := head_at s hj
    rw [h45] at e
    rw [← Option.some.inj e]; rfl
  have hL := tail_text s
  have hsz : (s.extract 1 s.size).size ≤ 1125899906842624 := by rw [← toList_size, hL, List.length_drop, toList_size]; omega
  have HZ := lit_is s [45, 48]
  have hzz : (s.data.toList = [45, 48]) = (s.data.toList.drop 1 = [48]) := by
    rw [eq_iff_iff]
    refine ⟨fun e => by rw [e]; rfl, fun e => ?_⟩
    obtain ⟨b, r, hb⟩ := List.exists_cons_of_ne_nil (l := s.data.toList) (fun e => by rw [e] at h45; exact absurd h45 (by simp))
    rw [hb] at h45 e ⊢
    rw [List.drop_one, List.tail_cons] at e
    rw [Option.some.inj (show some b = some 45 from h45), e]
  have HP := Lib.hid (rformed (s.extract 1 s.size) w hsz)
  rw [hL] at HP
  have HSd := Lib.hid (show ∀ x, (¬ s.data.toList.drop 1 = [48]) → nEnd (s.data.toList.drop 1) = x → sEnd s.data.toList = x from fun x h1 h2 => by unfold sEnd; rw [if_pos h45, if_neg h1]; exact h2)
  have HS0 := Lib.hid (show s.data.toList.drop 1 = [48] → sEnd s.data.toList = (0, 3) from fun h1 => by unfold sEnd; rw [if_pos h45, if_pos h1])
  have HA0 := Lib.hid (rabove (s.extract 1 s.size) ⟨#[57, 50, 50, 51, 51, 55, 50, 48, 51, 54, 56, 53, 52, 55, 55, 53, 56, 48, 56]⟩ w hsz (by decide))
  have HW0 := Lib.hid (fun ha => rworth (s.extract 1 s.size) w hsz (by rw [hL]; exact ha))
  rw [hL] at HA0 HW0
  rw [show (⟨#[57, 50, 50, 51, 51, 55, 50, 48, 51, 54, 56, 53, 52, 55, 55, 53, 56, 48, 56]⟩ : ByteArray).data.toList = [57, 50, 50, 51, 51, 55, 50, 48, 51, 54, 56, 53, 52, 55, 55, 53, 56, 48, 56] from rfl] at HA0
  simp only [hzz] at HZ
  clear hzz hL h45 h0 hsz
  generalize s.data.toList.drop 1 = l at *
  generalize sEnd s.data.toList = E at *
  by_cases hz : l = [48]
  · have z3 : (s.toList == [45, 48]) = true := by rw [HZ]; exact decide_eq_true hz
    have HE := Lib.hid (HS0.out hz)
    rw [show decide (DOK l) = true by rw [hz]; decide] at HP
    clear hz HZ
    go_enter Tryz.func56, Tryz.ntmps56
    go_wp2_with (go_at_call 87; with_reducible refine HP.out.mono ?_; rintro e w1 ⟨rfl, hw⟩; rw [hw]; clear hw)
    go_ret2
    exact ⟨by rw [HE.out]; rfl, rfl⟩
  · have z3 : (s.toList == [45, 48]) = false := by rw [HZ]; exact decide_eq_false hz
    have HSx := Lib.hid (fun x h2 => HSd.out x hz h2)
    clear hz HZ HS0 HSd
    by_cases hd : DOK l
    · rw [decide_eq_true hd] at HP
      have HA := Lib.hid HA0.out
      rw [above_lit 9223372036854775808 hd (by decide +kernel) (by decide +kernel)] at HA
      by_cases hf : dV l ≤ 9223372036854775808
      · rw [decide_eq_false (show ¬ 9223372036854775808 < dV l by omega)] at HA
        have HW := Lib.hid (HW0.out hd.2.1)
        rw [Nat.mod_eq_of_lt (show dV l < 18446744073709551616 by omega)] at HW
        have HE := Lib.hid (HSx.out (-(dV l : Int), 0) (by unfold nEnd; rw [if_pos hd, if_pos hf]))
        clear hd HA0 HW0 HSx
        generalize dV l = V at *
        obtain ⟨X, hX⟩ : ∃ X, X = (18446744073709551616 - (V : Int)) % 18446744073709551616 := ⟨_, rfl⟩
        have m1 : IntKind.u64.wrap (-(V : Int)) = X := by rw [IntKind.wrap_u64]; omega
        have m2 : IntKind.u64.wrap (0 - (V : Int)) = X := by rw [IntKind.wrap_u64]; omega
        have m3 : IntKind.i64.wrap X = -(V : Int) := by rw [IntKind.wrap_i64]; omega
        clear hf hX
        go_enter Tryz.func56, Tryz.ntmps56
        go_wp2_with (first
          | (go_at_call 87; with_reducible refine HP.out.mono ?_; rintro e w1 ⟨rfl, hw⟩; rw [hw]; clear hw)
          | (go_at_call 88; with_reducible refine HA.out.mono ?_; rintro e w1 ⟨rfl, hw⟩; rw [hw]; clear hw)
          | (go_at_call 89; with_reducible refine HW.out.mono ?_; rintro e w1 ⟨rfl, hw⟩; rw [hw]; clear hw))
        go_ret2
        exact ⟨by rw [HE.out]; rfl, rfl⟩
      · rw [decide_eq_true (show 9223372036854775808 < dV l by omega)] at HA
        have HE := Lib.hid (HSx.out (0, 4) (by unfold nEnd; rw [if_pos hd, if_neg hf]))
        clear hd hf HA0 HW0 HSx
        go_enter Tryz.func56, Tryz.ntmps56
        go_wp2_with (first
          | (go_at_call 87; with_reducible refine HP.out.mono ?_; rintro e w1 ⟨rfl, hw⟩; rw [hw]; clear hw)
          | (go_at_call 88; with_reducible refine HA.out.mono ?_; rintro e w1 ⟨rfl, hw⟩; rw [hw]; clear hw))
        go_ret2
        exact ⟨by rw [HE.out]; rfl, rfl⟩
    · rw [decide_eq_false hd] at HP
      have HE := Lib.hid (HSx.out (0, 3) (by unfold nEnd; rw [if_neg hd]))
      clear hd HA0 HW0 HSx
      go_enter Tryz.func56, Tryz.ntmps56
      go_wp2_with (go_at_call 87; with_reducible refine HP.out.mono ?_; rintro e w1 ⟨rfl, hw⟩; rw [hw]; clear hw)
      go_ret2
      exact ⟨by rw [HE.out]; rfl, rfl⟩
theorem rRead (s : ByteArray) (w : World) (hs : s.size ≤ 1125899906842624) :
    Calls Tryz.prog 56 #[.string s] w fun e w' => e = .returned (.tuple #[.int .i64 (sEnd s.data.toList).1, .int .i64 (sEnd s.data.toList).2]) ∧ w' = w := by
  by_cases h45 : s.data.toList.head? = some 45
  · exact rRead_down s w hs h45
  · have h := rRead_up s w hs h45
    rw [show iEnd s.data.toList = sEnd s.data.toList by unfold sEnd; rw [if_neg h45]] at h
    exact h
end Go.Proofs.YtmkcfilgiehjaaaGreatDoor
/- The document's own Whole. -/
namespace Go.Proofs.YtmkcfilgiehjaaaGreatDoor
open Go Go.RowKit
set_option linter.unusedVariables false

theorem bA_data (l : List UInt8) : (bA l).data.toList = l := by simp [bA]
/-- The parts' block, laid behind a call. -/
theorem pb_new (w1 : World) (W B P : ByteArray) (E C : Int) : PB (w1.alloc (.cells #[.string W, .string B, .string P, .int .i64 E, .int .i64 C] 105)) w1.heap.size W B P E C := heap_alloc_new w1 _
theorem rsplit_zero (s : ByteArray) (w : World) (hs : s.size ≤ 1125899906842624) :
    Calls Tryz.prog 53 #[.string s, .int .i64 0] w fun e w' => ∃ W B P E, e = .returned (.agg #[.string W, .string B, .string P, .int .i64 ((E : Nat) : Int), .int .i64 (nCode s.data.toList)]) ∧ (nCode s.data.toList = 0 → W = bA (wW s.data.toList) ∧ B = bA (wB s.data.toList) ∧ P = bA (wP s.data.toList) ∧ E = nE s.data.toList) ∧ Below w.heap.size w w' := by
  refine (rsplit_any s 0 w (Nat.zero_le _) hs).mono ?_
  rintro e w' ⟨W, B, P, E, rfl, hT, hb⟩
  refine ⟨W, B, P, E, rfl, ?_, hb⟩
  intro hz
  have := hT.1 hz
  rw [List.drop_zero, Nat.zero_add] at this
  exact this
set_option maxRecDepth 20000 in
theorem rwhole_bad (s : ByteArray) (w : World) (hz : s.size ≤ 1048576) (hn : ¬ (nCode s.data.toList = 0 ∧ nE s.data.toList = s.data.toList.length)) :
    Calls Tryz.prog 31 #[.string s] w fun e w' => e = .returned (.tuple #[.int .i64 (wEnd s.data.toList).1, .int .i64 (wEnd s.data.toList).2]) ∧ Below w.heap.size w w' := by
  rw [wEnd_no hn]
  have HS := Lib.hid (rsplit_zero s w (by omega))
  rw [toList_size] at hn
  have HN := Lib.hid hn
  clear hn
  go_enter Tryz.func31, Tryz.ntmps31
  go_wp2_with fail
  with_reducible refine HS.out.mono ?_
  rintro r w1 ⟨W, B, P, E, rfl, hT, b1⟩
  have HT := Lib.hid hT
  clear hT HS
  go_upto_region 2 with fail
  have PN := pb_new w1 W B P ((E : Nat) : Int) (nCode s.data.toList)
  have b2 := b1.alloc b1.size (.cells #[.string W, .string B, .string P, .int .i64 ((E : Nat) : Int), .int .i64 (nCode s.data.toList)] 105)
  generalize w1.alloc (.cells #[.string W, .string B, .string P, .int .i64 ((E : Nat) : Int), .int .i64 (nCode s.data.toList)] 105) = w2 at PN b2 ⊢
  generalize w1.heap.size = g at PN ⊢
  have c3 := PN.c3
  have c4 := PN.c4
  by_cases h0 : nCode s.data.toList = 0
  · have hE := (HT.out h0).2.2.2
    have hne : ¬ E = s.size := fun h => HN.out ⟨h0, hE.symm.trans h⟩
    have p1 : (nCode s.data.toList != 0) = false := by rw [h0]; rfl
    have p2 : ((E : Int) != (s.size : Int)) = true := bne_iff_ne.mpr (by omega)
    have p3 : (E != s.size) = true := bne_iff_ne.mpr hne
    clear h0 hE hne
    go_wp2
    go_ret2
    exact ⟨rfl, b2⟩
  · have p1 : (nCode s.data.toList != 0) = true := bne_iff_ne.mpr h0
    clear h0
    go_wp2
    go_ret2
    exact ⟨rfl, b2⟩

def textOf : Value → ByteArray
  | .string t => t
  | _ => ⟨#[]⟩
def RLzRel (D : List UInt8) (w : World) (v : Value) (wr : World) : Prop := ∃ T : ByteArray, v = .string T ∧ wr = w ∧ T.size ≤ 1048576 ∧ Hid (lz T.data.toList = lz D ∧ ∀ x ∈ T.data.toList, x ∈ D)
theorem lz_cons (t : List UInt8) : lz (48 :: t) = lz t := rfl
theorem lz_other {x : UInt8} (t : List UInt8) (h : x ≠ 48) : lz (x :: t) = x :: t := by
  unfold lz
  rw [List.dropWhile_cons, if_neg (by simpa using h)]
def RPadRel (base : List UInt8) (q : Nat) (w : World) (v i : Value) (wr : World) : Prop := ∃ (T : ByteArray) (k : Nat), v = .string T ∧ i = .int .i64 (k : Nat) ∧ k ≤ q ∧ wr = w ∧ T.size = base.length + k ∧ Hid (T.data.toList = base ++ List.replicate k 48)
set_option maxRecDepth 20000 in
set_option maxHeartbeats 4000000 in
theorem rwhole_good (s : ByteArray) {sg W F B X P : List UInt8} (hf : NForm s.data.toList sg W F B X P) (w : World) (hz : s.size ≤ 1048576) :
    Calls Tryz.prog 31 #[.string s] w fun e w' => e = .returned (.tuple #[.int .i64 (nWorth sg W B (pwV P)).1, .int .i64 (nWorth sg W B (pwV P)).2]) ∧ Below w.heap.size w w' := by
  obtain ⟨f1, f2, f3, f4, f5, f6, f7, f8⟩ := form_to hf
  rw [toList_size] at f2
  have hlen := congrArg List.length hf.eq
  rw [toList_size, List.length_append, List.length_append, List.length_append] at hlen
  have hBl : B.length ≤ F.length := by
    rcases hf.frac with ⟨rfl, rfl⟩ | ⟨rfl, _, _⟩
    · exact Nat.le_refl _
    · simp
  have hPl : P.length ≤ X.length := by
    rcases hf.expo with ⟨rfl, rfl⟩ | ⟨_, _, _, _, rfl, _⟩
    · exact Nat.le_refl _
    · simp
  rw [← nWorth_cap 1099511627776 (by decide) (by omega)]
  have hWB : (W ++ B).all dIs = true := by
    rw [List.all_append, hf.digs]
    rcases hf.frac with ⟨_, rfl⟩ | ⟨_, _, h⟩
    · rfl
    · exact h
  have HS := Lib.hid (rsplit_zero s w (by omega))
  rw [f1, f2, f4, f5, f6] at HS
  have HD := Lib.hid hWB
  have HSg := Lib.hid hf.sign
  have hspos : 0 < s.size := by
    have : W ≠ [] := by rcases hf.lead with rfl | ⟨x, t, rfl, _⟩ <;> simp
    have := List.length_pos_iff.mpr this
    omega
  have hW0 : ∃ x t, W = x :: t ∧ dIs x = true := head_of (by rcases hf.lead with rfl | ⟨x, t, rfl, _⟩ <;> simp) hf.digs
  have HH := Lib.hid (show (sg = [45] → s[0] = 45) ∧ (sg = [] → s[0] ≠ 45) by
    have e := head_at s hspos
    rw [hf.eq] at e
    refine ⟨fun h => ?_, fun h => ?_⟩
    · rw [h] at e; exact (Option.some.inj e).symm
    · obtain ⟨x, t, hx, hd⟩ := hW0
      rw [h, hx] at e
      have e2 : x = s[0] := Option.some.inj e
      rw [← e2]
      exact fun e3 => by rw [e3] at hd; exact absurd hd (by decide))
  have HP := Lib.hid (fun w => rpower (bA P) w (by rw [bA_size]; omega))
  rw [bA_data] at HP
  have hcap : -1099511627776 ≤ capV 1099511627776 P ∧ capV 1099511627776 P ≤ 1099511627776 := by
    unfold capV
    have := Nat.min_le_left 1099511627776 (dV (P.filter dIs))
    split <;> omega
  unfold nWorth
  obtain ⟨C, hC⟩ : ∃ C, C = capV 1099511627776 P := ⟨_, rfl⟩
  rw [← hC] at hcap HP ⊢
  obtain ⟨D, hDD⟩ : ∃ D, D = W ++ B := ⟨_, rfl⟩
  have hDl : D.length ≤ 1048576 := by rw [hDD, List.length_append]; omega
  have HDD := Lib.hid hDD
  rw [← hDD] at HD ⊢
  have sW := bA_size W
  have sB := bA_size B
  have hWs : W.length ≤ 1048576 := by omega
  have hBs : B.length ≤ 1048576 := by omega
  obtain ⟨WT, hWT⟩ : ∃ WT, WT = bA W := ⟨_, rfl⟩
  obtain ⟨BT, hBT⟩ : ∃ BT, BT = bA B := ⟨_, rfl⟩
  obtain ⟨PT, hPT⟩ : ∃ PT, PT = bA P := ⟨_, rfl⟩
  rw [← hWT] at sW
  rw [← hBT] at sB
  rw [← hPT] at HP
  have HWT := Lib.hid (And.intro hWT (And.intro hBT hPT))
  have hWz : WT.size ≤ 1048576 := by omega
  have hBz : BT.size ≤ 1048576 := by omega
  have HSB := Lib.hid sB
  clear f1 f2 f3 f4 f5 f6 f7 f8 hWB hW0 hC hDD hPl hBl hlen hf hWT hBT hPT sW sB hWs hBs
  go_enter Tryz.func31, Tryz.ntmps31
  go_wp2_with fail
  with_reducible refine HS.out.mono ?_
  rintro r w1 ⟨W1, B1, P1, E, rfl, hT, b1⟩
  obtain ⟨h1, h2, h3, h4⟩ := hT (by trivial)
  rw [← HWT.out.1] at h1
  rw [← HWT.out.2.1] at h2
  rw [← HWT.out.2.2] at h3
  subst h1 h2 h3
  rw [h4]
  clear HS hT h4
  go_upto_region 2 with fail
  have PN := pb_new w1 W1 B1 P1 ((s.size : Nat) : Int) 0
  have b2 := b1.alloc b1.size (.cells #[.string W1, .string B1, .string P1, .int .i64 ((s.size : Nat) : Int), .int .i64 0] 105)
  generalize w1.alloc (.cells #[.string W1, .string B1, .string P1, .int .i64 ((s.size : Nat) : Int), .int .i64 0] 105) = w2 at PN b2 ⊢
  generalize w1.heap.size = g at PN ⊢
  have HB2 := Lib.hid b2
  have c0 := PN.c0
  have c1 := PN.c1
  have c2 := PN.c2
  have c3 := PN.c3
  have c4 := PN.c4
  clear b1 b2
  have HWB := Lib.hid (show (W1 ++ B1).data.toList = D by rw [toList_append, HWT.out.1, HWT.out.2.1, bA_data, bA_data, HDD.out])
  have HWBs := Lib.hid (show (W1 ++ B1).size ≤ 1048576 by rw [← toList_size, HWB.out]; exact hDl)
  go_wp2_with fail
  go_loopw [5] (fun v wr => RLzRel D w2 v wr) (fun v _ => (textOf v).size)
  case atStart => exact ⟨W1 ++ B1, rfl, rfl, HWBs.out, Lib.hid ⟨by rw [HWB.out], fun x hx => by rw [HWB.out] at hx; exact hx⟩⟩
  case round =>
    obtain ⟨T, rfl, hww, hTs, hTl⟩ := hrel
    rw [hww]
    clear hww
    have hts := toList_size T
    by_cases hT0 : T.size = 0
    · have pE : (!T.toList.isEmpty) = false := by rw [isEmpty_of, hT0]; rfl
      have pE2 : T.toList.isEmpty = true := by rw [isEmpty_of, hT0]; rfl
      have HR := Lib.hid (show dWorth sg (lz D) (C - (B.length : Nat)) = (0, 0) by
        rw [← hTl.out.1, List.eq_nil_of_length_eq_zero (hts.trans hT0)]; unfold dWorth; rw [if_pos (show lz [] = [] from rfl)])
      clear hT0 hTl hts
      go_wp2
      go_ret2
      exact ⟨by rw [HR.out]; rfl, HB2.out⟩
    · have hpos : 0 < T.size := by omega
      have pE : (!T.toList.isEmpty) = true := by rw [isEmpty_of, decide_eq_false hT0]; rfl
      have pE2 : T.toList.isEmpty = false := by rw [isEmpty_of]; exact decide_eq_false hT0
      have iz : (0 : Int) < (T.size : Int) := by omega
      have iz1 : (1 : Int) ≤ (T.size : Int) := by omega
      have hh : T.data.toList = T[0] :: T.data.toList.drop 1 := by
        have := dropAt hpos
        rwa [List.drop_zero] at this
      obtain ⟨x, hx⟩ : ∃ x, x = T[0] := ⟨_, rfl⟩
      have hxi : (T[0].toNat : Int) = (x.toNat : Int) := by rw [hx]
      rw [← hx] at hh
      by_cases hx48 : x = 48
      · have q1 : ((x.toNat : Int) == 48) = true := by rw [hx48]; rfl
        have HT2 := Lib.hid (show lz (T.extract 1 T.size).data.toList = lz D ∧ ∀ y ∈ (T.extract 1 T.size).data.toList, y ∈ D by
          rw [tail_text]
          refine ⟨?_, fun y hy => hTl.out.2 y (by rw [hh]; exact List.mem_cons_of_mem _ hy)⟩
          rw [← hTl.out.1]
          have : lz T.data.toList = lz (T.data.toList.drop 1) := by rw [hh, hx48]; rfl
          rw [this])
        have HS2 := Lib.hid (show (T.extract 1 T.size).size = T.size - 1 by rw [← toList_size, tail_text, List.length_drop, hts])
        clear hx hh hx48 hTl hts hT0
        generalize x.toNat = X at *
        go_wp2
        go_roundw
        case rel => exact ⟨_, rfl, rfl, by rw [HS2.out]; omega, HT2⟩
        case measure => show (T.extract 1 T.size).size < T.size; rw [HS2.out]; omega
      · have q1 : ((x.toNat : Int) == 48) = false := beq_eq_false_iff_ne.mpr (fun h => hx48 (UInt8.toNat_inj.mp (by show x.toNat = 48; omega)))
        have hlz : lz D = T.data.toList := by rw [← hTl.out.1, hh, lz_other _ hx48]
        have hL : Lead T.data.toList := by rw [← hlz]; exact Lead.of HD.out (by rw [hlz, hh]; simp)
        have HZr := Lib.hid (fun w => rzeros T w (by omega))
        obtain ⟨d, hd⟩ : ∃ d, d = T.data.toList := ⟨_, rfl⟩
        have Hd := Lib.hid hd
        rw [← hd] at HZr hL hts hlz
        obtain ⟨z, hzz⟩ : ∃ z, z = zR d := ⟨_, rfl⟩
        have hzl : z ≤ d.length := by have := cnt_len d; omega
        have HRD := Lib.hid (fun n => show dWorth sg d n = if n < -(z : Int) then (0, 7) else if 30 < (d.length : Int) + n then (0, 4) else sEnd (sg ++ (if n < 0 then d.take ((d.length : Int) + n).toNat else d ++ List.replicate n.toNat 48)) from by unfold dWorth; rw [if_neg hL.1, hzz])
        rw [← hzz] at HZr
        obtain ⟨n, hn⟩ : ∃ n : Int, n = C - (B1.size : Nat) := ⟨_, rfl⟩
        have HDn : dWorth sg (lz D) (C - (B.length : Nat)) = dWorth sg d n := by rw [hlz, ← HSB.out, ← hn]
        rw [HRD.out n] at HDn
        have m1 : IntKind.i64.wrap (C - (B1.size : Int)) = n := by rw [i64_small (by omega) (by omega)]; exact hn.symm
        have m2 : IntKind.i64.wrap (-(z : Int)) = -(z : Int) := i64_small (by omega) (by omega)
        have m3 : IntKind.i64.wrap ((T.size : Int) + n) = (T.size : Int) + n := i64_small (by omega) (by omega)
        have hn1 : -1200000000000 ≤ n ∧ n ≤ 1200000000000 := by omega
        clear hx hh hx48 hTl hT0 hlz hL hd hzz hn HRD
        by_cases hlow : n < -(z : Int)
        · have p1 : decide (n < -(z : Int)) = true := decide_eq_true hlow
          rw [if_pos hlow] at HDn
          have HR := Lib.hid HDn
          clear HDn hlow
          generalize x.toNat = X at *
          go_wp2_with fail
          go_quiet (first | (go_at_call 54; exact Calls.quiet_of_same (HP.out _)))
          go_wp2_with fail
          with_reducible refine (HZr.out _).mono ?_
          rintro r w4 ⟨rfl, hw⟩
          rw [hw]; clear hw
          go_wp2
          go_ret2
          exact ⟨by rw [HR.out]; rfl, Below.drewN HB2.out _⟩
        · have p1 : decide (n < -(z : Int)) = false := decide_eq_false hlow
          rw [if_neg hlow] at HDn
          by_cases hhi : 30 < (d.length : Int) + n
          · have p2 : decide (30 < (T.size : Int) + n) = true := decide_eq_true (by rw [← hts]; exact hhi)
            rw [if_pos hhi] at HDn
            have HR := Lib.hid HDn
            clear HDn hlow hhi
            generalize x.toNat = X at *
            go_wp2_with fail
            go_quiet (first | (go_at_call 54; exact Calls.quiet_of_same (HP.out _)))
            go_wp2_with fail
            with_reducible refine (HZr.out _).mono ?_
            rintro r w4 ⟨rfl, hw⟩
            rw [hw]; clear hw
            go_wp2
            go_ret2
            exact ⟨by rw [HR.out]; rfl, Below.drewN HB2.out _⟩
          · have p2 : decide (30 < (T.size : Int) + n) = false := decide_eq_false (by rw [← hts]; exact hhi)
            rw [if_neg hhi] at HDn
            obtain ⟨base, hbase⟩ : ∃ base, base = if n < 0 then d.take ((d.length : Int) + n).toNat else d := ⟨_, rfl⟩
            have hpad : (if n < 0 then d.take ((d.length : Int) + n).toNat else d ++ List.replicate n.toNat 48) = base ++ List.replicate n.toNat 48 := by
              rw [hbase]
              by_cases h : n < 0
              · rw [if_pos h, if_pos h, show n.toNat = 0 by omega, List.replicate_zero, List.append_nil]
              · rw [if_neg h, if_neg h]
            rw [hpad] at HDn
            have HR := Lib.hid HDn
            have hbl : base.length ≤ 1048576 := by
              rw [hbase]
              split
              · rw [List.length_take]; omega
              · omega
            have HBs := Lib.hid hbase
            have hhi2 : (T.size : Int) + n ≤ 30 := by rw [← hts]; omega
            have hlo2 : 0 ≤ (T.size : Int) + n := by rw [← hts]; omega
            have Hts := Lib.hid hts
            clear HDn hlow hhi hpad hbase
            obtain ⟨j, hj⟩ : ∃ j : Nat, (j : Int) = (T.size : Int) + n := ⟨((T.size : Int) + n).toNat, by omega⟩
            have hjd : ((d.length : Int) + n).toNat = j := by rw [hts]; omega
            obtain ⟨q, hq⟩ : ∃ q : Nat, q = n.toNat := ⟨_, rfl⟩
            have hq30 : q ≤ 30 := by omega
            have HQ := Lib.hid (show ∀ k : Nat, (k : Int) < n ↔ k < q from fun k => by omega)
            rw [← hq] at HR
            have HJ := Lib.hid (show ((T.size : Int) + n).toNat = j by omega)
            have HB0 := Lib.hid (show (n < 0 → base = d.take j) ∧ (¬ n < 0 → base = d) from ⟨fun h => by rw [HBs.out, if_pos h, hjd], fun h => by rw [HBs.out, if_neg h]⟩)
            clear HBs hjd hq hj hts Hts
            generalize x.toNat = X at *
            go_wp2_with fail
            go_quiet (first | (go_at_call 54; exact Calls.quiet_of_same (HP.out _)))
            go_wp2_with fail
            with_reducible refine (HZr.out _).mono ?_
            rintro r w4 ⟨rfl, hw⟩
            rw [hw]; clear hw
            go_upto_if 54 with fail
            go_cut [5] from 8 (fun v wx => ∃ U : ByteArray, v = .string U ∧ U.data.toList = base ∧ Below w.heap.size w wx)
            case first =>
              have bq := Below.drewN HB2.out
              by_cases hneg : n < 0
              · have HU := Lib.hid (show (T.extract 0 ((T.size : Int) + n).toNat).data.toList = base by rw [ext_toList, List.drop_zero, Nat.sub_zero, ← Hd.out, HB0.out.1 hneg, HJ.out])
                have s1 : (0 : Int) ≤ (T.size : Int) + n := hlo2
                have s2 : (T.size : Int) + n ≤ (T.size : Int) := by omega
                rw [decide_eq_true hneg]
                clear hneg
                go_wp2_with fail
                go_meet
                case rel => exact ⟨_, rfl, HU.out, bq _⟩
              · have HU := Lib.hid (show T.data.toList = base by rw [← Hd.out, HB0.out.2 (by omega)])
                rw [decide_eq_false hneg]
                clear hneg
                go_wp2_with fail
                go_meet
                case rel => exact ⟨T, rfl, HU.out, bq _⟩
            case rest =>
              obtain ⟨U, rfl, hU, hbx⟩ := hcut
              have HU := Lib.hid hU
              have HBX := Lib.hid hbx
              clear hU hbx m1 m2 m3 p1 p2 q1 c0 c1 c2 c3 c4 pE pE2 iz iz1 hpos hxi HJ HB0 Hd HP HZr
              go_wp2_with fail
              go_loopw [5, 7] (fun v i wr => RPadRel base q wc v i wr) (fun _ i _ => q + 1 - (intOf i).toNat)
              case atStart => exact ⟨U, 0, rfl, rfl, Nat.zero_le _, rfl, by rw [Nat.add_zero, ← HU.out, toList_size], Lib.hid (by rw [List.replicate_zero, List.append_nil]; exact HU.out)⟩
              case round =>
                obtain ⟨V, k, rfl, rfl, hk, hww, hVs, hV⟩ := hrel
                rw [hww]
                clear hww
                have hVsz : V.size ≤ 2097152 := by omega
                by_cases hlt : k < q
                · have p1 : decide ((k : Int) < n) = true := decide_eq_true ((HQ.out k).mpr hlt)
                  have y3 := next_wrap (a := k) (by omega)
                  have HV2 := Lib.hid (show (V ++ ⟨#[48]⟩).data.toList = base ++ List.replicate (k + 1) 48 by
                    rw [toList_append, hV.out, List.append_assoc, List.replicate_succ'])
                  have HV3 := Lib.hid (show (V ++ ⟨#[48]⟩).size = base.length + (k + 1) by rw [ByteArray.size_append, hVs, Nat.add_assoc]; first | done | rfl)
                  clear hV
                  go_wp2
                  go_roundw
                  case rel => exact ⟨V ++ ⟨#[48]⟩, k + 1, rfl, by go_num, by omega, rfl, HV3.out, HV2⟩
                  case measure => simp [intOf]; omega
                · have p1 : decide ((k : Int) < n) = false := decide_eq_false (fun h => hlt ((HQ.out k).mp h))
                  have hkq : k = q := by omega
                  have HVq := Lib.hid (show V.data.toList = base ++ List.replicate q 48 by rw [hV.out, hkq])
                  have i0 : (0 : Int) < (s.size : Int) := by omega
                  obtain ⟨y, hy⟩ : ∃ y, y = s[0] := ⟨_, rfl⟩
                  have hyi : (s[0].toNat : Int) = (y.toNat : Int) := by rw [hy]
                  have HHy := HH.out
                  rw [← hy] at HHy
                  have HHZ := Lib.hid HHy
                  clear hV hkq hlt hy HHy
                  rcases HSg.out with hs | hs
                  · have hy45 := HHZ.out.2 hs
                    have q2 : ((y.toNat : Int) == 45) = false := beq_eq_false_iff_ne.mpr (fun h => hy45 (UInt8.toNat_inj.mp (by show y.toNat = 45; omega)))
                    have HRd := Lib.hid (fun w => rRead V w (by omega))
                    rw [HVq.out] at HRd
                    have HR2 := HR.out
                    rw [show sg ++ (base ++ List.replicate q 48) = base ++ List.replicate q 48 by rw [hs]; rfl] at HR2
                    have HR3 := Lib.hid HR2
                    clear HR2 hs hy45 HHZ
                    generalize sEnd (base ++ List.replicate q 48) = EE at *
                    generalize y.toNat = Y at *
                    go_wp2_with fail
                    with_reducible refine (HRd.out _).mono ?_
                    rintro r w7 ⟨rfl, hw⟩
                    rw [hw]; clear hw
                    go_wp2
                    go_ret2
                    exact ⟨by rw [HR3.out]; rfl, HBX.out⟩
                  · have hy45 := HHZ.out.1 hs
                    have q2 : ((y.toNat : Int) == 45) = true := by rw [hy45]; rfl
                    have HRd := Lib.hid (fun w => rRead (⟨#[45]⟩ ++ V) w (by rw [ByteArray.size_append]; show 1 + _ ≤ _; omega))
                    rw [show ((⟨#[45]⟩ : ByteArray) ++ V).data.toList = [45] ++ (base ++ List.replicate q 48) from by rw [toList_append, HVq.out]] at HRd
                    have HR2 := HR.out
                    rw [show sg ++ (base ++ List.replicate q 48) = [45] ++ (base ++ List.replicate q 48) by rw [hs]] at HR2
                    have HR3 := Lib.hid HR2
                    clear HR2 hs hy45 HHZ
                    generalize sEnd ([45] ++ (base ++ List.replicate q 48)) = EE at *
                    generalize y.toNat = Y at *
                    go_wp2_with fail
                    with_reducible refine (HRd.out _).mono ?_
                    rintro r w7 ⟨rfl, hw⟩
                    rw [hw]; clear hw
                    go_wp2
                    go_ret2
                    exact ⟨by rw [HR3.out]; rfl, HBX.out⟩
theorem rwhole_any (s : ByteArray) (w : World) (hz : s.size ≤ 1048576) :
    Calls Tryz.prog 31 #[.string s] w fun e w' => e = .returned (.tuple #[.int .i64 (wEnd s.data.toList).1, .int .i64 (wEnd s.data.toList).2]) ∧ Below w.heap.size w w' := by
  by_cases h : nCode s.data.toList = 0 ∧ nE s.data.toList = s.data.toList.length
  · have hf := form_of h.1 h.2
    rw [wEnd_form hf]
    exact rwhole_good s hf w hz
  · exact rwhole_bad s w hz h
end Go.Proofs.YtmkcfilgiehjaaaGreatDoor
