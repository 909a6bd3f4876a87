/- The document's own cursor: Byte, over XRefA (XRef2 without Sub). -/
import Derived.Test.YtmiagebcobcaiaaDoorRefA
import Derived.Deep.DeepCutAuto
namespace Go.Proofs.YtmiagebcobcaiaaDoor
open Go Go.RowKit
set_option linter.unusedVariables false

theorem not_empty {T : ByteArray} (h : 0 < T.size) : T.toList.isEmpty = false := by
  rw [ByteArray.toList_eq]
  cases hl : T.data.toList with
  | nil => have : T.size = 0 := by rw [← ByteArray.size_data, ← Array.length_toList, hl]; rfl
           omega
  | cons _ _ => rfl
theorem extract_one {s : ByteArray} {p : Nat} (h : p < s.size) (k : 0 < (s.extract p (p + 1)).size) : (s.extract p (p + 1))[0] = s[p] := by
  simp [ByteArray.getElem_eq_getElem_data, ByteArray.data_extract]

theorem ret_val8 {a c : Value} {b d : Int} (h : a = c) (k : b = d) : Ending.returned (.tuple #[a, .int .u8 b]) = .returned (.tuple #[c, .int .u8 d]) := by rw [h, k]

set_option maxHeartbeats 2000000 in
theorem ref_byte (c : CS) (w : World) (hc : c.ok) :
    Calls Tryd.prog 46 #[.agg #[.string c.s, .int .i64 c.at_, .int .i64 c.en, .int .i64 c.er]] w fun e w' => e = .returned (.tuple #[c.byte.val, .int .u8 c.peekB]) ∧ Below w.heap.size w w' := by
  have HW := fun w => ref_take c 1 w hc
  obtain ⟨k1, k2, k3⟩ := hc
  cases hp : c.peekIs with
  | true =>
    have hp' := of_decide_eq_true hp
    have hlt : c.at_ < c.s.size := by omega
    have hy : c.why 1 = 0 := CS.why_mk hp'.1 (by omega) (by omega)
    have HB := Lib.hid (show c.byte.val = .agg #[.string c.s, .int .i64 ((c.at_ + 1 : Nat) : Int), .int .i64 c.en, .int .i64 0] from by rw [CS.byte_yes hp]; simp [CS.val, hp'.1])
    have HT : c.takeS 1 = c.s.extract c.at_ (c.at_ + 1) := takeS_yes hy
    obtain ⟨T, hT⟩ : ∃ T, T = c.takeS 1 := ⟨_, rfl⟩
    have hpos : 0 < T.size := by rw [hT, HT]; simp; omega
    have hP := Lib.hid (show c.peekB = (T[0]'hpos).toNat from by
      unfold CS.peekB
      rw [if_pos hp]
      have : c.s.data[c.at_]? = some c.s[c.at_] := by rw [Array.getElem?_eq_getElem (by simpa using hlt)]; rfl
      rw [this]
      subst hT
      simp only [HT]
      rw [extract_one hlt]; rfl)
    have HB2 := Lib.hid (show (c.take 1).val = .agg #[.string c.s, .int .i64 ((c.at_ + 1 : Nat) : Int), .int .i64 c.en, .int .i64 0] from HB.out)
    rw [← hT] at HW
    have HW2 : ∀ w, Calls Tryd.prog 53 #[.agg #[.string c.s, .int .i64 c.at_, .int .i64 c.en, .int .i64 c.er], .int .i64 1] w fun e w' => e = .returned (.tuple #[.agg #[.string c.s, .int .i64 ((c.at_ + 1 : Nat) : Int), .int .i64 c.en, .int .i64 0], .string T]) ∧ Below w.heap.size w w' := fun w => by
      have := HW w; rw [HB2.out] at this; exact this
    have hem : T.toList.isEmpty = false := not_empty hpos
    have H := Lib.hid HW2
    clear HW HW2 HB2 hy hp' hp hT HT
    go_enter Tryd.func46, Tryd.ntmps46
    go_wp2_with fail
    refine (H.out _).mono ?_
    rintro e w1 ⟨rfl, hb1⟩
    obtain ⟨q1, q2, hbel⟩ := two_laid c CS.zero 56 hb1
    clear hb1
    have a0 := q1.c0; have a1 := q1.c1; have a2 := q1.c2; have a3 := q1.c3; have af := q1.fr
    have b0 := q2.c0; have b1 := q2.c1; have b2 := q2.c2; have b3 := q2.c3; have bf := q2.fr
    simp only []
    repeat (first | go_values | go_skip | go_guarded | go_step | go_upon)
    go_region
    all_goals (repeat (first | go_values | go_skip | go_guarded | go_step | go_upon))
    all_goals refine bodyPost_ret (v := .tuple #[.agg #[.string c.s, .int .i64 ((c.at_ + 1 : Nat) : Int), .int .i64 c.en, .int .i64 0], .int .u8 (T[0]'hpos).toNat]) (by simp [results, Tryd.results46, go_sem, b0, b1, b2, b3]) rfl ⟨ret_val8 HB.out.symm hP.out.symm, ?_⟩
    all_goals go_grown
  | false =>
    have hp' := of_decide_eq_false hp
    have hy : ¬ c.why 1 = 0 := fun h => by have := CS.why_zero h; exact hp' ⟨this.1, by omega⟩
    have hP := Lib.hid (CS.peekB_no hp)
    have hT := takeS_no hy
    have hB : c.byte.val = .agg #[.string c.s, .int .i64 c.at_, .int .i64 c.en, .int .i64 (c.why 1)] := by unfold CS.byte; rw [take_no hy]; rfl
    have HW2 : ∀ w, Calls Tryd.prog 53 #[.agg #[.string c.s, .int .i64 c.at_, .int .i64 c.en, .int .i64 c.er], .int .i64 1] w fun e w' => e = .returned (.tuple #[.agg #[.string c.s, .int .i64 c.at_, .int .i64 c.en, .int .i64 (c.why 1)], .string ⟨#[]⟩]) ∧ Below w.heap.size w w' := fun w => by
      have := HW w; rw [hT] at this; rw [← hB]; exact this
    have HB := Lib.hid hB
    clear hy hp' hp hT hB HW
    generalize c.why 1 = y at HW2 HB
    have H := Lib.hid HW2
    clear HW2
    go_enter Tryd.func46, Tryd.ntmps46
    go_wp2_with fail
    refine (H.out _).mono ?_
    rintro e w1 ⟨rfl, hb1⟩
    obtain ⟨q1, q2, hbel⟩ := two_laid c CS.zero 56 hb1
    clear hb1
    have a0 := q1.c0; have a1 := q1.c1; have a2 := q1.c2; have a3 := q1.c3; have af := q1.fr
    have b0 := q2.c0; have b1 := q2.c1; have b2 := q2.c2; have b3 := q2.c3; have bf := q2.fr
    simp only []
    repeat (first | go_values | go_skip | go_guarded | go_step | go_upon)
    refine bodyPost_ret (v := .tuple #[.agg #[.string c.s, .int .i64 c.at_, .int .i64 c.en, .int .i64 y], .int .u8 0]) (by simp [results, Tryd.results46, go_sem, b0, b1, b2, b3]) rfl ⟨ret_val8 HB.out.symm hP.out.symm, ?_⟩
    go_grown

end Go.Proofs.YtmiagebcobcaiaaDoor
