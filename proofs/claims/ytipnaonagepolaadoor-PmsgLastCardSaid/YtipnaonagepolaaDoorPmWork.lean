/- Law 18's example. -/
import Derived.Test.YtipnaonagepolaaDoorPmE
import Derived.Test.YtipnaonagepolaaDoorPmJ
import Derived.Test.YtipnaonagepolaaDoorPmM
namespace Go.Proofs.YtipnaonagepolaaDoor
open Go Go.RowKit
set_option linter.unusedVariables false

def pwL : List FD := [(1, 2, 0, ⟨#[97]⟩), (1, 2, 0, ⟨#[98]⟩), (2, 0, 1, ⟨#[]⟩), (2, 0, 2, ⟨#[]⟩)]
theorem pw_good : fAll (⟨#[10, 1, 97, 10, 1, 98, 16, 1, 16, 2]⟩ : ByteArray).data.toList = (pwL, 0) := by decide +kernel
theorem pw_bad : fAll (⟨#[11]⟩ : ByteArray).data.toList = ([], 14) := by decide +kernel
theorem pw_join : bA (fJoin (fEach pwL 1)) = ⟨#[97, 98]⟩ ∧ decide (0 < (fEach pwL 1).length) = true ∧ (fEach pwL 1).length = 2 ∧ (fJoin (fEach pwL 1)).length ≤ 140737488355328 := by decide +kernel
theorem pw_text : (fLast pwL (tHas (1, 2))).2.2.2 = ⟨#[98]⟩ ∧ fIs pwL (tHas (1, 2)) = true := by decide +kernel
theorem pw_num : fNum pwL 2 0 = 2 ∧ fNis pwL 2 0 = true := by decide +kernel
theorem pw_last : fLast pwL (tKn [(1, 2), (2, 0)]) = (2, 0, 2, ⟨#[]⟩) ∧ fIs pwL (tKn [(1, 2), (2, 0)]) = true := by decide +kernel
theorem pw_rest : fRest pwL [(2, 0)] = 2 := by decide +kernel
theorem pw_ok : ∀ x ∈ pwL, tOk (x.1, x.2.1) := by unfold tOk; decide +kernel
theorem pw_ok2 : ∀ t ∈ ([(2, 0)] : List TG), tOk t := by unfold tOk; decide +kernel
theorem pw_tags {W : World} {b : Nat} (h : W.heap[b]? = some (.cells #[.int .i64 1, .int .i64 2, .int .i64 2, .int .i64 0] 51 (0, 0))) : TgIn W (some ⟨b, 0, none⟩) [(1, 2), (2, 0)] := fun j hj => by
  have hlt := lt_of_block h
  match j, hj with
  | 0, _ => exact ⟨_, 0, rfl, hlt, by simp [World.cell?, h], by simp [World.cell?, h]⟩
  | 1, _ => exact ⟨_, 0, rfl, hlt, by simp [World.cell?, h], by simp [World.cell?, h]⟩
theorem pw_tags_new (w : World) : TgIn (w.alloc (.cells #[.int .i64 1, .int .i64 2, .int .i64 2, .int .i64 0] 51)) (some ⟨w.heap.size, 0, none⟩) [(1, 2), (2, 0)] := pw_tags (heap_alloc_new w _)
theorem alloc_below {N : Nat} {w W : World} (h : Below N w W) (hN : N ≤ W.heap.size) (o : Obj) : Below N w (W.alloc o) := h.alloc hN o
theorem read_no {e : Ending} {w' : World} {N : Nat} {w : World} {E : Int} {l : List FD} (h : ∃ mp, e = .returned (.tuple #[.pointer mp, .int .i64 E]) ∧ MsgIn w' mp l ∧ ((mp = none) = ¬ E = 0) ∧ Below N w w') (h0 : ¬ E = 0) : e = .returned (.tuple #[.pointer none, .int .i64 E]) ∧ Below N w w' := by
  obtain ⟨mp, rfl, _, h2, h3⟩ := h
  have : mp = none := by rw [h2]; exact h0
  subst this
  exact ⟨rfl, h3⟩
theorem msg_some {w : World} {mp : Option Addr} (h : MsgIn w mp pwL) : ∃ b, mp = some ⟨b, 0, none⟩ := by
  rcases h with ⟨_, h⟩ | ⟨b, _, _, h, _⟩
  · cases h
  · exact ⟨b, h⟩
/-- Between two calls. -/
def WkS (w : World) (b : Nat) (W : World) : Prop := MsgIn W (some ⟨b, 0, none⟩) pwL ∧ Below w.heap.size w W ∧ Tab W
theorem WkS.next {w W W' : World} {b : Nat} (h : WkS w b W) (hb : Below W.heap.size W W') : WkS w b W' := ⟨h.1.below hb (Nat.le_refl _), below_on h.2.1 hb h.2.1.size, h.2.2.below hb h.2.2.lt⟩
theorem WkS.alloc {w W : World} {b : Nat} (h : WkS w b W) (o : Obj) : WkS w b (W.alloc o) := h.next ((Below.refl _ _).alloc (Nat.le_refl _) o)

set_option maxRecDepth 100000 in
set_option maxHeartbeats 400000 in
theorem works_any (w : World) (ht : Tab w) : Calls Tryd.prog 6 #[] w fun e w' => e = .returned (.bool true) ∧ Below w.heap.size w w' := by
  have HR1 := Lib.hid (pmread_any ⟨#[10, 1, 97, 10, 1, 98, 16, 1, 16, 2]⟩ w (by decide) ht)
  rw [pw_good] at HR1
  have HR2 := Lib.hid (fun w ht => pmread_any ⟨#[11]⟩ w (by decide) ht)
  rw [pw_bad] at HR2
  have HT := Lib.hid ht
  have HJ := Lib.hid (fun mp w h => pmjoined_any mp pwL 1 w h (by decide) pw_join.2.2.2)
  rw [pw_join.1, pw_join.2.1] at HJ
  have HX := Lib.hid (fun mp w h => pmtext_any mp pwL 1 w h (by decide))
  rw [pw_text.1, pw_text.2] at HX
  have HN := Lib.hid (fun mp w h => pmnum_any mp pwL 2 0 w h (by decide))
  rw [pw_num.1, pw_num.2] at HN
  have HL := Lib.hid (fun mp a w h h2 => pmlast_any mp a 2 pwL [(1, 2), (2, 0)] w h (by decide) (by decide) h2)
  rw [pw_last.1, pw_last.2] at HL
  have HE := Lib.hid (fun mp w h => pmeach_any mp pwL 1 w h (by decide))
  have HS := Lib.hid (fun mp a w h h2 => pmrest_any mp a 1 pwL [(2, 0)] w h (by decide) (by decide) h2 pw_ok pw_ok2)
  rw [pw_rest] at HS
  have HS0 := Lib.hid (fun w => pmrest_any none none 0 [] [] w (.inl ⟨rfl, rfl⟩) (by decide) (by decide) (fun j hj => by simp at hj) (fun x hx => by simp at hx) (fun x hx => by simp at hx))
  have HE0 := Lib.hid (fun w => pmeach_any none [] 1 w (.inl ⟨rfl, rfl⟩) (by decide))
  have HLN := Lib.hid pw_join.2.2.1
  clear ht
  dsimp only at HR1 HR2
  unfold pfV at HL
  dsimp only at HL
  go_enter Tryd.func6, Tryd.ntmps6
  go_wp2_with fail
  refine HR1.out.mono ?_
  rintro e w1 ⟨mp, rfl, hm, hn, hb⟩
  obtain ⟨b, hmp⟩ := msg_some hm
  subst hmp
  have S := Lib.hid (show WkS w b w1 from ⟨hm, hb, HT.out.below hb HT.out.lt⟩)
  clear hm hn hb
  go_wp2_with fail
  refine (HR2.out _ S.out.2.2).mono ?_
  intro e w2 hq
  obtain ⟨rfl, hb⟩ := read_no hq (by decide)
  have S2 := Lib.hid (S.out.next hb)
  clear hq hb S
  go_wp2_with fail
  refine (HJ.out _ _ S2.out.1).mono ?_
  rintro e w3 ⟨rfl, hb⟩
  have S3 := Lib.hid (S2.out.next hb)
  clear hb S2
  go_wp2_with fail
  refine (HX.out _ _ S3.out.1).mono ?_
  rintro e w4 ⟨rfl, hb⟩
  have S4 := Lib.hid (S3.out.next hb)
  clear hb S3
  go_wp2_with fail
  refine (HN.out _ _ S4.out.1).mono ?_
  rintro e w5 ⟨rfl, hb⟩
  have S5 := Lib.hid (S4.out.next hb)
  clear hb S4
  go_wp2_with fail
  refine (HL.out _ _ _ (S5.out.alloc _).1 (pw_tags_new _)).mono ?_
  rintro e w6 ⟨rfl, hb⟩
  have S6 := Lib.hid ((S5.out.alloc _).next hb)
  have F6 := fd_alloc w6 (2, 0, 2, ⟨#[]⟩) 47
  have S7 := Lib.hid (S6.out.alloc (.cells #[.int .i64 2, .int .i64 0, .int .u64 2, .string ⟨#[]⟩] 47))
  have HF := Lib.hid F6
  clear hb S5 S6 F6
  go_wp2_with fail
  refine (HE.out _ _ S7.out.1).mono ?_
  rintro e w8 ⟨v, rfl, hs, hb⟩
  obtain ⟨ua, uc, rfl, -⟩ := hs.inn
  have S8 := Lib.hid (S7.out.next hb)
  have F8 := HF.out.below hb HF.out.lt
  have d2 := F8.c2
  rw [HLN.out]
  clear hb S7 HF hs F8
  go_wp2_with fail
  refine (HS.out _ _ _ (S8.out.alloc _).1 (one_tag _ 2 0)).mono ?_
  rintro e w9 ⟨rfl, hb⟩
  have S9 := Lib.hid ((S8.out.alloc _).next hb)
  clear hb S8
  go_wp2_with fail
  refine (HS0.out _).mono ?_
  rintro e w10 ⟨rfl, hb⟩
  have S10 := Lib.hid (S9.out.next hb)
  clear hb S9
  go_wp2_with fail
  refine (HE0.out _).mono ?_
  rintro e w11 ⟨v, rfl, hs, hb⟩
  obtain ⟨ua2, uc2, rfl, -⟩ := hs.inn
  have S11 := Lib.hid (S10.out.next hb)
  clear hb S10 hs
  go_wp2
  go_ret
  exact ⟨rfl, S11.out.2.1⟩
end Go.Proofs.YtipnaonagepolaaDoor
