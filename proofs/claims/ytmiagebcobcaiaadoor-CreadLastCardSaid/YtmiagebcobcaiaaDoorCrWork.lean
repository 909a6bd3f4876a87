/- Layer 22's example ('works') returns true in every world that has word's table, and turns nothing that was there. -/
import Derived.Test.YtmiagebcobcaiaaDoorCrE
import Derived.Test.YtmiagebcobcaiaaDoorCrL
namespace Go.Proofs.YtmiagebcobcaiaaDoor
open Go Go.RowKit
set_option linter.unusedVariables false

def wA : ByteArray := ⟨#[22, 10, 0, 120]⟩
def wB : ByteArray := ⟨#[33, 1, 2]⟩
def wC : ByteArray := ⟨#[0]⟩
def wX : GD := (1, 6, 5, 0, ⟨#[]⟩, ⟨#[]⟩)
def wY : GD := (0, 1, 1, 0, ⟨#[]⟩, ⟨#[]⟩)
def wZ : GD := (1, 2, 0, 0, ⟨#[]⟩, ⟨#[]⟩)
theorem fuel_pos : 0 < fuelN := by decide +kernel
theorem fuel_pos2 : 0 < fuelN - 1 := by decide +kernel
theorem wA_at : cAt wA 0 = ⟨wA, 0, 4, 0⟩ := by unfold cAt; rw [if_neg (by decide)]; rfl
theorem wA_v (d : Nat) : valTo (rdTo d) 6 ⟨wA, 1, 4, 0⟩ = ⟨wA, 2, 4, 0⟩ := by
  rw [val_no rfl, rdTo_num (by decide)]; kernel_rfl
theorem wA_R : stR wA 0 = ⟨wA, 3, 4, 0⟩ := by
  have h1 : (⟨wA, 0, 4, 0⟩ : CS).hKd 0 = 6 ∧ (⟨wA, 0, 4, 0⟩ : CS).hId 0 = 1 := by decide +kernel
  have h2 : (⟨wA, 0, 4, 0⟩ : CS).hTo 0 = ⟨wA, 1, 4, 0⟩ := by kernel_rfl
  have h3 : (⟨wA, 2, 4, 0⟩ : CS).hKd 1 = 0 := by decide +kernel
  have h4 : (⟨wA, 2, 4, 0⟩ : CS).hTo 1 = ⟨wA, 3, 4, 0⟩ := by kernel_rfl
  unfold stR
  rw [wA_at, fld_next _ fuel_pos, h1.1, if_neg (by decide), h1.2, h2, wA_v, fld_next _ fuel_pos2, h3, if_pos rfl, h4]
theorem wA_F : stF wA 0 = [wX] := by
  have h1 : (⟨wA, 0, 4, 0⟩ : CS).hKd 0 = 6 ∧ (⟨wA, 0, 4, 0⟩ : CS).hId 0 = 1 := by decide +kernel
  have h2 : (⟨wA, 0, 4, 0⟩ : CS).hTo 0 = ⟨wA, 1, 4, 0⟩ := by kernel_rfl
  have h3 : (⟨wA, 2, 4, 0⟩ : CS).hKd 1 = 0 := by decide +kernel
  have hg : gAt (rdTo (dAt 0)) 1 6 ⟨wA, 1, 4, 0⟩ = wX := by
    unfold gAt
    rw [wA_v]
    kernel_rfl
  unfold stF
  rw [wA_R, if_pos rfl, wA_at, stL_next _ fuel_pos, h1.1, if_neg (by decide), h1.2, h2, wA_v, hg, stL_next _ fuel_pos2, h3, if_pos rfl]
theorem wA_N : stN wA 0 = 3 := by unfold stN; rw [wA_R]; rfl
theorem wB_at : cAt wB 0 = ⟨wB, 0, 3, 0⟩ := by unfold cAt; rw [if_neg (by decide)]; rfl
theorem wB_v (d : Nat) (a : Nat) (h : a = 1 ∨ a = 2) : rdTo d 1 ⟨wB, a, 3, 0⟩ = ⟨wB, a + 1, 3, 0⟩ := by
  rw [rdTo_flat rfl, inTo_flat rfl]
  rcases h with rfl | rfl <;> kernel_rfl
theorem wB_h : (⟨wB, 0, 3, 0⟩ : CS).lTo = ⟨wB, 1, 3, 0⟩ ∧ (⟨wB, 0, 3, 0⟩ : CS).lCt = 2 ∧ (⟨wB, 0, 3, 0⟩ : CS).lKd = 1 := ⟨by kernel_rfl, by decide +kernel, by decide +kernel⟩
theorem wB_R : itR wB 0 = ⟨wB, 3, 3, 0⟩ := by
  unfold itR
  rw [wB_at, wB_h.1, wB_h.2.1, wB_h.2.2, eachTo_one, wB_v _ 1 (.inl rfl), eachTo_one, wB_v _ 2 (.inr rfl)]; rfl
theorem wB_E : (itR wB 0).endC = 0 := by rw [wB_R]; rfl
theorem wB_F : itF wB 0 = [wY, wZ] := by
  unfold itF
  rw [wB_E, if_pos rfl, wB_at, wB_h.1, wB_h.2.1, wB_h.2.2]
  show iAt (rdTo (dAt 0)) 0 1 ⟨wB, 1, 3, 0⟩ :: iAt (rdTo (dAt 0)) 1 1 (rdTo (dAt 0) 1 ⟨wB, 1, 3, 0⟩) :: [] = _
  rw [wB_v _ 1 (.inl rfl)]
  have h1 : iAt (rdTo (dAt 0)) 0 1 ⟨wB, 1, 3, 0⟩ = wY := by unfold iAt; rw [wB_v _ 1 (.inl rfl)]; kernel_rfl
  have h2 : iAt (rdTo (dAt 0)) 1 1 ⟨wB, 2, 3, 0⟩ = wZ := by unfold iAt; rw [wB_v _ 2 (.inr rfl)]; kernel_rfl
  rw [h1, h2]
theorem wC_R : (stR wC 32).er = 33 := by
  have hc : cAt wC 32 = ⟨wC, 0, 1, 33⟩ := by unfold cAt; rw [if_pos (by decide)]; rfl
  have h1 : (⟨wC, 0, 1, 33⟩ : CS).hKd 0 = 0 := by decide +kernel
  have h2 : (⟨wC, 0, 1, 33⟩ : CS).hTo 0 = ⟨wC, 0, 1, 33⟩ := by kernel_rfl
  unfold stR
  rw [hc, fld_next _ fuel_pos, h1, if_pos rfl, h2]
theorem wA_L : lsV 1 6 [wX] = (wX, true) := by
  unfold lsV
  rw [lastG_some (l := [wX]) (j := 0) (by decide) (by decide +kernel) (fun i hi h => absurd hi (by simp; omega))]; rfl
set_option maxRecDepth 100000 in
set_option maxHeartbeats 2000000 in
theorem works22_any (w : World) (ht : Tab w) : Calls Tryd.prog 6 #[] w fun e w' => e = .returned (.bool true) ∧ Below w.heap.size w w' := by
  have HT := Lib.hid (show ∀ w', Below w.heap.size w w' → Tab w' from fun w' hb => ht.below hb ht.lt)
  have H1 := struct_any wA 0 w (by decide +kernel) (by decide) ht
  have H2 := Lib.hid (fun w ht => items_any wB 0 w (by decide +kernel) (by decide) ht)
  have H3 := fun w ht => struct_any wC 32 w (by decide +kernel) (by decide) ht
  rw [wA_N, wA_F, wA_R] at H1
  rw [wB_E, wB_F] at H2
  rw [wC_R] at H3
  generalize stF wC 32 = FC at H3
  generalize stN wC 32 = NC at H3
  have H1 := Lib.hid H1
  have H3 := Lib.hid H3
  clear ht
  go_enter Tryd.func6, Tryd.ntmps6
  go_wp2_with fail
  refine H1.out.mono ?_
  rintro e w1 ⟨v1, rfl, r1, b1⟩
  go_wp2_with fail
  refine (H2.out _ (HT.out _ b1)).mono ?_
  rintro e w2 ⟨v2, rfl, r2, b2⟩
  have r1 := r1.below b2 (Nat.le_refl _)
  have b2 := grown_then b1 b2
  clear b1
  go_wp2_with fail
  refine (H3.out _ (HT.out _ b2)).mono ?_
  rintro e w3 ⟨v3, rfl, -, b3⟩
  have r1 := r1.below b3 (Nat.le_refl _)
  have r2 := r2.below b3 (Nat.le_refl _)
  have b3 := grown_then b2 b3
  clear b2
  obtain ⟨a1, c1, rfl, i1⟩ := r1.inn
  obtain ⟨a2, c2, rfl, i2⟩ := r2.inn
  clear r1 r2 H1 H2 H3 HT
  go_wp2_with fail
  refine (last_any [wX] 1 6 a1 c1 _ (by decide) i1).mono ?_
  rw [wA_L]
  rintro e w4 ⟨rfl, b4⟩
  have i1 := i1.below b4 (Nat.le_refl _)
  have i2 := i2.below b4 (Nat.le_refl _)
  have B4 := Lib.hid (grown_then b3 b4)
  obtain ⟨g1, rfl, l1, x0, x1, x2, -⟩ := i1 0 (by decide)
  obtain ⟨g2, rfl, l2, y0, y1, y2, -⟩ := i2 0 (by decide)
  obtain ⟨g3, hg3, l3, z0, z1, z2, -⟩ := i2 1 (by decide)
  obtain rfl : g2 = g3 := by simpa using hg3
  clear i1 i2 b3 b4 hg3
  unfold gfV
  dsimp only [wX, wY, wZ, List.length_cons, List.length_nil, List.getElem_cons_zero, List.getElem_cons_succ] at x0 x1 x2 y0 y1 y2 z0 z1 z2 ⊢
  obtain ⟨w5, hw5⟩ : ∃ w5, w5 = w4.alloc (.cells #[.int .i64 1, .int .u8 6, .int .i64 5, .int .u64 0, .string ⟨#[]⟩, .string ⟨#[]⟩] 39) := ⟨_, rfl⟩
  have F5 : GfT 39 w5 w4.heap.size (1, 6, 5, 0, ⟨#[]⟩, ⟨#[]⟩) := by rw [hw5]; exact gf_alloc w4 (1, 6, 5, 0, ⟨#[]⟩, ⟨#[]⟩) _
  have b5 : Below w4.heap.size w4 w5 := by rw [hw5]; exact (Below.refl _ w4).alloc (Nat.le_refl _) _
  have B5 := Lib.hid (grown_then B4.out b5)
  have x2' : w5.cell? ⟨g1, 2, none⟩ = some (.int .i64 5) := (b5.cell (p := ⟨g1, 2, none⟩) l1).trans x2
  have y2' : w5.cell? ⟨g2, 2, none⟩ = some (.int .i64 1) := (b5.cell (p := ⟨g2, 2, none⟩) l2).trans y2
  have z1' : w5.cell? ⟨g2, 7, none⟩ = some (.int .u8 2) := (b5.cell (p := ⟨g2, 7, none⟩) l2).trans z1
  have f2 := F5.c2
  dsimp only at f2
  clear x0 x1 x2 y0 y1 y2 z0 z1 z2 B4 b5 F5
  go_upto_region 5 with fail
  rw [← hw5]
  clear hw5
  go_wp2
  go_ret
  exact ⟨rfl, B5.out⟩
end Go.Proofs.YtmiagebcobcaiaaDoor
