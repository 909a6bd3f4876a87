/- The document's own cursor: Sub. -/
import Derived.Test.YtikjckdeciagiaaRef2
namespace Go.Proofs.Ytikjckdeciagiaa
open Go Go.RowKit
set_option linter.unusedVariables false

theorem three_laid {w w1 : World} (c d f : CS) (t : TypeId) (h : Below (((w.alloc (.cells #[.string c.s, .int .i64 c.at_, .int .i64 c.en, .int .i64 c.er] t)).alloc (.cells #[.string d.s, .int .i64 d.at_, .int .i64 d.en, .int .i64 d.er] t)).alloc (.cells #[.string f.s, .int .i64 f.at_, .int .i64 f.en, .int .i64 f.er] t)).heap.size (((w.alloc (.cells #[.string c.s, .int .i64 c.at_, .int .i64 c.en, .int .i64 c.er] t)).alloc (.cells #[.string d.s, .int .i64 d.at_, .int .i64 d.en, .int .i64 d.er] t)).alloc (.cells #[.string f.s, .int .i64 f.at_, .int .i64 f.en, .int .i64 f.er] t)) w1) :
    CurT t w1 w.heap.size c ∧ CurT t w1 (w.heap.size + 1) d ∧ CurT t w1 (w.heap.size + 1 + 1) f ∧ Below w.heap.size w w1 := by
  obtain ⟨q1, q2, q3⟩ := two_laid (w := w) c d t (Below.refl _ _)
  have q4 := cur_alloc (w := (w.alloc (.cells #[.string c.s, .int .i64 c.at_, .int .i64 c.en, .int .i64 c.er] t)).alloc (.cells #[.string d.s, .int .i64 d.at_, .int .i64 d.en, .int .i64 d.er] t)) (c := f) t
  simp only [World.size_alloc] at q4
  exact ⟨Below.cur h (q1.allocOld _) (q1.allocOld _).lt, Below.cur h (q2.allocOld _) (q2.allocOld _).lt, Below.cur h q4 q4.lt, (q3.alloc (by simp; omega) _).trans (h.mono (by simp; omega))⟩

theorem ret_three {a b c d : Value} {x y : Bool} (h : a = c) (k : b = d) (l : x = y) : Ending.returned (.tuple #[a, b, .bool x]) = .returned (.tuple #[c, d, .bool y]) := by rw [h, k, l]

set_option maxHeartbeats 2000000 in
theorem ref_sub_no (c : CS) (n : Int) (w : World) (hc : c.ok) (hy : ¬ c.why n = 0) :
    Calls Try.prog 16 #[.agg #[.string c.s, .int .i64 c.at_, .int .i64 c.en, .int .i64 c.er], .int .i64 n] w fun e w' => e = .returned (.tuple #[(c.take n).val, CS.zero.val, .bool false]) ∧ Below w.heap.size w w' := by
  have HW := fun w => ref_why c n w hc
  have HR := Lib.hid (show (c.take n).val = .agg #[.string c.s, .int .i64 c.at_, .int .i64 c.en, .int .i64 (c.why n)] from by rw [take_no hy]; rfl)
  have hb : (c.why n == 0) = false := by simp [hy]
  have hb' : (c.why n != 0) = true := by simp [hy]
  clear hy hc
  generalize c.why n = y at HR hb hb' HW
  have H := Lib.hid HW
  clear HW
  go_enter Try.func16, Try.ntmps16
  go_wp2_with fail
  refine (H.out _).mono ?_
  rintro e w1 ⟨rfl, hb1⟩
  obtain ⟨q1, q2, q3, hbel⟩ := three_laid c CS.zero CS.zero 28 hb1
  clear hb1
  have a0 := q1.c0; have a1 := q1.c1; have a2 := q1.c2; have a3 := q1.c3; have af := q1.fr
  have b0 := q2.c0; have b1 := q2.c1; have b2 := q2.c2; have b3 := q2.c3; have bf := q2.fr
  have c0 := q3.c0; have c1 := q3.c1; have c2 := q3.c2; have c3 := q3.c3; have cf := q3.fr
  go_wp2
  refine bodyPost_ret (v := .tuple #[.agg #[.string c.s, .int .i64 c.at_, .int .i64 c.en, .int .i64 y], .agg #[.string ⟨#[]⟩, .int .i64 0, .int .i64 0, .int .i64 0], .bool false]) (by simp [results, Try.results16, go_sem, b0, b1, b2, b3, c0, c1, c2, c3]) rfl ⟨ret_three HR.out.symm rfl rfl, ?_⟩
  go_grown

set_option maxHeartbeats 2000000 in
theorem ref_sub_yes (c : CS) (n : Int) (w : World) (hc : c.ok) (hy : c.why n = 0) :
    Calls Try.prog 16 #[.agg #[.string c.s, .int .i64 c.at_, .int .i64 c.en, .int .i64 c.er], .int .i64 n] w fun e w' => e = .returned (.tuple #[(c.take n).val, (c.sub n).val, .bool true]) ∧ Below w.heap.size w w' := by
  have HW := fun w => ref_why c n w hc
  obtain ⟨k1, k2, k3⟩ := hc
  obtain ⟨y1, y2, y3⟩ := CS.why_zero hy
  obtain ⟨m, rfl⟩ := Int.eq_ofNat_of_zero_le y2
  have hm : c.at_ + m ≤ c.en := by omega
  have HR := Lib.hid (show (c.take m).val = .agg #[.string c.s, .int .i64 ((c.at_ : Int) + m), .int .i64 c.en, .int .i64 0] from by rw [take_yes hy]; simp [CS.val, CS.past, y1])
  have HS := Lib.hid (show (c.sub m).val = .agg #[.string c.s, .int .i64 c.at_, .int .i64 ((c.at_ : Int) + m), .int .i64 0] from by rw [sub_yes hy]; simp [CS.val])
  rw [hy] at HW
  have H := Lib.hid HW
  clear hy y1 y2 y3 HW
  go_enter Try.func16, Try.ntmps16
  go_wp2_with fail
  refine (H.out _).mono ?_
  rintro e w1 ⟨rfl, hb1⟩
  obtain ⟨q1, q2, q3, hbel⟩ := three_laid c CS.zero CS.zero 28 hb1
  clear hb1
  have a0 := q1.c0; have a1 := q1.c1; have a2 := q1.c2; have a3 := q1.c3; have af := q1.fr
  have b0 := q2.c0; have b1 := q2.c1; have b2 := q2.c2; have b3 := q2.c3; have bf := q2.fr
  have c0 := q3.c0; have c1 := q3.c1; have c2 := q3.c2; have c3 := q3.c3; have cf := q3.fr
  have l1 := q1.lt; have l2 := q2.lt; have l3 := q3.lt
  go_wp2
  have g1 := Lib.hid (((q1.setEr 0).setAt (c.at_ + m)).allocOld (.cells #[.string c.s, .int .i64 c.at_, .int .i64 ((c.at_ : Int) + m), .int .i64 0] 28))
  obtain ⟨w2, hw2⟩ : ∃ w2, w2 = ((w1.setCell ⟨w.heap.size, 3, none⟩ (.int .i64 0)).setCell ⟨w.heap.size, 1, none⟩ (.int .i64 ((c.at_ : Int) + m))).alloc (.cells #[.string c.s, .int .i64 c.at_, .int .i64 ((c.at_ : Int) + m), .int .i64 0] 28) := ⟨_, rfl⟩
  have ho : Only w.heap.size w1 w2 := by rw [hw2]; exact (((Only.refl _ _).setCell _ _).setCell _ _).alloc _
  have g2 := ho.cur q2 (by omega)
  have g3 := ho.cur q3 (by omega)
  have g4 : CurT 28 w2 w1.heap.size ⟨c.s, c.at_, c.at_ + m, 0⟩ := by
    rw [hw2]
    have := cur_alloc (w := (w1.setCell ⟨w.heap.size, 3, none⟩ (.int .i64 0)).setCell ⟨w.heap.size, 1, none⟩ (.int .i64 ((c.at_ : Int) + m))) (c := ⟨c.s, c.at_, c.at_ + m, 0⟩) 28
    simp only [World.size_setCell] at this; exact this
  have g1' : CurT 28 w2 w.heap.size ⟨c.s, c.at_ + m, c.en, 0⟩ := by rw [hw2]; exact g1.out
  have hbel2 : Below w.heap.size w w2 := hbel.trans (ho.below (Nat.le_refl _) hbel.size)
  rw [← hw2]
  clear hw2 ho g1 q1 q2 q3 a0 a1 a2 a3 af b0 b1 b2 b3 bf c0 c1 c2 c3 cf hbel
  have a0 := g1'.c0; have a1 := g1'.c1; have a2 := g1'.c2; have a3 := g1'.c3; have af := g1'.fr
  have b0 := g2.c0; have b1 := g2.c1; have b2 := g2.c2; have b3 := g2.c3; have bf := g2.fr
  have c0 := g3.c0; have c1 := g3.c1; have c2 := g3.c2; have c3 := g3.c3; have cf := g3.fr
  have d0 := g4.c0; have d1 := g4.c1; have d2 := g4.c2; have d3 := g4.c3; have df := g4.fr
  go_region
  all_goals go_wp2
  all_goals refine bodyPost_ret (v := .tuple #[.agg #[.string c.s, .int .i64 ((c.at_ : Int) + m), .int .i64 c.en, .int .i64 0], .agg #[.string c.s, .int .i64 c.at_, .int .i64 ((c.at_ : Int) + m), .int .i64 0], .bool true]) (by simp [results, Try.results16, go_sem, b0, b1, b2, b3, c0, c1, c2, c3]) rfl ⟨ret_three HR.out.symm HS.out.symm rfl, ?_⟩
  all_goals go_grown

end Go.Proofs.Ytikjckdeciagiaa
