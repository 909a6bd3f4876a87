/- The document's own cursor (package truchmanref01): New, Fail, as contracts (XRef without the rest). -/
import Derived.Test.YtmcklfndnjagiaaDoorCur4
namespace Go.Proofs.YtmcklfndnjagiaaDoor
open Go Go.RowKit
set_option linter.unusedVariables false

theorem ret_pair {a b c d : Value} (h : a = c) (k : b = d) : Ending.returned (.tuple #[a, b]) = .returned (.tuple #[c, d]) := by rw [h, k]
/-- Two blocks that have just been laid, seen behind a call that turned nothing that was there. -/
theorem two_laid {w w1 : World} (c d : CS) (t : TypeId) (h : Below ((w.alloc (.cells #[.string c.s, .int .i64 c.at_, .int .i64 c.en, .int .i64 c.er] t)).alloc (.cells #[.string d.s, .int .i64 d.at_, .int .i64 d.en, .int .i64 d.er] t)).heap.size ((w.alloc (.cells #[.string c.s, .int .i64 c.at_, .int .i64 c.en, .int .i64 c.er] t)).alloc (.cells #[.string d.s, .int .i64 d.at_, .int .i64 d.en, .int .i64 d.er] t)) w1) :
    CurT t w1 w.heap.size c ∧ CurT t w1 (w.heap.size + 1) d ∧ Below w.heap.size w w1 := by
  have h1 : CurT t (w.alloc (.cells #[.string c.s, .int .i64 c.at_, .int .i64 c.en, .int .i64 c.er] t)) w.heap.size c := cur_alloc t
  have h2 : CurT t ((w.alloc (.cells #[.string c.s, .int .i64 c.at_, .int .i64 c.en, .int .i64 c.er] t)).alloc (.cells #[.string d.s, .int .i64 d.at_, .int .i64 d.en, .int .i64 d.er] t)) (w.heap.size + 1) d := by
    have := cur_alloc (w := w.alloc (.cells #[.string c.s, .int .i64 c.at_, .int .i64 c.en, .int .i64 c.er] t)) (c := d) t
    rw [World.size_alloc] at this; exact this
  exact ⟨Below.cur h (h1.allocOld _) (h1.allocOld _).lt, Below.cur h h2 h2.lt, (((Below.refl _ _).alloc (Nat.le_refl _) _).alloc (by simp) _).trans (h.mono (by simp; omega))⟩
theorem CurT.setAll {t : TypeId} {w : World} {b : Nat} {c : CS} (h : CurT t w b c) (d : CS) :
    CurT t ((((w.setCell ⟨b, 0, none⟩ (.string d.s)).setCell ⟨b, 1, none⟩ (.int .i64 d.at_)).setCell ⟨b, 2, none⟩ (.int .i64 d.en)).setCell ⟨b, 3, none⟩ (.int .i64 d.er)) b d :=
  heap_setCell_block (heap_setCell_block (heap_setCell_block (heap_setCell_block h _) _) _) _
theorem Only.setAll (w : World) (b : Nat) (d : CS) :
    Only b w ((((w.setCell ⟨b, 0, none⟩ (.string d.s)).setCell ⟨b, 1, none⟩ (.int .i64 d.at_)).setCell ⟨b, 2, none⟩ (.int .i64 d.en)).setCell ⟨b, 3, none⟩ (.int .i64 d.er)) :=
  ((((Only.refl _ _).setCell _ _).setCell _ _).setCell _ _).setCell _ _
end Go.Proofs.YtmcklfndnjagiaaDoor
