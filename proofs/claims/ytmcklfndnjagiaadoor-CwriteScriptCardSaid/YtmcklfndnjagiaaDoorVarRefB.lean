/- The document's own Read and Short of a number by sevens (package truchmanref03). -/
import Derived.Test.YtmcklfndnjagiaaDoorVarRefA
import Derived.Deep.QuietTactic
namespace Go.Proofs.YtmcklfndnjagiaaDoor
open Go Go.RowKit
set_option linter.unusedVariables false

/-- Two blocks that have just been laid. -/
theorem two_new (w : World) (c d : CS) (t : TypeId) :
    CurT t ((w.alloc (.cells #[.string c.s, .int .i64 c.at_, .int .i64 c.en, .int .i64 c.er] t)).alloc (.cells #[.string d.s, .int .i64 d.at_, .int .i64 d.en, .int .i64 d.er] t)) w.heap.size c ∧
    CurT t ((w.alloc (.cells #[.string c.s, .int .i64 c.at_, .int .i64 c.en, .int .i64 c.er] t)).alloc (.cells #[.string d.s, .int .i64 d.at_, .int .i64 d.en, .int .i64 d.er] t)) (w.heap.size + 1) d ∧
    Below w.heap.size w ((w.alloc (.cells #[.string c.s, .int .i64 c.at_, .int .i64 c.en, .int .i64 c.er] t)).alloc (.cells #[.string d.s, .int .i64 d.at_, .int .i64 d.en, .int .i64 d.er] t)) := by
  have h1 : CurT t (w.alloc (.cells #[.string c.s, .int .i64 c.at_, .int .i64 c.en, .int .i64 c.er] t)) w.heap.size c := cur_alloc t
  have h2 : CurT t ((w.alloc (.cells #[.string c.s, .int .i64 c.at_, .int .i64 c.en, .int .i64 c.er] t)).alloc (.cells #[.string d.s, .int .i64 d.at_, .int .i64 d.en, .int .i64 d.er] t)) (w.heap.size + 1) d := by
    have := cur_alloc (w := w.alloc (.cells #[.string c.s, .int .i64 c.at_, .int .i64 c.en, .int .i64 c.er] t)) (c := d) t
    rw [World.size_alloc] at this; exact this
  exact ⟨h1.allocOld _, h2, ((Below.refl _ _).alloc (Nat.le_refl _) _).alloc (by simp) _⟩


theorem CS.front_rest {c : CS} (h : c.ok) : ((c.s.extract 0 c.en).data.toList.drop c.at_) = c.rest := by
  obtain ⟨h1, h2, h3⟩ := h
  have e : (c.s.extract 0 c.en).data.toList = c.s.data.toList.take c.en := by simp
  rw [e, CS.rest, List.drop_take]

theorem CS.front_get {c : CS} (h : c.ok) (j : Nat) (hj : j < c.rest.length) (hs : c.at_ + j < (c.s.extract 0 c.en).size) : c.rest[j] = (c.s.extract 0 c.en)[c.at_ + j] := by
  have hT := CS.front_rest h
  have e : c.rest[j] = ((c.s.extract 0 c.en).data.toList.drop c.at_)[j]'(by rw [hT]; exact hj) := by simp only [hT]
  rw [e, List.getElem_drop]
  exact byte_at _ _ hs _
theorem vvL_mono (l : List UInt8) : ∀ (j n : Nat), j ≤ n → n ≤ l.length → vvL (l.take j) ≤ vvL (l.take n)
  | j, n, h, hn => by
    rcases Nat.lt_or_ge j n with h1 | h1
    · match n, h1 with
      | n + 1, h1 =>
        have := vvL_mono l j n (by omega) (by omega)
        rw [vvL_take l n (by omega)]; omega
    · obtain rfl : j = n := by omega
      exact Nat.le_refl _

def RrRel (t : TypeId) (l : List UInt8) (n : Nat) (W : World) (c : CS) (u i : Value) (wr : World) : Prop :=
  ∃ k, k ≤ n ∧ i = .int .i64 (k : Nat) ∧ u = .int .u64 ((vvL (l.take k) : Nat) : Int) ∧ CurT t wr W.heap.size c ∧ CurT t wr (W.heap.size + 1) CS.zero ∧ Below W.heap.size W wr



end Go.Proofs.YtmcklfndnjagiaaDoor
