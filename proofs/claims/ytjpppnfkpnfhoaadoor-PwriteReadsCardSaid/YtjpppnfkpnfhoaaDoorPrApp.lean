/- A list of fields put behind another one (the call's own), where the operation is wanted; All of a text that is not long. -/
import Derived.Test.YtjpppnfkpnfhoaaDoorPrF
import Derived.Laws.AppendOwnNone
namespace Go.Proofs.YtjpppnfkpnfhoaaDoor
open Go Go.RowKit
set_option linter.unusedVariables false

theorem jo_all (s : ByteArray) (w : World) (hs : s.size ≤ 1099511627776) (ht : Tab w) :
    Calls Tryd.prog 7 #[.string s] w fun e w' => ∃ v, e = .returned (.tuple #[v, .int .i64 (fAll s.data.toList).2]) ∧ FRow 38 w' w.heap.size v (fAll s.data.toList).1 ∧ Below w.heap.size w w' := by
  exact all_any s w (by omega) (.inl (by rw [toList_size]; exact hs)) ht
/-- 'append(list, more...)' of fields that are there, on a list that the call itself made, where the operation is wanted. -/
theorem wpList_append_fds {P : Program} {ops : Array Oper} {rest : List Oper} {o : Oper} {a : Act} {w : World} {Q : Exit → Act → World → Prop} (hw : Region.wanted o (yielded ops a.tmps) = true) (sl x : Operand) (t : TypeId)
    (ho : o.op = .call { callee := .builtin .append, args := #[sl, x], argTypes := #[t, t] })
    (e : TypeId) (ht : P.underlying t = some (.slice e)) (hi : (P.info? e).map (fun i => (i.zero, i.size, i.bytes)) = some (some (.agg #[.int .i64 0, .int .i64 0, .int .u64 0, .string ⟨#[]⟩]), 4, 40))
    (v : Value) (B : Nat) (l : List FD) (hb : FRow e w B v l) (hB : B ≤ w.heap.size) (hs : a.eval sl = v)
    (u : Value) (C : Nat) (m : List FD) (hm : FRow e w C u m) (hx : a.eval x = u) (hlen : l.length + m.length ≤ 1099511627776)
    (h : ∀ v' w', FRow e w' B v' (l ++ m) → Below B w w' → wpList P ops Q rest (a.put o.dst v') w') : wpList P ops Q (o :: rest) a w := by
  obtain ⟨i0, hi, hz, hz1, hz2⟩ := info_parts hi
  refine wpList_step fun K hK => ?_
  rw [if_pos hw]
  rcases hm.2 with ⟨rfl, hn⟩ | ⟨g, cap, cur, rfl, _, hg, _⟩
  · have h0 : m = [] := List.eq_nil_of_length_eq_zero hn
    subst h0
    have hrun := run_append_owned_none (P := P) (w := w) B t o.type e i0 4 ht hi v l.length (fV l) hb
    unfold Oper.wp
    simp [execOp, ho, resolve, invoke, builtin, hs, hx, hrun, Result.andThen]
    exact hK _ _ (h v w (by rw [List.append_nil]; exact hb) (Below.refl _ _))
  · refine wp_append_own w sl x t ho B e i0 (.agg #[.int .i64 0, .int .i64 0, .int .u64 0, .string ⟨#[]⟩]) 4 40 ht hi hz hz1 hz2 rfl (by decide) v l.length (fV l) hs hb ⟨g, 0, none⟩ m.length cap (fV m) hx (fV_length m) (World.ownsRow.cells hm rfl) (fV_one _) (by unfold maxLen; omega) (by omega) hB ?_
    intro v' w' hown hgr _
    refine hK _ _ (h v' w' ?_ ⟨hgr.os, hgr.tape, hgr.output, hgr.size, fun k hk => hgr.block k (by omega) (fun e => ?_)⟩)
    · unfold FRow
      rw [fV_append, List.length_append]
      exact hown
    · have := (World.ownsRow.lt hb k e.symm).1; omega
theorem frow_empty (w : World) (e : TypeId) : FRow e (w.alloc (.cells #[] e)) w.heap.size (.slice (some ⟨w.heap.size, 0, none⟩) 0 0) [] :=
  ⟨rfl, .inr ⟨w.heap.size, 0, #[], rfl, Nat.le_refl _, heap_alloc_new w _, Nat.le_refl _, by unfold maxLen; omega, rfl, rfl⟩⟩
end Go.Proofs.YtjpppnfkpnfhoaaDoor
