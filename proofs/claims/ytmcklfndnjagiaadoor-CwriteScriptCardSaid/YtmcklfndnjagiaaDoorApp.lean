/- 'append' of a text, or of a list, to a list that the call itself made. Of no package. -/
import Derived.Test.YtmcklfndnjagiaaDoorBts
import Derived.Lib.AppendStr
namespace Go.Proofs.YtmcklfndnjagiaaDoor
open Go Go.RowKit
set_option linter.unusedVariables false

/-- 'append(list, s...)' of a text, on a list that the call itself made. -/
theorem wpList_append_text {P : Program} {ops : Array Oper} {rest : List Oper} {o : Oper} {a : Act} {Q : Exit → Act → World → Prop} (hgd : o.guard = none) (sl x : Operand) (t u : TypeId)
    (ho : o.op = .call { callee := .builtin .append, args := #[sl, x], argTypes := #[t, u] })
    (e : TypeId) (i : TypeInfo) (ht : P.underlying t = some (.slice e)) (hu : P.underlying u = some .string) (hi : P.info? e = some i) (hz : i.zero = some (.int .u8 0)) (hsize : i.size = 1) (hby : i.bytes = 1)
    (v : Value) (W w : World) (B : Nat) (l : List UInt8) (s : ByteArray) (hb : Bts e w B v l) (hbel : Below B W w) (hB : B ≤ w.heap.size) (hs : a.eval sl = v) (hx : a.eval x = .string s) (hlen : l.length + s.size ≤ 140737488355328)
    (h : ∀ v' w', Bts e w' B v' (l ++ s.data.toList) → Below B W w' → wpList P ops Q rest (a.put o.dst v') w') :
    wpList P ops Q (o :: rest) a w := by
  refine Lib.wpList_append_own_string w hgd sl x t u ho B e i ht hu hi hz hsize hby v l.length (bV l) hs hb s hx (by unfold maxLen; omega) hlen hB ?_
  intro v' w' hown hgr _
  refine h v' w' ?_ ?_
  · unfold Bts
    rw [bV_append, List.length_append, toList_size]
    exact hown
  · refine hbel.trans ⟨hgr.os, hgr.tape, hgr.output, hgr.size, fun k hk => ?_⟩
    have hne : some k ≠ v.ownBlock := fun hk' => by
      have := (World.ownsRow.lt hb k hk'.symm).2
      have := (World.ownsRow.lt hb k hk'.symm).1
      omega
    exact hgr.block k (by omega) hne

/-- 'append(list, m...)' of another list. -/
theorem wpList_append_bytes {P : Program} {ops : Array Oper} {rest : List Oper} {o : Oper} {a : Act} {Q : Exit → Act → World → Prop} (hgd : o.guard = none) (s x : Operand) (t : TypeId)
    (ho : o.op = .call { callee := .builtin .append, args := #[s, x], argTypes := #[t, t] })
    (e : TypeId) (i : TypeInfo) (ht : P.underlying t = some (.slice e)) (hi : P.info? e = some i) (hz : i.zero = some (.int .u8 0)) (hsize : i.size = 1) (hby : i.bytes = 1)
    (v v2 : Value) (W w : World) (B B2 : Nat) (l m : List UInt8) (hb : Bts e w B v l) (hb2 : Bts e w B2 v2 m) (hm : m ≠ []) (hbel : Below B W w) (hB : B ≤ w.heap.size) (hs : a.eval s = v) (hx : a.eval x = v2) (hlen : l.length + m.length ≤ 140737488355328)
    (h : ∀ v' w', Bts e w' B v' (l ++ m) → Below B W w' → wpList P ops Q rest (a.put o.dst v') w') :
    wpList P ops Q (o :: rest) a w := by
  rcases hb2.2 with ⟨_, hn⟩ | ⟨g, cap, cur, rfl, _, hg, _⟩
  · exact absurd (List.eq_nil_of_length_eq_zero hn) hm
  · refine wpList_append_own w hgd s x t ho B e i (.int .u8 0) 1 1 ht hi hz hsize hby rfl (by decide) v l.length (bV l) hs hb ⟨g, 0, none⟩ m.length cap (bV m) hx (by rw [bV_length, Nat.mul_one]) ?_ (bV_one m) (by unfold maxLen; omega) (by omega) hB ?_
    · intro j u hj
      have hjl : j < m.length := by
        have := (List.getElem?_eq_some_iff.1 hj).1
        rwa [bV_length] at this
      have e1 : (Addr.mk g 0 none).add j = ⟨g, j, none⟩ := by unfold Addr.add; split <;> simp_all
      rw [e1, World.ownsRow.cellAt hb2 j (by omega)]
      exact hj
    · intro v' w' hown hgr _
      refine h v' w' ?_ ?_
      · unfold Bts
        rw [bV_append, List.length_append]
        exact hown
      · refine hbel.trans ⟨hgr.os, hgr.tape, hgr.output, hgr.size, fun k hk => ?_⟩
        have hne : some k ≠ v.ownBlock := fun hk' => by
          have := (World.ownsRow.lt hb k hk'.symm).1
          omega
        exact hgr.block k (by omega) hne
end Go.Proofs.YtmcklfndnjagiaaDoor
