/- Package pread: All. -/
import Derived.Test.YtjpppnfkpnfhoaaDoorPrE
namespace Go.Proofs.YtjpppnfkpnfhoaaDoor
open Go Go.RowKit
set_option linter.unusedVariables false
attribute [local go_sem] Oper.semAt_some

/-- Block b holds one value. -/
def Cel1 (t : TypeId) (W : World) (b : Nat) (v : Value) : Prop := W.heap[b]? = some (.cells #[v] t (0, 0))
theorem Cel1.lt {t : TypeId} {W : World} {b : Nat} {v : Value} (h : Cel1 t W b v) : b < W.heap.size := lt_of_block h
theorem Cel1.c {t : TypeId} {W : World} {b : Nat} {v : Value} (h : Cel1 t W b v) : W.cell? ⟨b, 0, none⟩ = some v := by unfold Cel1 at h; simp [World.cell?, h]
theorem Cel1.f {t : TypeId} {W : World} {b : Nat} {v : Value} (h : Cel1 t W b v) : W.frozen? ⟨b, 0, none⟩ = false := by unfold Cel1 at h; simp [World.frozen?, h]
theorem Cel1.set {t : TypeId} {W : World} {b : Nat} {v : Value} (h : Cel1 t W b v) (u : Value) : Cel1 t (W.setCell ⟨b, 0, none⟩ u) b u := heap_setCell_block h u
theorem Cel1.at {t : TypeId} {W W' : World} {b : Nat} {v : Value} (h : Cel1 t W b v) (he : W'.heap[b]? = W.heap[b]?) : Cel1 t W' b v := he.trans h
theorem cel_alloc (t : TypeId) (W : World) (v : Value) : Cel1 t (W.alloc (.cells #[v] t)) W.heap.size v := heap_alloc_new W _
theorem set_at {W : World} {b k : Nat} {u : Value} (h : k ≠ b) : (W.setCell ⟨b, 0, none⟩ u).heap[k]? = W.heap[k]? := Below.heap_setCell _ _ _ _ h
theorem put_below {N l : Nat} {w W : World} {o : Obj} (h : Below N w W) (hl : N ≤ l) : Below N w (W.putObj l o) :=
  h.trans ⟨rfl, rfl, rfl, by simp, fun k hk => World.putObj_heap_other (by omega)⟩
/-- 'append(list, x)', inside a fence. -/
theorem wpListIn_append_fd {F : Fence} {n : Nat} {P : Program} {ops : Array Oper} {rest : List Oper} {o : Oper} {a : Act} {Q : Exit → Act → World → Prop} (hgd : o.guard = none) (sl x : Operand) (t : TypeId)
    (ho : o.op = .call { callee := .builtin .append, args := #[sl, x], argTypes := #[t, t] })
    (e : TypeId) (ht : P.underlying t = some (.slice e)) (hi : (P.info? e).map (fun i => (i.zero, i.size, i.bytes)) = some (some (.agg #[.int .i64 0, .int .i64 0, .int .u64 0, .string ⟨#[]⟩]), 4, 40))
    (v : Value) (wr : World) (B : Nat) (l : List FD) (hb : FRow e wr B v l) (hB : B ≤ wr.heap.size) (hs : a.eval sl = v)
    (x0 x1 x2 : Int) (x3 : ByteArray) (y : FD) (h0 : x0 = y.1) (h1 : x1 = y.2.1) (h2 : x2 = (y.2.2.1 : Nat)) (h3 : x3 = y.2.2.2) (hx : a.eval x = .slice (some ⟨wr.heap.size, 0, none⟩) 1 1) (hlen : l.length ≤ 1099511627776)
    (h : ∀ v' w' g c, v' = .slice (some ⟨g, 0, none⟩) (l.length + 1) c → FRow e w' B v' (l ++ [y]) → wr.grownBy w' v.ownBlock → wpListIn F n P ops Q rest (a.put o.dst v') w') :
    wpListIn F n P ops Q (o :: rest) a (wr.alloc (.cells #[.int .i64 x0, .int .i64 x1, .int .u64 x2, .string x3] e)) := by
  subst h0 h1 h2 h3
  obtain ⟨i0, hi, hz, hz1, hz2⟩ := info_parts hi
  refine wpListIn_append_own _ hgd sl x t ho B e i0 (.agg #[.int .i64 0, .int .i64 0, .int .u64 0, .string ⟨#[]⟩]) 4 40 ht hi hz hz1 hz2 rfl (by decide) v l.length (fV l) hs (World.ownsRow.alloc hb _) ⟨wr.heap.size, 0, none⟩ 1 1 (fV [y]) hx rfl ?_ (fV_one _) (by unfold maxLen; omega) (by omega) (by simp; omega) ?_
  · intro j u hj
    have h1 := heap_alloc_new wr (.cells #[.int .i64 y.1, .int .i64 y.2.1, .int .u64 (y.2.2.1 : Nat), .string y.2.2.2] e)
    have e1 : (Addr.mk wr.heap.size 0 none).add j = ⟨wr.heap.size, j, none⟩ := by unfold Addr.add; split <;> simp_all
    rw [e1]
    simp only [World.cell?]
    rw [h1]
    match j, hj with
    | 0, hj => simpa [fV] using hj
    | 1, hj => simpa [fV] using hj
    | 2, hj => simpa [fV] using hj
    | 3, hj => simpa [fV] using hj
    | j + 4, hj => simp [fV] at hj
  · intro v' w' hown hgr _
    obtain ⟨g, c, hv⟩ : ∃ g c, v' = .slice (some ⟨g, 0, none⟩) (l.length + 1) c := by
      rcases hown.2 with ⟨_, hn⟩ | ⟨g, cap, cur, he, _⟩
      · omega
      · exact ⟨g, cap, he⟩
    refine h v' w' g c hv ?_ ?_
    · unfold FRow
      rw [fV_append, List.length_append]
      exact hown
    · refine ⟨hgr.os, hgr.tape, hgr.output, by have := hgr.size; simp at this; omega, fun k hk hne => ?_⟩
      rw [hgr.block k (by simp; omega) hne]
      exact Below.heap_alloc _ _ _ hk
/-- A list's own block is none of another type. -/
theorem FRow.not_at {e : TypeId} {W : World} {B k : Nat} {v : Value} {l : List FD} (h : FRow e W B v l) {o : Obj} (hk : W.heap[k]? = some o) (ho : ∀ cs, o ≠ .cells cs e (0, 0)) : some k ≠ v.ownBlock := by
  rcases h.2 with ⟨rfl, _⟩ | ⟨g, cap, cur, rfl, _, hg, _⟩
  · simp [Value.ownBlock]
  · intro e1
    obtain rfl : k = g := by simpa [Value.ownBlock] using e1
    rw [hk] at hg
    exact ho cur (Option.some.inj hg)
/-- The list of a call and a number, each in a variable of its own, as results. -/
theorem lc_result {fn : Func} {p q : Tmp} (h : fn.results = #[.cell p 30, .cell q 31]) {tmps : Array Value} {w : World} {b d : Nat} {t u : TypeId} {v : Value} {c : Int} (hb : Cel1 t w b v) (hd : Cel1 u w d (.int .i64 c)) (hp : tmps.getD p undef = .pointer (some ⟨b, 0, none⟩)) (hq : tmps.getD q undef = .pointer (some ⟨d, 0, none⟩)) :
    (results fn tmps).run Tryd.prog w = .ok (.tuple #[v, .int .i64 c]) w := by
  have hp' : tmps[p]?.getD undef = .pointer (some ⟨b, 0, none⟩) := by simpa using hp
  have hq' : tmps[q]?.getD undef = .pointer (some ⟨d, 0, none⟩) := by simpa using hq
  have h1 := hb.c
  have h2 := hd.c
  simp [results, h, hp', hq', asAddr, go_sem, loadVar, h1, h2]

/-- All, between two rounds, or within one: o is the loop's record. -/
structure AlQ (w : World) (o : Obj) (b : Nat) (c : CS) (pre : List FD) (W : World) : Prop where
  cur : CurT 82 W b c
  row : ∃ v, Cel1 30 W (w.heap.size + 1 + 1) v ∧ FRow 38 W w.heap.size v pre
  r2 : Cel1 30 W w.heap.size (.slice none 0 0)
  r3 : Cel1 31 W (w.heap.size + 1) (.int .i64 0)
  lp : W.heap[w.heap.size + 1 + 1 + 1 + 1 + 1]? = some o
  df : W.heap[w.heap.size + 1 + 1 + 1 + 1]? = some (.deferred (some []))
  bel : Below w.heap.size w W
  far : w.heap.size + 1 + 1 + 1 + 1 + 1 < b
abbrev AlS (w : World) (rec : LoopState → Option Code → Loop) (b : Nat) (c : CS) (pre : List FD) (W : World) : Prop := AlQ w (.loop (rec .ready none)) b c pre W
/-- All, behind a round that has left it. -/
structure AlX (w : World) (rec : LoopState → Option Code → Loop) (e : Int) (W : World) : Prop where
  r2 : Cel1 30 W w.heap.size (.slice none 0 0)
  r3 : Cel1 31 W (w.heap.size + 1) (.int .i64 e)
  lp : W.heap[w.heap.size + 1 + 1 + 1 + 1 + 1]? = some (.loop (rec .done (some .ret)))
  df : W.heap[w.heap.size + 1 + 1 + 1 + 1]? = some (.deferred (some []))
  bel : Below w.heap.size w W
theorem heap_lt {W : World} {k : Nat} {o : Obj} (h : W.heap[k]? = some o) : k < W.heap.size := (Array.getElem?_eq_some_iff.1 h).1
theorem AlQ.only {w : World} {o : Obj} {b : Nat} {c c2 : CS} {pre : List FD} {W1 W2 : World} (h : AlQ w o b c pre W1) (ho : Only b W1 W2) (hc : CurT 82 W2 b c2) : AlQ w o b c2 pre W2 := by
  obtain ⟨k1, ⟨v, k2, k3⟩, k4, k5, k6, k7, k8, k9⟩ := h
  refine ⟨hc, ⟨v, k2.at (ho.block _ k2.lt (by omega)), ?_⟩, k4.at (ho.block _ k4.lt (by omega)), k5.at (ho.block _ k5.lt (by omega)), (ho.block _ (heap_lt k6) (by omega)).trans k6, (ho.block _ (heap_lt k7) (by omega)).trans k7, k8.trans (ho.below (by omega) k8.size), k9⟩
  have hne := k3.not_at k1 (fun cs e => by cases e)
  exact World.ownsRow.kept (row := some b) k3 ⟨ho.os, ho.tape, ho.output, ho.size, fun k hk hkb => ho.block k hk (fun e => hkb (by rw [e]))⟩ (.inr (fun e => hne e.symm))
theorem AlQ.alloc {w : World} {o : Obj} {b : Nat} {c : CS} {pre : List FD} {W : World} (h : AlQ w o b c pre W) (x : Obj) : AlQ w o b c pre (W.alloc x) := h.only ((Only.refl b W).alloc x) (h.cur.allocOld x)
theorem AlQ.put {w : World} {r r' : Loop} {b : Nat} {c : CS} {pre : List FD} {W : World} (h : AlQ w (.loop r) b c pre W) : AlQ w (.loop r') b c pre (W.putObj (w.heap.size + 1 + 1 + 1 + 1 + 1) (.loop r')) := by
  obtain ⟨k1, ⟨v, k2, k3⟩, k4, k5, k6, k7, k8, k9⟩ := h
  have e : ∀ k, k ≠ w.heap.size + 1 + 1 + 1 + 1 + 1 → (W.putObj (w.heap.size + 1 + 1 + 1 + 1 + 1) (.loop r')).heap[k]? = W.heap[k]? := fun k hk => World.putObj_heap_other hk
  refine ⟨(e _ (by omega)).trans k1, ⟨v, k2.at (e _ (by omega)), ?_⟩, k4.at (e _ (by omega)), k5.at (e _ (by omega)), World.putObj_heap_same (heap_lt k6), (e _ (by omega)).trans k7, put_below k8 (by omega), k9⟩
  have hne := k3.not_at k6 (fun cs e => by cases e)
  exact World.ownsRow.kept (row := some _) k3 (grownBy_putObj' W _ _) (.inr (fun e => hne e.symm))
theorem AlQ.fld {w : World} {r r' : Loop} {b : Nat} {c : CS} {pre : List FD} {W : World} (h : AlQ w (.loop r) b c pre W) (x : FD) :
    PfT 38 ((W.alloc (.cells #[.int .i64 x.1, .int .i64 x.2.1, .int .u64 (x.2.2.1 : Nat), .string x.2.2.2] 38)).putObj (w.heap.size + 1 + 1 + 1 + 1 + 1) (.loop r')) W.heap.size x := by
  have := heap_lt h.lp
  exact (World.putObj_heap_other (by omega)).trans (fd_alloc W x 38)
/-- .. behind an append, and its store. -/
theorem AlQ.grown {w : World} {r : Loop} {b : Nat} {c : CS} {pre : List FD} {W W' : World} {v v' : Value} {x : FD} (h : AlQ w (.loop r) b c pre W) (hv : Cel1 30 W (w.heap.size + 1 + 1) v) (hr : FRow 38 W w.heap.size v pre)
    (hr' : FRow 38 W' w.heap.size v' (pre ++ [x])) (hg : W.grownBy W' v.ownBlock) :
    Cel1 30 W' (w.heap.size + 1 + 1) v ∧ AlQ w (.loop r) b c (pre ++ [x]) (W'.setCell ⟨w.heap.size + 1 + 1, 0, none⟩ v') := by
  obtain ⟨k1, -, k4, k5, k6, k7, k8, k9⟩ := h
  have e : ∀ (k : Nat) (o : Obj), W.heap[k]? = some o → (∀ cs, o ≠ .cells cs 38 (0, 0)) → W'.heap[k]? = W.heap[k]? := fun k o hk ho => hg.block k (heap_lt hk) (hr.not_at hk ho)
  have hv' : Cel1 30 W' (w.heap.size + 1 + 1) v := hv.at (e _ _ hv (fun cs e => by cases e))
  have m : ∀ k, k ≠ w.heap.size + 1 + 1 → (W'.setCell ⟨w.heap.size + 1 + 1, 0, none⟩ v').heap[k]? = W'.heap[k]? := fun k hk => set_at hk
  have hb : Below w.heap.size w W' := k8.grown hg k8.size (fun k hk => (World.ownsRow.lt hr k hk.symm.symm).1)
  refine ⟨hv', ⟨(m _ (by omega)).trans ((e _ _ k1 (fun cs e => by cases e)).trans k1), ⟨v', hv'.set v', ?_⟩, (k4.at (e _ _ k4 (fun cs e => by cases e))).at (m _ (by omega)), (k5.at (e _ _ k5 (fun cs e => by cases e))).at (m _ (by omega)),
    (m _ (by omega)).trans ((e _ _ k6 (fun cs e => by cases e)).trans k6), (m _ (by omega)).trans ((e _ _ k7 (fun cs e => by cases e)).trans k7), set_keeps hb (by omega), k9⟩⟩
  have hne := hr'.not_at hv' (fun cs e => by cases e)
  exact World.ownsRow.kept (row := some _) hr' (grownBy_setCell' W' _ v') (.inr (fun e => hne e.symm))
theorem AlQ.left {w : World} {rec : LoopState → Option Code → Loop} {b : Nat} {c : CS} {pre : List FD} {W : World} (h : AlQ w (.loop (rec .busy none)) b c pre W) (e : Int) :
    ((W.setCell ⟨w.heap.size, 0, none⟩ (.slice none 0 0)).setCell ⟨w.heap.size + 1, 0, none⟩ (.int .i64 e)).heap[w.heap.size + 1 + 1 + 1 + 1 + 1]? = some (.loop (rec .busy none)) ∧
    AlX w rec e (((W.setCell ⟨w.heap.size, 0, none⟩ (.slice none 0 0)).setCell ⟨w.heap.size + 1, 0, none⟩ (.int .i64 e)).putObj (w.heap.size + 1 + 1 + 1 + 1 + 1) (.loop (rec .done (some .ret)))) := by
  obtain ⟨-, -, k4, k5, k6, k7, k8, -⟩ := h
  have lp : ((W.setCell ⟨w.heap.size, 0, none⟩ (.slice none 0 0)).setCell ⟨w.heap.size + 1, 0, none⟩ (.int .i64 e)).heap[w.heap.size + 1 + 1 + 1 + 1 + 1]? = some (.loop (rec .busy none)) := ((set_at (by omega)).trans (set_at (by omega))).trans k6
  have p : ∀ k, k ≠ w.heap.size + 1 + 1 + 1 + 1 + 1 → (((W.setCell ⟨w.heap.size, 0, none⟩ (.slice none 0 0)).setCell ⟨w.heap.size + 1, 0, none⟩ (.int .i64 e)).putObj (w.heap.size + 1 + 1 + 1 + 1 + 1) (.loop (rec .done (some .ret)))).heap[k]? = ((W.setCell ⟨w.heap.size, 0, none⟩ (.slice none 0 0)).setCell ⟨w.heap.size + 1, 0, none⟩ (.int .i64 e)).heap[k]? := fun k hk => World.putObj_heap_other hk
  exact ⟨lp, ((k4.set _).at (set_at (by omega))).at (p _ (by omega)), ((k5.at (set_at (by omega))).set _).at (p _ (by omega)), World.putObj_heap_same (heap_lt lp), (p _ (by omega)).trans (((set_at (by omega)).trans (set_at (by omega))).trans k7), put_below (set_keeps (set_keeps k8 (by omega)) (by omega)) (by omega)⟩
/-- The function's own end: its results laid, the block for deferred calls shut. -/
theorem AlQ.done {w : World} {o : Obj} {b : Nat} {c : CS} {pre : List FD} {W : World} {u : Value} (h : AlQ w o b c pre W) (q : FRow 38 W w.heap.size u pre) :
    ((W.setCell ⟨w.heap.size, 0, none⟩ u).setCell ⟨w.heap.size + 1, 0, none⟩ (.int .i64 0)).heap[w.heap.size + 1 + 1 + 1 + 1]? = some (.deferred (some [])) ∧
    Cel1 30 (((W.setCell ⟨w.heap.size, 0, none⟩ u).setCell ⟨w.heap.size + 1, 0, none⟩ (.int .i64 0)).putObj (w.heap.size + 1 + 1 + 1 + 1) (.deferred none)) w.heap.size u ∧
    Cel1 31 (((W.setCell ⟨w.heap.size, 0, none⟩ u).setCell ⟨w.heap.size + 1, 0, none⟩ (.int .i64 0)).putObj (w.heap.size + 1 + 1 + 1 + 1) (.deferred none)) (w.heap.size + 1) (.int .i64 0) ∧
    FRow 38 (((W.setCell ⟨w.heap.size, 0, none⟩ u).setCell ⟨w.heap.size + 1, 0, none⟩ (.int .i64 0)).putObj (w.heap.size + 1 + 1 + 1 + 1) (.deferred none)) w.heap.size u pre ∧
    Below w.heap.size w (((W.setCell ⟨w.heap.size, 0, none⟩ u).setCell ⟨w.heap.size + 1, 0, none⟩ (.int .i64 0)).putObj (w.heap.size + 1 + 1 + 1 + 1) (.deferred none)) := by
  obtain ⟨-, -, k4, k5, k6, k7, k8, -⟩ := h
  have q1 : FRow 38 (W.setCell ⟨w.heap.size, 0, none⟩ u) w.heap.size u pre := World.ownsRow.kept (row := some _) q (grownBy_setCell' W _ u) (.inr (fun e => q.not_at k4 (fun cs e => by cases e) e.symm))
  have k5' : Cel1 31 (W.setCell ⟨w.heap.size, 0, none⟩ u) (w.heap.size + 1) (.int .i64 0) := k5.at (set_at (by omega))
  have q2 : FRow 38 ((W.setCell ⟨w.heap.size, 0, none⟩ u).setCell ⟨w.heap.size + 1, 0, none⟩ (.int .i64 0)) w.heap.size u pre := World.ownsRow.kept (row := some _) q1 (grownBy_setCell' _ _ _) (.inr (fun e => q1.not_at k5' (fun cs e => by cases e) e.symm))
  have df : ((W.setCell ⟨w.heap.size, 0, none⟩ u).setCell ⟨w.heap.size + 1, 0, none⟩ (.int .i64 0)).heap[w.heap.size + 1 + 1 + 1 + 1]? = some (.deferred (some [])) := ((set_at (by omega)).trans (set_at (by omega))).trans k7
  have p : ∀ k, k ≠ w.heap.size + 1 + 1 + 1 + 1 → (((W.setCell ⟨w.heap.size, 0, none⟩ u).setCell ⟨w.heap.size + 1, 0, none⟩ (.int .i64 0)).putObj (w.heap.size + 1 + 1 + 1 + 1) (.deferred none)).heap[k]? = ((W.setCell ⟨w.heap.size, 0, none⟩ u).setCell ⟨w.heap.size + 1, 0, none⟩ (.int .i64 0)).heap[k]? := fun k hk => World.putObj_heap_other hk
  refine ⟨df, ((k4.set u).at (set_at (by omega))).at (p _ (by omega)), (k5'.set _).at (p _ (by omega)), ?_, put_below (set_keeps (set_keeps k8 (by omega)) (by omega)) (by omega)⟩
  exact World.ownsRow.kept (row := some _) q2 (grownBy_putObj' _ _ _) (.inr (fun e => q2.not_at df (fun cs e => by cases e) e.symm))
theorem AlX.done {w : World} {rec : LoopState → Option Code → Loop} {e : Int} {W : World} {o : Obj} (h : AlX w rec e W) :
    (W.putObj (w.heap.size + 1 + 1 + 1 + 1 + 1) o).heap[w.heap.size + 1 + 1 + 1 + 1]? = some (.deferred (some [])) ∧
    Cel1 30 ((W.putObj (w.heap.size + 1 + 1 + 1 + 1 + 1) o).putObj (w.heap.size + 1 + 1 + 1 + 1) (.deferred none)) w.heap.size (.slice none 0 0) ∧
    Cel1 31 ((W.putObj (w.heap.size + 1 + 1 + 1 + 1 + 1) o).putObj (w.heap.size + 1 + 1 + 1 + 1) (.deferred none)) (w.heap.size + 1) (.int .i64 e) ∧
    Below w.heap.size w ((W.putObj (w.heap.size + 1 + 1 + 1 + 1 + 1) o).putObj (w.heap.size + 1 + 1 + 1 + 1) (.deferred none)) := by
  obtain ⟨k4, k5, k6, k7, k8⟩ := h
  exact ⟨(World.putObj_heap_other (by omega)).trans k7, (k4.at (World.putObj_heap_other (by omega))).at (World.putObj_heap_other (by omega)), (k5.at (World.putObj_heap_other (by omega))).at (World.putObj_heap_other (by omega)), put_below (put_below k8 (by omega)) (by omega)⟩
theorem AlQ.tab {w : World} {o : Obj} {b : Nat} {c : CS} {pre : List FD} {W : World} (h : AlQ w o b c pre W) (ht : Tab w) : Tab W := ht.below h.bel ht.lt

set_option maxRecDepth 100000 in
set_option maxHeartbeats 4000000 in
theorem all_any (s : ByteArray) (w : World) (hs : s.size ≤ 9223372036854775807) (hfew : FFew s.data.toList) (ht : Tab w) :
    Calls Tryd.prog 7 #[.string s] w fun e w' => ∃ v, e = .returned (.tuple #[v, .int .i64 (fAll s.data.toList).2]) ∧ FRow 38 w' w.heap.size v (fAll s.data.toList).1 ∧ Below w.heap.size w w' := by
  have HT := Lib.hid ht
  have HF := Lib.hid hfew
  have hgl := ht.lt
  clear ht hfew
  refine (callsIn_wide (n := 3)).1 ?_
  refine callsIn_of_wp_marks Tryd.func7 rfl trivial ?_ rfl
  simp only [Tryd.ntmps7, List.size_toArray, List.length_cons, List.length_nil, Nat.reduceAdd, Nat.reduceSub, Array.replicate_succ, Array.replicate_zero, List.push_toArray, List.append_toArray, List.nil_append, List.cons_append]
  gi_wp2_with (refine ⟨trivial, ?_⟩; gi_at_call 18; refine (callsIn_wide.2 (fields_any s _)).mono ?_; rintro e w1 ⟨rfl, hw1⟩; rw [hw1]; clear hw1)
  obtain ⟨w0, hw0⟩ : ∃ w0, w0 = (((w.alloc (.cells #[.slice none 0 0] 30)).alloc (.cells #[.int .i64 0] 31)).alloc (.cells #[.slice none 0 0] 30)).alloc (.cells #[.string s] 9) := ⟨_, rfl⟩
  rw [← hw0]
  have e0 : w0.heap.size = w.heap.size + 1 + 1 + 1 + 1 := by rw [hw0, World.size_alloc, World.size_alloc, World.size_alloc, World.size_alloc]
  have D2 : Cel1 30 w0 w.heap.size (.slice none 0 0) := by
    rw [hw0]; exact ((((cel_alloc _ w _).at (Below.heap_alloc _ _ _ (by simp))).at (Below.heap_alloc _ _ _ (by simp; omega))).at (Below.heap_alloc _ _ _ (by simp; omega)))
  have D3 : Cel1 31 w0 (w.heap.size + 1) (.int .i64 0) := by
    have := cel_alloc 31 (w.alloc (.cells #[.slice none 0 0] 30)) (.int .i64 0)
    rw [World.size_alloc] at this
    rw [hw0]; exact ((this.at (Below.heap_alloc _ _ _ (by simp))).at (Below.heap_alloc _ _ _ (by simp)))
  have D4 : Cel1 30 w0 (w.heap.size + 1 + 1) (.slice none 0 0) := by
    have := cel_alloc 30 ((w.alloc (.cells #[.slice none 0 0] 30)).alloc (.cells #[.int .i64 0] 31)) (.slice none 0 0)
    rw [World.size_alloc, World.size_alloc] at this
    rw [hw0]; exact this.at (Below.heap_alloc _ _ _ (by simp))
  have D5 : Cel1 9 w0 (w.heap.size + 1 + 1 + 1) (.string s) := by
    have := cel_alloc 9 (((w.alloc (.cells #[.slice none 0 0] 30)).alloc (.cells #[.int .i64 0] 31)).alloc (.cells #[.slice none 0 0] 30)) (.string s)
    rw [World.size_alloc, World.size_alloc, World.size_alloc] at this
    rw [hw0]; exact this
  have B0 : Below w.heap.size w w0 := by
    rw [hw0]; exact ((((Below.refl _ w).alloc (Nat.le_refl _) _).alloc (by simp) _).alloc (by simp; omega) _).alloc (by simp; omega) _
  clear hw0
  refine wide_rangeFunc (gf := 30) (lb := #[.pointer (some ⟨w.heap.size + 1 + 1 + 1, 0, none⟩)]) rfl (enters_of Tryd.func30 (by kernel_rfl) rfl) ?_
  intro rec hR hY
  have L1 := World.alloc_heap_new (w0.alloc (.deferred (some []))) (.loop (rec .ready none))
  have L2 := (Below.heap_alloc (w0.alloc (.deferred (some []))) (.loop (rec .ready none)) w0.heap.size (by simp)).trans (World.alloc_heap_new w0 (.deferred (some [])))
  have hB1 : Below w0.heap.size w0 ((w0.alloc (.deferred (some []))).alloc (.loop (rec .ready none))) := ((Below.refl _ w0).alloc (Nat.le_refl _) _).alloc (by simp) _
  have hS1 : ((w0.alloc (.deferred (some []))).alloc (.loop (rec .ready none))).heap.size = w0.heap.size + 1 + 1 := by rw [World.size_alloc, World.size_alloc]
  rw [World.size_alloc] at L1
  generalize ((w0.alloc (.deferred (some []))).alloc (.loop (rec .ready none))) = W1 at *
  rw [e0] at hR hY L1 L2 hB1 hS1 ⊢
  have K2 := D2.at (hB1.block _ (by omega)); have K3 := D3.at (hB1.block _ (by omega)); have K4 := D4.at (hB1.block _ (by omega)); have K5 := D5.at (hB1.block _ (by omega))
  have hB1 := B0.trans (hB1.mono (by omega))
  have HR := Lib.hid hR
  have HY := Lib.hid hY
  clear D2 D3 D4 D5 hR hY B0
  refine (iter_any s (w.heap.size + 1 + 1 + 1 + 1 + 1) (w.heap.size + 1 + 1 + 1) 1 W1 hs HF.out (AlS w rec) (AlX w rec) ?h0 ?h1 ?hc ?hY0 ?hY1 K5.c).mono ?_
  case h0 =>
    intro b W' hb hcur hbel
    exact ⟨hcur, ⟨_, K4.at (hbel.block _ (by omega)), frow_nil _ _ _⟩, K2.at (hbel.block _ (by omega)), K3.at (hbel.block _ (by omega)), (hbel.block _ (by omega)).trans L1, (hbel.block _ (by omega)).trans L2, hB1.trans (hbel.mono (by omega)), by omega⟩
  case h1 => exact fun b c c2 pre W1 W2 h ho hc => h.only ho hc
  case hc => exact fun b c pre W h => ⟨h.cur, h.tab HT.out, by have := h.far; have := HT.out.lt; omega⟩
  case hY0 =>
    intro b c pre x W hst hlen
    have hal := (heap_lt hst.lp)
    refine HY.out #[pfV x, .int .i64 0] W _ rfl hst.lp ?_
    have S5 := Lib.hid ((hst.alloc (.cells #[.int .i64 x.1, .int .i64 x.2.1, .int .u64 (x.2.2.1 : Nat), .string x.2.2.2] 38)).put (r' := rec .busy none))
    have F5 := hst.fld (r' := rec .busy none) x
    have A1 := Lib.hid ((Below.heap_alloc W (.cells #[.int .i64 x.1, .int .i64 x.2.1, .int .u64 (x.2.2.1 : Nat), .string x.2.2.2] 38) _ hal).trans hst.lp)
    obtain ⟨x0, x1, x2, x3⟩ := x
    unfold pfV
    dsimp only at S5 F5 A1 ⊢
    clear hst hal
    gi_wp2
    refine ⟨A1.out, ?_⟩
    obtain ⟨v, q1, q2⟩ := S5.out.row
    have q3 := S5.out.bel.size
    clear A1
    generalize ((W.alloc (.cells #[.int .i64 x0, .int .i64 x1, .int .u64 (x2 : Nat), .string x3] 38)).putObj (w.heap.size + 1 + 1 + 1 + 1 + 1) (.loop (rec .busy none))) = w5 at *
    generalize W.heap.size = F at *
    have g0 := F5.c0; have g1 := F5.c1; have g2 := F5.c2; have g3 := F5.c3
    have l0 := q1.c; have l1 := q1.f
    have Q1 := Lib.hid q1
    have Q2 := Lib.hid q2
    clear q1 q2 F5
    gi_wp2_with (gi_at_builtin; go_loud (refine wpListIn_append_fd rfl (.tmp 14) (.tmp 16) 30 rfl 38 Tryd.underlying30 infoPf v w5 w.heap.size pre Q2.out q3 rfl _ _ _ _ (x0, x1, x2, x3) rfl rfl rfl rfl rfl hlen ?_; intro v' w6 g cp hv' hr' hg; obtain ⟨z1, z2⟩ := S5.out.grown Q1.out Q2.out hr' hg; have Z2 := Lib.hid z2; have y0 := z1.c; have y1 := z1.f; clear z1 z2 hr' hg; subst hv'))
    exact ⟨_, _, HR.out.fin _ none Z2.out.lp, rfl, Z2.out.put⟩
  case hY1 =>
    intro b c pre x e W he hst
    have hal := (heap_lt hst.lp)
    refine HY.out #[pfV x, .int .i64 e] W _ rfl hst.lp ?_
    have p1 : (e != 0) = true := bne_iff_ne.mpr he
    have S5 := Lib.hid ((hst.alloc (.cells #[.int .i64 x.1, .int .i64 x.2.1, .int .u64 (x.2.2.1 : Nat), .string x.2.2.2] 38)).put (r' := rec .busy none))
    have A1 := Lib.hid ((Below.heap_alloc W (.cells #[.int .i64 x.1, .int .i64 x.2.1, .int .u64 (x.2.2.1 : Nat), .string x.2.2.2] 38) _ hal).trans hst.lp)
    obtain ⟨x0, x1, x2, x3⟩ := x
    unfold pfV
    dsimp only at S5 A1 ⊢
    clear hst hal he
    gi_wp2
    refine ⟨A1.out, ?_⟩
    clear A1
    generalize ((W.alloc (.cells #[.int .i64 x0, .int .i64 x1, .int .u64 (x2 : Nat), .string x3] 38)).putObj (w.heap.size + 1 + 1 + 1 + 1 + 1) (.loop (rec .busy none))) = w5 at *
    generalize W.heap.size = F at *
    have k2 := S5.out.r2.c; have j2 := S5.out.r2.f; have k3 := S5.out.r3.c; have j3 := S5.out.r3.f
    have Z2 := Lib.hid (S5.out.left e)
    clear S5
    gi_wp2
    exact ⟨_, _, HR.out.fin _ (some .ret) Z2.out.1, rfl, Z2.out.2⟩
  rintro e W2 ⟨⟨v, rfl⟩, (⟨b, c, pre, hst, hA⟩ | ⟨e, he, hA, hx⟩)⟩
  · refine ⟨⟨v, rfl⟩, .inl ⟨hst.lp, ?_⟩⟩
    have S := Lib.hid (hst.put (r' := rec .exhausted none))
    obtain ⟨u, q1, q2⟩ := S.out.row
    obtain ⟨ua, uc, hu, -⟩ := q2.inn
    subst hu
    have l0 := q1.c
    have k2 := S.out.r2.c; have j2 := S.out.r2.f; have k3 := S.out.r3.c; have j3 := S.out.r3.f
    have Z := Lib.hid (S.out.done q2)
    have HA := Lib.hid hA
    clear hA hst q1 q2 S
    generalize W2.putObj (w.heap.size + 1 + 1 + 1 + 1 + 1) (.loop (rec .exhausted none)) = W3 at *
    dsimp only
    gi_wp2
    refine ⟨by simp, .inl ⟨_, _, rfl, run_takeDeferred Z.out.1, ?_⟩⟩
    exact ⟨_, lc_result Tryd.results7 Z.out.2.1 Z.out.2.2.1 rfl rfl, ⟨_, by rw [HA.out], by rw [HA.out]; exact Z.out.2.2.2.1, Z.out.2.2.2.2⟩⟩
  · refine ⟨⟨v, rfl⟩, .inr ⟨.ret, hx.lp, ?_⟩⟩
    have Z := Lib.hid (hx.done (o := .loop (rec .exhausted (some .ret))))
    have HA := Lib.hid hA
    clear hA hx
    dsimp only
    gi_wp2
    refine ⟨by simp, .inl ⟨_, _, rfl, run_takeDeferred Z.out.1, ?_⟩⟩
    exact ⟨_, lc_result Tryd.results7 Z.out.2.1 Z.out.2.2.1 rfl rfl, ⟨_, by rw [HA.out], by rw [HA.out]; exact frow_nil _ _ _, Z.out.2.2.2⟩⟩
end Go.Proofs.YtjpppnfkpnfhoaaDoor
