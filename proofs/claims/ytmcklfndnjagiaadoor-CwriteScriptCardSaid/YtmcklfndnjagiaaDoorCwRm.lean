/- The document's writer (package truchmanref23) in memory: what was begun, as a slice; a state in a block; what its appends make. -/
import Derived.Test.YtmcklfndnjagiaaDoorCwDo
import Derived.Deep.RegionHeld3
namespace Go.Proofs.YtmcklfndnjagiaaDoor
open Go Go.RowKit
set_option linter.unusedVariables false

def pV (l : List WP) : List Value := l.flatMap fun p => [.bool p.li, .int .i64 p.last, .int .i64 p.left, .int .u8 (p.kd : Nat)]
theorem pV_cons (p : WP) (l : List WP) : pV (p :: l) = .bool p.li :: .int .i64 p.last :: .int .i64 p.left :: .int .u8 (p.kd : Nat) :: pV l := rfl
theorem pV_append (l m : List WP) : pV (l ++ m) = pV l ++ pV m := List.flatMap_append
theorem pV_length : ∀ l : List WP, (pV l).length = l.length * 4
  | [] => rfl
  | x :: l => by rw [pV_cons]; simp only [List.length_cons]; rw [pV_length l]; omega
theorem pV_one (l : List WP) : ∀ v ∈ pV l, v.oneCell' = true := by
  intro v hv
  obtain ⟨x, _, hx⟩ := List.mem_flatMap.mp hv
  simp at hx
  rcases hx with rfl | rfl | rfl | rfl <;> rfl
theorem pV_last (l : List WP) (p : WP) (i : Nat) (hi : i < 4) : (pV (l ++ [p]))[l.length * 4 + i]? = (pV [p])[i]? := by
  rw [pV_append, List.getElem?_append_right (by rw [pV_length]; omega), pV_length, Nat.add_sub_cancel_left]
/-- The slice v is these, wherever it lies. -/
def PIn (w : World) (v : Value) (l : List WP) : Prop :=
  ∃ a cap, v = .slice a l.length cap ∧ l.length ≤ cap ∧ (l = [] ∨ ∃ g cur, a = some ⟨g, 0, none⟩ ∧ w.heap[g]? = some (.cells cur 60 (0, 0)) ∧ cur.toList.take (l.length * 4) = pV l)
theorem pin_nil (w : World) : PIn w (.slice none 0 0) [] := ⟨none, 0, rfl, Nat.le_refl _, .inl rfl⟩
section
variable {w w' : World} {v : Value} {l : List WP}
theorem PIn.keep (h : PIn w v l) (hk : ∀ (g : Nat) (cur : Array Value), w.heap[g]? = some (Obj.cells cur 60 (0, 0)) → w'.heap[g]? = w.heap[g]?) : PIn w' v l := by
  obtain ⟨a, cap, h1, h2, h3⟩ := h
  refine ⟨a, cap, h1, h2, h3.imp id ?_⟩
  rintro ⟨g, cur, e1, e2, e3⟩
  exact ⟨g, cur, e1, (hk g cur e2).trans e2, e3⟩
theorem PIn.below (h : PIn w v l) (hb : Below w.heap.size w w') : PIn w' v l := h.keep fun g cur hg => hb.block g (lt_of_block hg)
theorem PIn.drew (h : PIn w v l) : PIn w.drew v l := h
theorem PIn.only {b : Nat} {o : Obj} (h : PIn w v l) (ho : Only b w w') (hk : w.heap[b]? = some o) (hne : ∀ cs, o ≠ .cells cs 60 (0, 0)) : PIn w' v l :=
  h.keep fun g cur hg => ho.block g (lt_of_block hg) (fun e => by subst e; rw [hk] at hg; exact hne cur (Option.some.inj hg))
theorem PIn.kt {B : Nat} (h : PIn w v l) (k : Kt B w w') : PIn w' v l :=
  h.keep fun g cur hg => k.block g (lt_of_block hg) (.inr ⟨_, _, _, hg, by decide, by decide, by decide⟩)
theorem PIn.form (h : PIn w v l) : ∃ a cap, v = .slice a l.length cap := by obtain ⟨a, cap, h1, _⟩ := h; exact ⟨a, cap, h1⟩
/-- Where the last one lies. -/
theorem PIn.top {p : WP} (h : PIn w v (l ++ [p])) : ∃ g cap, v = .slice (some ⟨g, 0, none⟩) (l.length + 1) cap ∧ l.length + 1 ≤ cap ∧ g < w.heap.size ∧
    w.cell? ⟨g, l.length * 4, none⟩ = some (.bool p.li) ∧ w.cell? ⟨g, l.length * 4 + 1, none⟩ = some (.int .i64 p.last) ∧ w.cell? ⟨g, l.length * 4 + 2, none⟩ = some (.int .i64 p.left) ∧ w.cell? ⟨g, l.length * 4 + 3, none⟩ = some (.int .u8 (p.kd : Nat)) := by
  obtain ⟨a, cap, h1, h2, h3⟩ := h
  rcases h3 with h3 | ⟨g, cur, rfl, h3, h4⟩
  · simp at h3
  · have hc : ∀ i, i < 4 → w.cell? ⟨g, l.length * 4 + i, none⟩ = (pV [p])[i]? := by
      intro i hi
      rw [cell_of_row w g _ cur _ _ h3, ← pV_last l p i hi, ← h4, List.getElem?_take_of_lt (by simp; omega)]
      simp
    rw [List.length_append] at h1 h2
    refine ⟨g, cap, h1, h2, lt_of_block h3, ?_, ?_, ?_, ?_⟩
    · have := hc 0 (by decide); simpa [pV] using this
    · have := hc 1 (by decide); simpa [pV] using this
    · have := hc 2 (by decide); simpa [pV] using this
    · have := hc 3 (by decide); simpa [pV] using this
/-- .. without the last one. -/
theorem PIn.cut {p : WP} {a : Option Addr} {n cap : Nat} (h : PIn w (.slice a n cap) (l ++ [p])) : PIn w (.slice a l.length cap) l := by
  obtain ⟨a', cap', h1, h2, h3⟩ := h
  simp only [Value.slice.injEq, List.length_append, List.length_cons, List.length_nil] at h1 h2
  obtain ⟨rfl, rfl, rfl⟩ := h1
  refine ⟨a, cap, rfl, by omega, ?_⟩
  rcases h3 with h3 | ⟨g, cur, e1, e2, e3⟩
  · simp at h3
  · refine .inr ⟨g, cur, e1, e2, ?_⟩
    simp only [List.length_append, List.length_cons, List.length_nil] at e3
    have e : cur.toList.take (l.length * 4) = (cur.toList.take ((l.length + 1) * 4)).take (l.length * 4) := by rw [List.take_take, Nat.min_eq_left (by omega)]
    rw [e, e3, pV_append, ← pV_length l, List.take_left]
end
/-- A slice that was made by 'append([]Place{}, ..)'. -/
def PNew (B : Nat) (w : World) (v : Value) (l : List WP) : Prop := (∃ b, v = .slice (some b) 0 0 ∧ l = []) ∨ w.ownsRow B 60 4 v l.length (pV l)
theorem PNew.next {B : Nat} {w w' : World} {v : Value} {l : List WP} (h : PNew B w v l) (hb : Below w.heap.size w w') : PNew B w' v l := by
  rcases h with h | h
  · exact .inl h
  · refine .inr (World.ownsRow.kept (row := none) h ⟨hb.os, hb.tape, hb.output, hb.size, fun k hk _ => hb.block k hk⟩ ?_)
    cases v.ownBlock <;> simp
theorem infoP : (Tryd.prog.info? 60).map (fun i => (i.zero, i.size, i.bytes)) = some (some (.agg #[.bool false, .int .i64 0, .int .i64 0, .int .u8 0]), 4, 32) := by kernel_rfl
theorem pnew_in {B : Nat} {w : World} {v : Value} {l : List WP} (h : w.ownsRow B 60 4 v l.length (pV l)) : PIn w v l := by
  rcases h.2 with ⟨rfl, hn⟩ | ⟨g, cap, cur, rfl, _, hg, hc, _, _, ht⟩
  · have h0 : l = [] := List.eq_nil_of_length_eq_zero hn
    subst h0
    exact pin_nil w
  · exact ⟨_, cap, rfl, hc, .inr ⟨g, cur, rfl, hg, ht⟩⟩
/-- 'append([]Place{}, l...)'. -/
theorem run_app_first (w : World) (t ty : TypeId) (ht : Tryd.prog.underlying t = some (.slice 60)) (b : Addr) (v : Value) (l : List WP) (h : PIn w v l) (hlen : l.length ≤ 1099511627776) :
    ∃ a n c w', (Builtin.append_ #[t, t] ty #[.slice (some b) 0 0, v]).run Tryd.prog w = .ok (.slice a n c) w' ∧ PNew w.heap.size w' (.slice a n c) l ∧ Below w.heap.size w w' := by
  obtain ⟨i, hi, hz, hsize, hby⟩ := info_parts infoP
  obtain ⟨a, cap, rfl, hcap, h3⟩ := h
  by_cases h0 : l = []
  · subst h0
    refine ⟨some b, 0, 0, w, ?_, .inl ⟨b, rfl, rfl⟩, Below.refl _ _⟩
    cases a <;> simp [Builtin.append_, run_underlying ht, sizeOf, typeInfo, hi, Builtin.lenOf, Builtin.firstCells, loadCells, loadCellsFrom, storeCells]
  · obtain ⟨g, cur, rfl, hg, htk⟩ := h3.resolve_left h0
    have hpos : 0 < l.length := List.length_pos_iff.mpr h0
    have hnews : ∀ j u, (pV l)[j]? = some u → w.cell? ((⟨g, 0, none⟩ : Addr).add j) = some u := by
      intro j u hu
      have hadd : (⟨g, 0, none⟩ : Addr).add j = ⟨g, j, none⟩ := by unfold Addr.add; split <;> simp_all
      rw [hadd, cell_of_row w g j cur _ (0, 0) hg]
      rw [← htk, List.getElem?_take] at hu
      split at hu
      · simpa using hu
      · cases hu
    have hr := run_append_grow (P := Tryd.prog) w t ty 60 i _ ht hi hz b 0 0 [] (by simp) (fun j u hu => by simp at hu) ⟨g, 0, none⟩ l.length cap (pV l) (by rw [hsize, pV_length]) hnews (by omega) (by omega) (by rw [hby]; exact growslice_fits (by omega) (by omega))
    rw [Nat.zero_add] at hr
    have hge := grownCap_ge w l.length 0 60
    have hcm : grownCap w l.length 0 60 ≤ maxLen := grownCap_le_maxLen w l.length 0 _ (by unfold maxLen; omega)
    refine ⟨_, _, _, _, hr, .inr ⟨pV_length l, .inr ⟨w.heap.size, _, _, rfl, Nat.le_refl _, heap_alloc_new w.drew _, hge, hcm, ?_, ?_⟩⟩, ⟨rfl, rfl, rfl, by simp, fun k hk => heap_alloc_old w.drew _ hk⟩⟩
    · simp only [Array.size_append, List.size_toArray, size_zeroCells, pV_length, List.length_nil]
      rw [show (Value.agg #[.bool false, .int .i64 0, .int .i64 0, .int .u8 0]).cells.size = 4 from rfl]
      omega
    · simp only [Array.toList_append, List.nil_append]
      rw [← pV_length l]
      exact List.take_left
/-- 'append(.., p)'. -/
theorem run_app_more (w : World) (B : Nat) (t ty : TypeId) (ht : Tryd.prog.underlying t = some (.slice 60)) (v : Value) (l : List WP) (h : PNew B w v l) (hB : B ≤ w.heap.size) (g : Nat) (p : WP) (hg : w.heap[g]? = some (.cells (pV [p]).toArray 60 (0, 0))) (hlen : l.length ≤ 1099511627776) :
    ∃ a n c w', (Builtin.append_ #[t, t] ty #[v, .slice (some ⟨g, 0, none⟩) 1 1]).run Tryd.prog w = .ok (.slice a n c) w' ∧ PIn w' (.slice a n c) (l ++ [p]) ∧ Below B w w' := by
  obtain ⟨i, hi, hz, hsize, hby⟩ := info_parts infoP
  have hnews := World.news_of_block hg
  have fin : ∀ v' w', w'.ownsRow B 60 4 v' (l.length + 1) (pV l ++ pV [p]) → ∃ a n c, v' = .slice a n c ∧ PIn w' (.slice a n c) (l ++ [p]) := by
    intro v' w' ho
    have : w'.ownsRow B 60 4 v' (l ++ [p]).length (pV (l ++ [p])) := by rw [pV_append, List.length_append]; exact ho
    have hp := pnew_in this
    obtain ⟨a, c, rfl⟩ := hp.form
    exact ⟨_, _, _, rfl, hp⟩
  rcases h with ⟨b, rfl, rfl⟩ | h
  · have hr := run_append_grow (P := Tryd.prog) w t ty 60 i _ ht hi hz b 0 0 [] (by simp) (fun j u hu => by simp at hu) ⟨g, 0, none⟩ 1 1 (pV [p]) (by rw [hsize]; rfl) hnews (by decide) (by decide) (by rw [hby]; exact growslice_fits (by decide) (by decide))
    have hge := grownCap_ge w 1 0 60
    refine ⟨_, _, _, _, hr, ⟨_, _, rfl, hge, .inr ⟨w.heap.size, _, rfl, heap_alloc_new w.drew _, ?_⟩⟩, ⟨rfl, rfl, rfl, by simp, fun k hk => heap_alloc_old w.drew _ (by simp; omega)⟩⟩
    simp only [Array.toList_append, List.nil_append]
    exact List.take_left (l₁ := pV [p])
  · obtain ⟨v', w', hr, h2, h3, _⟩ := run_append_own (P := Tryd.prog) w B t ty 60 i _ 4 32 ht hi hz hsize hby rfl (by decide) v l.length (pV l) h ⟨g, 0, none⟩ 1 1 (pV [p]) rfl hnews (pV_one _) (by unfold maxLen; omega) (by omega) hB
    obtain ⟨a, n, c, rfl, hp⟩ := fin v' w' h2
    refine ⟨a, n, c, w', hr, hp, ⟨h3.os, h3.tape, h3.output, h3.size, fun k hk => h3.block k (by omega) (fun e => ?_)⟩⟩
    have := (World.ownsRow.lt h k e.symm).1
    omega
section
variable {ops : Array Oper} {rest : List Oper} {o : Oper} {a : Act} {w : World} {K : Act → World → Prop} {Q : Exit → Act → World → Prop} {E : Prop}
theorem step_app_first (hgd : o.guard = none) (sl x : Operand) (t : TypeId)
    (ho : o.op = .call { callee := .builtin .append, args := #[sl, x], argTypes := #[t, t] }) (ht : Tryd.prog.underlying t = some (.slice 60))
    (b : Addr) (hs : a.eval sl = .slice (some b) 0 0) (v : Value) (l : List WP) (h2 : PIn w v l) (hx : a.eval x = v) (hlen : l.length ≤ 1099511627776)
    (h : ∀ ad n c w', PNew w.heap.size w' (.slice ad n c) l → Below w.heap.size w w' → K (a.put o.dst (.slice ad n c)) w') :
    if Region.wanted o (yielded ops a.tmps) = true then Oper.wp Tryd.prog o a w K Q else E := by
  have hw : Region.wanted o (yielded ops a.tmps) = true := by simp [Region.wanted, hgd]
  rw [if_pos hw]
  obtain ⟨ad, n, c, w', hr, k1, k2⟩ := run_app_first w t o.type ht b v l h2 hlen
  unfold Oper.wp execOp
  simp only [ho, resolve, invoke, builtin, Sem.run_bind, Sem.run_pure, Result.andThen_ok, List.map_toArray, List.map_cons, List.map_nil, hs, hx, hr]
  exact h ad n c w' k1 k2
theorem step_app_more (hgd : o.guard = none) (sl x : Operand) (t : TypeId)
    (ho : o.op = .call { callee := .builtin .append, args := #[sl, x], argTypes := #[t, t] }) (ht : Tryd.prog.underlying t = some (.slice 60))
    (B : Nat) (v : Value) (l : List WP) (hn : PNew B w v l) (hB : B ≤ w.heap.size) (hs : a.eval sl = v) (g : Nat) (p : WP) (hg : w.heap[g]? = some (.cells (pV [p]).toArray 60 (0, 0))) (hx : a.eval x = .slice (some ⟨g, 0, none⟩) 1 1) (hlen : l.length ≤ 1099511627776)
    (h : ∀ ad n c w', PIn w' (.slice ad n c) (l ++ [p]) → Below B w w' → K (a.put o.dst (.slice ad n c)) w') :
    if Region.wanted o (yielded ops a.tmps) = true then Oper.wp Tryd.prog o a w K Q else E := by
  have hw : Region.wanted o (yielded ops a.tmps) = true := by simp [Region.wanted, hgd]
  rw [if_pos hw]
  obtain ⟨ad, n, c, w', hr, k1, k2⟩ := run_app_more w B t o.type ht v l hn hB g p hg hlen
  unfold Oper.wp execOp
  simp only [ho, resolve, invoke, builtin, Sem.run_bind, Sem.run_pure, Result.andThen_ok, List.map_toArray, List.map_cons, List.map_nil, hs, hx, hr]
  exact h ad n c w' k1 k2
theorem list_app_first (hgd : o.guard = none) (sl x : Operand) (t : TypeId)
    (ho : o.op = .call { callee := .builtin .append, args := #[sl, x], argTypes := #[t, t] }) (ht : Tryd.prog.underlying t = some (.slice 60))
    (b : Addr) (hs : a.eval sl = .slice (some b) 0 0) (v : Value) (l : List WP) (h2 : PIn w v l) (hx : a.eval x = v) (hlen : l.length ≤ 1099511627776)
    (h : ∀ ad n c w', PNew w.heap.size w' (.slice ad n c) l → Below w.heap.size w w' → wpList Tryd.prog ops Q rest (a.put o.dst (.slice ad n c)) w') : wpList Tryd.prog ops Q (o :: rest) a w := by
  refine wpList_plain hgd fun K hK => ?_
  obtain ⟨ad, n, c, w', hr, k1, k2⟩ := run_app_first w t o.type ht b v l h2 hlen
  unfold Oper.wp execOp
  simp only [ho, resolve, invoke, builtin, Sem.run_bind, Sem.run_pure, Result.andThen_ok, List.map_toArray, List.map_cons, List.map_nil, hs, hx, hr]
  exact hK _ _ (h ad n c w' k1 k2)
theorem list_app_more (hgd : o.guard = none) (sl x : Operand) (t : TypeId)
    (ho : o.op = .call { callee := .builtin .append, args := #[sl, x], argTypes := #[t, t] }) (ht : Tryd.prog.underlying t = some (.slice 60))
    (B : Nat) (v : Value) (l : List WP) (hn : PNew B w v l) (hB : B ≤ w.heap.size) (hs : a.eval sl = v) (g : Nat) (p : WP) (hg : w.heap[g]? = some (.cells (pV [p]).toArray 60 (0, 0))) (hx : a.eval x = .slice (some ⟨g, 0, none⟩) 1 1) (hlen : l.length ≤ 1099511627776)
    (h : ∀ ad n c w', PIn w' (.slice ad n c) (l ++ [p]) → Below B w w' → wpList Tryd.prog ops Q rest (a.put o.dst (.slice ad n c)) w') : wpList Tryd.prog ops Q (o :: rest) a w := by
  refine wpList_plain hgd fun K hK => ?_
  obtain ⟨ad, n, c, w', hr, k1, k2⟩ := run_app_more w B t o.type ht v l hn hB g p hg hlen
  unfold Oper.wp execOp
  simp only [ho, resolve, invoke, builtin, Sem.run_bind, Sem.run_pure, Result.andThen_ok, List.map_toArray, List.map_cons, List.map_nil, hs, hx, hr]
  exact hK _ _ (h ad n c w' k1 k2)
end
/-- A state as a value, and in a block. -/
def stV (A : ByteArray) (v : Value) (er : Int) : Value := .agg #[.string A, v, .int .i64 er]
def StT (w : World) (g : Nat) (A : ByteArray) (v : Value) (er : Int) : Prop := w.heap[g]? = some (.cells #[.string A, v, .int .i64 er] 29 (0, 0))
section
variable {w w' : World} {g : Nat} {A : ByteArray} {v : Value} {er : Int}
theorem StT.c0 (h : StT w g A v er) : w.cell? ⟨g, 0, none⟩ = some (.string A) := by rw [cell_of_row w g 0 _ _ _ h]; rfl
theorem StT.c1 (h : StT w g A v er) : w.cell? ⟨g, 1, none⟩ = some v := by rw [cell_of_row w g 1 _ _ _ h]; rfl
theorem StT.c2 (h : StT w g A v er) : w.cell? ⟨g, 2, none⟩ = some (.int .i64 er) := by rw [cell_of_row w g 2 _ _ _ h]; rfl
theorem StT.fr (h : StT w g A v er) (o : Nat) : w.frozen? ⟨g, o, none⟩ = false := by unfold StT at h; simp [World.frozen?, h]
theorem StT.below (h : StT w g A v er) (hb : Below w.heap.size w w') : StT w' g A v er := (hb.block g (lt_of_block h)).trans h
theorem StT.lt (h : StT w g A v er) : g < w.heap.size := lt_of_block h
theorem StT.set0 (h : StT w g A v er) (x : ByteArray) : StT (w.setCell ⟨g, 0, none⟩ (.string x)) g x v er := heap_setCell_block h _
theorem StT.set1 (h : StT w g A v er) (x : Value) : StT (w.setCell ⟨g, 1, none⟩ x) g A x er := heap_setCell_block h _
theorem StT.set2 (h : StT w g A v er) (x : Int) : StT (w.setCell ⟨g, 2, none⟩ (.int .i64 x)) g A v x := heap_setCell_block h _
theorem StT.setAll (h : StT w g A v er) (A' : ByteArray) (v' : Value) (e' : Int) : StT (((w.setCell ⟨g, 0, none⟩ (.string A')).setCell ⟨g, 1, none⟩ v').setCell ⟨g, 2, none⟩ (.int .i64 e')) g A' v' e' :=
  heap_setCell_block (heap_setCell_block (heap_setCell_block h _) _) _
theorem StT.oth (h : StT w g A v er) : Oth w g := ⟨_, _, _, h, by decide, by decide, by decide⟩
theorem StT.other {b : Nat} (h : StT w g A v er) (ho : Only b w w') (hb : g ≠ b) : StT w' g A v er := (ho.block g h.lt hb).trans h
theorem st_result {fn : Func} {p : Tmp} (h : fn.results = #[.cell p 29]) {tmps : Array Value} (hg : StT w g A v er) (hp : tmps.getD p undef = .pointer (some ⟨g, 0, none⟩)) :
    (results fn tmps).run Tryd.prog w = .ok (stV A v er) w := by
  have hq := run_loadVar_row (P := Tryd.prog) w g 29 29 #[.string A, v, .int .i64 er] (0, 0) _ hg Tryd.underlying29 rfl (by kernel_rfl)
  have hp' : tmps[p]?.getD undef = .pointer (some ⟨g, 0, none⟩) := by simpa using hp
  simp [results, h, hp', asAddr, hq, stV]
end
theorem new_st (w : World) (A : ByteArray) (v : Value) (er : Int) : StT (w.alloc (.cells #[.string A, v, .int .i64 er] 29)) w.heap.size A v er := heap_alloc_new w _
theorem set3_only (w : World) (g : Nat) (a b c : Value) : Only g w (((w.setCell ⟨g, 0, none⟩ a).setCell ⟨g, 1, none⟩ b).setCell ⟨g, 2, none⟩ c) := (((Only.refl _ _).setCell _ _).setCell _ _).setCell _ _
end Go.Proofs.YtmcklfndnjagiaaDoor
