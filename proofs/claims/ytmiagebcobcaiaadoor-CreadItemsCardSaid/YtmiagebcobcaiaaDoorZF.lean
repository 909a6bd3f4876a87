/- Several texts in one (CrK, CrL): each begins with its own words. -/
import Derived.Test.YtmiagebcobcaiaaDoorZC
import Derived.Test.YtmiagebcobcaiaaDoorRng
import Derived.Test.YtmiagebcobcaiaaDoorChA
/- slices.Backward of fields: the function over which Last ranges; the last field of a kind. -/
namespace Go.Proofs.YtmiagebcobcaiaaDoor
open Go Go.RowKit
set_option linter.unusedVariables false
attribute [local go_sem] Oper.semAt_some

theorem lastG_none {id : Int} {k : Nat} {l : List GD} (h : ∀ i (hi : i < l.length), hasG id k l[i] = false) : lastG id k l = none := by
  unfold lastG
  rw [List.find?_eq_none]
  intro x hx
  obtain ⟨i, hi, rfl⟩ := List.mem_iff_getElem.mp (List.mem_reverse.mp hx)
  rw [h i hi]; decide
theorem lastG_some {id : Int} {k : Nat} {l : List GD} {j : Nat} (hj : j < l.length) (h : hasG id k l[j] = true) (hn : ∀ i (hi : i < l.length), j < i → hasG id k l[i] = false) : lastG id k l = some l[j] := by
  have e : l = l.take j ++ (l[j] :: l.drop (j + 1)) := by rw [← List.drop_eq_getElem_cons hj, List.take_append_drop]
  have hd : (l.drop (j + 1)).reverse.find? (hasG id k) = none := by
    rw [List.find?_eq_none]
    intro x hx
    obtain ⟨i, hi, rfl⟩ := List.mem_iff_getElem.mp (List.mem_reverse.mp hx)
    rw [List.length_drop] at hi
    rw [List.getElem_drop, hn (j + 1 + i) (by omega) (by omega)]; decide
  have : lastG id k (l.take j ++ (l[j] :: l.drop (j + 1))) = some l[j] := by
    unfold lastG
    rw [List.reverse_append, List.reverse_cons, List.append_assoc, List.find?_append, hd]
    simp [h]
  rw [← e] at this
  exact this

theorem backward_any (a : Option Addr) (n c : Nat) (w : World) :
    Calls Tryd.prog 31 #[.slice a n c] w fun e w' => e = .returned (.func (.func 66) #[] #[.pointer (some ⟨w.heap.size, 0, none⟩)]) ∧ w' = w.alloc (.cells #[.slice a n c] 23) := by
  have hmf : ∀ (fn : Fn) (first cap : Array Value) (w : World), (Instr.makeFunc fn first cap).run Tryd.prog w = .ok (.func fn first cap) w := fun _ _ _ _ => rfl
  go_enter Tryd.func31, Tryd.ntmps31
  go_wp2
  go_ret
  exact ⟨rfl, rfl⟩
set_option maxRecDepth 100000 in
set_option maxHeartbeats 4000000 in
theorem back_iter (l : List GD) (id : Int) (k : Nat) (ad : Option Addr) (cp L Bn m : Nat) (W : World) (hl : l.length ≤ 1099511627776)
    (St : Nat → World → Prop) (Sx : Nat → World → Prop)
    (hc : ∀ j W1, St j W1 → W1.cell? ⟨Bn, 0, none⟩ = some (.slice ad l.length cp) ∧ GIn W1 ad l)
    (hY : ∀ j (hj : j < l.length) W1, St (j + 1) W1 → hasG id k l[j] = false → YieldAt Fence.wide m Tryd.prog L #[.int .i64 (j : Nat), gfV l[j]] W1 fun r W' => r = .returned (.bool true) ∧ St j W')
    (hX : ∀ j (hj : j < l.length) W1, St (j + 1) W1 → hasG id k l[j] = true → YieldAt Fence.wide m Tryd.prog L #[.int .i64 (j : Nat), gfV l[j]] W1 fun r W' => r = .returned (.bool false) ∧ Sx j W')
    (h0 : St l.length W) :
    CallsIn Fence.wide (m + 1) Tryd.prog 66 #[.func (.yield L) #[] #[], .pointer (some ⟨Bn, 0, none⟩)] W fun e W' => (∃ v, e = .returned v) ∧
      ((St 0 W' ∧ ∀ i (hi : i < l.length), hasG id k l[i] = false) ∨ (∃ j, ∃ hj : j < l.length, Sx j W' ∧ hasG id k l[j] = true ∧ ∀ i (hi : i < l.length), j < i → hasG id k l[i] = false)) := by
  have HC := Lib.hid hc
  have HY := Lib.hid hY
  have HX := Lib.hid hX
  have H0 := Lib.hid h0
  obtain ⟨q1, -⟩ := hc _ W h0
  have m1 : IntKind.i64.wrap ((l.length : Int) - 1) = (l.length : Int) - 1 := IntWalk.i64_in _ (by omega)
  clear hc hY hX h0
  refine callsIn_of_wp Tryd.func66 rfl trivial ?_ rfl
  simp only [Tryd.ntmps66, List.size_toArray, List.length_cons, List.length_nil, Nat.reduceAdd, Nat.reduceSub, Array.replicate_succ, Array.replicate_zero, List.push_toArray, List.append_toArray, List.nil_append, List.cons_append]
  gi_wp2
  clear q1
  gi_loopw [3] (fun i wr => ∃ j : Nat, j ≤ l.length ∧ i = .int .i64 ((j : Int) - 1) ∧ St j wr ∧ Hid (∀ i (hi : i < l.length), j ≤ i → hasG id k l[i] = false)) (fun i _ => (intOf i + 1).toNat)
  case atStart => exact ⟨l.length, Nat.le_refl _, rfl, H0.out, Lib.hid (fun i hi h => absurd hi (by omega))⟩
  case round =>
    obtain ⟨j, hj, rfl, hst, hno⟩ := hrel
    match j, hj with
    | 0, hj =>
      have ST := Lib.hid hst
      clear hst
      gi_wp2
      go_end0
      exact ⟨⟨_, rfl⟩, .inl ⟨ST.out, fun i hi => hno.out i hi (Nat.zero_le _)⟩⟩
    | i + 1, hj =>
      have hij : ((i + 1 : Nat) : Int) - 1 = (i : Nat) := by omega
      have hlt : i < l.length := by omega
      have p1 : decide ((0 : Int) ≤ (i : Nat)) = true := by simp
      have p2 : (i : Int) < (l.length : Int) := by omega
      obtain ⟨q1, q2⟩ := HC.out _ _ hst
      obtain ⟨g, hg1, hg2, k0, k1, k2, k3, k4, k5⟩ := q2 i hlt
      have HYj := Lib.hid (fun h => HY.out i hlt _ hst h)
      have HXj := Lib.hid (fun h => HX.out i hlt _ hst h)
      have HN := Lib.hid (fun (h : hasG id k l[i] = false) => show ∀ a (ha : a < l.length), i ≤ a → hasG id k l[a] = false from fun a ha hia => by
        rcases Nat.lt_or_ge i a with h1 | h1
        · exact hno.out a ha h1
        · obtain rfl : a = i := by omega
          exact h)
      have HG := Lib.hid (fun (h : hasG id k l[i] = true) => h)
      rw [hij]
      clear q2 hst hg2
      subst hg1
      by_cases ht : hasG id k l[i] = true
      · have hY := HXj.out ht
        have HT := Lib.hid ht
        clear HYj HXj HN ht
        generalize hy : l[i] = y at k0 k1 k2 k3 k4 k5 hY
        have HE := Lib.hid hy
        obtain ⟨y0, y1, y2, y3, y4, y5⟩ := y
        unfold gfV at hY
        dsimp only at k0 k1 k2 k3 k4 k5 hY
        clear hy
        have HYt := Lib.hid hY
        clear hY
        obtain ⟨fn, tm, ass, bo, hy, hR⟩ := HYt.out
        gi_wp2_with (refine hR.mono ?_; rintro e w6 ⟨rfl, hst6⟩)
        refine bodyPost_ret (results_none rfl _ _ _) rfl ?_
        exact ⟨⟨_, rfl⟩, .inr ⟨i, hlt, hst6, HT.out, fun a ha hia => hno.out a ha hia⟩⟩
      · have ht := Bool.eq_false_iff.2 ht
        have hY := HYj.out ht
        have HT := Lib.hid (HN.out ht)
        clear HYj HXj HN ht
        generalize hy : l[i] = y at k0 k1 k2 k3 k4 k5 hY
        obtain ⟨y0, y1, y2, y3, y4, y5⟩ := y
        unfold gfV at hY
        dsimp only at k0 k1 k2 k3 k4 k5 hY
        clear hy
        have HYt := Lib.hid hY
        clear hY
        obtain ⟨fn, tm, ass, bo, hy, hR⟩ := HYt.out
        gi_wp2_with (refine hR.mono ?_; rintro e w6 ⟨rfl, hst6⟩)
        go_roundw
        case rel => exact ⟨i, by omega, by go_num, hst6, HT⟩
        case measure => simp [intOf]
end Go.Proofs.YtmiagebcobcaiaaDoor
/- Package cread: Last. -/
namespace Go.Proofs.YtmiagebcobcaiaaDoor
open Go Go.RowKit
set_option linter.unusedVariables false
attribute [local go_sem] Oper.semAt_some

/-- Block b holds one value. -/
def Cb1 (t : TypeId) (W : World) (b : Nat) (v : Value) : Prop := W.heap[b]? = some (.cells #[v] t (0, 0))
theorem Cb1.lt {t : TypeId} {W : World} {b : Nat} {v : Value} (h : Cb1 t W b v) : b < W.heap.size := lt_of_block h
theorem Cb1.c {t : TypeId} {W : World} {b : Nat} {v : Value} (h : Cb1 t W b v) : W.cell? ⟨b, 0, none⟩ = some v := by unfold Cb1 at h; simp [World.cell?, h]
theorem Cb1.f {t : TypeId} {W : World} {b : Nat} {v : Value} (h : Cb1 t W b v) : W.frozen? ⟨b, 0, none⟩ = false := by unfold Cb1 at h; simp [World.frozen?, h]
theorem Cb1.set {t : TypeId} {W : World} {b : Nat} {v : Value} (h : Cb1 t W b v) (u : Value) : Cb1 t (W.setCell ⟨b, 0, none⟩ u) b u := heap_setCell_block h u
theorem Cb1.at {t : TypeId} {W W' : World} {b : Nat} {v : Value} (h : Cb1 t W b v) (he : W'.heap[b]? = W.heap[b]?) : Cb1 t W' b v := he.trans h
theorem cb_alloc (t : TypeId) (W : World) (v : Value) : Cb1 t (W.alloc (.cells #[v] t)) W.heap.size v := heap_alloc_new W _
theorem bput_below {N l : Nat} {w W : World} {o : Obj} (h : Below N w W) (hl : N ≤ l) : Below N w (W.putObj l o) :=
  h.trans ⟨rfl, rfl, rfl, by simp, fun k hk => World.putObj_heap_other (by omega)⟩
theorem bheap_lt {W : World} {k : Nat} {o : Obj} (h : W.heap[k]? = some o) : k < W.heap.size := (Array.getElem?_eq_some_iff.1 h).1
def gZ : GD := (0, 0, 0, 0, ⟨#[]⟩, ⟨#[]⟩)
/-- Last, between two rounds, or within one: o is the loop's record. -/
structure LsQ (w : World) (o : Obj) (id : Int) (k : Nat) (sv : Value) (W : World) : Prop where
  b0 : Cb1 3 W w.heap.size (.int .i64 id)
  b1 : Cb1 5 W (w.heap.size + 1) (.int .u8 (k : Nat))
  r : GfT 39 W (w.heap.size + 1 + 1) gZ
  t : Cb1 4 W (w.heap.size + 1 + 1 + 1) (.bool false)
  sl : Cb1 23 W (w.heap.size + 1 + 1 + 1 + 1) sv
  df : W.heap[w.heap.size + 1 + 1 + 1 + 1 + 1]? = some (.deferred (some []))
  lp : W.heap[w.heap.size + 1 + 1 + 1 + 1 + 1 + 1]? = some o
  bel : Below w.heap.size w W
/-- Last, behind a round that has left it. -/
structure LsX (w : World) (rec : LoopState → Option Code → Loop) (x : GD) (W : World) : Prop where
  r : GfT 39 W (w.heap.size + 1 + 1) x
  t : Cb1 4 W (w.heap.size + 1 + 1 + 1) (.bool true)
  df : W.heap[w.heap.size + 1 + 1 + 1 + 1 + 1]? = some (.deferred (some []))
  lp : W.heap[w.heap.size + 1 + 1 + 1 + 1 + 1 + 1]? = some (.loop (rec .done (some .ret)))
  bel : Below w.heap.size w W
theorem LsQ.alloc {w : World} {o : Obj} {id : Int} {k : Nat} {sv : Value} {W : World} (h : LsQ w o id k sv W) (x : Obj) : LsQ w o id k sv (W.alloc x) := by
  have hl := bheap_lt h.lp
  have e : ∀ b, b < W.heap.size → (W.alloc x).heap[b]? = W.heap[b]? := fun b hb => Below.heap_alloc _ _ _ hb
  exact ⟨h.b0.at (e _ h.b0.lt), h.b1.at (e _ h.b1.lt), (e _ h.r.lt).trans h.r, h.t.at (e _ h.t.lt), h.sl.at (e _ h.sl.lt), (e _ (bheap_lt h.df)).trans h.df, (e _ hl).trans h.lp, h.bel.alloc h.bel.size _⟩
theorem LsQ.put {w : World} {q q' : Loop} {id : Int} {k : Nat} {sv : Value} {W : World} (h : LsQ w (.loop q) id k sv W) : LsQ w (.loop q') id k sv (W.putObj (w.heap.size + 1 + 1 + 1 + 1 + 1 + 1) (.loop q')) := by
  have e : ∀ b, b ≠ w.heap.size + 1 + 1 + 1 + 1 + 1 + 1 → (W.putObj (w.heap.size + 1 + 1 + 1 + 1 + 1 + 1) (.loop q')).heap[b]? = W.heap[b]? := fun b hb => World.putObj_heap_other hb
  exact ⟨h.b0.at (e _ (by omega)), h.b1.at (e _ (by omega)), (e _ (by omega)).trans h.r, h.t.at (e _ (by omega)), h.sl.at (e _ (by omega)), (e _ (by omega)).trans h.df, World.putObj_heap_same (bheap_lt h.lp), bput_below h.bel (by omega)⟩
theorem LsQ.fld {w : World} {q q' : Loop} {id : Int} {k : Nat} {sv : Value} {W : World} (h : LsQ w (.loop q) id k sv W) (x : GD) :
    GfT 39 ((W.alloc (.cells #[.int .i64 x.1, .int .u8 (x.2.1 : Nat), .int .i64 x.2.2.1, .int .u64 (x.2.2.2.1 : Nat), .string x.2.2.2.2.1, .string x.2.2.2.2.2] 39)).putObj (w.heap.size + 1 + 1 + 1 + 1 + 1 + 1) (.loop q')) W.heap.size x := by
  have := bheap_lt h.lp
  exact (World.putObj_heap_other (by omega)).trans (gf_alloc W x 39)
/-- What the caller's list is, is not turned. -/
theorem LsQ.list {w : World} {o : Obj} {id : Int} {k : Nat} {ad : Option Addr} {sv : Value} {l : List GD} {W : World} (h : LsQ w o id k sv W) (hl : GIn w ad l) : GIn W ad l := hl.below h.bel (Nat.le_refl _)
/-- The results laid, the round left. -/
theorem LsQ.left {w : World} {rec : LoopState → Option Code → Loop} {id : Int} {k : Nat} {sv : Value} {W : World} (h : LsQ w (.loop (rec .busy none)) id k sv W) (y : GD) (W2 : World)
    (hW2 : W2 = (((((((W.setCell ⟨w.heap.size + 1 + 1, 0, none⟩ (.int .i64 y.1)).setCell ⟨w.heap.size + 1 + 1, 1, none⟩ (.int .u8 (y.2.1 : Nat))).setCell ⟨w.heap.size + 1 + 1, 2, none⟩ (.int .i64 y.2.2.1)).setCell ⟨w.heap.size + 1 + 1, 3, none⟩ (.int .u64 (y.2.2.2.1 : Nat))).setCell ⟨w.heap.size + 1 + 1, 4, none⟩ (.string y.2.2.2.2.1)).setCell ⟨w.heap.size + 1 + 1, 5, none⟩ (.string y.2.2.2.2.2)).setCell ⟨w.heap.size + 1 + 1 + 1, 0, none⟩ (.bool true))) :
    W2.heap[w.heap.size + 1 + 1 + 1 + 1 + 1 + 1]? = some (.loop (rec .busy none)) ∧ LsX w rec y (W2.putObj (w.heap.size + 1 + 1 + 1 + 1 + 1 + 1) (.loop (rec .done (some .ret)))) := by
  have o1 := Only.setGf W (w.heap.size + 1 + 1) y
  have r1 := h.r.setAll y
  generalize (((((W.setCell ⟨w.heap.size + 1 + 1, 0, none⟩ (.int .i64 y.1)).setCell ⟨w.heap.size + 1 + 1, 1, none⟩ (.int .u8 (y.2.1 : Nat))).setCell ⟨w.heap.size + 1 + 1, 2, none⟩ (.int .i64 y.2.2.1)).setCell ⟨w.heap.size + 1 + 1, 3, none⟩ (.int .u64 (y.2.2.2.1 : Nat))).setCell ⟨w.heap.size + 1 + 1, 4, none⟩ (.string y.2.2.2.2.1)).setCell ⟨w.heap.size + 1 + 1, 5, none⟩ (.string y.2.2.2.2.2) = W1 at *
  subst hW2
  have t1 := h.t.at (o1.block _ h.t.lt (by omega))
  have d1 := (o1.block _ (bheap_lt h.df) (by omega)).trans h.df
  have l1 := (o1.block _ (bheap_lt h.lp) (by omega)).trans h.lp
  have b1 := h.bel.trans (o1.below (show w.heap.size ≤ w.heap.size + 1 + 1 by omega) h.bel.size)
  have e : ∀ b, b ≠ w.heap.size + 1 + 1 + 1 → (W1.setCell ⟨w.heap.size + 1 + 1 + 1, 0, none⟩ (.bool true)).heap[b]? = W1.heap[b]? := fun b hb => Below.heap_setCell _ _ _ _ hb
  have l2 := (e _ (show w.heap.size + 1 + 1 + 1 + 1 + 1 + 1 ≠ w.heap.size + 1 + 1 + 1 by omega)).trans l1
  have p : ∀ b, b ≠ w.heap.size + 1 + 1 + 1 + 1 + 1 + 1 → ((W1.setCell ⟨w.heap.size + 1 + 1 + 1, 0, none⟩ (.bool true)).putObj (w.heap.size + 1 + 1 + 1 + 1 + 1 + 1) (.loop (rec .done (some .ret)))).heap[b]? = (W1.setCell ⟨w.heap.size + 1 + 1 + 1, 0, none⟩ (.bool true)).heap[b]? := fun b hb => World.putObj_heap_other hb
  exact ⟨l2, ((p _ (by omega)).trans ((e _ (by omega)).trans r1)), ((t1.set _).at (p _ (by omega))), (p _ (by omega)).trans ((e _ (by omega)).trans d1), World.putObj_heap_same (bheap_lt l2), bput_below (gset_keeps b1 (by omega)) (by omega)⟩
/-- The function's own end: its results laid, the block for deferred calls shut. -/
theorem LsQ.done {w : World} {o : Obj} {id : Int} {k : Nat} {sv : Value} {W : World} (h : LsQ w o id k sv W) (W2 : World)
    (hW2 : W2 = (((((((W.setCell ⟨w.heap.size + 1 + 1, 0, none⟩ (.int .i64 0)).setCell ⟨w.heap.size + 1 + 1, 1, none⟩ (.int .u8 0)).setCell ⟨w.heap.size + 1 + 1, 2, none⟩ (.int .i64 0)).setCell ⟨w.heap.size + 1 + 1, 3, none⟩ (.int .u64 0)).setCell ⟨w.heap.size + 1 + 1, 4, none⟩ (.string ⟨#[]⟩)).setCell ⟨w.heap.size + 1 + 1, 5, none⟩ (.string ⟨#[]⟩)).setCell ⟨w.heap.size + 1 + 1 + 1, 0, none⟩ (.bool false))) :
    W2.heap[w.heap.size + 1 + 1 + 1 + 1 + 1]? = some (.deferred (some [])) ∧ GfT 39 (W2.putObj (w.heap.size + 1 + 1 + 1 + 1 + 1) (.deferred none)) (w.heap.size + 1 + 1) gZ ∧ Cb1 4 (W2.putObj (w.heap.size + 1 + 1 + 1 + 1 + 1) (.deferred none)) (w.heap.size + 1 + 1 + 1) (.bool false) ∧ Below w.heap.size w (W2.putObj (w.heap.size + 1 + 1 + 1 + 1 + 1) (.deferred none)) := by
  have o1 := Only.setGf W (w.heap.size + 1 + 1) gZ
  have r1 := h.r.setAll gZ
  obtain ⟨W1, hW1⟩ : ∃ W1, W1 = ((((((W.setCell ⟨w.heap.size + 1 + 1, 0, none⟩ (.int .i64 gZ.1)).setCell ⟨w.heap.size + 1 + 1, 1, none⟩ (.int .u8 (gZ.2.1 : Nat))).setCell ⟨w.heap.size + 1 + 1, 2, none⟩ (.int .i64 gZ.2.2.1)).setCell ⟨w.heap.size + 1 + 1, 3, none⟩ (.int .u64 (gZ.2.2.2.1 : Nat))).setCell ⟨w.heap.size + 1 + 1, 4, none⟩ (.string gZ.2.2.2.2.1)).setCell ⟨w.heap.size + 1 + 1, 5, none⟩ (.string gZ.2.2.2.2.2)) := ⟨_, rfl⟩
  have hW2' : W2 = W1.setCell ⟨w.heap.size + 1 + 1 + 1, 0, none⟩ (.bool false) := by rw [hW1]; exact hW2
  rw [← hW1] at o1 r1
  clear hW1 hW2
  subst hW2'
  have t1 := h.t.at (o1.block _ h.t.lt (by omega))
  have d1 := (o1.block _ (bheap_lt h.df) (by omega)).trans h.df
  have b1 := h.bel.trans (o1.below (show w.heap.size ≤ w.heap.size + 1 + 1 by omega) h.bel.size)
  have e : ∀ b, b ≠ w.heap.size + 1 + 1 + 1 → (W1.setCell ⟨w.heap.size + 1 + 1 + 1, 0, none⟩ (.bool false)).heap[b]? = W1.heap[b]? := fun b hb => Below.heap_setCell _ _ _ _ hb
  have p : ∀ b, b ≠ w.heap.size + 1 + 1 + 1 + 1 + 1 → ((W1.setCell ⟨w.heap.size + 1 + 1 + 1, 0, none⟩ (.bool false)).putObj (w.heap.size + 1 + 1 + 1 + 1 + 1) (.deferred none)).heap[b]? = (W1.setCell ⟨w.heap.size + 1 + 1 + 1, 0, none⟩ (.bool false)).heap[b]? := fun b hb => World.putObj_heap_other hb
  exact ⟨(e _ (by omega)).trans d1, (p _ (by omega)).trans ((e _ (by omega)).trans r1), (t1.set _).at (p _ (by omega)), bput_below (gset_keeps b1 (by omega)) (by omega)⟩
theorem LsX.done {w : World} {rec : LoopState → Option Code → Loop} {x : GD} {W : World} {o : Obj} (h : LsX w rec x W) :
    (W.putObj (w.heap.size + 1 + 1 + 1 + 1 + 1 + 1) o).heap[w.heap.size + 1 + 1 + 1 + 1 + 1]? = some (.deferred (some [])) ∧ GfT 39 ((W.putObj (w.heap.size + 1 + 1 + 1 + 1 + 1 + 1) o).putObj (w.heap.size + 1 + 1 + 1 + 1 + 1) (.deferred none)) (w.heap.size + 1 + 1) x ∧ Cb1 4 ((W.putObj (w.heap.size + 1 + 1 + 1 + 1 + 1 + 1) o).putObj (w.heap.size + 1 + 1 + 1 + 1 + 1) (.deferred none)) (w.heap.size + 1 + 1 + 1) (.bool true) ∧ Below w.heap.size w ((W.putObj (w.heap.size + 1 + 1 + 1 + 1 + 1 + 1) o).putObj (w.heap.size + 1 + 1 + 1 + 1 + 1) (.deferred none)) := by
  obtain ⟨k4, k5, k6, k7, k8⟩ := h
  exact ⟨(World.putObj_heap_other (by omega)).trans k6, (World.putObj_heap_other (by omega)).trans ((World.putObj_heap_other (by omega)).trans k4), (k5.at (World.putObj_heap_other (by omega))).at (World.putObj_heap_other (by omega)), bput_below (bput_below k8 (by omega)) (by omega)⟩
/-- A field and a bool, each in a variable of its own, as results. -/
theorem gb_result {fn : Func} {p q : Tmp} (h : fn.results = #[.cell p 39, .cell q 4]) {tmps : Array Value} {w : World} {b d : Nat} {t u : TypeId} {x : GD} {v : Bool} (hb : GfT t w b x) (hd : Cb1 u w d (.bool v)) (hp : tmps.getD p undef = .pointer (some ⟨b, 0, none⟩)) (hq : tmps.getD q undef = .pointer (some ⟨d, 0, none⟩)) :
    (results fn tmps).run Tryd.prog w = .ok (.tuple #[gfV x, .bool v]) w := by
  have h1 := run_loadVar_row (P := Tryd.prog) w b t 39 #[.int .i64 x.1, .int .u8 (x.2.1 : Nat), .int .i64 x.2.2.1, .int .u64 (x.2.2.2.1 : Nat), .string x.2.2.2.2.1, .string x.2.2.2.2.2] (0, 0) _ hb Tryd.underlying39 rfl (by kernel_rfl)
  have hp' : tmps[p]?.getD undef = .pointer (some ⟨b, 0, none⟩) := by simpa using hp
  have hq' : tmps[q]?.getD undef = .pointer (some ⟨d, 0, none⟩) := by simpa using hq
  have h2 := hd.c
  have h3 : (loadVar 4 ⟨d, 0, none⟩).run Tryd.prog w = .ok (.bool v) w := by simp [loadVar, go_sem, h2]
  simp [results, h, hp', hq', asAddr, h1, h3, gfV]
/-- .. at place j. -/
def LsS (w : World) (rec : LoopState → Option Code → Loop) (l : List GD) (j : Nat) (W : World) : Prop := ∃ hj : j < l.length, LsX w rec l[j] W
/-- What Last tells. -/
def lsV (id : Int) (k : Nat) (l : List GD) : GD × Bool := match lastG id k l with | some x => (x, true) | none => (gZ, false)
theorem hasG_id {id : Int} {k : Nat} {x : GD} (h : ¬ x.1 = id) : hasG id k x = false := by unfold hasG; rw [decide_eq_false h]; rfl
theorem hasG_kd {id : Int} {k : Nat} {x : GD} (h : x.1 = id) : hasG id k x = sameB x.2.1 k := by unfold hasG; rw [decide_eq_true h]; rfl
set_option maxRecDepth 100000 in
set_option maxHeartbeats 4000000 in
theorem last_any (l : List GD) (id : Int) (k : Nat) (ad : Option Addr) (cp : Nat) (w : World) (hl : l.length ≤ 1099511627776) (hin : GIn w ad l) :
    Calls Tryd.prog 13 #[.slice ad l.length cp, .int .i64 id, .int .u8 (k : Nat)] w fun e w' => e = .returned (.tuple #[gfV (lsV id k l).1, .bool (lsV id k l).2]) ∧ Below w.heap.size w w' := by
  have HL := Lib.hid hin
  clear hin
  refine (callsIn_wide (n := 3)).1 ?_
  refine callsIn_of_wp_marks Tryd.func13 rfl trivial ?_ rfl
  simp only [Tryd.ntmps13, List.size_toArray, List.length_cons, List.length_nil, Nat.reduceAdd, Nat.reduceSub, Array.replicate_succ, Array.replicate_zero, List.push_toArray, List.append_toArray, List.nil_append, List.cons_append]
  gi_wp2_with (refine ⟨trivial, ?_⟩; gi_at_call 31; refine (callsIn_wide.2 (backward_any _ _ _ _)).mono ?_; rintro e w1 ⟨rfl, hw1⟩; rw [hw1]; clear hw1)
  obtain ⟨w0, hw0⟩ : ∃ w0, w0 = ((((w.alloc (.cells #[.int .i64 id] 3)).alloc (.cells #[.int .u8 (k : Nat)] 5)).alloc (.cells #[.int .i64 0, .int .u8 0, .int .i64 0, .int .u64 0, .string ⟨#[]⟩, .string ⟨#[]⟩] 39)).alloc (.cells #[.bool false] 4)).alloc (.cells #[.slice ad l.length cp] 23) := ⟨_, rfl⟩
  rw [← hw0]
  have e0 : w0.heap.size = w.heap.size + 1 + 1 + 1 + 1 + 1 := by rw [hw0, World.size_alloc, World.size_alloc, World.size_alloc, World.size_alloc, World.size_alloc]
  have D0 : Cb1 3 w0 w.heap.size (.int .i64 id) := by
    rw [hw0]; exact ((((cb_alloc _ w _).at (Below.heap_alloc _ _ _ (by simp))).at (Below.heap_alloc _ _ _ (by first | (simp; done) | (simp; omega)))).at (Below.heap_alloc _ _ _ (by first | (simp; done) | (simp; omega)))).at (Below.heap_alloc _ _ _ (by first | (simp; done) | (simp; omega)))
  have D1 : Cb1 5 w0 (w.heap.size + 1) (.int .u8 (k : Nat)) := by
    have := cb_alloc 5 (w.alloc (.cells #[.int .i64 id] 3)) (.int .u8 (k : Nat))
    rw [World.size_alloc] at this
    rw [hw0]; exact ((this.at (Below.heap_alloc _ _ _ (by simp))).at (Below.heap_alloc _ _ _ (by first | (simp; done) | (simp; omega)))).at (Below.heap_alloc _ _ _ (by first | (simp; done) | (simp; omega)))
  have D2 : GfT 39 w0 (w.heap.size + 1 + 1) gZ := by
    have := gf_alloc ((w.alloc (.cells #[.int .i64 id] 3)).alloc (.cells #[.int .u8 (k : Nat)] 5)) gZ 39
    rw [World.size_alloc, World.size_alloc] at this
    rw [hw0]; exact (this.alloc _).alloc _
  have D3 : Cb1 4 w0 (w.heap.size + 1 + 1 + 1) (.bool false) := by
    have := cb_alloc 4 (((w.alloc (.cells #[.int .i64 id] 3)).alloc (.cells #[.int .u8 (k : Nat)] 5)).alloc (.cells #[.int .i64 0, .int .u8 0, .int .i64 0, .int .u64 0, .string ⟨#[]⟩, .string ⟨#[]⟩] 39)) (.bool false)
    rw [World.size_alloc, World.size_alloc, World.size_alloc] at this
    rw [hw0]; exact this.at (Below.heap_alloc _ _ _ (by simp))
  have D4 : Cb1 23 w0 (w.heap.size + 1 + 1 + 1 + 1) (.slice ad l.length cp) := by
    have := cb_alloc 23 ((((w.alloc (.cells #[.int .i64 id] 3)).alloc (.cells #[.int .u8 (k : Nat)] 5)).alloc (.cells #[.int .i64 0, .int .u8 0, .int .i64 0, .int .u64 0, .string ⟨#[]⟩, .string ⟨#[]⟩] 39)).alloc (.cells #[.bool false] 4)) (.slice ad l.length cp)
    rw [World.size_alloc, World.size_alloc, World.size_alloc, World.size_alloc] at this
    rw [hw0]; exact this
  have B0 : Below w.heap.size w w0 := by
    rw [hw0]; exact (((((Below.refl _ w).alloc (Nat.le_refl _) _).alloc (by simp) _).alloc (by first | (simp; done) | (simp; omega)) _).alloc (by first | (simp; done) | (simp; omega)) _).alloc (by first | (simp; done) | (simp; omega)) _
  clear hw0
  refine wide_rangeFunc (gf := 66) (lb := #[.pointer (some ⟨w.heap.size + 1 + 1 + 1 + 1, 0, none⟩)]) rfl (enters_of Tryd.func66 (by kernel_rfl) rfl) ?_
  intro rec hR hY
  have L1 := World.alloc_heap_new (w0.alloc (.deferred (some []))) (.loop (rec .ready none))
  have L2 := (Below.heap_alloc (w0.alloc (.deferred (some []))) (.loop (rec .ready none)) w0.heap.size (by simp)).trans (World.alloc_heap_new w0 (.deferred (some [])))
  have hB1 : Below w0.heap.size w0 ((w0.alloc (.deferred (some []))).alloc (.loop (rec .ready none))) := ((Below.refl _ w0).alloc (Nat.le_refl _) _).alloc (by simp) _
  rw [World.size_alloc] at L1
  generalize ((w0.alloc (.deferred (some []))).alloc (.loop (rec .ready none))) = W1 at *
  rw [e0] at hR hY L1 L2 hB1 ⊢
  have Q0 : LsQ w (.loop (rec .ready none)) id k (.slice ad l.length cp) W1 :=
    ⟨D0.at (hB1.block _ (by omega)), D1.at (hB1.block _ (by omega)), (hB1.block _ (by omega)).trans D2, D3.at (hB1.block _ (by omega)), D4.at (hB1.block _ (by omega)), L2, L1, B0.trans (hB1.mono (by omega))⟩
  have HR := Lib.hid hR
  have HY := Lib.hid hY
  clear D0 D1 D2 D3 D4 hR hY B0 L1 L2 hB1
  refine (back_iter l id k ad cp (w.heap.size + 1 + 1 + 1 + 1 + 1 + 1) (w.heap.size + 1 + 1 + 1 + 1) 1 W1 hl (fun _ W => LsQ w (.loop (rec .ready none)) id k (.slice ad l.length cp) W) (LsS w rec l) ?hc ?hY ?hX Q0).mono ?_
  case hc => exact fun j W h => ⟨h.sl.c, h.list HL.out⟩
  case hY =>
    intro j hj W hst hno
    have hal := (bheap_lt hst.lp)
    generalize l[j] = x at hno
    obtain ⟨x0, x1, x2, x3, x4, x5⟩ := x
    refine HY.out #[.int .i64 (j : Nat), gfV (x0, x1, x2, x3, x4, x5)] W _ rfl hst.lp ?_
    have S5 := Lib.hid ((hst.alloc (.cells #[.int .i64 x0, .int .u8 (x1 : Nat), .int .i64 x2, .int .u64 (x3 : Nat), .string x4, .string x5] 39)).put (q' := rec .busy none))
    have F5 := hst.fld (q' := rec .busy none) (x0, x1, x2, x3, x4, x5)
    have A1 := Lib.hid ((Below.heap_alloc W (.cells #[.int .i64 x0, .int .u8 (x1 : Nat), .int .i64 x2, .int .u64 (x3 : Nat), .string x4, .string x5] 39) _ hal).trans hst.lp)
    unfold gfV
    dsimp only at F5 ⊢
    clear hst hal
    gi_wp2
    refine ⟨A1.out, ?_⟩
    clear A1
    generalize ((W.alloc (.cells #[.int .i64 x0, .int .u8 (x1 : Nat), .int .i64 x2, .int .u64 (x3 : Nat), .string x4, .string x5] 39)).putObj (w.heap.size + 1 + 1 + 1 + 1 + 1 + 1) (.loop (rec .busy none))) = w5 at *
    generalize W.heap.size = F at *
    have g0 := F5.c0; have g1 := F5.c1; have g2 := F5.c2; have g3 := F5.c3; have g4 := F5.c4; have g5 := F5.c5
    have i0 := S5.out.b0.c; have i1 := S5.out.b1.c
    dsimp only at g0 g1 g2 g3 g4 g5
    clear F5
    by_cases hi : x0 = id
    · have p1 : (x0 == id) = true := by rw [hi]; simp
      have HS := Lib.hid (fun w => same_any x1 k w)
      rw [← hasG_kd (x := (x0, x1, x2, x3, x4, x5)) hi, hno] at HS
      clear hi hno
      gi_wp2_with (refine ⟨trivial, ?_⟩; gi_at_call 32; refine (callsIn_wide.2 (HS.out _)).mono ?_; rintro e w6 ⟨rfl, hww⟩; rw [hww]; clear hww)
      exact ⟨_, _, HR.out.fin _ none S5.out.lp, rfl, S5.out.put⟩
    · have p1 : (x0 == id) = false := beq_eq_false_iff_ne.mpr hi
      clear hi hno
      gi_wp2_with (refine ⟨trivial, ?_⟩)
      exact ⟨_, _, HR.out.fin _ none S5.out.lp, rfl, S5.out.put⟩
  case hX =>
    intro j hj W hst hno
    have HJ := Lib.hid hj
    have HLX1 : ∀ W, LsX w rec l[j] W → LsS w rec l j W := fun W h => ⟨hj, h⟩
    generalize l[j] = x at hno HLX1 ⊢
    have HLX := Lib.hid HLX1
    clear HLX1
    have hal := (bheap_lt hst.lp)
    obtain ⟨x0, x1, x2, x3, x4, x5⟩ := x
    refine HY.out #[.int .i64 (j : Nat), gfV (x0, x1, x2, x3, x4, x5)] W _ rfl hst.lp ?_
    have S5 := Lib.hid ((hst.alloc (.cells #[.int .i64 x0, .int .u8 (x1 : Nat), .int .i64 x2, .int .u64 (x3 : Nat), .string x4, .string x5] 39)).put (q' := rec .busy none))
    have F5 := hst.fld (q' := rec .busy none) (x0, x1, x2, x3, x4, x5)
    have A1 := Lib.hid ((Below.heap_alloc W (.cells #[.int .i64 x0, .int .u8 (x1 : Nat), .int .i64 x2, .int .u64 (x3 : Nat), .string x4, .string x5] 39) _ hal).trans hst.lp)
    unfold gfV
    dsimp only at F5 ⊢
    clear hst hal
    gi_wp2
    refine ⟨A1.out, ?_⟩
    clear A1
    generalize ((W.alloc (.cells #[.int .i64 x0, .int .u8 (x1 : Nat), .int .i64 x2, .int .u64 (x3 : Nat), .string x4, .string x5] 39)).putObj (w.heap.size + 1 + 1 + 1 + 1 + 1 + 1) (.loop (rec .busy none))) = w5 at *
    generalize W.heap.size = F at *
    have g0 := F5.c0; have g1 := F5.c1; have g2 := F5.c2; have g3 := F5.c3; have g4 := F5.c4; have g5 := F5.c5
    have i0 := S5.out.b0.c; have i1 := S5.out.b1.c
    dsimp only at g0 g1 g2 g3 g4 g5
    clear F5
    have hi : x0 = id := by
      by_cases hi : x0 = id
      · exact hi
      · rw [hasG_id (x := (x0, x1, x2, x3, x4, x5)) hi] at hno; exact absurd hno (by decide)
    have p1 : (x0 == id) = true := by rw [hi]; simp
    have HS := Lib.hid (fun w => same_any x1 k w)
    rw [← hasG_kd (x := (x0, x1, x2, x3, x4, x5)) hi, hno] at HS
    clear hi hno
    have r0 := S5.out.r.c0; have r1 := S5.out.r.c1; have r2 := S5.out.r.c2; have r3 := S5.out.r.c3; have r4 := S5.out.r.c4; have r5 := S5.out.r.c5; have rf := S5.out.r.fr
    have t0 := S5.out.t.c; have tf := S5.out.t.f
    have Z := Lib.hid (S5.out.left (x0, x1, x2, x3, x4, x5) _ rfl)
    clear S5
    gi_wp2_with (refine ⟨trivial, ?_⟩; gi_at_call 32; refine (callsIn_wide.2 (HS.out _)).mono ?_; rintro e w6 ⟨rfl, hww⟩; rw [hww]; clear hww)
    exact ⟨_, _, HR.out.fin _ (some .ret) Z.out.1, rfl, HLX.out _ Z.out.2⟩
  rintro e W2 ⟨⟨v, rfl⟩, (⟨hst, hA⟩ | ⟨j, hj, hS, hA, hB⟩)⟩
  · refine ⟨⟨v, rfl⟩, .inl ⟨hst.lp, ?_⟩⟩
    have S := Lib.hid (hst.put (q' := rec .exhausted none))
    have HV := Lib.hid (show lsV id k l = (gZ, false) by unfold lsV; rw [lastG_none hA])
    clear hA hst
    generalize W2.putObj (w.heap.size + 1 + 1 + 1 + 1 + 1 + 1) (.loop (rec .exhausted none)) = W3 at *
    dsimp only
    have r0 := S.out.r.c0; have r1 := S.out.r.c1; have r2 := S.out.r.c2; have r3 := S.out.r.c3; have r4 := S.out.r.c4; have r5 := S.out.r.c5; have rf := S.out.r.fr
    have t0 := S.out.t.c; have tf := S.out.t.f
    have Z := Lib.hid (S.out.done _ rfl)
    clear S
    gi_wp2
    refine ⟨by simp, .inl ⟨_, _, rfl, run_takeDeferred Z.out.1, ?_⟩⟩
    exact ⟨_, gb_result Tryd.results13 Z.out.2.1 Z.out.2.2.1 rfl rfl, ⟨by rw [HV.out], Z.out.2.2.2⟩⟩
  · obtain ⟨_, hx⟩ := hS
    refine ⟨⟨v, rfl⟩, .inr ⟨.ret, hx.lp, ?_⟩⟩
    have HV := Lib.hid (show lsV id k l = (l[j], true) by unfold lsV; rw [lastG_some hj hA hB])
    have Z := Lib.hid (hx.done (o := .loop (rec .exhausted (some .ret))))
    clear hA hB hx
    dsimp only
    gi_wp2
    refine ⟨by simp, .inl ⟨_, _, rfl, run_takeDeferred Z.out.1, ?_⟩⟩
    exact ⟨_, gb_result Tryd.results13 Z.out.2.1 Z.out.2.2.1 rfl rfl, ⟨by rw [HV.out], Z.out.2.2.2⟩⟩
end Go.Proofs.YtmiagebcobcaiaaDoor
