/- Law 15's ops: what a writer has to be told to write a tree; lists of that in memory. -/
import Derived.Test.YtnbhhnkcfbfdcaaGreatDoorJrTk
import Derived.Test.YtnbhhnkcfbfdcaaGreatDoorJrL
import Derived.Test.YtnbhhnkcfbfdcaaGreatDoorJwTree
import Derived.Test.YtnbhhnkcfbfdcaaGreatDoorJwF
import Derived.Deep.Cut
import Derived.Deep.CutRange
namespace Go.Proofs.YtnbhhnkcfbfdcaaGreatDoor
open Go Go.RowKit
set_option linter.unusedVariables false

/-- What a writer is told, as cells. -/
def opCs (l : List OP) : List Value := l.flatMap opC
theorem opCs_cons (x : OP) (l : List OP) : opCs (x :: l) = .int .u8 (x.k.toNat : Int) :: .string (bA x.t) :: .int .i64 x.n :: opCs l := rfl
theorem opCs_append (l m : List OP) : opCs (l ++ m) = opCs l ++ opCs m := List.flatMap_append
theorem opCs_length : ∀ l : List OP, (opCs l).length = l.length * 3
  | [] => rfl
  | x :: l => by rw [opCs_cons]; simp only [List.length_cons]; rw [opCs_length l]; omega
theorem opCs_one (l : List OP) : ∀ v ∈ opCs l, v.oneCell' = true := by
  intro v hv
  obtain ⟨x, _, hx⟩ := List.mem_flatMap.mp hv
  simp [opC] at hx
  rcases hx with rfl | rfl | rfl <;> rfl
theorem opCs_get : ∀ (l : List OP) (k : Nat) (h : k < l.length), (opCs l)[k * 3]? = some (.int .u8 (l[k].k.toNat : Int)) ∧ (opCs l)[k * 3 + 1]? = some (.string (bA l[k].t)) ∧ (opCs l)[k * 3 + 2]? = some (.int .i64 l[k].n)
  | x :: l, 0, _ => ⟨rfl, rfl, rfl⟩
  | x :: l, k + 1, h => by
    have := opCs_get l k (by simpa using h)
    rw [opCs_cons, show (k + 1) * 3 = k * 3 + 1 + 1 + 1 by omega]
    exact this
/-- The slice v, that the call itself made, holds l. -/
def ORow (w : World) (B : Nat) (v : Value) (l : List OP) : Prop := w.ownsRow B 35 3 v l.length (opCs l)
/-- The slice at a, of so many, holds l. -/
def OOwn (w : World) (a : Option Addr) (l : List OP) : Prop :=
  ∀ j (h : j < l.length), ∃ b, a = some ⟨b, 0, none⟩ ∧ b < w.heap.size ∧ w.cell? ⟨b, j * 3, none⟩ = some (.int .u8 (l[j].k.toNat : Int)) ∧ w.cell? ⟨b, j * 3 + 1, none⟩ = some (.string (bA l[j].t)) ∧ w.cell? ⟨b, j * 3 + 2, none⟩ = some (.int .i64 l[j].n)
theorem OOwn.below {w w' : World} {a : Option Addr} {l : List OP} {N : Nat} (h : OOwn w a l) (hb : Below N w w') (hN : w.heap.size ≤ N) : OOwn w' a l := fun j hj => by
  obtain ⟨b, e, hlt, h1, h2, h3⟩ := h j hj
  have hl : b < N := Nat.lt_of_lt_of_le hlt hN
  exact ⟨b, e, Nat.lt_of_lt_of_le hlt hb.size, (hb.cell (p := ⟨b, j * 3, none⟩) hl).trans h1, (hb.cell (p := ⟨b, j * 3 + 1, none⟩) hl).trans h2, (hb.cell (p := ⟨b, j * 3 + 2, none⟩) hl).trans h3⟩
/-- What stays: all that lay below B, and what is no row of these. -/
structure GOp (B : Nat) (w w' : World) : Prop where
  os : w'.os = w.os
  tape : w'.tape = w.tape
  output : w'.output = w.output
  size : w.heap.size ≤ w'.heap.size
  block : ∀ k, k < w.heap.size → (k < B ∨ ∀ cs fz, w.heap[k]? ≠ some (.cells cs 35 fz)) → w'.heap[k]? = w.heap[k]?
section
variable {B : Nat} {w w1 w2 : World} {v : Value} {l : List OP}
theorem ORow.own (h : ORow w B v l) {g : Nat} (hg : v.ownBlock = some g) : B ≤ g ∧ g < w.heap.size ∧ ∃ cur, w.heap[g]? = some (.cells cur 35 (0, 0)) := by
  rcases h.2 with ⟨rfl, _⟩ | ⟨g', cap, cur, rfl, h2, h3, _⟩
  · cases hg
  · simp [Value.ownBlock] at hg
    subst hg
    exact ⟨h2, lt_of_block h3, cur, h3⟩
theorem ORow.keep (h : ORow w B v l) (hk : ∀ g, v.ownBlock = some g → w1.heap[g]? = w.heap[g]?) : ORow w1 B v l := by
  obtain ⟨hl, h⟩ := h
  refine ⟨hl, ?_⟩
  rcases h with h | ⟨g, cap, cur, h1, h2, h3, h4⟩
  · exact .inl h
  · exact .inr ⟨g, cap, cur, h1, h2, (hk g (by rw [h1]; rfl)).trans h3, h4⟩
theorem ORow.next (h : ORow w B v l) (hb : Below w.heap.size w w1) : ORow w1 B v l := h.keep fun g hg => hb.block g (h.own hg).2.1
theorem ORow.base {N : Nat} (h : ORow w N v l) (hB : B ≤ N) : ORow w B v l := by
  obtain ⟨hl, h⟩ := h
  refine ⟨hl, ?_⟩
  rcases h with h | ⟨g, cap, cur, h1, h2, h3, h4⟩
  · exact .inl h
  · exact .inr ⟨g, cap, cur, h1, by omega, h3, h4⟩
theorem ORow.inn (h : ORow w B v l) : ∃ a cap, v = .slice a l.length cap ∧ OOwn w a l := by
  rcases h.2 with ⟨rfl, hn⟩ | ⟨g, cap, cur, rfl, _, hg, _⟩
  · have h0 : l = [] := List.eq_nil_of_length_eq_zero hn
    subst h0
    exact ⟨none, 0, rfl, fun j hj => by simp at hj⟩
  · refine ⟨_, cap, rfl, fun j hj => ⟨g, rfl, lt_of_block hg, ?_, ?_, ?_⟩⟩
    · rw [World.ownsRow.cellAt h (j * 3) (by omega), (opCs_get l j hj).1]
    · rw [World.ownsRow.cellAt h (j * 3 + 1) (by omega), (opCs_get l j hj).2.1]
    · rw [World.ownsRow.cellAt h (j * 3 + 2) (by omega), (opCs_get l j hj).2.2]
theorem GOp.refl (w : World) : GOp B w w := ⟨rfl, rfl, rfl, Nat.le_refl _, fun _ _ _ => rfl⟩
theorem GOp.trans (h : GOp B w w1) (h2 : GOp B w1 w2) : GOp B w w2 :=
  ⟨h2.os.trans h.os, h2.tape.trans h.tape, h2.output.trans h.output, Nat.le_trans h.size h2.size, fun k hk hn => by
    have e1 := h.block k hk hn
    refine (h2.block k (Nat.lt_of_lt_of_le hk h.size) ?_).trans e1
    rcases hn with hn | hn
    · exact .inl hn
    · exact .inr fun cs fz => by rw [e1]; exact hn cs fz⟩
theorem GOp.of_below (h : Below w.heap.size w w1) : GOp B w w1 := ⟨h.os, h.tape, h.output, h.size, fun k hk _ => h.block k hk⟩
theorem GOp.below (h : GOp B w w1) (hB : B ≤ w.heap.size) : Below B w w1 := ⟨h.os, h.tape, h.output, h.size, fun k hk => h.block k (by omega) (.inl hk)⟩
theorem GOp.grown (h : w.grownBy w1 v.ownBlock) (hb : ORow w B v l) : GOp B w w1 :=
  ⟨h.os, h.tape, h.output, h.size, fun k hk hn => h.block k hk (fun e => by
    obtain ⟨o1, _, cur, o3⟩ := hb.own e.symm
    rcases hn with hn | hn
    · omega
    · exact hn _ _ o3)⟩
theorem GOp.keep {k : Nat} {cs : Array Value} {t : TypeId} {fz : Nat × Nat} (h : GOp B w w1) (hk : w.heap[k]? = some (.cells cs t fz)) (hne : t ≠ 35) : w1.heap[k]? = some (.cells cs t fz) :=
  (h.block k (lt_of_block hk) (.inr fun cs2 fz2 e => by
    rw [hk] at e
    simp only [Option.some.injEq, Obj.cells.injEq] at e
    exact hne e.2.1)).trans hk
theorem irow_go {C : Nat} {l : List Nat} (h : IRow w C v l) (hg : GOp B w w1) : IRow w1 C v l := by
  obtain ⟨hl, h⟩ := h
  refine ⟨hl, ?_⟩
  rcases h with h | ⟨g, cap, cur, h1, h2, h3, h4⟩
  · exact .inl h
  · exact .inr ⟨g, cap, cur, h1, h2, hg.keep h3 (by decide), h4⟩
end
theorem infoO : (Tryz.prog.info? 35).map (fun i => (i.zero, i.size, i.bytes)) = some (some (.agg #[.int .u8 0, .string ⟨#[]⟩, .int .i64 0]), 3, 32) := by kernel_rfl
theorem orow_one (w : World) (B : Nat) (hB : B ≤ w.heap.size) (y : OP) (S : ByteArray) (k n : Int) (hk : k = (y.k.toNat : Int)) (hS : S = bA y.t) (hn : n = y.n) : ORow (w.alloc (.cells #[.int .u8 k, .string S, .int .i64 n] 35)) B (.slice (some ⟨w.heap.size, 0, none⟩) 1 1) [y] := by
  subst hk hS hn
  exact ⟨rfl, .inr ⟨w.heap.size, 1, _, rfl, hB, heap_alloc_new w _, Nat.le_refl _, by decide, rfl, rfl⟩⟩
/-- 'append(out, Op{..})'. -/
theorem wpList_append_op1 {ops : Array Oper} {rest : List Oper} {o : Oper} {a : Act} {Q : Exit → Act → World → Prop} (hgd : o.guard = none) (sl x : Operand)
    (ho : o.op = .call { callee := .builtin .append, args := #[sl, x], argTypes := #[31, 31] })
    (v : Value) (wr : World) (B : Nat) (l : List OP) (hb : ORow wr B v l) (hB : B ≤ wr.heap.size) (hs : a.eval sl = v)
    (k : Int) (S : ByteArray) (n : Int) (y : OP) (hk : k = (y.k.toNat : Int)) (hS : S = bA y.t) (hn : n = y.n) (hx : a.eval x = .slice (some ⟨wr.heap.size, 0, none⟩) 1 1) (hlen : l.length ≤ 1099511627776)
    (h : ∀ v' w', ORow w' B v' (l ++ [y]) → GOp B wr w' → wpList Tryz.prog ops Q rest (a.put o.dst v') w') :
    wpList Tryz.prog ops Q (o :: rest) a (wr.alloc (.cells #[.int .u8 k, .string S, .int .i64 n] 35)) := by
  subst hk hS hn
  obtain ⟨i0, hi, hz, hz1, hz2⟩ := info_parts infoO
  have hb1 := hb.next (alloc_below wr (.cells #[.int .u8 (y.k.toNat : Int), .string (bA y.t), .int .i64 y.n] 35))
  refine wpList_append_own _ hgd sl x 31 ho B 35 i0 (.agg #[.int .u8 0, .string ⟨#[]⟩, .int .i64 0]) 3 32 Tryz.underlying31 hi hz hz1 hz2 rfl (by decide) v l.length (opCs l) hs hb1 ⟨wr.heap.size, 0, none⟩ 1 1 (opCs [y]) hx rfl ?_ (opCs_one _) (by unfold maxLen; omega) (by omega) (by simp; omega) ?_
  · intro j u hu
    exact World.news_of_block (cs := #[.int .u8 (y.k.toNat : Int), .string (bA y.t), .int .i64 y.n]) (heap_alloc_new wr _) j u (by simpa [opCs, opC] using hu)
  · intro v' w' hown hgr _
    refine h v' w' ?_ ((GOp.of_below (alloc_below wr _)).trans (GOp.grown hgr hb1))
    unfold ORow
    rw [opCs_append, List.length_append]
    exact hown
/-- .. of many. -/
theorem wpList_append_opn {ops : Array Oper} {rest : List Oper} {o : Oper} {a : Act} {w : World} {Q : Exit → Act → World → Prop} (hgd : o.guard = none) (sl x : Operand)
    (ho : o.op = .call { callee := .builtin .append, args := #[sl, x], argTypes := #[31, 31] })
    (v : Value) (B : Nat) (l : List OP) (hb : ORow w B v l) (hB : B ≤ w.heap.size) (hs : a.eval sl = v)
    (u : Value) (C : Nat) (m : List OP) (hm : ORow w C u m) (hx : a.eval x = u) (hlen : l.length + m.length ≤ 1099511627776)
    (h : ∀ v' w', ORow w' B v' (l ++ m) → GOp B w w' → wpList Tryz.prog ops Q rest (a.put o.dst v') w') : wpList Tryz.prog ops Q (o :: rest) a w := by
  obtain ⟨i0, hi, hz, hz1, hz2⟩ := info_parts infoO
  rcases hm.2 with ⟨rfl, hn⟩ | ⟨g, cap, cur, rfl, _, hg, _⟩
  · have h0 : m = [] := List.eq_nil_of_length_eq_zero hn
    subst h0
    refine wpList_append_own_none hgd sl x 31 ho B 35 i0 3 Tryz.underlying31 hi v l.length (opCs l) hs hb hx ?_
    exact h v w (by rw [List.append_nil]; exact hb) (GOp.refl _)
  · refine wpList_append_own w hgd sl x 31 ho B 35 i0 (.agg #[.int .u8 0, .string ⟨#[]⟩, .int .i64 0]) 3 32 Tryz.underlying31 hi hz hz1 hz2 rfl (by decide) v l.length (opCs l) hs hb ⟨g, 0, none⟩ m.length cap (opCs m) hx (opCs_length m) (World.ownsRow.cells hm rfl) (opCs_one _) (by unfold maxLen; omega) (by omega) hB ?_
    intro v' w' hown hgr _
    refine h v' w' ?_ (GOp.grown hgr hb)
    unfold ORow
    rw [opCs_append, List.length_append]
    exact hown
theorem wg_inv0 {n : Nat} {key : List UInt8} {l : List ND} {tk : List TK} {O : List OP} (h : Wg n none key l tk O) : (∃ t : TK, ¬ tSign t.1 = true ∧ l = [(t.1, key, t.2, 1)] ∧ O = [⟨t.1, t.2, 0⟩]) ∨ ∃ d ob lm km Om, Wg d (some (ob, true)) [] lm km Om ∧ l = (opn ob, key, [], lm.length + 1) :: lm ∧ O = ⟨opn ob, [], 0⟩ :: (Om ++ [⟨101, [], 0⟩]) := by
  generalize ho : (none : Option (Bool × Bool)) = o at h
  cases h with
  | leaf n key t h1 => exact .inl ⟨t, h1, rfl, rfl⟩
  | node n ob key l tk O h1 => exact .inr ⟨n, ob, l, tk, O, h1, rfl, rfl⟩
  | none => cases ho
  | cons => cases ho
theorem wg_inv1 {n : Nat} {ob fst : Bool} {l : List ND} {tk : List TK} {O : List OP} (h : Wg n (some (ob, fst)) [] l tk O) : (l = [] ∧ O = []) ∨ ∃ key l1 l2 k1 k2 O1 O2, Wg n none key l1 k1 O1 ∧ Wg n (some (ob, false)) [] l2 k2 O2 ∧ l = l1 ++ l2 ∧ O = (if ob then [⟨107, key, 0⟩] else []) ++ (O1 ++ O2) := by
  generalize ho : (some (ob, fst) : Option (Bool × Bool)) = o at h
  cases h with
  | leaf => cases ho
  | node => cases ho
  | none => exact .inl ⟨rfl, rfl⟩
  | cons n ob2 fst2 key l1 l2 k1 k2 O1 O2 h1 h2 h3 =>
    simp only [Option.some.injEq, Prod.mk.injEq] at ho
    obtain ⟨rfl, rfl⟩ := ho
    exact .inr ⟨key, l1, l2, k1, k2, O1, O2, h1, h2, rfl, rfl⟩
theorem wg_olen {n : Nat} {o : Option (Bool × Bool)} {key : List UInt8} {l : List ND} {tk : List TK} {O : List OP} (h : Wg n o key l tk O) : (o = none → O.length + 1 ≤ 3 * l.length) ∧ O.length ≤ 3 * l.length := by
  induction h with
  | leaf => simp
  | node n ob key l tk O _ ih => have := ih.2; simp only [List.length_cons, List.length_append, List.length_nil]; exact ⟨fun _ => by omega, by omega⟩
  | none => simp
  | cons n ob fst key l1 l2 k1 k2 O1 O2 _ _ _ i1 i2 =>
    refine ⟨fun e => (by cases e), ?_⟩
    have h1 := i1.1 rfl
    have h2 := i2.2
    cases ob <;> simp only [List.length_append, if_true, if_false, Bool.false_eq_true, List.length_cons, List.length_nil] <;> omega
/-- What ops does with the tree at a place. -/
def OpsC (a : Option Addr) (cap : Nat) (l : List ND) (n : Nat) : Prop := ∀ (d : Nat) (seg pA rs : List ND) (tk : List TK) (O : List OP) (key : List UInt8) (w : World), seg.length ≤ n → Wg d none key seg tk O → l = pA ++ (seg ++ rs) → NIn w a l →
  Calls Tryz.prog 8 #[.slice a l.length cap, .int .i64 (pA.length : Nat)] w fun e w' => ∃ v, e = .returned v ∧ ORow w' w.heap.size v O ∧ Below w.heap.size w w'
set_option maxRecDepth 20000 in
set_option maxHeartbeats 1000000 in
theorem ops_leaf (x : ND) (a : Option Addr) (cap p : Nat) (l : List ND) (w : World) (hp : p < l.length) (hat : l[p] = x) (hsg : ¬ tSign x.1 = true) (hl : l.length ≤ 1000000) (hin : NIn w a l) :
    Calls Tryz.prog 8 #[.slice a l.length cap, .int .i64 (p : Nat)] w fun e w' => ∃ v, e = .returned v ∧ ORow w' w.heap.size v [⟨x.1, x.2.2.1, 0⟩] ∧ Below w.heap.size w w' := by
  obtain ⟨g, rfl, hgl, c0, c1, c2, c3⟩ := hin p hp
  rw [hat] at c0 c1 c2 c3
  have q1 : (p : Int) < (l.length : Int) := by omega
  have q2 : (0 : Int) ≤ (p : Int) := by omega
  have r1 : ((x.1.toNat : Int) != 123) = true := by rw [bne, u8eq_f (k := 123) 123 rfl (fun e => hsg (by rw [e]; rfl))]; rfl
  have r2 : ((x.1.toNat : Int) != 91) = true := by rw [bne, u8eq_f (k := 91) 91 rfl (fun e => hsg (by rw [e]; rfl))]; rfl
  have d0 : NdT 28 (w.alloc (.cells (ndC x).toArray 28)) w.heap.size x := heap_alloc_new w (.cells (ndC x).toArray 28)
  have e0 := d0.c0; have e2 := d0.c2
  have b0 := Lib.hid (alloc_below w (.cells (ndC x).toArray 28))
  unfold ndC at e0 e2 b0
  simp only [List.toArray] at e0 e2
  have HF := Lib.hid (fun w1 : World => fun hb : w.heap.size ≤ w1.heap.size => orow_one w1 w.heap.size hb ⟨x.1, x.2.2.1, 0⟩ (bA x.2.2.1) (x.1.toNat : Int) 0 rfl rfl rfl)
  clear hin hat hsg d0 hp
  go_enter Tryz.func8, Tryz.ntmps8
  go_upto_region 3 with fail
  generalize hw0 : w.alloc (.cells #[.int .u8 (x.1.toNat : Int), .string (bA x.2.1), .string (bA x.2.2.1), .int .i64 (x.2.2.2 : Nat)] 28) = w0 at *
  have hz : w0.heap.size = w.heap.size + 1 := by rw [← hw0]; simp
  have HZ := Lib.hid hz
  clear hw0 hz c0 c1 c2 c3
  go_wp2
  go_ret
  exact ⟨_, rfl, HF.out w0 (by rw [HZ.out]; omega), b0.out.trans ((alloc_below w0 _).mono b0.out.size)⟩
/-- Between two kids. -/
theorem irow_cell {w : World} {C b n c : Nat} {l : List Nat} (h : IRow w C (.slice (some ⟨b, 0, none⟩) n c) l) (j : Nat) (hj : j < l.length) : w.cell? ⟨b, j, none⟩ = some (.int .i64 (l[j] : Nat)) := by
  obtain ⟨a, k, e, hi⟩ := h.inn
  simp only [Value.slice.injEq] at e
  obtain ⟨rfl, _, _⟩ := e
  obtain ⟨b2, e2, _, hc⟩ := hi j hj
  simp only [Option.some.injEq, Addr.mk.injEq, and_true] at e2
  subst e2
  exact hc
def OxRel (d B C : Nat) (l : List ND) (ob : Bool) (T : Nat) (x : ND) (P0 : Nat) (kv : Value) (Kd : List Nat) (E : Nat) (all : List OP) (W : World) (v i : Value) (wr : World) : Prop :=
  ∃ (j f : Nat) (pB lr rs : List ND) (tr : List TK) (Or bs : List OP), i = .int .i64 (j : Nat) ∧ j ≤ Kd.length ∧ ORow wr B v bs ∧ Kd.drop j = kdL l f pB.length E ∧ E ≤ f + pB.length ∧ P0 ≤ pB.length ∧ l = pB ++ (lr ++ rs) ∧ E = pB.length + lr.length ∧ Wg d (some (ob, decide (j = 0))) [] lr tr Or ∧
    Hid (bs ++ Or = all) ∧ NdT 28 wr T x ∧ IRow wr C kv Kd ∧ Below B W wr
set_option maxRecDepth 20000 in
set_option maxHeartbeats 4000000 in
theorem ops_nodeL {a : Option Addr} {cap : Nat} {l : List ND} {n : Nat} (hI : OpsC a cap l n) (hl : l.length ≤ 1000000) (hsz : SzOk l) (key : List UInt8) (lm pA rs : List ND) (km : List TK) (Om : List OP) (d : Nat) (w : World)
    (hn : lm.length ≤ n) (hw : Wg d (some (false, true)) [] lm km Om) (hle : l = pA ++ (((opn false, key, [], lm.length + 1) :: lm) ++ rs)) (hin : NIn w a l) :
    Calls Tryz.prog 8 #[.slice a l.length cap, .int .i64 (pA.length : Nat)] w fun e w' => ∃ v, e = .returned v ∧ ORow w' w.heap.size v (⟨opn false, [], 0⟩ :: (Om ++ [⟨101, [], 0⟩])) ∧ Below w.heap.size w w' := by
  obtain ⟨x, hxd⟩ : ∃ x : ND, x = (opn false, key, [], lm.length + 1) := ⟨_, rfl⟩
  rw [← hxd] at hle
  have hx0 : x.1 = opn false := by rw [hxd]
  have hx3 : x.2.2.2 = lm.length + 1 := by rw [hxd]
  obtain ⟨hp, hat⟩ := at_front hle (x := x) (r := lm) rfl
  obtain ⟨g, rfl, hgl, c0, c1, c2, c3⟩ := hin pA.length hp
  rw [hat] at c0 c1 c2 c3
  have HUP := Lib.hid (show ∀ wx, Below w.heap.size w wx → NIn wx (some ⟨g, 0, none⟩) l from fun wx hb => hin.below hb (Nat.le_refl _))
  generalize hP : pA.length = p at *
  have q1 : (p : Int) < (l.length : Int) := by omega
  have q2 : (0 : Int) ≤ (p : Int) := by omega
  have d0 : NdT 28 (w.alloc (.cells (ndC x).toArray 28)) w.heap.size x := heap_alloc_new w (.cells (ndC x).toArray 28)
  have b0 := alloc_below w (.cells (ndC x).toArray 28)
  have D0 := Lib.hid d0
  have B0 := Lib.hid b0
  have hol := (wg_olen hw).2
  have HALL := Lib.hid (And.intro hn (And.intro hw (And.intro hx3 hle)))
  have HSZ := Lib.hid hsz
  have HAT := Lib.hid hat
  have HI := Lib.hid hI
  have HX0 := Lib.hid hx0
  have HPA := Lib.hid hP
  have HLL := Lib.hid (show l.length = p + ((lm.length + 1) + rs.length) by rw [hle]; simp [hP]; omega)
  have hOm : Om.length ≤ 3000000 := by have := HLL.out; omega
  have x1 : ((x.1.toNat : Int) != 123) = true := by rw [hx0]; decide
  have x2 : ((x.1.toNat : Int) != 91) = false := by rw [hx0]; decide
  have x3 : ((x.1.toNat : Int) == 123) = false := by rw [hx0]; decide
  have HF := Lib.hid (fun w1 : World => fun hb : w.heap.size ≤ w1.heap.size => orow_one w1 w.heap.size hb ⟨opn false, [], 0⟩ ⟨#[]⟩ (x.1.toNat : Int) 0 (by rw [hx0]) rfl rfl)
  unfold ndC at D0 B0
  clear hn hw hx3 hle hin hsz hI hat d0 b0 hx0 hxd hP hol
  go_enter Tryz.func8, Tryz.ntmps8
  go_upto_region 4 with fail
  generalize w.alloc (.cells #[.int .u8 (x.1.toNat : Int), .string (bA x.2.1), .string (bA x.2.2.1), .int .i64 (x.2.2.2 : Nat)] 28) = w0 at *
  have e0 := D0.out.c0
  clear c0 c1 c2 c3
  have R1 := Lib.hid (HF.out w0 B0.out.size)
  have B1 := Lib.hid (B0.out.trans ((alloc_below w0 (.cells #[.int .u8 (x.1.toNat : Int), .string ⟨#[]⟩, .int .i64 0] 35)).mono B0.out.size))
  have D1 := Lib.hid (show NdT 28 (w0.alloc (.cells #[.int .u8 (x.1.toNat : Int), .string ⟨#[]⟩, .int .i64 0] 35)) w.heap.size x from ((alloc_below w0 (.cells #[.int .u8 (x.1.toNat : Int), .string ⟨#[]⟩, .int .i64 0] 35)).block _ (lt_of_block D0.out)).trans D0.out)
  have HKD := Lib.hid (rkids_any (some ⟨g, 0, none⟩) cap l (p : Nat) _ (by omega) (HUP.out _ B1.out) HSZ.out (by omega) (by omega))
  clear D0 B0 HF
  go_wp2_with fail
  generalize hG : w0.heap.size = G0 at *
  generalize w0.alloc (.cells #[.int .u8 (x.1.toNat : Int), .string ⟨#[]⟩, .int .i64 0] 35) = w1 at *
  clear e0 hG
  with_reducible refine HKD.out.mono ?_
  rintro e w3 ⟨kv, rfl, hkv, b3⟩
  have B3 := Lib.hid (B1.out.trans (b3.mono B1.out.size))
  have R3 := Lib.hid (R1.out.next b3)
  have D3 := Lib.hid (show NdT 28 w3 w.heap.size x from (b3.block _ (lt_of_block D1.out)).trans D1.out)
  obtain ⟨ka, kc, rfl, hki⟩ := hkv.inn
  have HKV := Lib.hid hkv
  have HKL := Lib.hid (show kidsL l (p : Nat) = kdL l l.length (p + 1) (p + x.2.2.2) by
    unfold kidsL
    have hp3 : p < l.length := by omega
    rw [if_neg (by omega), Int.toNat_natCast, getD_at hp3, HAT.out])
  rw [HKL.out] at hki HKV
  rw [HKL.out]
  have HKB := Lib.hid (show (kdL l l.length (p + 1) (p + x.2.2.2)).length ≤ l.length from kdL_len l _ _ _)
  generalize hKd : kdL l l.length (p + 1) (p + x.2.2.2) = Kd at *
  have HKd := Lib.hid hKd
  clear hkv b3 hki HKD HKL D1 B1 R1 hKd
  go_wp2_with fail
  have R0 := Lib.hid (show OxRel d w.heap.size w1.heap.size l false w.heap.size x (p + 1) (.slice ka Kd.length kc) Kd (p + x.2.2.2) (⟨opn false, [], 0⟩ :: Om) w (.slice (some ⟨G0, 0, none⟩) 1 1) (.int .i64 0) w3 from by
    obtain ⟨hn, hw, hx, hle⟩ := HALL.out
    have hll0 := HLL.out
    refine ⟨0, l.length, pA ++ [x], lm, rs, km, Om, [⟨opn false, [], 0⟩], rfl, Nat.zero_le _, R3.out, ?_, by rw [List.length_append, HPA.out]; omega, by rw [List.length_append, HPA.out]; simp, by rw [hle]; simp, by have h1 : (pA ++ [x]).length = p + 1 := by { rw [List.length_append, HPA.out]; rfl }; omega, hw, Lib.hid rfl, D3.out, HKV.out, B3.out⟩
    rw [List.drop_zero, List.length_append, HPA.out, ← HKd.out]; rfl)
  clear D3 HKV B3 R3
  go_loopw [6, 8] (fun v i wr => OxRel d w.heap.size w1.heap.size l false w.heap.size x (p + 1) (.slice ka Kd.length kc) Kd (p + x.2.2.2) (⟨opn false, [], 0⟩ :: Om) w v i wr) (fun _ i _ => Kd.length - (intOf i).toNat)
  case atStart => exact R0.out
  case round =>
    clear R0
    obtain ⟨j, f, pB, lr, rs2, tr, Or, bs2, rfl, hj, hrow, hdr, hf, hP0, hle, hE, hw, hall, hnd, hik, hbel⟩ := hrel
    have HLE := Lib.hid hle
    clear hle
    obtain ⟨ka2, kc2, ek, hkI⟩ := hik.inn
    simp only [Value.slice.injEq, true_and] at ek
    obtain ⟨rfl, rfl⟩ := ek
    have hbz : bs2.length + Or.length ≤ 3000001 := by have := congrArg List.length hall.out; simp only [List.length_append, List.length_cons] at this; omega
    by_cases hlt : j < Kd.length
    · have p3 : decide (j < Kd.length) = true := decide_eq_true hlt
      have p4 : (j : Int) < (Kd.length : Int) := by omega
      have p5 : (0 : Int) ≤ (j : Int) := by omega
      have hj1 : (j : Int) ≤ 1099511627776 := by have := HKB.out; omega
      obtain ⟨kb, rfl, hkb, hck⟩ := hkI j hlt
      have hd2 : Kd.drop j = Kd[j] :: Kd.drop (j + 1) := List.drop_eq_getElem_cons hlt
      rw [hd2] at hdr
      have hlr : lr ≠ [] := fun e => by
        rw [kdL_end (by rw [hE, e]; simp)] at hdr; cases hdr
      obtain ⟨f, rfl⟩ : ∃ f', f = f' + 1 := by
        cases f with
        | zero => rw [show kdL l 0 pB.length (p + x.2.2.2) = [] from rfl] at hdr; cases hdr
        | succ f => exact ⟨f, rfl⟩
      rcases wg_inv1 hw with ⟨e, _⟩ | ⟨key2, l1, l2, k1, k2, O1, O2, w1', w2', e1, e2⟩
      · exact absurd e hlr
      · obtain ⟨y, ys, hy1, hy2, hy3⟩ := wf_key (wg_wf w1')
        have hll1 := wf_pos (wg_wf w1') rfl
        obtain ⟨hq, hqa⟩ := at_front (l := l) (pA := pB) (seg := l1) (rs := l2 ++ rs2) (by rw [HLE.out, e1]; simp) hy1
        have hlt2 : pB.length < p + x.2.2.2 := by rw [hE, e1, List.length_append]; omega
        rw [kdL_go hlt2 hq, hqa, hy2] at hdr
        obtain ⟨hk0, hkr⟩ := List.cons.inj hdr
        rw [hk0] at hck
        have HE := Lib.hid (And.intro hE (And.intro hkr (And.intro e1 (And.intro hf (And.intro hP0 hlt)))))
        have HW := Lib.hid (And.intro w1' w2')
        have HO := Lib.hid e2
        have HK0 := Lib.hid hk0
        have HB := Lib.hid hbel
        have HIK := Lib.hid hik
        have HND := Lib.hid hnd
        have HRW := Lib.hid hrow
        have HNI := Lib.hid (fun wx h => HUP.out wx (hbel.trans h))
        obtain ⟨g2, eg2, _, n0, n1, _, _⟩ := HUP.out wr hbel pB.length hq
        obtain rfl : g = g2 := by simpa using eg2
        rw [hqa, hy3] at n1
        have hln : l1.length ≤ n := by
          obtain ⟨hn, hw0, hx, hle0⟩ := HALL.out
          have h1 := congrArg List.length e1
          rw [List.length_append] at h1
          omega
        have hO12 : bs2.length + 1 + O1.length ≤ 3000002 := by
          rw [e2] at hbz
          simp only [List.length_append] at hbz
          have := (wg_olen w1').1 rfl
          simp only [Bool.false_eq_true, if_false, List.length_nil] at hbz; omega
        have HC := Lib.hid (fun wx h => HI.out d l1 pB (l2 ++ rs2) k1 O1 key2 wx hln w1' (by rw [HLE.out, e1]; simp) (HNI.out wx h))
        generalize hqq : pB.length = q at *
        have HQQ := Lib.hid hqq
        have r1 : (q : Int) < (l.length : Int) := by omega
        have r2 : (0 : Int) ≤ (q : Int) := by omega
        have c0 := hnd.c0
        have hBr := hbel.size
        clear hdr hlr hk0 hkr hy1 hy2 hy3 hE e1 e2 hw hbel hnd hik hd2 hf hP0 hlt2 hkI n0 hqa hll1 w1' w2' eg2 hqq hln hrow hbz
        go_wp2_with fail
        with_reducible refine (HC.out wr (Below.refl _ _)).mono ?_
        rintro e w5 ⟨v5, rfl, hr5, b5⟩
        have b5' := b5
        have R5 := Lib.hid hr5
        have RA := Lib.hid (HRW.out.next b5)
        have B5 := Lib.hid (HB.out.trans (b5.mono hBr))
        have N5 := Lib.hid (show NdT 28 w5 w.heap.size x from (b5.block _ (lt_of_block HND.out)).trans HND.out)
        have I5 := Lib.hid (HIK.out.below b5 (Nat.le_refl _))
        have hB5 := Nat.le_trans hBr b5.size
        clear hr5 b5 b5' HC
        go_wp2_with (at_builtin; go_loud (refine wpList_append_opn rfl (.tmp 55) (.tmp 61) rfl u6 w.heap.size bs2 RA.out hB5 rfl v5 wr.heap.size O1 R5.out rfl (by omega) ?_; intro v6 w6 hr6 g6; have RW := Lib.hid hr6; have BW := Lib.hid (B5.out.trans (g6.below hB5)); have NW := Lib.hid (show NdT 28 w6 w.heap.size x from g6.keep N5.out (by decide)); have IW := Lib.hid (irow_go I5.out g6); clear hr6 g6))
        go_roundw
        case rel =>
          obtain ⟨d1, d2, d3, d4, d5, d6⟩ := HE.out
          have hw1 := HW.out.2
          refine (⟨j + 1, f, pB ++ l1, l2, rs2, k2, O2, bs2 ++ O1, by go_num, d6, RW.out, ?_, ?_, ?_, ?_, ?_, by simpa using hw1, Lib.hid ?_, NW.out, IW.out, BW.out⟩ : OxRel d w.heap.size w1.heap.size l false w.heap.size x (p + 1) (.slice (some ⟨kb, 0, none⟩) Kd.length kc) Kd (p + x.2.2.2) (⟨opn false, [], 0⟩ :: Om) w _ _ _)
          · rw [List.length_append, HQQ.out]; exact d2
          · rw [List.length_append, HQQ.out]; have := wf_pos (wg_wf HW.out.1) rfl; omega
          · rw [List.length_append, HQQ.out]; omega
          · rw [HLE.out, d3]; simp
          · rw [List.length_append, HQQ.out]
            have h1 := congrArg List.length d3
            rw [List.length_append] at h1
            omega
          · rw [← hall.out, HO.out]; simp
        case measure =>
          simp [intOf]; have := HE.out.2.2.2.2.2; omega
    · have p3 : decide (j < Kd.length) = false := decide_eq_false hlt
      have p4 : ¬ (j : Int) < (Kd.length : Int) := by omega
      have hend : Or = [] := by
        rcases wg_inv1 hw with e | ⟨key2, l1, l2, k1, k2, O1, O2, w1', w2', e1, e2⟩
        · exact e.2
        · exfalso
          obtain ⟨y, ys, hy1, hy2, hy3⟩ := wf_key (wg_wf w1')
          have hll1 := wf_pos (wg_wf w1') rfl
          obtain ⟨hq, hqa⟩ := at_front (l := l) (pA := pB) (seg := l1) (rs := l2 ++ rs2) (by rw [HLE.out, e1]; simp) hy1
          have hlt2 : pB.length < p + x.2.2.2 := by rw [hE, e1, List.length_append]; omega
          obtain ⟨f, rfl⟩ : ∃ f', f = f' + 1 := ⟨f - 1, by omega⟩
          rw [kdL_go hlt2 hq, List.drop_eq_nil_of_le (by omega)] at hdr
          cases hdr
      subst hend
      have hA := hall.out
      rw [List.append_nil] at hA
      rw [hA] at hrow
      have HRW := Lib.hid hrow
      have HB := Lib.hid hbel
      have hBr := hbel.size
      have hz2 : Om.length + 1 ≤ 1099511627776 := by omega
      clear hrow hbel hdr hf hP0 hE hw hall hnd hik hA hkI hbz
      go_wp2_with (at_builtin; go_loud (refine wpList_append_op1 rfl (.tmp 63) (.tmp 65) rfl u6 wr w.heap.size _ HRW.out hBr rfl 101 ⟨#[]⟩ 0 ⟨101, [], 0⟩ rfl rfl rfl rfl (by rw [List.length_cons]; exact hz2) ?_; intro v6 w6 hr6 g6; have RW := Lib.hid hr6; have BW := Lib.hid (HB.out.trans (g6.below hBr)); clear hr6 g6))
      go_ret
      exact ⟨_, rfl, RW.out, BW.out⟩
set_option maxRecDepth 20000 in
set_option maxHeartbeats 4000000 in
theorem ops_nodeO {a : Option Addr} {cap : Nat} {l : List ND} {n : Nat} (hI : OpsC a cap l n) (hl : l.length ≤ 1000000) (hsz : SzOk l) (key : List UInt8) (lm pA rs : List ND) (km : List TK) (Om : List OP) (d : Nat) (w : World)
    (hn : lm.length ≤ n) (hw : Wg d (some (true, true)) [] lm km Om) (hle : l = pA ++ (((opn true, key, [], lm.length + 1) :: lm) ++ rs)) (hin : NIn w a l) :
    Calls Tryz.prog 8 #[.slice a l.length cap, .int .i64 (pA.length : Nat)] w fun e w' => ∃ v, e = .returned v ∧ ORow w' w.heap.size v (⟨opn true, [], 0⟩ :: (Om ++ [⟨101, [], 0⟩])) ∧ Below w.heap.size w w' := by
  obtain ⟨x, hxd⟩ : ∃ x : ND, x = (opn true, key, [], lm.length + 1) := ⟨_, rfl⟩
  rw [← hxd] at hle
  have hx0 : x.1 = opn true := by rw [hxd]
  have hx3 : x.2.2.2 = lm.length + 1 := by rw [hxd]
  obtain ⟨hp, hat⟩ := at_front hle (x := x) (r := lm) rfl
  obtain ⟨g, rfl, hgl, c0, c1, c2, c3⟩ := hin pA.length hp
  rw [hat] at c0 c1 c2 c3
  have HUP := Lib.hid (show ∀ wx, Below w.heap.size w wx → NIn wx (some ⟨g, 0, none⟩) l from fun wx hb => hin.below hb (Nat.le_refl _))
  generalize hP : pA.length = p at *
  have q1 : (p : Int) < (l.length : Int) := by omega
  have q2 : (0 : Int) ≤ (p : Int) := by omega
  have d0 : NdT 28 (w.alloc (.cells (ndC x).toArray 28)) w.heap.size x := heap_alloc_new w (.cells (ndC x).toArray 28)
  have b0 := alloc_below w (.cells (ndC x).toArray 28)
  have D0 := Lib.hid d0
  have B0 := Lib.hid b0
  have hol := (wg_olen hw).2
  have HALL := Lib.hid (And.intro hn (And.intro hw (And.intro hx3 hle)))
  have HSZ := Lib.hid hsz
  have HAT := Lib.hid hat
  have HI := Lib.hid hI
  have HX0 := Lib.hid hx0
  have HPA := Lib.hid hP
  have HLL := Lib.hid (show l.length = p + ((lm.length + 1) + rs.length) by rw [hle]; simp [hP]; omega)
  have hOm : Om.length ≤ 3000000 := by have := HLL.out; omega
  have x1 : ((x.1.toNat : Int) != 123) = false := by rw [hx0]; decide
  have x2 : ((x.1.toNat : Int) != 91) = true := by rw [hx0]; decide
  have x3 : ((x.1.toNat : Int) == 123) = true := by rw [hx0]; decide
  have HF := Lib.hid (fun w1 : World => fun hb : w.heap.size ≤ w1.heap.size => orow_one w1 w.heap.size hb ⟨opn true, [], 0⟩ ⟨#[]⟩ (x.1.toNat : Int) 0 (by rw [hx0]) rfl rfl)
  unfold ndC at D0 B0
  clear hn hw hx3 hle hin hsz hI hat d0 b0 hx0 hxd hP hol
  go_enter Tryz.func8, Tryz.ntmps8
  go_upto_region 4 with fail
  generalize w.alloc (.cells #[.int .u8 (x.1.toNat : Int), .string (bA x.2.1), .string (bA x.2.2.1), .int .i64 (x.2.2.2 : Nat)] 28) = w0 at *
  have e0 := D0.out.c0
  clear c0 c1 c2 c3
  have R1 := Lib.hid (HF.out w0 B0.out.size)
  have B1 := Lib.hid (B0.out.trans ((alloc_below w0 (.cells #[.int .u8 (x.1.toNat : Int), .string ⟨#[]⟩, .int .i64 0] 35)).mono B0.out.size))
  have D1 := Lib.hid (show NdT 28 (w0.alloc (.cells #[.int .u8 (x.1.toNat : Int), .string ⟨#[]⟩, .int .i64 0] 35)) w.heap.size x from ((alloc_below w0 (.cells #[.int .u8 (x.1.toNat : Int), .string ⟨#[]⟩, .int .i64 0] 35)).block _ (lt_of_block D0.out)).trans D0.out)
  have HKD := Lib.hid (rkids_any (some ⟨g, 0, none⟩) cap l (p : Nat) _ (by omega) (HUP.out _ B1.out) HSZ.out (by omega) (by omega))
  clear D0 B0 HF
  go_wp2_with fail
  generalize hG : w0.heap.size = G0 at *
  generalize w0.alloc (.cells #[.int .u8 (x.1.toNat : Int), .string ⟨#[]⟩, .int .i64 0] 35) = w1 at *
  clear e0 hG
  with_reducible refine HKD.out.mono ?_
  rintro e w3 ⟨kv, rfl, hkv, b3⟩
  have B3 := Lib.hid (B1.out.trans (b3.mono B1.out.size))
  have R3 := Lib.hid (R1.out.next b3)
  have D3 := Lib.hid (show NdT 28 w3 w.heap.size x from (b3.block _ (lt_of_block D1.out)).trans D1.out)
  obtain ⟨ka, kc, rfl, hki⟩ := hkv.inn
  have HKV := Lib.hid hkv
  have HKL := Lib.hid (show kidsL l (p : Nat) = kdL l l.length (p + 1) (p + x.2.2.2) by
    unfold kidsL
    have hp3 : p < l.length := by omega
    rw [if_neg (by omega), Int.toNat_natCast, getD_at hp3, HAT.out])
  rw [HKL.out] at hki HKV
  rw [HKL.out]
  have HKB := Lib.hid (show (kdL l l.length (p + 1) (p + x.2.2.2)).length ≤ l.length from kdL_len l _ _ _)
  generalize hKd : kdL l l.length (p + 1) (p + x.2.2.2) = Kd at *
  have HKd := Lib.hid hKd
  clear hkv b3 hki HKD HKL D1 B1 R1 hKd
  go_wp2_with fail
  have R0 := Lib.hid (show OxRel d w.heap.size w1.heap.size l true w.heap.size x (p + 1) (.slice ka Kd.length kc) Kd (p + x.2.2.2) (⟨opn true, [], 0⟩ :: Om) w (.slice (some ⟨G0, 0, none⟩) 1 1) (.int .i64 0) w3 from by
    obtain ⟨hn, hw, hx, hle⟩ := HALL.out
    have hll0 := HLL.out
    refine ⟨0, l.length, pA ++ [x], lm, rs, km, Om, [⟨opn true, [], 0⟩], rfl, Nat.zero_le _, R3.out, ?_, by rw [List.length_append, HPA.out]; omega, by rw [List.length_append, HPA.out]; simp, by rw [hle]; simp, by have h1 : (pA ++ [x]).length = p + 1 := by { rw [List.length_append, HPA.out]; rfl }; omega, hw, Lib.hid rfl, D3.out, HKV.out, B3.out⟩
    rw [List.drop_zero, List.length_append, HPA.out, ← HKd.out]; rfl)
  clear D3 HKV B3 R3
  go_loopw [6, 8] (fun v i wr => OxRel d w.heap.size w1.heap.size l true w.heap.size x (p + 1) (.slice ka Kd.length kc) Kd (p + x.2.2.2) (⟨opn true, [], 0⟩ :: Om) w v i wr) (fun _ i _ => Kd.length - (intOf i).toNat)
  case atStart => exact R0.out
  case round =>
    clear R0
    obtain ⟨j, f, pB, lr, rs2, tr, Or, bs2, rfl, hj, hrow, hdr, hf, hP0, hle, hE, hw, hall, hnd, hik, hbel⟩ := hrel
    have HLE := Lib.hid hle
    clear hle
    obtain ⟨ka2, kc2, ek, hkI⟩ := hik.inn
    simp only [Value.slice.injEq, true_and] at ek
    obtain ⟨rfl, rfl⟩ := ek
    have hbz : bs2.length + Or.length ≤ 3000001 := by have := congrArg List.length hall.out; simp only [List.length_append, List.length_cons] at this; omega
    by_cases hlt : j < Kd.length
    · have p3 : decide (j < Kd.length) = true := decide_eq_true hlt
      have p4 : (j : Int) < (Kd.length : Int) := by omega
      have p5 : (0 : Int) ≤ (j : Int) := by omega
      have hj1 : (j : Int) ≤ 1099511627776 := by have := HKB.out; omega
      obtain ⟨kb, rfl, hkb, hck⟩ := hkI j hlt
      have hd2 : Kd.drop j = Kd[j] :: Kd.drop (j + 1) := List.drop_eq_getElem_cons hlt
      rw [hd2] at hdr
      have hlr : lr ≠ [] := fun e => by
        rw [kdL_end (by rw [hE, e]; simp)] at hdr; cases hdr
      obtain ⟨f, rfl⟩ : ∃ f', f = f' + 1 := by
        cases f with
        | zero => rw [show kdL l 0 pB.length (p + x.2.2.2) = [] from rfl] at hdr; cases hdr
        | succ f => exact ⟨f, rfl⟩
      rcases wg_inv1 hw with ⟨e, _⟩ | ⟨key2, l1, l2, k1, k2, O1, O2, w1', w2', e1, e2⟩
      · exact absurd e hlr
      · obtain ⟨y, ys, hy1, hy2, hy3⟩ := wf_key (wg_wf w1')
        have hll1 := wf_pos (wg_wf w1') rfl
        obtain ⟨hq, hqa⟩ := at_front (l := l) (pA := pB) (seg := l1) (rs := l2 ++ rs2) (by rw [HLE.out, e1]; simp) hy1
        have hlt2 : pB.length < p + x.2.2.2 := by rw [hE, e1, List.length_append]; omega
        rw [kdL_go hlt2 hq, hqa, hy2] at hdr
        obtain ⟨hk0, hkr⟩ := List.cons.inj hdr
        rw [hk0] at hck
        have HE := Lib.hid (And.intro hE (And.intro hkr (And.intro e1 (And.intro hf (And.intro hP0 hlt)))))
        have HW := Lib.hid (And.intro w1' w2')
        have HO := Lib.hid e2
        have HK0 := Lib.hid hk0
        have HB := Lib.hid hbel
        have HIK := Lib.hid hik
        have HND := Lib.hid hnd
        have HRW := Lib.hid hrow
        have HNI := Lib.hid (fun wx h => HUP.out wx (hbel.trans h))
        obtain ⟨g2, eg2, _, n0, n1, _, _⟩ := HUP.out wr hbel pB.length hq
        obtain rfl : g = g2 := by simpa using eg2
        rw [hqa, hy3] at n1
        have hln : l1.length ≤ n := by
          obtain ⟨hn, hw0, hx, hle0⟩ := HALL.out
          have h1 := congrArg List.length e1
          rw [List.length_append] at h1
          omega
        have hO12 : bs2.length + 1 + O1.length ≤ 3000002 := by
          rw [e2] at hbz
          simp only [List.length_append] at hbz
          have := (wg_olen w1').1 rfl
          simp only [if_true, List.length_cons, List.length_nil] at hbz; omega
        have HC := Lib.hid (fun wx h => HI.out d l1 pB (l2 ++ rs2) k1 O1 key2 wx hln w1' (by rw [HLE.out, e1]; simp) (HNI.out wx h))
        generalize hqq : pB.length = q at *
        have HQQ := Lib.hid hqq
        have r1 : (q : Int) < (l.length : Int) := by omega
        have r2 : (0 : Int) ≤ (q : Int) := by omega
        have c0 := hnd.c0
        have hBr := hbel.size
        clear hdr hlr hk0 hkr hy1 hy2 hy3 hE e1 e2 hw hbel hnd hik hd2 hf hP0 hlt2 hkI n0 hqa hll1 w1' w2' eg2 hqq hln hrow hbz
        go_wp2_with (at_builtin; go_loud (refine wpList_append_op1 rfl (.tmp 43) (.tmp 53) rfl u6 wr w.heap.size bs2 HRW.out hBr rfl 107 (bA key2) 0 ⟨107, key2, 0⟩ rfl rfl rfl rfl (by omega) ?_; intro v4 w4 hr4 g4; have R4 := Lib.hid hr4; have B4 := Lib.hid (HB.out.trans (g4.below hBr)); have N4 := Lib.hid (show NdT 28 w4 w.heap.size x from g4.keep HND.out (by decide)); have I4 := Lib.hid (irow_go HIK.out g4); have hB4 := Nat.le_trans hBr g4.size; have HC4 := Lib.hid (HC.out w4 (g4.below hBr)); have hck4 := irow_cell I4.out j HE.out.2.2.2.2.2; rw [HK0.out] at hck4; clear hr4 g4 HC hck))
        with_reducible refine HC4.out.mono ?_
        rintro e w5 ⟨v5, rfl, hr5, b5⟩
        have R5 := Lib.hid hr5
        have RA := Lib.hid (R4.out.next b5)
        have B5 := Lib.hid (B4.out.trans (b5.mono hB4))
        have N5 := Lib.hid (show NdT 28 w5 w.heap.size x from (b5.block _ (lt_of_block N4.out)).trans N4.out)
        have I5 := Lib.hid (I4.out.below b5 (Nat.le_refl _))
        have hB5 := Nat.le_trans hB4 b5.size
        have hz5 : (bs2 ++ [(⟨107, key2, 0⟩ : OP)]).length + O1.length ≤ 1099511627776 := by rw [List.length_append]; simp only [List.length_cons, List.length_nil]; omega
        clear hr5 b5 HC4
        go_wp2_with (at_builtin; go_loud (refine wpList_append_opn rfl (.tmp 55) (.tmp 61) rfl v4 w.heap.size (bs2 ++ [(⟨107, key2, 0⟩ : OP)]) RA.out hB5 rfl v5 w4.heap.size O1 R5.out rfl hz5 ?_; intro v6 w6 hr6 g6; have RW := Lib.hid hr6; have BW := Lib.hid (B5.out.trans (g6.below hB5)); have NW := Lib.hid (show NdT 28 w6 w.heap.size x from g6.keep N5.out (by decide)); have IW := Lib.hid (irow_go I5.out g6); clear hr6 g6))
        go_roundw
        case rel =>
          obtain ⟨d1, d2, d3, d4, d5, d6⟩ := HE.out
          have hw1 := HW.out.2
          refine (⟨j + 1, f, pB ++ l1, l2, rs2, k2, O2, bs2 ++ [⟨107, key2, 0⟩] ++ O1, by go_num, d6, RW.out, ?_, ?_, ?_, ?_, ?_, by simpa using hw1, Lib.hid ?_, NW.out, IW.out, BW.out⟩ : OxRel d w.heap.size w1.heap.size l true w.heap.size x (p + 1) (.slice (some ⟨kb, 0, none⟩) Kd.length kc) Kd (p + x.2.2.2) (⟨opn true, [], 0⟩ :: Om) w _ _ _)
          · rw [List.length_append, HQQ.out]; exact d2
          · rw [List.length_append, HQQ.out]; have := wf_pos (wg_wf HW.out.1) rfl; omega
          · rw [List.length_append, HQQ.out]; omega
          · rw [HLE.out, d3]; simp
          · rw [List.length_append, HQQ.out]
            have h1 := congrArg List.length d3
            rw [List.length_append] at h1
            omega
          · rw [← hall.out, HO.out]; simp
        case measure =>
          simp [intOf]; have := HE.out.2.2.2.2.2; omega
    · have p3 : decide (j < Kd.length) = false := decide_eq_false hlt
      have p4 : ¬ (j : Int) < (Kd.length : Int) := by omega
      have hend : Or = [] := by
        rcases wg_inv1 hw with e | ⟨key2, l1, l2, k1, k2, O1, O2, w1', w2', e1, e2⟩
        · exact e.2
        · exfalso
          obtain ⟨y, ys, hy1, hy2, hy3⟩ := wf_key (wg_wf w1')
          have hll1 := wf_pos (wg_wf w1') rfl
          obtain ⟨hq, hqa⟩ := at_front (l := l) (pA := pB) (seg := l1) (rs := l2 ++ rs2) (by rw [HLE.out, e1]; simp) hy1
          have hlt2 : pB.length < p + x.2.2.2 := by rw [hE, e1, List.length_append]; omega
          obtain ⟨f, rfl⟩ : ∃ f', f = f' + 1 := ⟨f - 1, by omega⟩
          rw [kdL_go hlt2 hq, List.drop_eq_nil_of_le (by omega)] at hdr
          cases hdr
      subst hend
      have hA := hall.out
      rw [List.append_nil] at hA
      rw [hA] at hrow
      have HRW := Lib.hid hrow
      have HB := Lib.hid hbel
      have hBr := hbel.size
      have hz2 : Om.length + 1 ≤ 1099511627776 := by omega
      clear hrow hbel hdr hf hP0 hE hw hall hnd hik hA hkI hbz
      go_wp2_with (at_builtin; go_loud (refine wpList_append_op1 rfl (.tmp 63) (.tmp 65) rfl u6 wr w.heap.size _ HRW.out hBr rfl 101 ⟨#[]⟩ 0 ⟨101, [], 0⟩ rfl rfl rfl rfl (by rw [List.length_cons]; exact hz2) ?_; intro v6 w6 hr6 g6; have RW := Lib.hid hr6; have BW := Lib.hid (HB.out.trans (g6.below hBr)); clear hr6 g6))
      go_ret
      exact ⟨_, rfl, RW.out, BW.out⟩
/-- ops tells what a writer has to be told to write the tree at a place. -/
theorem ops_any {a : Option Addr} {cap : Nat} {l : List ND} (hl : l.length ≤ 1000000) (hsz : SzOk l) : ∀ n, OpsC a cap l n
  | 0 => fun d seg pA rs tk O key w hs hw _ _ => by
    have := wf_pos (wg_wf hw) rfl
    omega
  | n + 1 => fun d seg pA rs tk O key w hs hw hle hin => by
    rcases wg_inv0 hw with ⟨t, h1, rfl, rfl⟩ | ⟨d2, ob, lm, km, Om, h1, rfl, rfl⟩
    · obtain ⟨hp, hat⟩ := at_front hle (x := (t.1, key, t.2, 1)) (r := []) rfl
      exact ops_leaf (t.1, key, t.2, 1) a cap pA.length l w hp hat h1 hl hin
    · have hn : lm.length ≤ n := by simp only [List.length_cons] at hs; omega
      cases ob
      · exact ops_nodeL (ops_any hl hsz n) hl hsz key lm pA rs km Om d2 w hn h1 hle hin
      · exact ops_nodeO (ops_any hl hsz n) hl hsz key lm pA rs km Om d2 w hn h1 hle hin
end Go.Proofs.YtnbhhnkcfbfdcaaGreatDoor
