/- Fields in memory: a block that is one, lists of them; 'append' of one; two compared. Of no package but the types' facts. -/
import Derived.Test.YtjpppnfkpnfhoaaPrCs
import Derived.Deep.MidRow
import Derived.Laws.StructEq
import Derived.OrdersHeld
namespace Go.Proofs.Ytjpppnfkpnfhoaa
open Go Go.RowKit
set_option linter.unusedVariables false

def pfV (x : FD) : Value := .agg #[.int .i64 x.1, .int .i64 x.2.1, .int .u64 (x.2.2.1 : Nat), .string x.2.2.2]
/-- Block b is the field x, of type t. -/
def PfT (t : TypeId) (w : World) (b : Nat) (x : FD) : Prop := w.heap[b]? = some (.cells #[.int .i64 x.1, .int .i64 x.2.1, .int .u64 (x.2.2.1 : Nat), .string x.2.2.2] t (0, 0))
theorem PfT.lt {t : TypeId} {w : World} {b : Nat} {x : FD} (h : PfT t w b x) : b < w.heap.size := lt_of_block h
theorem PfT.c0 {t : TypeId} {w : World} {b : Nat} {x : FD} (h : PfT t w b x) : w.cell? ⟨b, 0, none⟩ = some (.int .i64 x.1) := by unfold PfT at h; simp [World.cell?, h]
theorem PfT.c1 {t : TypeId} {w : World} {b : Nat} {x : FD} (h : PfT t w b x) : w.cell? ⟨b, 1, none⟩ = some (.int .i64 x.2.1) := by unfold PfT at h; simp [World.cell?, h]
theorem PfT.c2 {t : TypeId} {w : World} {b : Nat} {x : FD} (h : PfT t w b x) : w.cell? ⟨b, 2, none⟩ = some (.int .u64 (x.2.2.1 : Nat)) := by unfold PfT at h; simp [World.cell?, h]
theorem PfT.c3 {t : TypeId} {w : World} {b : Nat} {x : FD} (h : PfT t w b x) : w.cell? ⟨b, 3, none⟩ = some (.string x.2.2.2) := by unfold PfT at h; simp [World.cell?, h]
theorem PfT.fr {t : TypeId} {w : World} {b : Nat} {x : FD} (h : PfT t w b x) (o : Nat) : w.frozen? ⟨b, o, none⟩ = false := by unfold PfT at h; simp [World.frozen?, h]
theorem PfT.drewN {t : TypeId} {w : World} {b : Nat} {x : FD} (h : PfT t w b x) (n : Nat) : PfT t (w.drewN n) b x := h
theorem PfT.drew {t : TypeId} {w : World} {b : Nat} {x : FD} (h : PfT t w b x) : PfT t w.drew b x := h
theorem PfT.below {t : TypeId} {w w' : World} {b N : Nat} {x : FD} (h : PfT t w b x) (hb : Below N w w') (hN : b < N) : PfT t w' b x := (hb.block b hN).trans h
theorem PfT.only {t : TypeId} {w w' : World} {b d : Nat} {x : FD} (h : PfT t w b x) (ho : Only d w w') (hd : b ≠ d) : PfT t w' b x := (ho.block b h.lt hd).trans h
theorem PfT.alloc {t : TypeId} {w : World} {b : Nat} {x : FD} (h : PfT t w b x) (o : Obj) : PfT t (w.alloc o) b x := (Below.heap_alloc _ _ _ h.lt).trans h
theorem fd_alloc (w : World) (x : FD) (t : TypeId) : PfT t (w.alloc (.cells #[.int .i64 x.1, .int .i64 x.2.1, .int .u64 (x.2.2.1 : Nat), .string x.2.2.2] t)) w.heap.size x := heap_alloc_new w _
theorem fd_grow (w : World) (x : FD) (t : TypeId) : Below w.heap.size w (w.alloc (.cells #[.int .i64 x.1, .int .i64 x.2.1, .int .u64 (x.2.2.1 : Nat), .string x.2.2.2] t)) := (Below.refl _ w).alloc (Nat.le_refl _) _
theorem PfT.setAll {t : TypeId} {w : World} {b : Nat} {x : FD} (h : PfT t w b x) (y : FD) :
    PfT t ((((w.setCell ⟨b, 0, none⟩ (.int .i64 y.1)).setCell ⟨b, 1, none⟩ (.int .i64 y.2.1)).setCell ⟨b, 2, none⟩ (.int .u64 (y.2.2.1 : Nat))).setCell ⟨b, 3, none⟩ (.string y.2.2.2)) b y :=
  heap_setCell_block (heap_setCell_block (heap_setCell_block (heap_setCell_block h _) _) _) _
theorem PfT.setNum {t : TypeId} {w : World} {b : Nat} {n v : Int} {u : Nat} {s : ByteArray} (h : PfT t w b (n, v, u, s)) (u' : Nat) : PfT t (w.setCell ⟨b, 2, none⟩ (.int .u64 (u' : Nat))) b (n, v, u', s) := heap_setCell_block h _
theorem PfT.setTxt {t : TypeId} {w : World} {b : Nat} {n v : Int} {u : Nat} {s : ByteArray} (h : PfT t w b (n, v, u, s)) (s' : ByteArray) : PfT t (w.setCell ⟨b, 3, none⟩ (.string s')) b (n, v, u, s') := heap_setCell_block h _
theorem Only.setFd (w : World) (b : Nat) (y : FD) : Only b w ((((w.setCell ⟨b, 0, none⟩ (.int .i64 y.1)).setCell ⟨b, 1, none⟩ (.int .i64 y.2.1)).setCell ⟨b, 2, none⟩ (.int .u64 (y.2.2.1 : Nat))).setCell ⟨b, 3, none⟩ (.string y.2.2.2)) :=
  ((((Only.refl _ _).setCell _ _).setCell _ _).setCell _ _).setCell _ _
theorem set_keeps {w W : World} {N b o : Nat} {x : Value} (h : Below N w W) (hb : N ≤ b) : Below N w (W.setCell ⟨b, o, none⟩ x) :=
  h.trans ⟨rfl, rfl, rfl, by simp [World.setCell], fun k hk => Below.heap_setCell _ _ _ _ (show k ≠ b from Nat.ne_of_lt (Nat.lt_of_lt_of_le hk hb))⟩
theorem set_only {w W : World} {c b o : Nat} {x : Value} (h : Only c w W) (hb : w.heap.size ≤ b) : Only c w (W.setCell ⟨b, o, none⟩ x) :=
  ⟨h.os, h.tape, h.output, by have := h.size; simpa [World.setCell] using this, fun k hk hc => (Below.heap_setCell _ _ _ _ (show k ≠ b from Nat.ne_of_lt (Nat.lt_of_lt_of_le hk hb))).trans (h.block k hk hc)⟩
theorem set_cur {w : World} {b k o : Nat} {x : Value} {t : TypeId} {c : CS} (h : CurT t w k c) (hk : k ≠ b) : CurT t (w.setCell ⟨b, o, none⟩ x) k c := (Below.heap_setCell _ _ _ _ hk).trans h
theorem set_fd {w : World} {b k o : Nat} {x : Value} {t : TypeId} {y : FD} (h : PfT t w k y) (hk : k ≠ b) : PfT t (w.setCell ⟨b, o, none⟩ x) k y := (Below.heap_setCell _ _ _ _ hk).trans h
theorem set_size (w : World) (a : Addr) (x : Value) : (w.setCell a x).heap.size = w.heap.size := by simp [World.setCell]

/-- Fields as cells. -/
def fV (l : List FD) : List Value := l.flatMap fun x => [.int .i64 x.1, .int .i64 x.2.1, .int .u64 (x.2.2.1 : Nat), .string x.2.2.2]
theorem fV_cons (x : FD) (l : List FD) : fV (x :: l) = .int .i64 x.1 :: .int .i64 x.2.1 :: .int .u64 (x.2.2.1 : Nat) :: .string x.2.2.2 :: fV l := rfl
theorem fV_append (l m : List FD) : fV (l ++ m) = fV l ++ fV m := List.flatMap_append
theorem fV_length : ∀ l : List FD, (fV l).length = l.length * 4
  | [] => rfl
  | x :: l => by rw [fV_cons]; simp only [List.length_cons]; rw [fV_length l]; omega
theorem fV_one (l : List FD) : ∀ v ∈ fV l, v.oneCell' = true := by
  intro v hv
  obtain ⟨x, _, hx⟩ := List.mem_flatMap.mp hv
  simp at hx
  rcases hx with rfl | rfl | rfl | rfl <;> rfl
theorem fV_get : ∀ (l : List FD) (k : Nat) (h : k < l.length), (fV l)[k * 4]? = some (.int .i64 l[k].1) ∧ (fV l)[k * 4 + 1]? = some (.int .i64 l[k].2.1) ∧ (fV l)[k * 4 + 2]? = some (.int .u64 (l[k].2.2.1 : Nat)) ∧ (fV l)[k * 4 + 3]? = some (.string l[k].2.2.2)
  | x :: l, 0, _ => ⟨rfl, rfl, rfl, rfl⟩
  | x :: l, k + 1, h => by
    have := fV_get l k (by simpa using h)
    rw [fV_cons, show (k + 1) * 4 = k * 4 + 1 + 1 + 1 + 1 by omega]
    exact this
/-- The slice v, that the call itself made, holds the fields l. -/
def FRow (e : TypeId) (w : World) (B : Nat) (v : Value) (l : List FD) : Prop := w.ownsRow B e 4 v l.length (fV l)
/-- Field x lies at place j of block b. -/
def FdAt (w : World) (b j : Nat) (x : FD) : Prop := w.cell? ⟨b, j * 4, none⟩ = some (.int .i64 x.1) ∧ w.cell? ⟨b, j * 4 + 1, none⟩ = some (.int .i64 x.2.1) ∧ w.cell? ⟨b, j * 4 + 2, none⟩ = some (.int .u64 (x.2.2.1 : Nat)) ∧ w.cell? ⟨b, j * 4 + 3, none⟩ = some (.string x.2.2.2)
theorem FdAt.below {w w' : World} {b j N : Nat} {x : FD} (h : FdAt w b j x) (hb : Below N w w') (hN : b < N) : FdAt w' b j x :=
  ⟨(hb.cell (p := ⟨b, j * 4, none⟩) hN).trans h.1, (hb.cell (p := ⟨b, j * 4 + 1, none⟩) hN).trans h.2.1, (hb.cell (p := ⟨b, j * 4 + 2, none⟩) hN).trans h.2.2.1, (hb.cell (p := ⟨b, j * 4 + 3, none⟩) hN).trans h.2.2.2⟩
/-- The slice at a, of so many fields, holds l. -/
def FIn (w : World) (a : Option Addr) (l : List FD) : Prop := ∀ j (h : j < l.length), ∃ b, a = some ⟨b, 0, none⟩ ∧ b < w.heap.size ∧ FdAt w b j l[j]
theorem FIn.below {w w' : World} {a : Option Addr} {l : List FD} {N : Nat} (h : FIn w a l) (hb : Below N w w') (hN : w.heap.size ≤ N) : FIn w' a l := fun j hj => by
  obtain ⟨b, e, hlt, h1⟩ := h j hj
  exact ⟨b, e, Nat.lt_of_lt_of_le hlt hb.size, h1.below hb (Nat.lt_of_lt_of_le hlt hN)⟩
theorem FIn.block {w : World} {a : Option Addr} {l : List FD} (h : FIn w a l) (h0 : l ≠ []) : ∃ g, a = some ⟨g, 0, none⟩ ∧ g < w.heap.size ∧ ∀ j (hj : j < l.length), FdAt w g j l[j] := by
  obtain ⟨g, e, hg, _⟩ := h 0 (Nat.pos_of_ne_zero (fun e => h0 (List.eq_nil_of_length_eq_zero e)))
  refine ⟨g, e, hg, fun j hj => ?_⟩
  obtain ⟨g', e', _, hc⟩ := h j hj
  rw [e] at e'
  obtain rfl : g = g' := by simpa using e'
  exact hc
theorem frow_nil (e : TypeId) (w : World) (B : Nat) : FRow e w B (.slice none 0 0) [] := ⟨rfl, .inl ⟨rfl, rfl⟩⟩
theorem FRow.below {e : TypeId} {w w' : World} {B N : Nat} {v : Value} {l : List FD} (h : FRow e w B v l) (hb : Below N w w') (hN : w.heap.size ≤ N) : FRow e w' B v l := by
  refine World.ownsRow.kept (row := none) h ⟨hb.os, hb.tape, hb.output, hb.size, fun k hk _ => hb.block k (by omega)⟩ ?_
  cases v.ownBlock <;> simp
theorem FRow.only {e : TypeId} {w w' : World} {B b : Nat} {v : Value} {l : List FD} (h : FRow e w B v l) (ho : Only b w w') (hb : b < B) : FRow e w' B v l := by
  obtain ⟨hl, h⟩ := h
  refine ⟨hl, ?_⟩
  rcases h with h | ⟨g, cap, cur, h1, h2, h3, h4⟩
  · exact .inl h
  · exact .inr ⟨g, cap, cur, h1, h2, (ho.block g (lt_of_block h3) (by omega)).trans h3, h4⟩
theorem FRow.base {e : TypeId} {w : World} {B N : Nat} {v : Value} {l : List FD} (h : FRow e w N v l) (hB : B ≤ N) : FRow e w B v l := by
  obtain ⟨hl, h⟩ := h
  refine ⟨hl, ?_⟩
  rcases h with h | ⟨g, cap, cur, h1, h2, h3, h4⟩
  · exact .inl h
  · exact .inr ⟨g, cap, cur, h1, by omega, h3, h4⟩
theorem FRow.inn {e : TypeId} {w : World} {B : Nat} {v : Value} {l : List FD} (h : FRow e w B v l) : ∃ a cap, v = .slice a l.length cap ∧ FIn w a l := by
  rcases h.2 with ⟨rfl, hn⟩ | ⟨g, cap, cur, rfl, _, hg, _⟩
  · have h0 : l = [] := List.eq_nil_of_length_eq_zero hn
    subst h0
    exact ⟨none, 0, rfl, fun j hj => by simp at hj⟩
  · refine ⟨_, cap, rfl, fun j hj => ⟨g, rfl, lt_of_block hg, ?_⟩⟩
    have hk := fV_get l j hj
    exact ⟨by rw [World.ownsRow.cellAt h (j * 4) (by omega), hk.1], by rw [World.ownsRow.cellAt h (j * 4 + 1) (by omega), hk.2.1], by rw [World.ownsRow.cellAt h (j * 4 + 2) (by omega), hk.2.2.1], by rw [World.ownsRow.cellAt h (j * 4 + 3) (by omega), hk.2.2.2]⟩
/-- 'append(list, x)' on a list that the call itself made. -/
theorem wpList_append_fd {P : Program} {ops : Array Oper} {rest : List Oper} {o : Oper} {a : Act} {Q : Exit → Act → World → Prop} (hgd : o.guard = none) (sl x : Operand) (t : TypeId)
    (ho : o.op = .call { callee := .builtin .append, args := #[sl, x], argTypes := #[t, t] })
    (e : TypeId) (ht : P.underlying t = some (.slice e)) (hi : (P.info? e).map (fun i => (i.zero, i.size, i.bytes)) = some (some (.agg #[.int .i64 0, .int .i64 0, .int .u64 0, .string ⟨#[]⟩]), 4, 40))
    (v : Value) (wr : World) (B : Nat) (l : List FD) (hb : FRow e wr B v l) (hB : B ≤ wr.heap.size) (hs : a.eval sl = v)
    (x0 x1 x2 : Int) (x3 : ByteArray) (y : FD) (h0 : x0 = y.1) (h1 : x1 = y.2.1) (h2 : x2 = (y.2.2.1 : Nat)) (h3 : x3 = y.2.2.2) (hx : a.eval x = .slice (some ⟨wr.heap.size, 0, none⟩) 1 1) (hlen : l.length ≤ 1099511627776)
    (h : ∀ v' w', FRow e w' B v' (l ++ [y]) → Below B wr w' → wpList P ops Q rest (a.put o.dst v') w') :
    wpList P ops Q (o :: rest) a (wr.alloc (.cells #[.int .i64 x0, .int .i64 x1, .int .u64 x2, .string x3] e)) := by
  subst h0 h1 h2 h3
  obtain ⟨i0, hi, hz, hz1, hz2⟩ := info_parts hi
  refine wpList_append_own _ hgd sl x t ho B e i0 (.agg #[.int .i64 0, .int .i64 0, .int .u64 0, .string ⟨#[]⟩]) 4 40 ht hi hz hz1 hz2 rfl (by decide) v l.length (fV l) hs (World.ownsRow.alloc hb _) ⟨wr.heap.size, 0, none⟩ 1 1 (fV [y]) hx rfl ?_ (fV_one _) (by unfold maxLen; omega) (by omega) (by simp; omega) ?_
  · intro j u hj
    have h1 := heap_alloc_new wr (.cells #[.int .i64 y.1, .int .i64 y.2.1, .int .u64 (y.2.2.1 : Nat), .string y.2.2.2] e)
    have e1 : (Addr.mk wr.heap.size 0 none).add j = ⟨wr.heap.size, j, none⟩ := by unfold Addr.add; split <;> simp_all
    rw [e1]
    simp only [World.cell?]
    rw [h1]
    match j, hj with
    | 0, hj => simpa [fV] using hj
    | 1, hj => simpa [fV] using hj
    | 2, hj => simpa [fV] using hj
    | 3, hj => simpa [fV] using hj
    | j + 4, hj => simp [fV] at hj
  · intro v' w' hown hgr _
    refine h v' w' ?_ ?_
    · unfold FRow
      rw [fV_append, List.length_append]
      exact hown
    · refine ⟨hgr.os, hgr.tape, hgr.output, by have := hgr.size; simp at this; omega, fun k hk => ?_⟩
      have hne : some k ≠ v.ownBlock := fun hk' => by
        have := (World.ownsRow.lt hb k hk'.symm).1
        omega
      rw [hgr.block k (by simp; omega) hne]
      exact Below.heap_alloc _ _ _ (by omega)
theorem ret_fd {x y : FD} (h : x = y) : Ending.returned (pfV x) = .returned (pfV y) := by rw [h]
/-- A result that is a field, in a variable of its own. -/
theorem fd_result {P : Program} {T : TypeId} {d : TypeDesc} (hu : P.underlying T = some d) (hd : (match d with | .struct _ | .array _ _ => true | _ => false) = true) (hi : (P.info? T).map (·.size) = some 4)
    {fn : Func} {p : Tmp} (h : fn.results = #[.cell p T]) {tmps : Array Value} {w : World} {g : Nat} {t : TypeId} {x : FD} (hg : PfT t w g x) (hp : tmps.getD p undef = .pointer (some ⟨g, 0, none⟩)) :
    (results fn tmps).run P w = .ok (pfV x) w :=
  results_cell_row h tmps w g t #[.int .i64 x.1, .int .i64 x.2.1, .int .u64 (x.2.2.1 : Nat), .string x.2.2.2] (0, 0) d hp hg hu hd hi
/-- Two results: a cursor and a field, each in a variable of its own. -/
theorem cfd_result {P : Program} {T U : TypeId} {d e : TypeDesc} (hu : P.underlying T = some d) (hd : (match d with | .struct _ | .array _ _ => true | _ => false) = true) (hi : (P.info? T).map (·.size) = some 4)
    (ku : P.underlying U = some e) (kd : (match e with | .struct _ | .array _ _ => true | _ => false) = true) (ki : (P.info? U).map (·.size) = some 4)
    {fn : Func} {p q : Tmp} (h : fn.results = #[.cell p T, .cell q U]) {tmps : Array Value} {w : World} {g k : Nat} {t u : TypeId} {c : CS} {x : FD} (hg : CurT t w g c) (hk : PfT u w k x) (hp : tmps.getD p undef = .pointer (some ⟨g, 0, none⟩)) (hq : tmps.getD q undef = .pointer (some ⟨k, 0, none⟩)) :
    (results fn tmps).run P w = .ok (.tuple #[c.val, pfV x]) w := by
  have h1 := run_loadVar_row (P := P) w g t T #[.string c.s, .int .i64 c.at_, .int .i64 c.en, .int .i64 c.er] (0, 0) d hg hu hd hi
  have h2 := run_loadVar_row (P := P) w k u U #[.int .i64 x.1, .int .i64 x.2.1, .int .u64 (x.2.2.1 : Nat), .string x.2.2.2] (0, 0) e hk ku kd ki
  have hp' : tmps[p]?.getD undef = .pointer (some ⟨g, 0, none⟩) := by simpa using hp
  have hq' : tmps[q]?.getD undef = .pointer (some ⟨k, 0, none⟩) := by simpa using hq
  simp [results, h, hp', hq', asAddr, h1, h2, pfV, CS.val]
theorem fd_dec (x y : FD) : (decide (x.1 = y.1) && (decide (x.2.1 = y.2.1) && (decide (x.2.2.1 = y.2.2.1) && decide (x.2.2.2 = y.2.2.2)))) = decide (x = y) := by
  obtain ⟨a, b, c, d⟩ := x
  obtain ⟨a', b', c', d'⟩ := y
  simp [Prod.mk.injEq]
theorem infoPf : (Try.prog.info? 94).map (fun i => (i.zero, i.size, i.bytes)) = some (some (.agg #[.int .i64 0, .int .i64 0, .int .u64 0, .string ⟨#[]⟩]), 4, 40) := by kernel_rfl
theorem sizePf : (Try.prog.info? 94).map (·.size) = some 4 := by kernel_rfl
theorem guardPf : Try.prog.eqGuardType Try.prog.depth 94 = false := by kernel_rfl
/-- Two fields compared. -/
theorem eqlInPf (x y : FD) (w : World) : (Op.equalIn 10000 94 (pfV x) (pfV y)).run Try.prog w = .ok (decide (x = y)) w := by
  have h1 : Try.prog.stoodInHeld 94 = false := by kernel_rfl
  have h2 : Try.prog.underlying 94 = some (.struct (Try.prog.fieldsOf 94)) := by kernel_rfl
  have p0 : ∀ z : FD, (part 3 #[.int .i64 z.1, .int .i64 z.2.1, .int .u64 (z.2.2.1 : Nat), .string z.2.2.2] 0).run Try.prog w = .ok (.int .i64 z.1) w := fun z => by simp [part, go_sem]
  have p1 : ∀ z : FD, (part 3 #[.int .i64 z.1, .int .i64 z.2.1, .int .u64 (z.2.2.1 : Nat), .string z.2.2.2] 1).run Try.prog w = .ok (.int .i64 z.2.1) w := fun z => by simp [part, go_sem]
  have p2 : ∀ z : FD, (part 26 #[.int .i64 z.1, .int .i64 z.2.1, .int .u64 (z.2.2.1 : Nat), .string z.2.2.2] 2).run Try.prog w = .ok (.int .u64 (z.2.2.1 : Nat)) w := fun z => by simp [part, go_sem]
  have p3 : ∀ z : FD, (part 9 #[.int .i64 z.1, .int .i64 z.2.1, .int .u64 (z.2.2.1 : Nat), .string z.2.2.2] 3).run Try.prog w = .ok (.string z.2.2.2) w := fun z => by simp [part, go_sem]
  unfold pfV
  rw [show (10000 : Nat) = 9999 + 1 from rfl, run_equalIn_struct w 9999 _ _ _ h2 h1]
  have q0 := run_equalIn_int (P := Try.prog) w 9998 3 .i64 .i64 x.1 y.1 Try.underlying3
  have q1 := run_equalIn_int (P := Try.prog) w 9998 3 .i64 .i64 x.2.1 y.2.1 Try.underlying3
  have q2 := run_equalIn_int (P := Try.prog) w 9998 26 .u64 .u64 (x.2.2.1 : Nat) (y.2.2.1 : Nat) Try.underlying26
  have q3 := run_equalIn_string (P := Try.prog) w 9998 9 x.2.2.2 y.2.2.2 Try.underlying9
  rw [text_eq] at q3
  rw [← fd_dec]
  simp [Program.fieldsOf, Try.underlying94, Op.eqFields, Sem.run_bind, p0, p1, p2, p3, Result.andThen_ok, q0, q1, q2, q3, -beq_iff_eq]
  by_cases e0 : x.1 = y.1
  · by_cases e1 : x.2.1 = y.2.1
    · by_cases e2 : x.2.2.1 = y.2.2.1
      · by_cases e3 : x.2.2.2 = y.2.2.2
        · simp [e0, e1, e2, e3]
        · simp [e0, e1, e2, e3]
      · have n2 : ¬ ((x.2.2.1 : Nat) : Int) = ((y.2.2.1 : Nat) : Int) := by omega
        simp [e0, e1, e2]
        intro h; exact absurd h n2
    · simp [e0, e1]
  · simp [e0]
theorem eqlPf (x y : FD) (w : World) : (binOp .eql 94 (pfV x) (pfV y)).run Try.prog w = .ok (.bool (decide (x = y))) w := by
  have h := eqlInPf x y w
  unfold pfV at h ⊢
  rw [run_eql_struct, h]; rfl
theorem neqPf (x y : FD) (w : World) : (binOp .neq 94 (pfV x) (pfV y)).run Try.prog w = .ok (.bool (!decide (x = y))) w := by
  have h := eqlInPf x y w
  unfold pfV at h ⊢
  rw [run_neq_struct, h]; rfl
theorem infoRf : (Try.prog.info? 46).map (fun i => (i.zero, i.size, i.bytes)) = some (some (.agg #[.int .i64 0, .int .i64 0, .int .u64 0, .string ⟨#[]⟩]), 4, 40) := by kernel_rfl
theorem sizeRf : (Try.prog.info? 46).map (·.size) = some 4 := by kernel_rfl
theorem guardRf : Try.prog.eqGuardType Try.prog.depth 46 = false := by kernel_rfl
/-- Two fields compared. -/
theorem eqlInRf (x y : FD) (w : World) : (Op.equalIn 10000 46 (pfV x) (pfV y)).run Try.prog w = .ok (decide (x = y)) w := by
  have h1 : Try.prog.stoodInHeld 46 = false := by kernel_rfl
  have h2 : Try.prog.underlying 46 = some (.struct (Try.prog.fieldsOf 46)) := by kernel_rfl
  have p0 : ∀ z : FD, (part 3 #[.int .i64 z.1, .int .i64 z.2.1, .int .u64 (z.2.2.1 : Nat), .string z.2.2.2] 0).run Try.prog w = .ok (.int .i64 z.1) w := fun z => by simp [part, go_sem]
  have p1 : ∀ z : FD, (part 3 #[.int .i64 z.1, .int .i64 z.2.1, .int .u64 (z.2.2.1 : Nat), .string z.2.2.2] 1).run Try.prog w = .ok (.int .i64 z.2.1) w := fun z => by simp [part, go_sem]
  have p2 : ∀ z : FD, (part 26 #[.int .i64 z.1, .int .i64 z.2.1, .int .u64 (z.2.2.1 : Nat), .string z.2.2.2] 2).run Try.prog w = .ok (.int .u64 (z.2.2.1 : Nat)) w := fun z => by simp [part, go_sem]
  have p3 : ∀ z : FD, (part 9 #[.int .i64 z.1, .int .i64 z.2.1, .int .u64 (z.2.2.1 : Nat), .string z.2.2.2] 3).run Try.prog w = .ok (.string z.2.2.2) w := fun z => by simp [part, go_sem]
  unfold pfV
  rw [show (10000 : Nat) = 9999 + 1 from rfl, run_equalIn_struct w 9999 _ _ _ h2 h1]
  have q0 := run_equalIn_int (P := Try.prog) w 9998 3 .i64 .i64 x.1 y.1 Try.underlying3
  have q1 := run_equalIn_int (P := Try.prog) w 9998 3 .i64 .i64 x.2.1 y.2.1 Try.underlying3
  have q2 := run_equalIn_int (P := Try.prog) w 9998 26 .u64 .u64 (x.2.2.1 : Nat) (y.2.2.1 : Nat) Try.underlying26
  have q3 := run_equalIn_string (P := Try.prog) w 9998 9 x.2.2.2 y.2.2.2 Try.underlying9
  rw [text_eq] at q3
  rw [← fd_dec]
  simp [Program.fieldsOf, Try.underlying46, Op.eqFields, Sem.run_bind, p0, p1, p2, p3, Result.andThen_ok, q0, q1, q2, q3, -beq_iff_eq]
  by_cases e0 : x.1 = y.1
  · by_cases e1 : x.2.1 = y.2.1
    · by_cases e2 : x.2.2.1 = y.2.2.1
      · by_cases e3 : x.2.2.2 = y.2.2.2
        · simp [e0, e1, e2, e3]
        · simp [e0, e1, e2, e3]
      · have n2 : ¬ ((x.2.2.1 : Nat) : Int) = ((y.2.2.1 : Nat) : Int) := by omega
        simp [e0, e1, e2]
        intro h; exact absurd h n2
    · simp [e0, e1]
  · simp [e0]
theorem eqlRf (x y : FD) (w : World) : (binOp .eql 46 (pfV x) (pfV y)).run Try.prog w = .ok (.bool (decide (x = y))) w := by
  have h := eqlInRf x y w
  unfold pfV at h ⊢
  rw [run_eql_struct, h]; rfl
theorem neqRf (x y : FD) (w : World) : (binOp .neq 46 (pfV x) (pfV y)).run Try.prog w = .ok (.bool (!decide (x = y))) w := by
  have h := eqlInRf x y w
  unfold pfV at h ⊢
  rw [run_neq_struct, h]; rfl
end Go.Proofs.Ytjpppnfkpnfhoaa
