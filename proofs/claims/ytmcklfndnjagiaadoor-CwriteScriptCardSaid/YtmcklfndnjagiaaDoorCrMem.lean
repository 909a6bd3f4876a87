/- Fields of Thrift's structs in memory: a block that is one, lists of them; 'append' of one; two compared. Of no package but the types' facts. -/
import Derived.Test.YtmcklfndnjagiaaDoorChA
import Derived.Deep.MidRow
import Derived.Laws.StructEq
import Derived.OrdersHeld
import Derived.Laws.AppendOwnNone
namespace Go.Proofs.YtmcklfndnjagiaaDoor
open Go Go.RowKit
set_option linter.unusedVariables false

/-- A field: its number, kind, Num, Bits, Text, Raw. -/
abbrev GD := Int × Nat × Int × Nat × ByteArray × ByteArray
def gfV (x : GD) : Value := .agg #[.int .i64 x.1, .int .u8 (x.2.1 : Nat), .int .i64 x.2.2.1, .int .u64 (x.2.2.2.1 : Nat), .string x.2.2.2.2.1, .string x.2.2.2.2.2]
/-- Block b is the field x, of type t. -/
def GfT (t : TypeId) (w : World) (b : Nat) (x : GD) : Prop := w.heap[b]? = some (.cells #[.int .i64 x.1, .int .u8 (x.2.1 : Nat), .int .i64 x.2.2.1, .int .u64 (x.2.2.2.1 : Nat), .string x.2.2.2.2.1, .string x.2.2.2.2.2] t (0, 0))
theorem GfT.lt {t : TypeId} {w : World} {b : Nat} {x : GD} (h : GfT t w b x) : b < w.heap.size := lt_of_block h
theorem GfT.c0 {t : TypeId} {w : World} {b : Nat} {x : GD} (h : GfT t w b x) : w.cell? ⟨b, 0, none⟩ = some (.int .i64 x.1) := by unfold GfT at h; simp [World.cell?, h]
theorem GfT.c1 {t : TypeId} {w : World} {b : Nat} {x : GD} (h : GfT t w b x) : w.cell? ⟨b, 1, none⟩ = some (.int .u8 (x.2.1 : Nat)) := by unfold GfT at h; simp [World.cell?, h]
theorem GfT.c2 {t : TypeId} {w : World} {b : Nat} {x : GD} (h : GfT t w b x) : w.cell? ⟨b, 2, none⟩ = some (.int .i64 x.2.2.1) := by unfold GfT at h; simp [World.cell?, h]
theorem GfT.c3 {t : TypeId} {w : World} {b : Nat} {x : GD} (h : GfT t w b x) : w.cell? ⟨b, 3, none⟩ = some (.int .u64 (x.2.2.2.1 : Nat)) := by unfold GfT at h; simp [World.cell?, h]
theorem GfT.c4 {t : TypeId} {w : World} {b : Nat} {x : GD} (h : GfT t w b x) : w.cell? ⟨b, 4, none⟩ = some (.string x.2.2.2.2.1) := by unfold GfT at h; simp [World.cell?, h]
theorem GfT.c5 {t : TypeId} {w : World} {b : Nat} {x : GD} (h : GfT t w b x) : w.cell? ⟨b, 5, none⟩ = some (.string x.2.2.2.2.2) := by unfold GfT at h; simp [World.cell?, h]
theorem GfT.fr {t : TypeId} {w : World} {b : Nat} {x : GD} (h : GfT t w b x) (o : Nat) : w.frozen? ⟨b, o, none⟩ = false := by unfold GfT at h; simp [World.frozen?, h]
theorem GfT.drewN {t : TypeId} {w : World} {b : Nat} {x : GD} (h : GfT t w b x) (n : Nat) : GfT t (w.drewN n) b x := h
theorem GfT.drew {t : TypeId} {w : World} {b : Nat} {x : GD} (h : GfT t w b x) : GfT t w.drew b x := h
theorem GfT.below {t : TypeId} {w w' : World} {b N : Nat} {x : GD} (h : GfT t w b x) (hb : Below N w w') (hN : b < N) : GfT t w' b x := (hb.block b hN).trans h
theorem GfT.only {t : TypeId} {w w' : World} {b d : Nat} {x : GD} (h : GfT t w b x) (ho : Only d w w') (hd : b ≠ d) : GfT t w' b x := (ho.block b h.lt hd).trans h
theorem GfT.alloc {t : TypeId} {w : World} {b : Nat} {x : GD} (h : GfT t w b x) (o : Obj) : GfT t (w.alloc o) b x := (Below.heap_alloc _ _ _ h.lt).trans h
theorem gf_alloc (w : World) (x : GD) (t : TypeId) : GfT t (w.alloc (.cells #[.int .i64 x.1, .int .u8 (x.2.1 : Nat), .int .i64 x.2.2.1, .int .u64 (x.2.2.2.1 : Nat), .string x.2.2.2.2.1, .string x.2.2.2.2.2] t)) w.heap.size x := heap_alloc_new w _
theorem gf_grow (w : World) (x : GD) (t : TypeId) : Below w.heap.size w (w.alloc (.cells #[.int .i64 x.1, .int .u8 (x.2.1 : Nat), .int .i64 x.2.2.1, .int .u64 (x.2.2.2.1 : Nat), .string x.2.2.2.2.1, .string x.2.2.2.2.2] t)) := (Below.refl _ w).alloc (Nat.le_refl _) _
theorem GfT.setNum {t : TypeId} {w : World} {b : Nat} {i n : Int} {k u : Nat} {s r : ByteArray} (h : GfT t w b (i, k, n, u, s, r)) (n' : Int) : GfT t (w.setCell ⟨b, 2, none⟩ (.int .i64 n')) b (i, k, n', u, s, r) := heap_setCell_block h _
theorem GfT.setBits {t : TypeId} {w : World} {b : Nat} {i n : Int} {k u : Nat} {s r : ByteArray} (h : GfT t w b (i, k, n, u, s, r)) (u' : Nat) : GfT t (w.setCell ⟨b, 3, none⟩ (.int .u64 (u' : Nat))) b (i, k, n, u', s, r) := heap_setCell_block h _
theorem GfT.setText {t : TypeId} {w : World} {b : Nat} {i n : Int} {k u : Nat} {s r : ByteArray} (h : GfT t w b (i, k, n, u, s, r)) (s' : ByteArray) : GfT t (w.setCell ⟨b, 4, none⟩ (.string s')) b (i, k, n, u, s', r) := heap_setCell_block h _
theorem GfT.setRaw {t : TypeId} {w : World} {b : Nat} {i n : Int} {k u : Nat} {s r : ByteArray} (h : GfT t w b (i, k, n, u, s, r)) (r' : ByteArray) : GfT t (w.setCell ⟨b, 5, none⟩ (.string r')) b (i, k, n, u, s, r') := heap_setCell_block h _
theorem gset_keeps {w W : World} {N b o : Nat} {x : Value} (h : Below N w W) (hb : N ≤ b) : Below N w (W.setCell ⟨b, o, none⟩ x) :=
  h.trans ⟨rfl, rfl, rfl, by simp [World.setCell], fun k hk => Below.heap_setCell _ _ _ _ (show k ≠ b from Nat.ne_of_lt (Nat.lt_of_lt_of_le hk hb))⟩
theorem gset_only {w W : World} {c b o : Nat} {x : Value} (h : Only c w W) (hb : w.heap.size ≤ b) : Only c w (W.setCell ⟨b, o, none⟩ x) :=
  ⟨h.os, h.tape, h.output, by have := h.size; simpa [World.setCell] using this, fun k hk hc => (Below.heap_setCell _ _ _ _ (show k ≠ b from Nat.ne_of_lt (Nat.lt_of_lt_of_le hk hb))).trans (h.block k hk hc)⟩
theorem gset_cur {w : World} {b k o : Nat} {x : Value} {t : TypeId} {c : CS} (h : CurT t w k c) (hk : k ≠ b) : CurT t (w.setCell ⟨b, o, none⟩ x) k c := (Below.heap_setCell _ _ _ _ hk).trans h
theorem gset_fd {w : World} {b k o : Nat} {x : Value} {t : TypeId} {y : GD} (h : GfT t w k y) (hk : k ≠ b) : GfT t (w.setCell ⟨b, o, none⟩ x) k y := (Below.heap_setCell _ _ _ _ hk).trans h
theorem gset_size (w : World) (a : Addr) (x : Value) : (w.setCell a x).heap.size = w.heap.size := by simp [World.setCell]

/-- Fields as cells. -/
def gV (l : List GD) : List Value := l.flatMap fun x => [.int .i64 x.1, .int .u8 (x.2.1 : Nat), .int .i64 x.2.2.1, .int .u64 (x.2.2.2.1 : Nat), .string x.2.2.2.2.1, .string x.2.2.2.2.2]
theorem gV_cons (x : GD) (l : List GD) : gV (x :: l) = .int .i64 x.1 :: .int .u8 (x.2.1 : Nat) :: .int .i64 x.2.2.1 :: .int .u64 (x.2.2.2.1 : Nat) :: .string x.2.2.2.2.1 :: .string x.2.2.2.2.2 :: gV l := rfl
theorem gV_append (l m : List GD) : gV (l ++ m) = gV l ++ gV m := List.flatMap_append
theorem gV_length : ∀ l : List GD, (gV l).length = l.length * 6
  | [] => rfl
  | x :: l => by rw [gV_cons]; simp only [List.length_cons]; rw [gV_length l]; omega
theorem gV_one (l : List GD) : ∀ v ∈ gV l, v.oneCell' = true := by
  intro v hv
  obtain ⟨x, _, hx⟩ := List.mem_flatMap.mp hv
  simp at hx
  rcases hx with rfl | rfl | rfl | rfl | rfl | rfl <;> rfl
theorem gV_get : ∀ (l : List GD) (k : Nat) (h : k < l.length), (gV l)[k * 6]? = some (.int .i64 l[k].1) ∧ (gV l)[k * 6 + 1]? = some (.int .u8 (l[k].2.1 : Nat)) ∧ (gV l)[k * 6 + 2]? = some (.int .i64 l[k].2.2.1) ∧ (gV l)[k * 6 + 3]? = some (.int .u64 (l[k].2.2.2.1 : Nat)) ∧ (gV l)[k * 6 + 4]? = some (.string l[k].2.2.2.2.1) ∧ (gV l)[k * 6 + 5]? = some (.string l[k].2.2.2.2.2)
  | x :: l, 0, _ => ⟨rfl, rfl, rfl, rfl, rfl, rfl⟩
  | x :: l, k + 1, h => by
    have := gV_get l k (by simpa using h)
    rw [gV_cons, show (k + 1) * 6 = k * 6 + 1 + 1 + 1 + 1 + 1 + 1 by omega]
    exact this
/-- The slice v, that the call itself made, holds the fields l. -/
def GRow (e : TypeId) (w : World) (B : Nat) (v : Value) (l : List GD) : Prop := w.ownsRow B e 6 v l.length (gV l)
/-- Field x lies at place j of block b. -/
def GdAt (w : World) (b j : Nat) (x : GD) : Prop := w.cell? ⟨b, j * 6, none⟩ = some (.int .i64 x.1) ∧ w.cell? ⟨b, j * 6 + 1, none⟩ = some (.int .u8 (x.2.1 : Nat)) ∧ w.cell? ⟨b, j * 6 + 2, none⟩ = some (.int .i64 x.2.2.1) ∧ w.cell? ⟨b, j * 6 + 3, none⟩ = some (.int .u64 (x.2.2.2.1 : Nat)) ∧ w.cell? ⟨b, j * 6 + 4, none⟩ = some (.string x.2.2.2.2.1) ∧ w.cell? ⟨b, j * 6 + 5, none⟩ = some (.string x.2.2.2.2.2)
theorem GdAt.below {w w' : World} {b j N : Nat} {x : GD} (h : GdAt w b j x) (hb : Below N w w') (hN : b < N) : GdAt w' b j x :=
  ⟨(hb.cell (p := ⟨b, j * 6, none⟩) hN).trans h.1, (hb.cell (p := ⟨b, j * 6 + 1, none⟩) hN).trans h.2.1, (hb.cell (p := ⟨b, j * 6 + 2, none⟩) hN).trans h.2.2.1, (hb.cell (p := ⟨b, j * 6 + 3, none⟩) hN).trans h.2.2.2.1, (hb.cell (p := ⟨b, j * 6 + 4, none⟩) hN).trans h.2.2.2.2.1, (hb.cell (p := ⟨b, j * 6 + 5, none⟩) hN).trans h.2.2.2.2.2⟩
/-- The slice at a, of so many fields, holds l. -/
def GIn (w : World) (a : Option Addr) (l : List GD) : Prop := ∀ j (h : j < l.length), ∃ b, a = some ⟨b, 0, none⟩ ∧ b < w.heap.size ∧ GdAt w b j l[j]
theorem GIn.below {w w' : World} {a : Option Addr} {l : List GD} {N : Nat} (h : GIn w a l) (hb : Below N w w') (hN : w.heap.size ≤ N) : GIn w' a l := fun j hj => by
  obtain ⟨b, e, hlt, h1⟩ := h j hj
  exact ⟨b, e, Nat.lt_of_lt_of_le hlt hb.size, h1.below hb (Nat.lt_of_lt_of_le hlt hN)⟩
theorem GIn.block {w : World} {a : Option Addr} {l : List GD} (h : GIn w a l) (h0 : l ≠ []) : ∃ g, a = some ⟨g, 0, none⟩ ∧ g < w.heap.size ∧ ∀ j (hj : j < l.length), GdAt w g j l[j] := by
  obtain ⟨g, e, hg, _⟩ := h 0 (Nat.pos_of_ne_zero (fun e => h0 (List.eq_nil_of_length_eq_zero e)))
  refine ⟨g, e, hg, fun j hj => ?_⟩
  obtain ⟨g', e', _, hc⟩ := h j hj
  rw [e] at e'
  obtain rfl : g = g' := by simpa using e'
  exact hc
theorem grow_nil (e : TypeId) (w : World) (B : Nat) : GRow e w B (.slice none 0 0) [] := ⟨rfl, .inl ⟨rfl, rfl⟩⟩
theorem GRow.below {e : TypeId} {w w' : World} {B N : Nat} {v : Value} {l : List GD} (h : GRow e w B v l) (hb : Below N w w') (hN : w.heap.size ≤ N) : GRow e w' B v l := by
  refine World.ownsRow.kept (row := none) h ⟨hb.os, hb.tape, hb.output, hb.size, fun k hk _ => hb.block k (by omega)⟩ ?_
  cases v.ownBlock <;> simp
theorem GRow.only {e : TypeId} {w w' : World} {B b : Nat} {v : Value} {l : List GD} (h : GRow e w B v l) (ho : Only b w w') (hb : b < B) : GRow e w' B v l := by
  obtain ⟨hl, h⟩ := h
  refine ⟨hl, ?_⟩
  rcases h with h | ⟨g, cap, cur, h1, h2, h3, h4⟩
  · exact .inl h
  · exact .inr ⟨g, cap, cur, h1, h2, (ho.block g (lt_of_block h3) (by omega)).trans h3, h4⟩
/-- What turns a block of another type alone leaves a list as it is. -/
theorem GRow.not_at {e : TypeId} {W : World} {B k : Nat} {v : Value} {l : List GD} (h : GRow e W B v l) {o : Obj} (hk : W.heap[k]? = some o) (ho : ∀ cs, o ≠ .cells cs e (0, 0)) : some k ≠ v.ownBlock := by
  rcases h.2 with ⟨rfl, _⟩ | ⟨g, cap, cur, rfl, _, hg, _⟩
  · simp [Value.ownBlock]
  · intro e1
    obtain rfl : k = g := by simpa [Value.ownBlock] using e1
    rw [hk] at hg
    exact ho cur (Option.some.inj hg)
theorem GRow.apart {e : TypeId} {w w' : World} {B b : Nat} {v : Value} {l : List GD} (h : GRow e w B v l) (ho : Only b w w') {o : Obj} (hk : w.heap[b]? = some o) (hne : ∀ cs, o ≠ .cells cs e (0, 0)) : GRow e w' B v l :=
  World.ownsRow.kept (row := some b) h ⟨ho.os, ho.tape, ho.output, ho.size, fun k hk hkb => ho.block k hk (fun e => hkb (by rw [e]))⟩ (.inr (fun e => h.not_at hk hne e.symm))
theorem GRow.base {e : TypeId} {w : World} {B N : Nat} {v : Value} {l : List GD} (h : GRow e w N v l) (hB : B ≤ N) : GRow e w B v l := by
  obtain ⟨hl, h⟩ := h
  refine ⟨hl, ?_⟩
  rcases h with h | ⟨g, cap, cur, h1, h2, h3, h4⟩
  · exact .inl h
  · exact .inr ⟨g, cap, cur, h1, by omega, h3, h4⟩
theorem GRow.inn {e : TypeId} {w : World} {B : Nat} {v : Value} {l : List GD} (h : GRow e w B v l) : ∃ a cap, v = .slice a l.length cap ∧ GIn w a l := by
  rcases h.2 with ⟨rfl, hn⟩ | ⟨g, cap, cur, rfl, _, hg, _⟩
  · have h0 : l = [] := List.eq_nil_of_length_eq_zero hn
    subst h0
    exact ⟨none, 0, rfl, fun j hj => by simp at hj⟩
  · refine ⟨_, cap, rfl, fun j hj => ⟨g, rfl, lt_of_block hg, ?_⟩⟩
    have hk := gV_get l j hj
    exact ⟨by rw [World.ownsRow.cellAt h (j * 6) (by omega), hk.1], by rw [World.ownsRow.cellAt h (j * 6 + 1) (by omega), hk.2.1], by rw [World.ownsRow.cellAt h (j * 6 + 2) (by omega), hk.2.2.1], by rw [World.ownsRow.cellAt h (j * 6 + 3) (by omega), hk.2.2.2.1], by rw [World.ownsRow.cellAt h (j * 6 + 4) (by omega), hk.2.2.2.2.1], by rw [World.ownsRow.cellAt h (j * 6 + 5) (by omega), hk.2.2.2.2.2]⟩
theorem GfT.setAll {t : TypeId} {w : World} {b : Nat} {x : GD} (h : GfT t w b x) (y : GD) : GfT t (((((((w.setCell ⟨b, 0, none⟩ (.int .i64 y.1)).setCell ⟨b, 1, none⟩ (.int .u8 (y.2.1 : Nat))).setCell ⟨b, 2, none⟩ (.int .i64 y.2.2.1)).setCell ⟨b, 3, none⟩ (.int .u64 (y.2.2.2.1 : Nat))).setCell ⟨b, 4, none⟩ (.string y.2.2.2.2.1)).setCell ⟨b, 5, none⟩ (.string y.2.2.2.2.2))) b y :=
  heap_setCell_block (heap_setCell_block (heap_setCell_block (heap_setCell_block (heap_setCell_block (heap_setCell_block h _) _) _) _) _) _
theorem Only.setGf (w : World) (b : Nat) (y : GD) : Only b w (((((((w.setCell ⟨b, 0, none⟩ (.int .i64 y.1)).setCell ⟨b, 1, none⟩ (.int .u8 (y.2.1 : Nat))).setCell ⟨b, 2, none⟩ (.int .i64 y.2.2.1)).setCell ⟨b, 3, none⟩ (.int .u64 (y.2.2.2.1 : Nat))).setCell ⟨b, 4, none⟩ (.string y.2.2.2.2.1)).setCell ⟨b, 5, none⟩ (.string y.2.2.2.2.2))) :=
  ((((((Only.refl _ _).setCell _ _).setCell _ _).setCell _ _).setCell _ _).setCell _ _).setCell _ _
/-- 'append(list, x)' on a list that the call itself made. -/
theorem wpList_append_gd {P : Program} {ops : Array Oper} {rest : List Oper} {o : Oper} {a : Act} {Q : Exit → Act → World → Prop} (hgd : o.guard = none) (sl x : Operand) (t : TypeId)
    (ho : o.op = .call { callee := .builtin .append, args := #[sl, x], argTypes := #[t, t] })
    (e : TypeId) (ht : P.underlying t = some (.slice e)) (hi : (P.info? e).map (fun i => (i.zero, i.size, i.bytes)) = some (some (.agg #[.int .i64 0, .int .u8 0, .int .i64 0, .int .u64 0, .string ⟨#[]⟩, .string ⟨#[]⟩]), 6, 64))
    (v : Value) (wr : World) (B : Nat) (l : List GD) (hb : GRow e wr B v l) (hB : B ≤ wr.heap.size) (hs : a.eval sl = v)
    (x0 x1 x2 x3 : Int) (x4 x5 : ByteArray) (y : GD) (h0 : x0 = y.1) (h1 : x1 = (y.2.1 : Nat)) (h2 : x2 = y.2.2.1) (h3 : x3 = (y.2.2.2.1 : Nat)) (h4 : x4 = y.2.2.2.2.1) (h5 : x5 = y.2.2.2.2.2) (hx : a.eval x = .slice (some ⟨wr.heap.size, 0, none⟩) 1 1) (hlen : l.length ≤ 1099511627776)
    (h : ∀ v' w', GRow e w' B v' (l ++ [y]) → Below B wr w' → wr.grownBy w' v.ownBlock → wpList P ops Q rest (a.put o.dst v') w') :
    wpList P ops Q (o :: rest) a (wr.alloc (.cells #[.int .i64 x0, .int .u8 x1, .int .i64 x2, .int .u64 x3, .string x4, .string x5] e)) := by
  subst h0 h1 h2 h3 h4 h5
  obtain ⟨i0, hi, hz, hz1, hz2⟩ := info_parts hi
  refine wpList_append_own _ hgd sl x t ho B e i0 (.agg #[.int .i64 0, .int .u8 0, .int .i64 0, .int .u64 0, .string ⟨#[]⟩, .string ⟨#[]⟩]) 6 64 ht hi hz hz1 hz2 rfl (by decide) v l.length (gV l) hs (World.ownsRow.alloc hb _) ⟨wr.heap.size, 0, none⟩ 1 1 (gV [y]) hx rfl ?_ (gV_one _) (by unfold maxLen; omega) (by omega) (by simp; omega) ?_
  · intro j u hj
    have h1 := heap_alloc_new wr (.cells #[.int .i64 y.1, .int .u8 (y.2.1 : Nat), .int .i64 y.2.2.1, .int .u64 (y.2.2.2.1 : Nat), .string y.2.2.2.2.1, .string y.2.2.2.2.2] e)
    have e1 : (Addr.mk wr.heap.size 0 none).add j = ⟨wr.heap.size, j, none⟩ := by unfold Addr.add; split <;> simp_all
    rw [e1]
    simp only [World.cell?]
    rw [h1]
    match j, hj with
    | 0, hj => simpa [gV] using hj
    | 1, hj => simpa [gV] using hj
    | 2, hj => simpa [gV] using hj
    | 3, hj => simpa [gV] using hj
    | 4, hj => simpa [gV] using hj
    | 5, hj => simpa [gV] using hj
    | j + 6, hj => simp [gV] at hj
  · intro v' w' hown hgr _
    have hgb : wr.grownBy w' v.ownBlock := ⟨hgr.os, hgr.tape, hgr.output, by have := hgr.size; simp at this; omega, fun k hk hne => by
      rw [hgr.block k (by simp; omega) hne]
      exact Below.heap_alloc _ _ _ hk⟩
    refine h v' w' ?_ ?_ hgb
    · unfold GRow
      rw [gV_append, List.length_append]
      exact hown
    · refine ⟨hgb.os, hgb.tape, hgb.output, hgb.size, fun k hk => hgb.block k (by omega) (fun hk' => ?_)⟩
      have := (World.ownsRow.lt hb k hk'.symm).1
      omega
theorem ret_gf {x y : GD} (h : x = y) : Ending.returned (gfV x) = .returned (gfV y) := by rw [h]
/-- A result that is a field, in a variable of its own. -/
theorem gf_result {P : Program} {T : TypeId} {d : TypeDesc} (hu : P.underlying T = some d) (hd : (match d with | .struct _ | .array _ _ => true | _ => false) = true) (hi : (P.info? T).map (·.size) = some 6)
    {fn : Func} {p : Tmp} (h : fn.results = #[.cell p T]) {tmps : Array Value} {w : World} {g : Nat} {t : TypeId} {x : GD} (hg : GfT t w g x) (hp : tmps.getD p undef = .pointer (some ⟨g, 0, none⟩)) :
    (results fn tmps).run P w = .ok (gfV x) w :=
  results_cell_row h tmps w g t #[.int .i64 x.1, .int .u8 (x.2.1 : Nat), .int .i64 x.2.2.1, .int .u64 (x.2.2.2.1 : Nat), .string x.2.2.2.2.1, .string x.2.2.2.2.2] (0, 0) d hp hg hu hd hi
theorem gf_dec (x y : GD) : ((decide (x.1 = y.1) && (decide (x.2.1 = y.2.1) && (decide (x.2.2.1 = y.2.2.1) && (decide (x.2.2.2.1 = y.2.2.2.1) && (decide (x.2.2.2.2.1 = y.2.2.2.2.1) && decide (x.2.2.2.2.2 = y.2.2.2.2.2))))))) = decide (x = y) := by
  obtain ⟨a, b, c, d, e, f⟩ := x
  obtain ⟨a', b', c', d', e', f'⟩ := y
  simp [Prod.mk.injEq]
theorem infoCf : (Tryd.prog.info? 49).map (fun i => (i.zero, i.size, i.bytes)) = some (some (.agg #[.int .i64 0, .int .u8 0, .int .i64 0, .int .u64 0, .string ⟨#[]⟩, .string ⟨#[]⟩]), 6, 64) := by kernel_rfl
theorem sizeCf : (Tryd.prog.info? 49).map (·.size) = some 6 := by kernel_rfl
end Go.Proofs.YtmcklfndnjagiaaDoor
