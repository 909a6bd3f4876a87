/- Several texts in one (CrMem, CrNum): each begins with its own words. -/
import Derived.Test.YtmiagebcobcaiaaDoorChA
import Derived.Deep.MidRow
import Derived.Laws.StructEq
import Derived.OrdersHeld
import Derived.Laws.AppendOwnNone
import Derived.Test.YtmiagebcobcaiaaDoorSkLoc
/- Fields of Thrift's structs in memory: a block that is one, lists of them; 'append' of one; two compared. Of no package but the types' facts. -/
namespace Go.Proofs.YtmiagebcobcaiaaDoor
open Go Go.RowKit
set_option linter.unusedVariables false

/-- A field: its number, kind, Num, Bits, Text, Raw. -/
abbrev GD := Int × Nat × Int × Nat × ByteArray × ByteArray
def gfV (x : GD) : Value := .agg #[.int .i64 x.1, .int .u8 (x.2.1 : Nat), .int .i64 x.2.2.1, .int .u64 (x.2.2.2.1 : Nat), .string x.2.2.2.2.1, .string x.2.2.2.2.2]
/-- Block b is the field x, of type t. -/
def GfT (t : TypeId) (w : World) (b : Nat) (x : GD) : Prop := w.heap[b]? = some (.cells #[.int .i64 x.1, .int .u8 (x.2.1 : Nat), .int .i64 x.2.2.1, .int .u64 (x.2.2.2.1 : Nat), .string x.2.2.2.2.1, .string x.2.2.2.2.2] t (0, 0))
theorem GfT.lt {t : TypeId} {w : World} {b : Nat} {x : GD} (h : GfT t w b x) : b < w.heap.size := lt_of_block h
theorem GfT.c0 {t : TypeId} {w : World} {b : Nat} {x : GD} (h : GfT t w b x) : w.cell? ⟨b, 0, none⟩ = some (.int .i64 x.1) := by unfold GfT at h; simp [World.cell?, h]
theorem GfT.c1 {t : TypeId} {w : World} {b : Nat} {x : GD} (h : GfT t w b x) : w.cell? ⟨b, 1, none⟩ = some (.int .u8 (x.2.1 : Nat)) := by unfold GfT at h; simp [World.cell?, h]
theorem GfT.c2 {t : TypeId} {w : World} {b : Nat} {x : GD} (h : GfT t w b x) : w.cell? ⟨b, 2, none⟩ = some (.int .i64 x.2.2.1) := by unfold GfT at h; simp [World.cell?, h]
theorem GfT.c3 {t : TypeId} {w : World} {b : Nat} {x : GD} (h : GfT t w b x) : w.cell? ⟨b, 3, none⟩ = some (.int .u64 (x.2.2.2.1 : Nat)) := by unfold GfT at h; simp [World.cell?, h]
theorem GfT.c4 {t : TypeId} {w : World} {b : Nat} {x : GD} (h : GfT t w b x) : w.cell? ⟨b, 4, none⟩ = some (.string x.2.2.2.2.1) := by unfold GfT at h; simp [World.cell?, h]
theorem GfT.c5 {t : TypeId} {w : World} {b : Nat} {x : GD} (h : GfT t w b x) : w.cell? ⟨b, 5, none⟩ = some (.string x.2.2.2.2.2) := by unfold GfT at h; simp [World.cell?, h]
theorem GfT.fr {t : TypeId} {w : World} {b : Nat} {x : GD} (h : GfT t w b x) (o : Nat) : w.frozen? ⟨b, o, none⟩ = false := by unfold GfT at h; simp [World.frozen?, h]
theorem GfT.drewN {t : TypeId} {w : World} {b : Nat} {x : GD} (h : GfT t w b x) (n : Nat) : GfT t (w.drewN n) b x := h
theorem GfT.drew {t : TypeId} {w : World} {b : Nat} {x : GD} (h : GfT t w b x) : GfT t w.drew b x := h
theorem GfT.below {t : TypeId} {w w' : World} {b N : Nat} {x : GD} (h : GfT t w b x) (hb : Below N w w') (hN : b < N) : GfT t w' b x := (hb.block b hN).trans h
theorem GfT.only {t : TypeId} {w w' : World} {b d : Nat} {x : GD} (h : GfT t w b x) (ho : Only d w w') (hd : b ≠ d) : GfT t w' b x := (ho.block b h.lt hd).trans h
theorem GfT.alloc {t : TypeId} {w : World} {b : Nat} {x : GD} (h : GfT t w b x) (o : Obj) : GfT t (w.alloc o) b x := (Below.heap_alloc _ _ _ h.lt).trans h
theorem gf_alloc (w : World) (x : GD) (t : TypeId) : GfT t (w.alloc (.cells #[.int .i64 x.1, .int .u8 (x.2.1 : Nat), .int .i64 x.2.2.1, .int .u64 (x.2.2.2.1 : Nat), .string x.2.2.2.2.1, .string x.2.2.2.2.2] t)) w.heap.size x := heap_alloc_new w _
theorem gf_grow (w : World) (x : GD) (t : TypeId) : Below w.heap.size w (w.alloc (.cells #[.int .i64 x.1, .int .u8 (x.2.1 : Nat), .int .i64 x.2.2.1, .int .u64 (x.2.2.2.1 : Nat), .string x.2.2.2.2.1, .string x.2.2.2.2.2] t)) := (Below.refl _ w).alloc (Nat.le_refl _) _
theorem GfT.setNum {t : TypeId} {w : World} {b : Nat} {i n : Int} {k u : Nat} {s r : ByteArray} (h : GfT t w b (i, k, n, u, s, r)) (n' : Int) : GfT t (w.setCell ⟨b, 2, none⟩ (.int .i64 n')) b (i, k, n', u, s, r) := heap_setCell_block h _
theorem GfT.setBits {t : TypeId} {w : World} {b : Nat} {i n : Int} {k u : Nat} {s r : ByteArray} (h : GfT t w b (i, k, n, u, s, r)) (u' : Nat) : GfT t (w.setCell ⟨b, 3, none⟩ (.int .u64 (u' : Nat))) b (i, k, n, u', s, r) := heap_setCell_block h _
theorem GfT.setText {t : TypeId} {w : World} {b : Nat} {i n : Int} {k u : Nat} {s r : ByteArray} (h : GfT t w b (i, k, n, u, s, r)) (s' : ByteArray) : GfT t (w.setCell ⟨b, 4, none⟩ (.string s')) b (i, k, n, u, s', r) := heap_setCell_block h _
theorem GfT.setRaw {t : TypeId} {w : World} {b : Nat} {i n : Int} {k u : Nat} {s r : ByteArray} (h : GfT t w b (i, k, n, u, s, r)) (r' : ByteArray) : GfT t (w.setCell ⟨b, 5, none⟩ (.string r')) b (i, k, n, u, s, r') := heap_setCell_block h _
theorem gset_keeps {w W : World} {N b o : Nat} {x : Value} (h : Below N w W) (hb : N ≤ b) : Below N w (W.setCell ⟨b, o, none⟩ x) :=
  h.trans ⟨rfl, rfl, rfl, by simp [World.setCell], fun k hk => Below.heap_setCell _ _ _ _ (show k ≠ b from Nat.ne_of_lt (Nat.lt_of_lt_of_le hk hb))⟩
theorem gset_only {w W : World} {c b o : Nat} {x : Value} (h : Only c w W) (hb : w.heap.size ≤ b) : Only c w (W.setCell ⟨b, o, none⟩ x) :=
  ⟨h.os, h.tape, h.output, by have := h.size; simpa [World.setCell] using this, fun k hk hc => (Below.heap_setCell _ _ _ _ (show k ≠ b from Nat.ne_of_lt (Nat.lt_of_lt_of_le hk hb))).trans (h.block k hk hc)⟩
theorem gset_cur {w : World} {b k o : Nat} {x : Value} {t : TypeId} {c : CS} (h : CurT t w k c) (hk : k ≠ b) : CurT t (w.setCell ⟨b, o, none⟩ x) k c := (Below.heap_setCell _ _ _ _ hk).trans h
theorem gset_fd {w : World} {b k o : Nat} {x : Value} {t : TypeId} {y : GD} (h : GfT t w k y) (hk : k ≠ b) : GfT t (w.setCell ⟨b, o, none⟩ x) k y := (Below.heap_setCell _ _ _ _ hk).trans h
theorem gset_size (w : World) (a : Addr) (x : Value) : (w.setCell a x).heap.size = w.heap.size := by simp [World.setCell]

/-- Fields as cells. -/
def gV (l : List GD) : List Value := l.flatMap fun x => [.int .i64 x.1, .int .u8 (x.2.1 : Nat), .int .i64 x.2.2.1, .int .u64 (x.2.2.2.1 : Nat), .string x.2.2.2.2.1, .string x.2.2.2.2.2]
theorem gV_cons (x : GD) (l : List GD) : gV (x :: l) = .int .i64 x.1 :: .int .u8 (x.2.1 : Nat) :: .int .i64 x.2.2.1 :: .int .u64 (x.2.2.2.1 : Nat) :: .string x.2.2.2.2.1 :: .string x.2.2.2.2.2 :: gV l := rfl
theorem gV_append (l m : List GD) : gV (l ++ m) = gV l ++ gV m := List.flatMap_append
theorem gV_length : ∀ l : List GD, (gV l).length = l.length * 6
  | [] => rfl
  | x :: l => by rw [gV_cons]; simp only [List.length_cons]; rw [gV_length l]; omega
theorem gV_one (l : List GD) : ∀ v ∈ gV l, v.oneCell' = true := by
  intro v hv
  obtain ⟨x, _, hx⟩ := List.mem_flatMap.mp hv
  simp at hx
  rcases hx with rfl | rfl | rfl | rfl | rfl | rfl <;> rfl
theorem gV_get : ∀ (l : List GD) (k : Nat) (h : k < l.length), (gV l)[k * 6]? = some (.int .i64 l[k].1) ∧ (gV l)[k * 6 + 1]? = some (.int .u8 (l[k].2.1 : Nat)) ∧ (gV l)[k * 6 + 2]? = some (.int .i64 l[k].2.2.1) ∧ (gV l)[k * 6 + 3]? = some (.int .u64 (l[k].2.2.2.1 : Nat)) ∧ (gV l)[k * 6 + 4]? = some (.string l[k].2.2.2.2.1) ∧ (gV l)[k * 6 + 5]? = some (.string l[k].2.2.2.2.2)
  | x :: l, 0, _ => ⟨rfl, rfl, rfl, rfl, rfl, rfl⟩
  | x :: l, k + 1, h => by
    have := gV_get l k (by simpa using h)
    rw [gV_cons, show (k + 1) * 6 = k * 6 + 1 + 1 + 1 + 1 + 1 + 1 by omega]
    exact this
/-- The slice v, that the call itself made, holds the fields l. -/
def GRow (e : TypeId) (w : World) (B : Nat) (v : Value) (l : List GD) : Prop := w.ownsRow B e 6 v l.length (gV l)
/-- Field x lies at place j of block b. -/
def GdAt (w : World) (b j : Nat) (x : GD) : Prop := w.cell? ⟨b, j * 6, none⟩ = some (.int .i64 x.1) ∧ w.cell? ⟨b, j * 6 + 1, none⟩ = some (.int .u8 (x.2.1 : Nat)) ∧ w.cell? ⟨b, j * 6 + 2, none⟩ = some (.int .i64 x.2.2.1) ∧ w.cell? ⟨b, j * 6 + 3, none⟩ = some (.int .u64 (x.2.2.2.1 : Nat)) ∧ w.cell? ⟨b, j * 6 + 4, none⟩ = some (.string x.2.2.2.2.1) ∧ w.cell? ⟨b, j * 6 + 5, none⟩ = some (.string x.2.2.2.2.2)
theorem GdAt.below {w w' : World} {b j N : Nat} {x : GD} (h : GdAt w b j x) (hb : Below N w w') (hN : b < N) : GdAt w' b j x :=
  ⟨(hb.cell (p := ⟨b, j * 6, none⟩) hN).trans h.1, (hb.cell (p := ⟨b, j * 6 + 1, none⟩) hN).trans h.2.1, (hb.cell (p := ⟨b, j * 6 + 2, none⟩) hN).trans h.2.2.1, (hb.cell (p := ⟨b, j * 6 + 3, none⟩) hN).trans h.2.2.2.1, (hb.cell (p := ⟨b, j * 6 + 4, none⟩) hN).trans h.2.2.2.2.1, (hb.cell (p := ⟨b, j * 6 + 5, none⟩) hN).trans h.2.2.2.2.2⟩
/-- The slice at a, of so many fields, holds l. -/
def GIn (w : World) (a : Option Addr) (l : List GD) : Prop := ∀ j (h : j < l.length), ∃ b, a = some ⟨b, 0, none⟩ ∧ b < w.heap.size ∧ GdAt w b j l[j]
theorem GIn.below {w w' : World} {a : Option Addr} {l : List GD} {N : Nat} (h : GIn w a l) (hb : Below N w w') (hN : w.heap.size ≤ N) : GIn w' a l := fun j hj => by
  obtain ⟨b, e, hlt, h1⟩ := h j hj
  exact ⟨b, e, Nat.lt_of_lt_of_le hlt hb.size, h1.below hb (Nat.lt_of_lt_of_le hlt hN)⟩
theorem GIn.block {w : World} {a : Option Addr} {l : List GD} (h : GIn w a l) (h0 : l ≠ []) : ∃ g, a = some ⟨g, 0, none⟩ ∧ g < w.heap.size ∧ ∀ j (hj : j < l.length), GdAt w g j l[j] := by
  obtain ⟨g, e, hg, _⟩ := h 0 (Nat.pos_of_ne_zero (fun e => h0 (List.eq_nil_of_length_eq_zero e)))
  refine ⟨g, e, hg, fun j hj => ?_⟩
  obtain ⟨g', e', _, hc⟩ := h j hj
  rw [e] at e'
  obtain rfl : g = g' := by simpa using e'
  exact hc
theorem grow_nil (e : TypeId) (w : World) (B : Nat) : GRow e w B (.slice none 0 0) [] := ⟨rfl, .inl ⟨rfl, rfl⟩⟩
theorem GRow.below {e : TypeId} {w w' : World} {B N : Nat} {v : Value} {l : List GD} (h : GRow e w B v l) (hb : Below N w w') (hN : w.heap.size ≤ N) : GRow e w' B v l := by
  refine World.ownsRow.kept (row := none) h ⟨hb.os, hb.tape, hb.output, hb.size, fun k hk _ => hb.block k (by omega)⟩ ?_
  cases v.ownBlock <;> simp
theorem GRow.only {e : TypeId} {w w' : World} {B b : Nat} {v : Value} {l : List GD} (h : GRow e w B v l) (ho : Only b w w') (hb : b < B) : GRow e w' B v l := by
  obtain ⟨hl, h⟩ := h
  refine ⟨hl, ?_⟩
  rcases h with h | ⟨g, cap, cur, h1, h2, h3, h4⟩
  · exact .inl h
  · exact .inr ⟨g, cap, cur, h1, h2, (ho.block g (lt_of_block h3) (by omega)).trans h3, h4⟩
/-- What turns a block of another type alone leaves a list as it is. -/
theorem GRow.not_at {e : TypeId} {W : World} {B k : Nat} {v : Value} {l : List GD} (h : GRow e W B v l) {o : Obj} (hk : W.heap[k]? = some o) (ho : ∀ cs, o ≠ .cells cs e (0, 0)) : some k ≠ v.ownBlock := by
  rcases h.2 with ⟨rfl, _⟩ | ⟨g, cap, cur, rfl, _, hg, _⟩
  · simp [Value.ownBlock]
  · intro e1
    obtain rfl : k = g := by simpa [Value.ownBlock] using e1
    rw [hk] at hg
    exact ho cur (Option.some.inj hg)
theorem GRow.apart {e : TypeId} {w w' : World} {B b : Nat} {v : Value} {l : List GD} (h : GRow e w B v l) (ho : Only b w w') {o : Obj} (hk : w.heap[b]? = some o) (hne : ∀ cs, o ≠ .cells cs e (0, 0)) : GRow e w' B v l :=
  World.ownsRow.kept (row := some b) h ⟨ho.os, ho.tape, ho.output, ho.size, fun k hk hkb => ho.block k hk (fun e => hkb (by rw [e]))⟩ (.inr (fun e => h.not_at hk hne e.symm))
theorem GRow.base {e : TypeId} {w : World} {B N : Nat} {v : Value} {l : List GD} (h : GRow e w N v l) (hB : B ≤ N) : GRow e w B v l := by
  obtain ⟨hl, h⟩ := h
  refine ⟨hl, ?_⟩
  rcases h with h | ⟨g, cap, cur, h1, h2, h3, h4⟩
  · exact .inl h
  · exact .inr ⟨g, cap, cur, h1, by omega, h3, h4⟩
theorem GRow.inn {e : TypeId} {w : World} {B : Nat} {v : Value} {l : List GD} (h : GRow e w B v l) : ∃ a cap, v = .slice a l.length cap ∧ GIn w a l := by
  rcases h.2 with ⟨rfl, hn⟩ | ⟨g, cap, cur, rfl, _, hg, _⟩
  · have h0 : l = [] := List.eq_nil_of_length_eq_zero hn
    subst h0
    exact ⟨none, 0, rfl, fun j hj => by simp at hj⟩
  · refine ⟨_, cap, rfl, fun j hj => ⟨g, rfl, lt_of_block hg, ?_⟩⟩
    have hk := gV_get l j hj
    exact ⟨by rw [World.ownsRow.cellAt h (j * 6) (by omega), hk.1], by rw [World.ownsRow.cellAt h (j * 6 + 1) (by omega), hk.2.1], by rw [World.ownsRow.cellAt h (j * 6 + 2) (by omega), hk.2.2.1], by rw [World.ownsRow.cellAt h (j * 6 + 3) (by omega), hk.2.2.2.1], by rw [World.ownsRow.cellAt h (j * 6 + 4) (by omega), hk.2.2.2.2.1], by rw [World.ownsRow.cellAt h (j * 6 + 5) (by omega), hk.2.2.2.2.2]⟩
theorem GfT.setAll {t : TypeId} {w : World} {b : Nat} {x : GD} (h : GfT t w b x) (y : GD) : GfT t (((((((w.setCell ⟨b, 0, none⟩ (.int .i64 y.1)).setCell ⟨b, 1, none⟩ (.int .u8 (y.2.1 : Nat))).setCell ⟨b, 2, none⟩ (.int .i64 y.2.2.1)).setCell ⟨b, 3, none⟩ (.int .u64 (y.2.2.2.1 : Nat))).setCell ⟨b, 4, none⟩ (.string y.2.2.2.2.1)).setCell ⟨b, 5, none⟩ (.string y.2.2.2.2.2))) b y :=
  heap_setCell_block (heap_setCell_block (heap_setCell_block (heap_setCell_block (heap_setCell_block (heap_setCell_block h _) _) _) _) _) _
theorem Only.setGf (w : World) (b : Nat) (y : GD) : Only b w (((((((w.setCell ⟨b, 0, none⟩ (.int .i64 y.1)).setCell ⟨b, 1, none⟩ (.int .u8 (y.2.1 : Nat))).setCell ⟨b, 2, none⟩ (.int .i64 y.2.2.1)).setCell ⟨b, 3, none⟩ (.int .u64 (y.2.2.2.1 : Nat))).setCell ⟨b, 4, none⟩ (.string y.2.2.2.2.1)).setCell ⟨b, 5, none⟩ (.string y.2.2.2.2.2))) :=
  ((((((Only.refl _ _).setCell _ _).setCell _ _).setCell _ _).setCell _ _).setCell _ _).setCell _ _
/-- 'append(list, x)' on a list that the call itself made. -/
theorem wpList_append_gd {P : Program} {ops : Array Oper} {rest : List Oper} {o : Oper} {a : Act} {Q : Exit → Act → World → Prop} (hgd : o.guard = none) (sl x : Operand) (t : TypeId)
    (ho : o.op = .call { callee := .builtin .append, args := #[sl, x], argTypes := #[t, t] })
    (e : TypeId) (ht : P.underlying t = some (.slice e)) (hi : (P.info? e).map (fun i => (i.zero, i.size, i.bytes)) = some (some (.agg #[.int .i64 0, .int .u8 0, .int .i64 0, .int .u64 0, .string ⟨#[]⟩, .string ⟨#[]⟩]), 6, 64))
    (v : Value) (wr : World) (B : Nat) (l : List GD) (hb : GRow e wr B v l) (hB : B ≤ wr.heap.size) (hs : a.eval sl = v)
    (x0 x1 x2 x3 : Int) (x4 x5 : ByteArray) (y : GD) (h0 : x0 = y.1) (h1 : x1 = (y.2.1 : Nat)) (h2 : x2 = y.2.2.1) (h3 : x3 = (y.2.2.2.1 : Nat)) (h4 : x4 = y.2.2.2.2.1) (h5 : x5 = y.2.2.2.2.2) (hx : a.eval x = .slice (some ⟨wr.heap.size, 0, none⟩) 1 1) (hlen : l.length ≤ 1099511627776)
    (h : ∀ v' w', GRow e w' B v' (l ++ [y]) → Below B wr w' → wr.grownBy w' v.ownBlock → wpList P ops Q rest (a.put o.dst v') w') :
    wpList P ops Q (o :: rest) a (wr.alloc (.cells #[.int .i64 x0, .int .u8 x1, .int .i64 x2, .int .u64 x3, .string x4, .string x5] e)) := by
  subst h0 h1 h2 h3 h4 h5
  obtain ⟨i0, hi, hz, hz1, hz2⟩ := info_parts hi
  refine wpList_append_own _ hgd sl x t ho B e i0 (.agg #[.int .i64 0, .int .u8 0, .int .i64 0, .int .u64 0, .string ⟨#[]⟩, .string ⟨#[]⟩]) 6 64 ht hi hz hz1 hz2 rfl (by decide) v l.length (gV l) hs (World.ownsRow.alloc hb _) ⟨wr.heap.size, 0, none⟩ 1 1 (gV [y]) hx rfl ?_ (gV_one _) (by unfold maxLen; omega) (by omega) (by simp; omega) ?_
  · intro j u hj
    have h1 := heap_alloc_new wr (.cells #[.int .i64 y.1, .int .u8 (y.2.1 : Nat), .int .i64 y.2.2.1, .int .u64 (y.2.2.2.1 : Nat), .string y.2.2.2.2.1, .string y.2.2.2.2.2] e)
    have e1 : (Addr.mk wr.heap.size 0 none).add j = ⟨wr.heap.size, j, none⟩ := by unfold Addr.add; split <;> simp_all
    rw [e1]
    simp only [World.cell?]
    rw [h1]
    match j, hj with
    | 0, hj => simpa [gV] using hj
    | 1, hj => simpa [gV] using hj
    | 2, hj => simpa [gV] using hj
    | 3, hj => simpa [gV] using hj
    | 4, hj => simpa [gV] using hj
    | 5, hj => simpa [gV] using hj
    | j + 6, hj => simp [gV] at hj
  · intro v' w' hown hgr _
    have hgb : wr.grownBy w' v.ownBlock := ⟨hgr.os, hgr.tape, hgr.output, by have := hgr.size; simp at this; omega, fun k hk hne => by
      rw [hgr.block k (by simp; omega) hne]
      exact Below.heap_alloc _ _ _ hk⟩
    refine h v' w' ?_ ?_ hgb
    · unfold GRow
      rw [gV_append, List.length_append]
      exact hown
    · refine ⟨hgb.os, hgb.tape, hgb.output, hgb.size, fun k hk => hgb.block k (by omega) (fun hk' => ?_)⟩
      have := (World.ownsRow.lt hb k hk'.symm).1
      omega
theorem ret_gf {x y : GD} (h : x = y) : Ending.returned (gfV x) = .returned (gfV y) := by rw [h]
/-- A result that is a field, in a variable of its own. -/
theorem gf_result {P : Program} {T : TypeId} {d : TypeDesc} (hu : P.underlying T = some d) (hd : (match d with | .struct _ | .array _ _ => true | _ => false) = true) (hi : (P.info? T).map (·.size) = some 6)
    {fn : Func} {p : Tmp} (h : fn.results = #[.cell p T]) {tmps : Array Value} {w : World} {g : Nat} {t : TypeId} {x : GD} (hg : GfT t w g x) (hp : tmps.getD p undef = .pointer (some ⟨g, 0, none⟩)) :
    (results fn tmps).run P w = .ok (gfV x) w :=
  results_cell_row h tmps w g t #[.int .i64 x.1, .int .u8 (x.2.1 : Nat), .int .i64 x.2.2.1, .int .u64 (x.2.2.2.1 : Nat), .string x.2.2.2.2.1, .string x.2.2.2.2.2] (0, 0) d hp hg hu hd hi
theorem gf_dec (x y : GD) : ((decide (x.1 = y.1) && (decide (x.2.1 = y.2.1) && (decide (x.2.2.1 = y.2.2.1) && (decide (x.2.2.2.1 = y.2.2.2.1) && (decide (x.2.2.2.2.1 = y.2.2.2.2.1) && decide (x.2.2.2.2.2 = y.2.2.2.2.2))))))) = decide (x = y) := by
  obtain ⟨a, b, c, d, e, f⟩ := x
  obtain ⟨a', b', c', d', e', f'⟩ := y
  simp [Prod.mk.injEq]
theorem infoCf : (Tryd.prog.info? 39).map (fun i => (i.zero, i.size, i.bytes)) = some (some (.agg #[.int .i64 0, .int .u8 0, .int .i64 0, .int .u64 0, .string ⟨#[]⟩, .string ⟨#[]⟩]), 6, 64) := by kernel_rfl
theorem sizeCf : (Tryd.prog.info? 39).map (·.size) = some 6 := by kernel_rfl
theorem infoRg : (Tryd.prog.info? 40).map (fun i => (i.zero, i.size, i.bytes)) = some (some (.agg #[.int .i64 0, .int .u8 0, .int .i64 0, .int .u64 0, .string ⟨#[]⟩, .string ⟨#[]⟩]), 6, 64) := by kernel_rfl
theorem sizeRg : (Tryd.prog.info? 40).map (·.size) = some 6 := by kernel_rfl
theorem guardRg : Tryd.prog.eqGuardType Tryd.prog.depth 40 = false := by kernel_rfl
/-- Two fields compared. -/
theorem eqlInRg (x y : GD) (w : World) : (Op.equalIn 10000 40 (gfV x) (gfV y)).run Tryd.prog w = .ok (decide (x = y)) w := by
  have h1 : Tryd.prog.stoodInHeld 40 = false := by kernel_rfl
  have h2 : Tryd.prog.underlying 40 = some (.struct (Tryd.prog.fieldsOf 40)) := by kernel_rfl
  have p0 : ∀ z : GD, (part 3 #[.int .i64 z.1, .int .u8 (z.2.1 : Nat), .int .i64 z.2.2.1, .int .u64 (z.2.2.2.1 : Nat), .string z.2.2.2.2.1, .string z.2.2.2.2.2] 0).run Tryd.prog w = .ok (.int .i64 z.1) w := fun z => by simp [part, go_sem]
  have p1 : ∀ z : GD, (part 5 #[.int .i64 z.1, .int .u8 (z.2.1 : Nat), .int .i64 z.2.2.1, .int .u64 (z.2.2.2.1 : Nat), .string z.2.2.2.2.1, .string z.2.2.2.2.2] 1).run Tryd.prog w = .ok (.int .u8 (z.2.1 : Nat)) w := fun z => by simp [part, go_sem]
  have p2 : ∀ z : GD, (part 3 #[.int .i64 z.1, .int .u8 (z.2.1 : Nat), .int .i64 z.2.2.1, .int .u64 (z.2.2.2.1 : Nat), .string z.2.2.2.2.1, .string z.2.2.2.2.2] 2).run Tryd.prog w = .ok (.int .i64 z.2.2.1) w := fun z => by simp [part, go_sem]
  have p3 : ∀ z : GD, (part 37 #[.int .i64 z.1, .int .u8 (z.2.1 : Nat), .int .i64 z.2.2.1, .int .u64 (z.2.2.2.1 : Nat), .string z.2.2.2.2.1, .string z.2.2.2.2.2] 3).run Tryd.prog w = .ok (.int .u64 (z.2.2.2.1 : Nat)) w := fun z => by simp [part, go_sem]
  have p4 : ∀ z : GD, (part 9 #[.int .i64 z.1, .int .u8 (z.2.1 : Nat), .int .i64 z.2.2.1, .int .u64 (z.2.2.2.1 : Nat), .string z.2.2.2.2.1, .string z.2.2.2.2.2] 4).run Tryd.prog w = .ok (.string z.2.2.2.2.1) w := fun z => by simp [part, go_sem]
  have p5 : ∀ z : GD, (part 9 #[.int .i64 z.1, .int .u8 (z.2.1 : Nat), .int .i64 z.2.2.1, .int .u64 (z.2.2.2.1 : Nat), .string z.2.2.2.2.1, .string z.2.2.2.2.2] 5).run Tryd.prog w = .ok (.string z.2.2.2.2.2) w := fun z => by simp [part, go_sem]
  unfold gfV
  rw [show (10000 : Nat) = 9999 + 1 from rfl, run_equalIn_struct w 9999 _ _ _ h2 h1]
  have q0 := run_equalIn_int (P := Tryd.prog) w 9998 3 .i64 .i64 x.1 y.1 Tryd.underlying3
  have q1 := run_equalIn_int (P := Tryd.prog) w 9998 5 .u8 .u8 (x.2.1 : Nat) (y.2.1 : Nat) Tryd.underlying5
  have q2 := run_equalIn_int (P := Tryd.prog) w 9998 3 .i64 .i64 x.2.2.1 y.2.2.1 Tryd.underlying3
  have q3 := run_equalIn_int (P := Tryd.prog) w 9998 37 .u64 .u64 (x.2.2.2.1 : Nat) (y.2.2.2.1 : Nat) Tryd.underlying37
  have q4 := run_equalIn_string (P := Tryd.prog) w 9998 9 x.2.2.2.2.1 y.2.2.2.2.1 Tryd.underlying9
  rw [text_eq] at q4
  have q5 := run_equalIn_string (P := Tryd.prog) w 9998 9 x.2.2.2.2.2 y.2.2.2.2.2 Tryd.underlying9
  rw [text_eq] at q5
  rw [← gf_dec]
  simp [Program.fieldsOf, Tryd.underlying40, Op.eqFields, Sem.run_bind, p0, p1, p2, p3, p4, p5, Result.andThen_ok, q0, q1, q2, q3, q4, q5, -beq_iff_eq]
  by_cases e0 : x.1 = y.1
  · by_cases e1 : x.2.1 = y.2.1
    · by_cases e2 : x.2.2.1 = y.2.2.1
      · by_cases e3 : x.2.2.2.1 = y.2.2.2.1
        · by_cases e4 : x.2.2.2.2.1 = y.2.2.2.2.1
          · by_cases e5 : x.2.2.2.2.2 = y.2.2.2.2.2
            · simp [e0, e1, e2, e3, e4, e5]
            · simp [e0, e1, e2, e3, e4, e5]
          · simp [e0, e1, e2, e3, e4]
        · have n3 : ¬ ((x.2.2.2.1 : Nat) : Int) = ((y.2.2.2.1 : Nat) : Int) := by omega
          simp [e0, e1, e2]
          rw [if_neg n3]; simp [e3]
      · simp [e0, e1, e2]
    · have n1 : ¬ ((x.2.1 : Nat) : Int) = ((y.2.1 : Nat) : Int) := by omega
      simp [e0]
      rw [if_neg n1]; simp [e1]
  · simp [e0]
theorem eqlRg (x y : GD) (w : World) : (binOp .eql 40 (gfV x) (gfV y)).run Tryd.prog w = .ok (.bool (decide (x = y))) w := by
  have h := eqlInRg x y w
  unfold gfV at h ⊢
  rw [run_eql_struct, h]; rfl
theorem neqRg (x y : GD) (w : World) : (binOp .neq 40 (gfV x) (gfV y)).run Tryd.prog w = .ok (.bool (!decide (x = y))) w := by
  have h := eqlInRg x y w
  unfold gfV at h ⊢
  rw [run_neq_struct, h]; rfl
end Go.Proofs.YtmiagebcobcaiaaDoor
/- Plain facts, of no program: fields of Thrift's structs, and values of its lists, as they are read of a cursor and as their bytes say. -/
namespace Go.Proofs.YtmiagebcobcaiaaDoor
open Go Go.RowKit
set_option linter.unusedVariables false

/-- How many bits numbers of a kind have; whether a number that was read fits. -/
def bitsK (k : Nat) : Int := if k = 4 then 16 else if k = 5 then 32 else if k = 6 then 64 else 0
def fitB (k u : Nat) : Bool := decide (bitsK k = 0) || decide (fitC (zagI (u : Nat)) (bitsK k) = 0)
theorem fitB_no {k : Nat} (h : bitsK k = 0) (u : Nat) : fitB k u = true := by unfold fitB; rw [decide_eq_true h]; rfl
theorem bitsK_no {k : Nat} (h : ¬ (4 ≤ k ∧ k ≤ 6)) : bitsK k = 0 := by
  unfold bitsK
  rw [if_neg (by omega), if_neg (by omega), if_neg (by omega)]
/-- Past a value, which fits. -/
def rdTo (d k : Nat) (c : CS) : CS := (inTo d k c).want (fitB k c.vVal) 4
theorem rdTo_flat {k : Nat} (h : bitsK k = 0) (d : Nat) (c : CS) : rdTo d k c = inTo d k c := by unfold rdTo; rw [fitB_no h]; rfl
theorem rd_std (d k : Nat) : Std (rdTo d k) := fun c hc => ((in_std d k).comp (Std.want (fitB k c.vVal) 4)) c hc
theorem rdTo_num {k : Nat} (h : 4 ≤ k ∧ k ≤ 6) (d : Nat) (c : CS) : rdTo d k c = c.vTo.want (fitB k c.vVal) 4 := by
  have h9 : hdK k = false := by unfold hdK; rw [decide_eq_false (show ¬ 9 ≤ k by omega)]; rfl
  have ht : trB k = false := by unfold trB; simp; omega
  unfold rdTo
  rw [inTo_flat h9]
  unfold flatTo
  rw [if_neg (by rw [ht]; decide), if_neg (by omega), if_pos h]
theorem val_no {f : Nat → CS → CS} {k : Nat} (h : trB k = false) (c : CS) : valTo f k c = f k c := by unfold valTo; rw [if_neg (by rw [h]; decide)]
theorem val_tr {f : Nat → CS → CS} {k : Nat} (h : trB k = true) (c : CS) : valTo f k c = c := by unfold valTo; rw [if_pos h]
theorem vrd_std (d k : Nat) : Std (valTo (rdTo d) k) := by
  unfold valTo
  intro c hc
  split
  · exact Std.id c hc
  · exact rd_std d k c hc

/-- 22.1: what the bytes of a value say. -/
def gOf (id : Int) (k : Nat) (s : ByteArray) : GD :=
  (id, k, (if k = 1 then 1 else if k = 3 then wideI (((s.data[0]?).getD 0).toNat : Int) 8 else if bitsK k = 0 then 0 else zagI ((CS.new s).vVal : Nat)), (if k = 7 then valL s.data.toList else 0), (if k = 8 then s.extract (CS.new s).vTo.at_ s.size else ⟨#[]⟩), (if 9 ≤ k then s else ⟨#[]⟩))
def gAt (f : Nat → CS → CS) (id : Int) (k : Nat) (c : CS) : GD := gOf id k (c.s.extract c.at_ (valTo f k c).at_)
/-- A value within a list: its kind, what it says. -/
def kOf (k : Nat) (c : CS) : Nat := if trB k = true then (if c.pB = 1 then 1 else 2) else k
def iAt (f : Nat → CS → CS) (j : Nat) (k : Nat) (c : CS) : GD := gOf (j : Nat) (kOf k c) (c.s.extract c.at_ (f k c).at_)
/-- The fields of a struct; the values of a list, from place j on. -/
def stL (f : Nat → CS → CS) : Nat → Int → CS → List GD
  | 0, _, _ => []
  | n + 1, last, c => if c.hKd last = 0 then [] else gAt f (c.hId last) (c.hKd last) (c.hTo last) :: stL f n (c.hId last) (valTo f (c.hKd last) (c.hTo last))
def itL (f : Nat → CS → CS) (k : Nat) : Nat → Nat → CS → List GD
  | 0, _, _ => []
  | n + 1, j, c => iAt f j k c :: itL f k n (j + 1) (f k c)

/-- A cursor over the bytes that were gone past. -/
theorem sub_list (s : ByteArray) (a b : Nat) : (s.extract a b).data.toList = (s.data.toList.drop a).take (b - a) := by simp
theorem sub_size {c : CS} (hc : c.ok) {n : Nat} (hn : n ≤ c.rest.length) : (c.s.extract c.at_ (c.at_ + n)).size = n := by
  have hl := CS.rest_length hc
  obtain ⟨h1, h2, h3⟩ := hc
  rw [ByteArray.size_extract]; omega
theorem sub_rest {c : CS} (hc : c.ok) {n : Nat} (hn : n ≤ c.rest.length) : (CS.new (c.s.extract c.at_ (c.at_ + n))).rest = c.rest.take n := by
  have hl := CS.rest_length hc
  have hz := sub_size hc hn
  show (((c.s.extract c.at_ (c.at_ + n)).data.toList.drop 0).take ((c.s.extract c.at_ (c.at_ + n)).size - 0)) = ((c.s.data.toList.drop c.at_).take (c.en - c.at_)).take n
  rw [hz, List.drop_zero, sub_list, List.take_take, List.take_take]
  congr 1; omega
theorem sub_ok {c : CS} (hc : c.ok) {n : Nat} (hn : n ≤ c.rest.length) : (CS.new (c.s.extract c.at_ (c.at_ + n))).ok := by
  have := sub_size hc hn
  have hl := CS.rest_length hc
  exact CS.new_ok (by obtain ⟨h1, h2, h3⟩ := hc; omega)
/-- A number, read again of bytes that begin with its own. -/
theorem sub_num {c : CS} (hc : c.ok) (h0 : c.vTo.er = 0) : ∃ n, n ≤ c.rest.length ∧ c.vTo = c.past n ∧ ∀ m, n + m ≤ c.rest.length → (CS.new (c.s.extract c.at_ (c.at_ + (n + m)))).vVal = c.vVal ∧ (CS.new (c.s.extract c.at_ (c.at_ + (n + m)))).vTo.at_ = n ∧ (CS.new (c.s.extract c.at_ (c.at_ + (n + m)))).vTo.er = 0 := by
  obtain ⟨n, hn, hfn, hN⟩ := Loc.num.good c hc h0
  refine ⟨n, hn, hfn, fun m hm => ?_⟩
  have hr := sub_rest hc hm
  obtain ⟨e1, e2⟩ := (hN _ (sub_ok hc hm) rfl).1 (by rw [hr, List.length_take]; omega) (by rw [hr, List.take_take, Nat.min_eq_left (by omega)])
  exact ⟨e2, by rw [e1]; exact Nat.zero_add n, by rw [e1]; rfl⟩
theorem sub_text {c : CS} (hc : c.ok) (h0 : c.txt.er = 0) : c.vVal ≤ c.vTo.lf ∧ c.vTo.er = 0 ∧ c.txt = c.vTo.take (c.vVal : Nat) ∧
    (c.s.extract c.at_ c.txt.at_).extract (CS.new (c.s.extract c.at_ c.txt.at_)).vTo.at_ (c.s.extract c.at_ c.txt.at_).size = c.vTo.takeS (c.vVal : Nat) ∧ (CS.new (c.s.extract c.at_ c.txt.at_)).vTo.er = 0 := by
  have hle : c.vVal ≤ c.vTo.lf := by
    by_cases hle : c.vVal ≤ c.vTo.lf
    · exact hle
    · exfalso
      unfold CS.txt txTo at h0
      rw [if_neg hle] at h0
      unfold CS.fail at h0
      split at h0
      · exact absurd (show (1 : Int) = 0 from h0) (by decide)
      · rename_i h; exact h h0
  have e1 : c.txt = c.vTo.take (c.vVal : Nat) := by unfold CS.txt txTo; rw [if_pos hle]
  have hok := CS.vTo_ok hc
  have he : c.vTo.er = 0 := (Std.take (c.vVal : Nat)).er hok (by show (c.vTo.take (c.vVal : Nat)).er = 0; rw [← e1]; exact h0)
  refine ⟨hle, he, e1, ?_⟩
  obtain ⟨n, hn, hfn, hN⟩ := sub_num hc he
  have hw : c.vTo.why (c.vVal : Nat) = 0 := CS.why_mk he (by omega) (by have := hok.1; unfold CS.lf at hle; omega)
  have e2 := take_yes hw
  rw [Int.toNat_natCast] at e2
  have hl := CS.rest_length hc
  have hat : c.vTo.at_ = c.at_ + n := by rw [hfn]; rfl
  have hen : c.vTo.en = c.en := by rw [hfn]; rfl
  have hs : c.vTo.s = c.s := by rw [hfn]; rfl
  have ha : c.txt.at_ = c.at_ + (n + c.vVal) := by
    rw [e1, e2]
    show c.vTo.at_ + c.vVal = _
    omega
  have hm : n + c.vVal ≤ c.rest.length := by
    have := hok.1
    unfold CS.lf at hle; omega
  obtain ⟨_, g2, g3⟩ := hN c.vVal hm
  rw [ha, g2, takeS_yes hw, Int.toNat_natCast, hs, hat, sub_size hc hm]
  refine ⟨?_, g3⟩
  apply ByteArray.ext
  apply Array.toList_inj.mp
  rw [sub_list, sub_list, sub_list, List.drop_take, List.drop_drop, List.take_take]
  congr 1; omega
theorem sub_byte {c : CS} (hc : c.ok) (h0 : c.byte.er = 0) : (((c.s.extract c.at_ c.byte.at_).data[0]?).getD 0).toNat = c.pB := by
  have hp : c.peekIs = true := by
    cases hp : c.peekIs with
    | true => rfl
    | false =>
      exfalso
      rw [CS.byte_no hc hp] at h0
      unfold CS.fail at h0
      split at h0
      · exact absurd (show (1 : Int) = 0 from h0) (by decide)
      · rename_i h; exact h h0
  have hlt : c.at_ < c.en := (of_decide_eq_true hp).2
  obtain ⟨h1, h2, h3⟩ := hc
  have hat : c.byte.at_ = c.at_ + 1 := by rw [CS.byte_yes hp]
  rw [hat]
  unfold CS.pB CS.peekB
  rw [if_pos hp]
  have e : (c.s.extract c.at_ (c.at_ + 1)).data[0]? = c.s.data[c.at_]? := by
    have hz : c.at_ < c.s.data.size := by have : c.s.data.size = c.s.size := rfl; omega
    rw [ByteArray.data_extract, Array.getElem?_extract]
    rw [if_pos (by omega), Nat.add_zero]
  rw [e]; simp
theorem sub_eight {c : CS} (hc : c.ok) (h0 : (c.take 8).er = 0) : c.s.extract c.at_ (c.take 8).at_ = c.takeS (8 : Nat) ∧ (c.s.extract c.at_ (c.take 8).at_).size = 8 := by
  have hw : c.why 8 = 0 := by
    by_cases hw : c.why 8 = 0
    · exact hw
    · unfold CS.take at h0; rw [if_neg hw] at h0; exact absurd h0 hw
  have e2 := take_yes hw
  have ha : (c.take 8).at_ = c.at_ + 8 := by rw [e2]; rfl
  have e3 := takeS_yes hw
  have hz := CS.why_zero hw
  have hl := CS.rest_length hc
  rw [ha]
  refine ⟨e3.symm, sub_size hc (by have := hc.1; omega)⟩

/-- Behind an error. -/
theorem head_bad {c : CS} (hc : c.ok) {last : Int} (h : ¬ c.er = 0) : c.hKd last = 0 ∧ c.hTo last = c := by
  refine ⟨?_, (head_std last c hc).2.2.2.2 h⟩
  by_cases hk : c.hKd last = 0
  · exact hk
  · exact absurd (head_more hc hk).2.2 h
theorem fldg_bad (f : Nat → CS → CS) {c : CS} (hc : c.ok) (h : ¬ c.er = 0) : ∀ (n : Nat) (last : Int), fldTo f n last c = c
  | 0, _ => rfl
  | n + 1, last => by rw [fldTo, if_pos (head_bad hc h).1]; exact (head_bad hc h).2
theorem fld_next (f : Nat → CS → CS) {m : Nat} (hm : 0 < m) (last : Int) (c : CS) : fldTo f m last c = if c.hKd last = 0 then c.hTo last else fldTo f (m - 1) (c.hId last) (valTo f (c.hKd last) (c.hTo last)) := by
  cases m with
  | zero => omega
  | succ m => rfl
theorem stL_next (f : Nat → CS → CS) {m : Nat} (hm : 0 < m) (last : Int) (c : CS) : stL f m last c = if c.hKd last = 0 then [] else gAt f (c.hId last) (c.hKd last) (c.hTo last) :: stL f (m - 1) (c.hId last) (valTo f (c.hKd last) (c.hTo last)) := by
  cases m with
  | zero => omega
  | succ m => rfl
theorem eachTo_one (f : Nat → CS → CS) (k n : Nat) (c : CS) : eachTo f [k] (n + 1) c = eachTo f [k] n (f k c) := rfl
/-- What stands within so many others: where it begins. -/
def cAt (s : ByteArray) (deep : Int) : CS := if 32 ≤ deep then (CS.new s).fail 33 else CS.new s
theorem cAt_ok {s : ByteArray} (h : s.size ≤ 9223372036854775807) (deep : Int) : (cAt s deep).ok := by
  unfold cAt; split
  · exact CS.fail_ok (CS.new_ok h) 33
  · exact CS.new_ok h
theorem cAt_s (s : ByteArray) (deep : Int) : (cAt s deep).s = s ∧ (cAt s deep).en = s.size ∧ (cAt s deep).at_ = 0 := by
  unfold cAt; split
  · exact ⟨rfl, rfl, rfl⟩
  · exact ⟨rfl, rfl, rfl⟩
/-- How deep a value within may nest. -/
def dAt (deep : Int) : Nat := (32 - (deep + 1)).toNat
/-- 22.2, 22.3: where it ends, or what is wrong; the fields. -/
def stR (s : ByteArray) (deep : Int) : CS := fldTo (rdTo (dAt deep)) fuelN 0 (cAt s deep)
def stF (s : ByteArray) (deep : Int) : List GD := if (stR s deep).er = 0 then stL (rdTo (dAt deep)) fuelN 0 (cAt s deep) else []
def stN (s : ByteArray) (deep : Int) : Nat := if (stR s deep).er = 0 then (stR s deep).at_ else 0
def itR (s : ByteArray) (deep : Int) : CS := eachTo (rdTo (dAt deep)) [(cAt s deep).lKd] (cAt s deep).lCt (cAt s deep).lTo
def itF (s : ByteArray) (deep : Int) : List GD := if (itR s deep).endC = 0 then itL (rdTo (dAt deep)) (cAt s deep).lKd (cAt s deep).lCt 0 (cAt s deep).lTo else []
/-- 22.4. -/
def hasG (id : Int) (k : Nat) (x : GD) : Bool := decide (x.1 = id) && sameB x.2.1 k
def lastG (id : Int) (k : Nat) (l : List GD) : Option GD := l.reverse.find? (hasG id k)
end Go.Proofs.YtmiagebcobcaiaaDoor
