/- Arrays of bytes, and structs of two such: their cells, as values, in memory, compared; of no package. -/
import Derived.Test.YtjoafbapffdneaaDoorBts
import Derived.Deep.MidRow
import Derived.Deep.WholeRow
import Derived.DeepKeys4
import Derived.Maps.OwnSet
import Derived.Lib.BufferWrite
namespace Go.Proofs.YtjoafbapffdneaaDoor
open Go Go.RowKit
set_option linter.unusedVariables false

/-- The cells of so many bytes. -/
def aC (l : List UInt8) : Array Value := (bV l).toArray
theorem aC_size (l : List UInt8) : (aC l).size = l.length := by simp [aC, bV]
theorem aC_toList (l : List UInt8) : (aC l).toList = bV l := rfl
theorem aC_one (l : List UInt8) : (aC l).all (·.oneCell') = true := all_oneCell_toArray (bV_one l)
/-- Bytes as keys. -/
def kL (l : List UInt8) : List Lit := l.map fun b => .int .u8 (b.toNat : Int)
theorem kL_inj {l m : List UInt8} : kL l = kL m ↔ l = m := by
  constructor
  · intro h
    refine List.map_inj_right (f := fun b : UInt8 => Lit.int .u8 (b.toNat : Int)) ?_ |>.mp h
    intro x y hxy
    simp only [Lit.int.injEq, true_and] at hxy
    exact UInt8.toNat_inj.mp (by omega)
  · rintro rfl; rfl
theorem byte_wf (b : UInt8) : (Lit.int .u8 (b.toNat : Int)).wf = true := by
  have := b.toNat_lt
  simp [Lit.wf, IntKind.min, IntKind.max, IntKind.signed, IntKind.bits]
  omega

theorem lits_byte {P : Program} {e : TypeId} (he : P.underlying e = some (.int .u8)) (D : Nat) (b : UInt8) : P.keyLits (D + 1) e [.int .u8 (b.toNat : Int)] = some [.int .u8 (b.toNat : Int)] := by
  simp [Program.keyLits, he, byte_wf]
theorem range_lits {P : Program} {e : TypeId} (he : P.underlying e = some (.int .u8)) (hc : P.cellsOf e = 1) (D : Nat) : ∀ (l pre : List UInt8),
    ((List.range' pre.length l.length).mapM fun i => P.keyLits (D + 1) e (((bV (pre ++ l)).drop (i * P.cellsOf e)).take (P.cellsOf e))) = some ((kL l).map fun x => [x])
  | [], pre => by simp [kL]
  | b :: l, pre => by
    have ih := range_lits he hc D l (pre ++ [b])
    rw [List.length_append, List.append_assoc] at ih
    rw [List.length_cons, List.range'_succ, List.mapM_cons]
    have h1 : ((bV (pre ++ b :: l)).drop (pre.length * P.cellsOf e)).take (P.cellsOf e) = [.int .u8 (b.toNat : Int)] := by
      rw [hc, Nat.mul_one, bV_append, List.drop_left' (bV_length pre)]; rfl
    rw [h1, lits_byte he]
    simp only [List.length_singleton, List.singleton_append] at ih
    simp [ih, kL]
theorem flat_ones {α : Type} : ∀ l : List α, (l.map fun x => [x]).flatten = l
  | [] => rfl
  | x :: l => by rw [List.map_cons, List.flatten_cons, flat_ones l]; rfl
theorem lits_array {P : Program} {t e : TypeId} {n : Nat} (ht : P.underlying t = some (.array n e)) (he : P.underlying e = some (.int .u8)) (hc : P.cellsOf e = 1) (hn : P.cellsOf t = n) (D : Nat) (l : List UInt8) (hl : l.length = n) :
    P.keyLits (D + 2) t (bV l) = some (kL l) := by
  subst hl
  have h := range_lits he hc D l []
  simp only [List.length_nil, List.nil_append] at h
  unfold Program.keyLits
  simp only [ht]
  rw [if_pos (by rw [bV_length, hn]), List.range_eq_range', h]
  simp only [Option.map_some, Option.some.injEq]
  exact flat_ones _
theorem lits_pair {P : Program} {t : TypeId} {f0 f1 : Field} {a b : Nat} (ht : P.underlying t = some (.struct #[f0, f1])) (n0 : f0.name ≠ "_") (n1 : f1.name ≠ "_") (o0 : f0.offset = 0) (o1 : f1.offset = a) (c0 : P.cellsOf f0.type = a) (c1 : P.cellsOf f1.type = b) (hc : P.cellsOf t = a + b) (D : Nat)
    (l m : List UInt8) (hl : l.length = a) (hm : m.length = b) (h0 : P.keyLits D f0.type (bV l) = some (kL l)) (h1 : P.keyLits D f1.type (bV m) = some (kL m)) :
    P.keyLits (D + 1) t (bV (l ++ m)) = some (kL (l ++ m)) := by
  unfold Program.keyLits
  simp only [ht]
  rw [if_pos ⟨by rw [bV_length, List.length_append, hl, hm, hc], by simp [n0, n1]⟩]
  have e0 : ((bV (l ++ m)).drop f0.offset).take (P.cellsOf f0.type) = bV l := by
    rw [o0, c0, List.drop_zero, bV_append, List.take_left' (by rw [bV_length, hl])]
  have e1 : ((bV (l ++ m)).drop f1.offset).take (P.cellsOf f1.type) = bV m := by
    rw [o1, c1, bV_append, List.drop_left' (by rw [bV_length, hl]), List.take_of_length_le (by rw [bV_length, hm]; exact Nat.le_refl _)]
  simp [e0, e1, h0, h1, kL]

/-- Type t is laid as n bytes, and compared as they are. -/
structure BytesT (P : Program) (t : TypeId) (n : Nat) : Prop where
  row : ∃ d, P.underlying t = some d ∧ d.isRow = true
  size : (P.info? t).map (·.size) = some n
  cells : P.cellsOf t = n
  key : P.keyTypeAt 9 t = true
  lits : ∀ l : List UInt8, l.length = n → P.keyLits (P.types.size + 1) t (bV l) = some (kL l)

theorem BytesT.formed {P : Program} {t : TypeId} {n : Nat} (h : BytesT P t n) {l : List UInt8} (hl : l.length = n) : (Value.agg (aC l)).formed P t = true := by
  obtain ⟨d, hd, hr⟩ := h.row
  cases d <;> simp [TypeDesc.isRow] at hr <;> simp [Value.formed, hd, h.cells, aC_size, hl]
/-- '==' of two such. -/
theorem BytesT.eql {P : Program} {t : TypeId} {n : Nat} (h : BytesT P t n) {l m : List UInt8} (hl : l.length = n) (hm : m.length = n) (w : World) :
    (binOp .eql t (.agg (aC l)) (.agg (aC m))).run P w = .ok (.bool (decide (l = m))) w := by
  obtain ⟨r, hr, hiff⟩ := run_equalIn_deep 9991 9 t h.key w _ _ (.agg (aC l)) (.agg (aC m)) (kL l) (kL m) (h.formed hl) (h.formed hm) (h.lits l hl) (h.lits m hm)
  rw [run_eql_struct, show Op.equalIn 10000 t = Op.equalIn (9991 + 9) t from rfl, hr]
  have : r = decide (l = m) := by
    rw [Bool.eq_iff_iff, hiff, kL_inj, decide_eq_true_iff]
  rw [this]; rfl
/-- '!=' of two such. -/
theorem BytesT.neq {P : Program} {t : TypeId} {n : Nat} (h : BytesT P t n) {l m : List UInt8} (hl : l.length = n) (hm : m.length = n) (w : World) :
    (binOp .neq t (.agg (aC l)) (.agg (aC m))).run P w = .ok (.bool (!decide (l = m))) w := by
  obtain ⟨r, hr, hiff⟩ := run_equalIn_deep 9991 9 t h.key w _ _ (.agg (aC l)) (.agg (aC m)) (kL l) (kL m) (h.formed hl) (h.formed hm) (h.lits l hl) (h.lits m hm)
  rw [run_neq_struct, show Op.equalIn 10000 t = Op.equalIn (9991 + 9) t from rfl, hr]
  have : r = decide (l = m) := by
    rw [Bool.eq_iff_iff, hiff, kL_inj, decide_eq_true_iff]
  rw [this]; rfl
/-- The bytes l lie in block b from place o on. -/
def AAt (w : World) (b o : Nat) (l : List UInt8) : Prop := w.rangeAt b o (bV l)
/-- Block b is the bytes l, of cells of type t. -/
def ABlk (t : TypeId) (w : World) (b : Nat) (l : List UInt8) : Prop := w.heap[b]? = some (.cells (aC l) t (0, 0))
theorem ABlk.at0 {t : TypeId} {w : World} {b : Nat} {l : List UInt8} (h : ABlk t w b l) : AAt w b 0 l := by
  intro j v hj
  rw [Nat.zero_add, cell_of_row w b j (aC l) t (0, 0) h]
  rw [← Array.getElem?_toList]; exact hj
theorem ABlk.lt {t : TypeId} {w : World} {b : Nat} {l : List UInt8} (h : ABlk t w b l) : b < w.heap.size := lt_of_block h
/-- 'load' of such a value. -/
theorem BytesT.load {P : Program} {t : TypeId} {n : Nat} (h : BytesT P t n) {l : List UInt8} (hl : l.length = n) {w : World} {b o : Nat} (ha : AAt w b o l) :
    (Instr.loadAt t (.pointer (some ⟨b, o, none⟩))).run P w = .ok (.agg (aC l)) w := by
  obtain ⟨d, hd, hr⟩ := h.row
  exact run_loadAt_mid w b o t (bV l) d ha hd hr (by rw [h.size, bV_length, hl])
/-- 'store' of such a value over a whole block. -/
theorem BytesT.store {P : Program} {t : TypeId} {n : Nat} (h : BytesT P t n) {l m : List UInt8} (hl : l.length = n) (hm : m.length = n) {w : World} {b : Nat} {ty : TypeId} (ha : ABlk ty w b m) :
    (Instr.storeAt t (.pointer (some ⟨b, 0, none⟩)) (.agg (aC l))).run P w = .ok () (w.setRow b (aC l)) := by
  simp only [Instr.storeAt, Instr.sureAddr, Sem.run_bind, Sem.run_pure, Result.andThen_ok,
    run_storeVar_row w b ty t (aC m) (aC l) ha (by rw [h.size, aC_size, hl]) (by rw [aC_size, aC_size, hl, hm]) (aC_one l)]
theorem setRow_blk {t : TypeId} {w : World} {b : Nat} {l m : List UInt8} (h : ABlk t w b m) : ABlk t (w.setRow b (aC l)) b l := setRow_heap w b _ (aC l) t _ h
/-- 'string(a[:])'. -/
theorem AAt.text {P : Program} {t e d : TypeId} {w : World} {b : Nat} {l : List UInt8} {n cap : Nat} (h : AAt w b 0 l) (hl : l.length = n) (ht : P.underlying t = some (.slice e)) (he : P.underlying e = some (.int .u8)) (hd : P.underlying d = some .string) :
    (convert t d (.slice (some ⟨b, 0, none⟩) n cap)).run P w = .ok (.string (bA l)) w := by
  subst hl
  refine run_convert_bytes_back w t d e ⟨b, 0, none⟩ cap l ht he hd fun j hj => ?_
  have := h j _ (bV_get l j hj)
  rw [Nat.zero_add] at this
  rw [Addr.add_mid, Nat.zero_add]; exact this

section
variable {P : Program} {T : TypeId} {n : Nat} {dst : Option Tmp} {ty yT : TypeId} {pos : String} {after : Array Edge} {g : Option (Nat × Bool)} {x y : Operand} {a : Act} {w : World} {K : Act → World → Prop} {Q : Exit → Act → World → Prop}
/-- At the operation: 'load', 'store' of a whole block, '==', '!='. -/
theorem wp_load_bytes (hT : BytesT P T n) {b off : Nat} {l : List UInt8} (hx : a.eval x = .pointer (some ⟨b, off, none⟩)) (hl : l.length = n) (ha : AAt w b off l) (h : K (a.put dst (.agg (aC l))) w) :
    Oper.wp P ⟨dst, .load T x, ty, pos, after, g⟩ a w K Q := by
  obtain ⟨d, hd, hr⟩ := hT.row
  exact wp_load_mid T x rfl b off hx (bV l) d ha hd hr (by rw [hT.size, bV_length, hl]) h
theorem wp_store_bytes (hT : BytesT P T n) {b : Nat} {l m : List UInt8} {t : TypeId} (hx : a.eval x = .pointer (some ⟨b, 0, none⟩)) (hy : a.eval y = .agg (aC l)) (hl : l.length = n) (hm : m.length = n) (hb : ABlk t w b m) (h : K (a.put dst undef) (w.setRow b (aC l))) :
    Oper.wp P ⟨dst, .store T x y, ty, pos, after, g⟩ a w K Q :=
  wp_store_row T x y rfl b (aC l) hx hy t (aC m) hb (by rw [hT.size, aC_size, hl]) (by rw [aC_size, aC_size, hl, hm]) (aC_one l) h
theorem wp_eql_bytes (hT : BytesT P T n) (hm : P.eqGuardType P.depth T = false) {l m : List UInt8} (hx : a.eval x = .agg (aC l)) (hy : a.eval y = .agg (aC m)) (hl : l.length = n) (hml : m.length = n) (h : K (a.put dst (.bool (decide (l = m)))) w) :
    Oper.wp P ⟨dst, .binOp .eql T x y yT, ty, pos, after, g⟩ a w K Q := by
  unfold Oper.wp
  simp only [execOp, hx, hy, Sem.run_bind, run_eqGuard_agg w .eql T x y (aC l) (aC m) hm, Result.andThen_ok, hT.eql hl hml w, Sem.run_pure]
  exact h
theorem wp_neq_bytes (hT : BytesT P T n) (hm : P.eqGuardType P.depth T = false) {l m : List UInt8} (hx : a.eval x = .agg (aC l)) (hy : a.eval y = .agg (aC m)) (hl : l.length = n) (hml : m.length = n) (h : K (a.put dst (.bool (!decide (l = m)))) w) :
    Oper.wp P ⟨dst, .binOp .neq T x y yT, ty, pos, after, g⟩ a w K Q := by
  unfold Oper.wp
  simp only [execOp, hx, hy, Sem.run_bind, run_eqGuard_agg w .neq T x y (aC l) (aC m) hm, Result.andThen_ok, hT.neq hl hml w, Sem.run_pure]
  exact h
variable {ops : Array Oper} {rest : List Oper} {o : Oper}
theorem wpList_wanted (hw : Region.wanted o (yielded ops a.tmps) = true) (h : ∀ K : Act → World → Prop, (∀ a w, wpList P ops Q rest a w → K a w) → o.wp P a w K Q) : wpList P ops Q (o :: rest) a w :=
  wpList_step fun K hK => by rw [if_pos hw]; exact h K hK
theorem wl_load (hT : BytesT P T n) (hw : Region.wanted ⟨dst, .load T x, ty, pos, after, g⟩ (yielded ops a.tmps) = true) {b off : Nat} {l : List UInt8} (hx : a.eval x = .pointer (some ⟨b, off, none⟩)) (hl : l.length = n) (ha : AAt w b off l)
    (h : wpList P ops Q rest (a.put dst (.agg (aC l))) w) : wpList P ops Q (⟨dst, .load T x, ty, pos, after, g⟩ :: rest) a w :=
  wpList_wanted hw fun _ hK => wp_load_bytes hT hx hl ha (hK _ _ h)
theorem wl_store (hT : BytesT P T n) (hw : Region.wanted ⟨dst, .store T x y, ty, pos, after, g⟩ (yielded ops a.tmps) = true) {b : Nat} {l m : List UInt8} {t : TypeId} (hx : a.eval x = .pointer (some ⟨b, 0, none⟩)) (hy : a.eval y = .agg (aC l)) (hl : l.length = n) (hm : m.length = n) (hb : ABlk t w b m)
    (h : wpList P ops Q rest (a.put dst undef) (w.setRow b (aC l))) : wpList P ops Q (⟨dst, .store T x y, ty, pos, after, g⟩ :: rest) a w :=
  wpList_wanted hw fun _ hK => wp_store_bytes hT hx hy hl hm hb (hK _ _ h)
theorem wl_eql (hT : BytesT P T n) (hm : P.eqGuardType P.depth T = false) (hw : Region.wanted ⟨dst, .binOp .eql T x y yT, ty, pos, after, g⟩ (yielded ops a.tmps) = true) {l m : List UInt8} (hx : a.eval x = .agg (aC l)) (hy : a.eval y = .agg (aC m)) (hl : l.length = n) (hml : m.length = n)
    (h : wpList P ops Q rest (a.put dst (.bool (decide (l = m)))) w) : wpList P ops Q (⟨dst, .binOp .eql T x y yT, ty, pos, after, g⟩ :: rest) a w :=
  wpList_wanted hw fun _ hK => wp_eql_bytes hT hm hx hy hl hml (hK _ _ h)
theorem wl_neq (hT : BytesT P T n) (hm : P.eqGuardType P.depth T = false) (hw : Region.wanted ⟨dst, .binOp .neq T x y yT, ty, pos, after, g⟩ (yielded ops a.tmps) = true) {l m : List UInt8} (hx : a.eval x = .agg (aC l)) (hy : a.eval y = .agg (aC m)) (hl : l.length = n) (hml : m.length = n)
    (h : wpList P ops Q rest (a.put dst (.bool (!decide (l = m)))) w) : wpList P ops Q (⟨dst, .binOp .neq T x y yT, ty, pos, after, g⟩ :: rest) a w :=
  wpList_wanted hw fun _ hK => wp_neq_bytes hT hm hx hy hl hml (hK _ _ h)
end

/-- A result variable that is such a value. -/
theorem BytesT.result {P : Program} {T : TypeId} {n : Nat} (hT : BytesT P T n) {fn : Func} {p : Tmp} (h : fn.results = #[.cell p T]) {tmps : Array Value} {w : World} {g : Nat} {t : TypeId} {l : List UInt8} (hg : ABlk t w g l) (hl : l.length = n) (hp : tmps.getD p undef = .pointer (some ⟨g, 0, none⟩)) :
    (results fn tmps).run P w = .ok (.agg (aC l)) w := by
  obtain ⟨d, hd, hr⟩ := hT.row
  exact results_cell_row h tmps w g t (aC l) (0, 0) d hp hg hd (by cases d <;> first | rfl | (simp [TypeDesc.isRow] at hr)) (by rw [hT.size, aC_size, hl])

theorem cell8 : Tryd.prog.cellsOf 5 = 1 := by kernel_rfl
theorem traceT : BytesT Tryd.prog 23 16 :=
  ⟨⟨_, Tryd.underlying23, rfl⟩, by kernel_rfl, by kernel_rfl, by kernel_rfl, fun l hl => lits_array Tryd.underlying23 Tryd.underlying5 cell8 (by kernel_rfl) _ l hl⟩
theorem spanT : BytesT Tryd.prog 28 8 :=
  ⟨⟨_, Tryd.underlying28, rfl⟩, by kernel_rfl, by kernel_rfl, by kernel_rfl, fun l hl => lits_array Tryd.underlying28 Tryd.underlying5 cell8 (by kernel_rfl) _ l hl⟩
end Go.Proofs.YtjoafbapffdneaaDoor
