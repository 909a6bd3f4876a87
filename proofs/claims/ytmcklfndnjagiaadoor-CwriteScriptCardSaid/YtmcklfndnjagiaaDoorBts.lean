/- Lists of bytes in memory, of no package: a list that the call itself made ('Bts'), one that was there ('BIn'), what 'copy', 'append' of one byte, 'string(b)' and '[]byte(s)' make of them. -/
import Derived.Test.YtmcklfndnjagiaaDoorRows
import Derived.Test.YtmcklfndnjagiaaDoorPlain
import Derived.Test.YtmcklfndnjagiaaDoorWordBytes
import Derived.Deep.QuietTactic
import Derived.BigQuiet
import Derived.Handy
import Derived.WalkSpells
import Derived.WalkLawsBesides
import Derived.OwnWalk
import Derived.Laws.OwnMore
import Derived.Laws.IdiomCopy
import Derived.Lib.ConvBytes
namespace Go.Proofs.YtmcklfndnjagiaaDoor
open Go Go.RowKit
set_option linter.unusedVariables false

/-- Bytes as values. -/
def bV (l : List UInt8) : List Value := l.map fun b => .int .u8 (b.toNat : Int)
theorem bV_length (l : List UInt8) : (bV l).length = l.length := List.length_map _
theorem bV_append (l m : List UInt8) : bV (l ++ m) = bV l ++ bV m := List.map_append
theorem bV_one (l : List UInt8) : ∀ v ∈ bV l, v.oneCell' = true := by
  intro v hv
  obtain ⟨b, _, rfl⟩ := List.mem_map.mp hv
  rfl
theorem bV_get (l : List UInt8) (k : Nat) (h : k < l.length) : (bV l)[k]? = some (.int .u8 (l[k].toNat : Int)) := by
  simp [bV, List.getElem?_eq_getElem h]
/-- The slice v, that the call itself made, holds the bytes l. -/
def Bts (t : TypeId) (w : World) (B : Nat) (v : Value) (l : List UInt8) : Prop := w.ownsRow B t 1 v l.length (bV l)
/-- The slice at a, of so many bytes, that was there, holds the bytes l. -/
def BIn (w : World) (a : Option Addr) (l : List UInt8) : Prop :=
  ∀ j (h : j < l.length), ∃ b off, a = some ⟨b, off, none⟩ ∧ b < w.heap.size ∧ w.cell? ⟨b, off + j, none⟩ = some (.int .u8 (l[j].toNat : Int))
theorem Bts.below {t : TypeId} {w w' : World} {B N : Nat} {v : Value} {l : List UInt8} (h : Bts t w B v l) (hb : Below N w w') (hN : w.heap.size ≤ N) : Bts t w' B v l := by
  refine World.ownsRow.kept (row := none) h ⟨hb.os, hb.tape, hb.output, hb.size, fun k hk _ => hb.block k (by omega)⟩ ?_
  cases v.ownBlock <;> simp
theorem info8 : (Tryd.prog.info? 5).map (fun i => (i.zero, i.size, i.bytes)) = some (some (.int .u8 0), 1, 1) := by kernel_rfl
theorem size8 : (Tryd.prog.info? 5).map (·.size) = some 1 := by kernel_rfl
/-- What 'copy' of what came in makes of a list that has just been made. -/
theorem copy_fact (P : Program) (t e ty : TypeId) (i : TypeInfo) (ht : P.underlying t = some (.slice e)) (hi : (P.info? e).map (·.size) = some 1)
    (W : World) (a : Option Addr) (cap more : Nat) (l : List UInt8) (hin : BIn W a l) (hmax : l.length + more ≤ maxLen) :
    ∃ w2, (Builtin.copy_ #[t, t] ty #[.slice (some ⟨W.heap.size, 0, none⟩) l.length (l.length + more), .slice a l.length cap]).run P (W.alloc (.cells (Array.replicate (l.length + more) (.int .u8 0)) e)) = .ok (goInt l.length) w2 ∧
      Bts e w2 W.heap.size (.slice (some ⟨W.heap.size, 0, none⟩) l.length (l.length + more)) l ∧ Below W.heap.size W w2 := by
  have hnew : (W.alloc (.cells (Array.replicate (l.length + more) (.int .u8 0)) e)).heap[W.heap.size]? = some (.cells (Array.replicate (l.length + more) (.int .u8 0)) e (0, 0)) := heap_alloc_new W _
  have hb1 : Below W.heap.size W (W.alloc (.cells (Array.replicate (l.length + more) (.int .u8 0)) e)) := (Below.refl _ _).alloc (Nat.le_refl _) _
  by_cases h0 : l.length = 0
  · obtain rfl := List.eq_nil_of_length_eq_zero h0
    refine ⟨_, run_copy_none (P := P) _ t t ty e _ a 0 _ 0 cap ht hi rfl, ⟨rfl, .inr ⟨_, _, _, rfl, Nat.le_refl _, hnew, Nat.zero_le _, hmax, by simp, by simp [bV]⟩⟩, hb1⟩
  · obtain ⟨b, off, rfl, hbl, _⟩ := hin 0 (by omega)
    have hr := run_copy_row (P := P) (W.alloc (.cells (Array.replicate (l.length + more) (.int .u8 0)) e)) t t ty e W.heap.size 0 l.length (l.length + more) ⟨b, off, none⟩ l.length cap _ e (bV l) ht hi hnew
      (by rw [bV_length]; exact (Nat.min_self _).symm) (fun j v hj => by
        have hjl : j < l.length := by
          have := (List.getElem?_eq_some_iff.1 hj).1
          rwa [bV_length] at this
        obtain ⟨b', off', he, hb', hc⟩ := hin j hjl
        obtain ⟨rfl, rfl⟩ : b = b' ∧ off = off' := by simpa using he
        rw [bV_get l j hjl] at hj
        have e1 : (Addr.mk b off none).add j = ⟨b, off + j, none⟩ := by unfold Addr.add; split <;> simp_all
        rw [e1, World.cell?_of_block (w := W) (hb1.block b hb'), hc]
        exact hj) (by simp [bV_length]) (bV_one l)
    rw [bV_length] at hr
    refine ⟨_, hr, ⟨by rw [bV_length]; omega, .inr ⟨_, _, _, rfl, Nat.le_refl _, setRow_heap _ _ _ _ _ _ hnew, Nat.le_add_right _ _, hmax, ?_, ?_⟩⟩, hb1.trans ⟨rfl, rfl, rfl, by simp, fun k hk => setRow_other _ _ _ _ (by omega)⟩⟩
    · simp [bV_length]
    · rw [Nat.mul_one]
      simp [bV_length]
/-- 'append(list, b)' on a list that the call itself made: one byte more. -/
theorem wpList_append_byte {P : Program} {ops : Array Oper} {rest : List Oper} {o : Oper} {a : Act} {Q : Exit → Act → World → Prop} (hgd : o.guard = none) (s x : Operand) (t : TypeId)
    (ho : o.op = .call { callee := .builtin .append, args := #[s, x], argTypes := #[t, t] })
    (e : TypeId) (i : TypeInfo) (ht : P.underlying t = some (.slice e)) (hi : P.info? e = some i) (hz : i.zero = some (.int .u8 0)) (hsize : i.size = 1) (hby : i.bytes = 1)
    (v : Value) (W wr : World) (B : Nat) (l : List UInt8) (hb : Bts e wr B v l) (hbel : Below B W wr) (hB : B ≤ wr.heap.size) (hs : a.eval s = v)
    (z : Int) (b : UInt8) (hzb : z = (b.toNat : Int)) (hx : a.eval x = .slice (some ⟨wr.heap.size, 0, none⟩) 1 1) (hlen : l.length + 1 ≤ 140737488355328)
    (h : ∀ v' w', Bts e w' B v' (l ++ [b]) → Below B W w' → wpList P ops Q rest (a.put o.dst v') w') :
    wpList P ops Q (o :: rest) a (wr.alloc (.cells #[.int .u8 z] e)) := by
  subst hzb
  refine wpList_append_own _ hgd s x t ho B e i (.int .u8 0) 1 1 ht hi hz hsize hby rfl (by decide) v l.length (bV l) hs (World.ownsRow.alloc hb _) ⟨wr.heap.size, 0, none⟩ 1 1 [.int .u8 (b.toNat : Int)] hx rfl ?_ ?_ (by unfold maxLen; omega) (by omega) (by simp; omega) ?_
  · intro j u hj
    match j, hj with
    | 0, hj =>
      simp at hj
      subst hj
      have h1 := heap_alloc_new wr (.cells #[.int .u8 (b.toNat : Int)] e)
      show World.cell? _ ⟨wr.heap.size, 0 + 0, none⟩ = _
      simp only [World.cell?]
      rw [h1]; rfl
  · intro u hu; simp at hu; subst hu; rfl
  · intro v' w' hown hgr _
    refine h v' w' ?_ ?_
    · unfold Bts
      rw [bV_append, List.length_append]
      exact hown
    · refine hbel.trans ⟨hgr.os, hgr.tape, hgr.output, by have := hgr.size; simp at this; omega, fun k hk => ?_⟩
      have hne : some k ≠ v.ownBlock := fun hk' => by
        have := (World.ownsRow.lt hb k hk'.symm).1
        omega
      rw [hgr.block k (by simp; omega) hne]
      exact Below.heap_alloc _ _ _ (by omega)
/-- A text of bytes. -/
def bA (l : List UInt8) : ByteArray := ⟨l.toArray⟩
theorem bA_size (l : List UInt8) : (bA l).size = l.length := by simp [bA, ByteArray.size]
theorem bA_append (l m : List UInt8) : bA l ++ bA m = bA (l ++ m) := by
  apply ByteArray.ext
  simp [bA]
/-- 'string(b)' of a list that the call itself made. -/
theorem Bts.text {P : Program} {t e d : TypeId} {w : World} {B : Nat} {v : Value} {l : List UInt8} (h : Bts e w B v l) (ht : P.underlying t = some (.slice e)) (he : P.underlying e = some (.int .u8)) (hd : P.underlying d = some .string) :
    (convert t d v).run P w = .ok (.string (bA l)) w := by
  rcases h.2 with ⟨rfl, hn⟩ | ⟨g, cap, cur, rfl, _, hg, _⟩
  · obtain rfl := List.eq_nil_of_length_eq_zero hn
    exact run_convert_bytes_nil w t e ht he 0 0 d hd
  · refine run_convert_bytes_back w t d e ⟨g, 0, none⟩ cap l ht he hd fun j hj => ?_
    have e1 : (Addr.mk g 0 none).add j = ⟨g, j, none⟩ := by unfold Addr.add; split <;> simp_all
    rw [e1, World.ownsRow.cellAt h j (by omega), bV_get l j hj]
/-- Of one byte, just laid. -/
theorem text_one (P : Program) (t e d : TypeId) (w : World) (z : Int) (b : UInt8) (hz : z = (b.toNat : Int)) (ht : P.underlying t = some (.slice e)) (he : P.underlying e = some (.int .u8)) (hd : P.underlying d = some .string) :
    (convert t d (.slice (some ⟨w.heap.size, 0, none⟩) 1 1)).run P (w.alloc (.cells #[.int .u8 z] e)) = .ok (.string (bA [b])) (w.alloc (.cells #[.int .u8 z] e)) := by
  subst hz
  refine run_convert_bytes_back _ t d e ⟨w.heap.size, 0, none⟩ 1 [b] ht he hd fun j hj => ?_
  have h0 : j = 0 := by simpa using hj
  subst h0
  have h1 := heap_alloc_new w (.cells #[.int .u8 (b.toNat : Int)] e)
  show World.cell? _ ⟨w.heap.size, 0 + 0, none⟩ = _
  simp only [World.cell?]
  rw [h1]; rfl
theorem mod_byte (u : Nat) : (u : Int) % 256 = ((UInt8.ofNat (u % 256)).toNat : Int) := by
  have : (UInt8.ofNat (u % 256)).toNat = u % 256 := by rw [UInt8.toNat_ofNat']; omega
  rw [this]; omega
theorem bA_of (p : ByteArray) : bA p.data.toList = p := by
  apply ByteArray.ext; simp [bA]
theorem bA_front (p : ByteArray) (l : List UInt8) : bA (p.data.toList ++ l) = p ++ bA l := by
  rw [← bA_append, bA_of]
/-- '[]byte(p)' of a text: the bytes lie there. -/
theorem bytes_in (w : World) (e : TypeId) (p : ByteArray) : BIn (Lib.bytesWorld w e p) (some ⟨w.heap.size, 0, none⟩) p.data.toList := by
  intro j hj
  have hs : j < p.size := by rw [toList_size] at hj; exact hj
  refine ⟨_, _, rfl, by rw [Lib.bytesWorld_size]; omega, ?_⟩
  rw [Nat.zero_add, Lib.bytesWorld_cell w e p j hs, List.getD_eq_getElem?_getD, List.getElem?_eq_getElem hj]; rfl
theorem bytes_below (w : World) (e : TypeId) (p : ByteArray) : Below w.heap.size w (Lib.bytesWorld w e p) :=
  ⟨by simp [Lib.bytesWorld, World.freeze, World.alloc, World.drew, -World.alloc_eq, -World.drew_eq], by simp [Lib.bytesWorld, World.freeze, World.alloc, World.drew, -World.alloc_eq, -World.drew_eq], by simp [Lib.bytesWorld, World.freeze, World.alloc, World.drew, -World.alloc_eq, -World.drew_eq], by rw [Lib.bytesWorld_size]; omega, fun k hk => Lib.bytesWorld_at_old w e p k hk⟩
/-- A list that the call made, of the text p and the bytes l behind it: its form. -/
theorem bts_form {t : TypeId} {w : World} {B n : Nat} {v : Value} {p : ByteArray} {l : List UInt8} (hl : l.length = n) (hn0 : 0 < n) (h : Bts t w B v (p.data.toList ++ l)) :
    ∃ g cap, v = .slice (some ⟨g, 0, none⟩) (p.size + n) cap ∧ B ≤ g ∧ g < w.heap.size ∧ p.size + n ≤ cap ∧ (∀ j (hj : j < (p.data.toList ++ l).length), w.cell? ⟨g, j, none⟩ = some (.int .u8 ((p.data.toList ++ l)[j].toNat : Int))) := by
  subst hl
  rcases h.2 with ⟨_, hn⟩ | ⟨g, cap, cur, rfl, hB, hg, hnc, _⟩
  · rw [List.length_append] at hn; omega
  · refine ⟨g, cap, by rw [List.length_append, toList_size], hB, lt_of_block hg, by rw [List.length_append, toList_size] at hnc; exact hnc, fun j hj => ?_⟩
    rw [World.ownsRow.cellAt h j (by omega), bV_get _ j hj]
/-- Block g holds the text p and behind it the bytes l, from its head on. -/
def Holds (w : World) (g : Nat) (p : ByteArray) (l : List UInt8) : Prop := ∀ j (hj : j < (p.data.toList ++ l).length), w.cell? ⟨g, j, none⟩ = some (.int .u8 ((p.data.toList ++ l)[j].toNat : Int))
theorem Holds.below {w w' : World} {g : Nat} {p : ByteArray} {l : List UInt8} {N : Nat} (h : Holds w g p l) (hb : Below N w w') (hg : g < N) : Holds w' g p l :=
  fun j hj => (hb.cell (p := ⟨g, j, none⟩) hg).trans (h j hj)
theorem Holds.drewN {w : World} {g : Nat} {p : ByteArray} {l : List UInt8} (h : Holds w g p l) (n : Nat) : Holds (w.drewN n) g p l := h
theorem Holds.all {P : Program} {t e d : TypeId} {w : World} {g cap n : Nat} {p : ByteArray} {l : List UInt8} (hl : l.length = n) (h : Holds w g p l) (ht : P.underlying t = some (.slice e)) (he : P.underlying e = some (.int .u8)) (hd : P.underlying d = some .string) :
    (convert t d (.slice (some ⟨g, 0, none⟩) (p.size + n) cap)).run P w = .ok (.string (p ++ bA l)) w := by
  subst hl
  have := run_convert_bytes_back (P := P) w t d e ⟨g, 0, none⟩ cap (p.data.toList ++ l) ht he hd fun j hj => by
    have e1 : (Addr.mk g 0 none).add j = ⟨g, j, none⟩ := by unfold Addr.add; split <;> simp_all
    rw [e1, h j hj]
  rw [List.length_append, toList_size] at this
  rw [this, ← bA_front]; rfl
theorem Holds.back {P : Program} {t e d : TypeId} {w : World} {g cap n : Nat} {p : ByteArray} {l : List UInt8} (hl : l.length = n) (h : Holds w g p l) (ht : P.underlying t = some (.slice e)) (he : P.underlying e = some (.int .u8)) (hd : P.underlying d = some .string) :
    (convert t d (.slice (some ⟨g, p.size, none⟩) n cap)).run P w = .ok (.string (bA l)) w := by
  subst hl
  refine run_convert_bytes_back (P := P) w t d e ⟨g, p.size, none⟩ cap l ht he hd fun j hj => ?_
  have e1 : (Addr.mk g p.size none).add j = ⟨g, p.size + j, none⟩ := by unfold Addr.add; split <;> simp_all
  have h2 := h (p.size + j) (by rw [List.length_append, toList_size]; omega)
  rw [e1, h2, List.getElem_append_right (by rw [toList_size]; omega)]
  simp

theorem i64_small {x : Int} (h : -9223372036854775808 ≤ x) (h2 : x ≤ 9223372036854775807) : IntKind.i64.wrap x = x := IntWalk.i64_in _ ⟨h, h2⟩
theorem wrap64_in {x : Int} (h : 0 ≤ x) (h2 : x < 256) : wrap64 x = x := by unfold wrap64; omega
/-- Two texts compared. -/
theorem text_eq (a b : ByteArray) : (a.toList == b.toList) = decide (a = b) := by
  rw [ByteArray.toList_eq, ByteArray.toList_eq]
  by_cases h : a = b
  · subst h; simp
  · rw [decide_eq_false h]
    exact beq_eq_false_iff_ne.mpr (fun e => h (ByteArray.ext (Array.toList_inj.mp e)))

theorem ret_b {a b : Bool} (h : a = b) : Ending.returned (.bool a) = .returned (.bool b) := by rw [h]
theorem ret_i {k : IntKind} {a b : Int} (h : a = b) : Ending.returned (.int k a) = .returned (.int k b) := by rw [h]
theorem ret_ii {a c b d : Int} (h : a = c) (k : b = d) : Ending.returned (.tuple #[.int .i64 a, .int .i64 b]) = .returned (.tuple #[.int .i64 c, .int .i64 d]) := by rw [h, k]
theorem grown_then {w w1 w' : World} (h : Below w.heap.size w w1) (hbq : Below w1.heap.size w1 w') : Below w.heap.size w w' := h.trans (hbq.mono h.size)
theorem ext_toList (s : ByteArray) (a b : Nat) : (s.extract a b).data.toList = (s.data.toList.drop a).take (b - a) := by
  rw [ByteArray.data_extract, Array.toList_extract, List.extract_eq_take_drop]
theorem back_toList (s : ByteArray) (k : Nat) : (s.extract k s.size).data.toList = s.data.toList.drop k := by
  rw [ext_toList, List.take_of_length_le]
  rw [List.length_drop, toList_size]; exact Nat.le_refl _
theorem text_ne (a b : ByteArray) : (a.toList != b.toList) = decide (¬ a = b) := by
  show (!(a.toList == b.toList)) = _
  rw [text_eq]; simp
theorem cut_none (s : ByteArray) : s.extract 0 0 = ⟨#[]⟩ := by
  apply ByteArray.ext; simp
theorem toList_append (s t : ByteArray) : (s ++ t).data.toList = s.data.toList ++ t.data.toList := by simp
theorem drew_below (w : World) (m : Nat) : Below w.heap.size w (w.drewN m) := Below.drewN (Below.refl _ _) m
theorem BIn.below {w w' : World} {a : Option Addr} {l : List UInt8} (h : BIn w a l) (hb : Below w.heap.size w w') : BIn w' a l := fun j hj => by
  obtain ⟨b, off, e, hlt, hc⟩ := h j hj
  exact ⟨b, off, e, Nat.lt_of_lt_of_le hlt hb.size, (hb.cell (p := ⟨b, off + j, none⟩) hlt).trans hc⟩
theorem Bts.base {t : TypeId} {w : World} {B N : Nat} {v : Value} {l : List UInt8} (h : Bts t w N v l) (hB : B ≤ N) : Bts t w B v l := by
  refine ⟨h.1, ?_⟩
  rcases h.2 with e | ⟨g, cap, cur, e, hg, h2⟩
  · exact .inl e
  · exact .inr ⟨g, cap, cur, e, Nat.le_trans hB hg, h2⟩
theorem below_on {B N : Nat} {a b c : World} (h : Below B a b) (h2 : Below N b c) (hN : B ≤ N) : Below B a c :=
  h.trans ⟨h2.os, h2.tape, h2.output, h2.size, fun k hk => h2.block k (by omega)⟩

theorem isEmpty_of (s : ByteArray) : s.toList.isEmpty = decide (s.size = 0) := by
  rw [ByteArray.toList_eq, Bool.eq_iff_iff, List.isEmpty_iff_length_eq_zero, toList_size, decide_eq_true_iff]
theorem bA_is (l m : List UInt8) : ((bA l).toList == m) = decide (l = m) := by
  rw [ByteArray.toList_eq, show (bA l).data.toList = l by simp [bA], Bool.eq_iff_iff, beq_iff_eq, decide_eq_true_iff]
theorem lit_is (s : ByteArray) (m : List UInt8) : (s.toList == m) = decide (s.data.toList = m) := by
  rw [ByteArray.toList_eq, Bool.eq_iff_iff, beq_iff_eq, decide_eq_true_iff]
theorem head_at (s : ByteArray) (h : 0 < s.size) : s.data.toList.head? = some s[0] := by
  have h' : 0 < s.data.toList.length := by rw [toList_size]; exact h
  rw [List.head?_eq_getElem?, List.getElem?_eq_getElem h', byte_at s 0 h h']
theorem tail_text (s : ByteArray) : (s.extract 1 s.size).data.toList = s.data.toList.drop 1 := by
  rw [ByteArray.data_extract, Array.toList_extract, List.extract_eq_take_drop]
  exact List.take_of_length_le (by rw [List.length_drop, toList_size]; exact Nat.le_refl _)
/-- 'make([]byte, n, n+more)'. -/
theorem make_bytes (n more : Nat) (w : World) (hl : n + more ≤ 140737488355000) :
    (Instr.makeSlice 52 (.int .i64 (n : Int)) (.int .i64 ((n : Int) + more))).run Tryd.prog w = .ok (.slice (some ⟨w.heap.size, 0, none⟩) n (n + more)) (w.alloc (.cells (Array.replicate (n + more) (.int .u8 0)) 5)) := by
  obtain ⟨i0, hi, hz0, hz1, hz2⟩ := info_parts info8
  have := run_make (P := Tryd.prog) w 52 5 i0 (.int .u8 0) Tryd.underlying52 hi hz0 .i64 .i64 (n : Int) ((n : Int) + more) (by omega) (by omega) (by rw [hz2]; omega) (by omega)
  have hn : ((n : Int) + more).toNat = n + more := by omega
  have hma : madeCells (Value.int .u8 0).cells (n + more) = Array.replicate (n + more) (.int .u8 0) := by
    apply Array.toList_inj.mp
    show (madeCells #[.int .u8 0] _).toList = _
    rw [toList_madeCells_one, Array.toList_replicate]
  rw [this, hn, hz1, Nat.mul_one, hma]
  rfl

end Go.Proofs.YtmcklfndnjagiaaDoor
