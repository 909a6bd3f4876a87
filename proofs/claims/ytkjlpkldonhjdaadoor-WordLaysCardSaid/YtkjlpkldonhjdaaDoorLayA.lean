/- Package word's lists of bytes: 'copied', with what memory holds a list ('Bts'). -/
import Derived.Test.YtkjlpkldonhjdaaDoorRows
import Derived.Test.YtkjlpkldonhjdaaDoorPlain
import Derived.Test.YtkjlpkldonhjdaaDoorWordBytes
import Derived.Deep.QuietTactic
import Derived.BigQuiet
import Derived.Handy
import Derived.WalkSpells
import Derived.WalkLawsBesides
import Derived.OwnWalk
import Derived.Laws.OwnMore
import Derived.Laws.IdiomCopy
namespace Go.Proofs.YtkjlpkldonhjdaaDoor
open Go Go.RowKit
set_option linter.unusedVariables false

/-- Bytes as values. -/
def bV (l : List UInt8) : List Value := l.map fun b => .int .u8 (b.toNat : Int)
theorem bV_length (l : List UInt8) : (bV l).length = l.length := List.length_map _
theorem bV_append (l m : List UInt8) : bV (l ++ m) = bV l ++ bV m := List.map_append
theorem bV_one (l : List UInt8) : ∀ v ∈ bV l, v.oneCell' = true := by
  intro v hv
  obtain ⟨b, _, rfl⟩ := List.mem_map.mp hv
  rfl
theorem bV_get (l : List UInt8) (k : Nat) (h : k < l.length) : (bV l)[k]? = some (.int .u8 (l[k].toNat : Int)) := by
  simp [bV, List.getElem?_eq_getElem h]

/-- The slice v, that the call itself made, holds the bytes l. -/
def Bts (t : TypeId) (w : World) (B : Nat) (v : Value) (l : List UInt8) : Prop := w.ownsRow B t 1 v l.length (bV l)
/-- The slice at a, of so many bytes, that was there, holds the bytes l. -/
def BIn (w : World) (a : Option Addr) (l : List UInt8) : Prop :=
  ∀ j (h : j < l.length), ∃ b off, a = some ⟨b, off, none⟩ ∧ b < w.heap.size ∧ w.cell? ⟨b, off + j, none⟩ = some (.int .u8 (l[j].toNat : Int))

theorem Bts.below {t : TypeId} {w w' : World} {B N : Nat} {v : Value} {l : List UInt8} (h : Bts t w B v l) (hb : Below N w w') (hN : w.heap.size ≤ N) : Bts t w' B v l := by
  refine World.ownsRow.kept (row := none) h ⟨hb.os, hb.tape, hb.output, hb.size, fun k hk _ => hb.block k (by omega)⟩ ?_
  cases v.ownBlock <;> simp

theorem info8 : (Tryd.prog.info? 5).map (fun i => (i.zero, i.size, i.bytes)) = some (some (.int .u8 0), 1, 1) := by kernel_rfl
theorem size8 : (Tryd.prog.info? 5).map (·.size) = some 1 := by kernel_rfl

/-- What 'copy' of what came in makes of a list that has just been made. -/
theorem copy_fact (P : Program) (t e ty : TypeId) (i : TypeInfo) (ht : P.underlying t = some (.slice e)) (hi : (P.info? e).map (·.size) = some 1)
    (W : World) (a : Option Addr) (cap more : Nat) (l : List UInt8) (hin : BIn W a l) (hmax : l.length + more ≤ maxLen) :
    ∃ w2, (Builtin.copy_ #[t, t] ty #[.slice (some ⟨W.heap.size, 0, none⟩) l.length (l.length + more), .slice a l.length cap]).run P (W.alloc (.cells (Array.replicate (l.length + more) (.int .u8 0)) e)) = .ok (goInt l.length) w2 ∧
      Bts e w2 W.heap.size (.slice (some ⟨W.heap.size, 0, none⟩) l.length (l.length + more)) l ∧ Below W.heap.size W w2 := by
  have hnew : (W.alloc (.cells (Array.replicate (l.length + more) (.int .u8 0)) e)).heap[W.heap.size]? = some (.cells (Array.replicate (l.length + more) (.int .u8 0)) e (0, 0)) := heap_alloc_new W _
  have hb1 : Below W.heap.size W (W.alloc (.cells (Array.replicate (l.length + more) (.int .u8 0)) e)) := (Below.refl _ _).alloc (Nat.le_refl _) _
  by_cases h0 : l.length = 0
  · obtain rfl := List.eq_nil_of_length_eq_zero h0
    refine ⟨_, run_copy_none (P := P) _ t t ty e _ a 0 _ 0 cap ht hi rfl, ⟨rfl, .inr ⟨_, _, _, rfl, Nat.le_refl _, hnew, Nat.zero_le _, hmax, by simp, by simp [bV]⟩⟩, hb1⟩
  · obtain ⟨b, off, rfl, hbl, _⟩ := hin 0 (by omega)
    have hr := run_copy_row (P := P) (W.alloc (.cells (Array.replicate (l.length + more) (.int .u8 0)) e)) t t ty e W.heap.size 0 l.length (l.length + more) ⟨b, off, none⟩ l.length cap _ e (bV l) ht hi hnew
      (by rw [bV_length]; exact (Nat.min_self _).symm) (fun j v hj => by
        have hjl : j < l.length := by
          have := (List.getElem?_eq_some_iff.1 hj).1
          rwa [bV_length] at this
        obtain ⟨b', off', he, hb', hc⟩ := hin j hjl
        obtain ⟨rfl, rfl⟩ : b = b' ∧ off = off' := by simpa using he
        rw [bV_get l j hjl] at hj
        have e1 : (Addr.mk b off none).add j = ⟨b, off + j, none⟩ := by unfold Addr.add; split <;> simp_all
        rw [e1, World.cell?_of_block (w := W) (hb1.block b hb'), hc]
        exact hj) (by simp [bV_length]) (bV_one l)
    rw [bV_length] at hr
    refine ⟨_, hr, ⟨by rw [bV_length]; omega, .inr ⟨_, _, _, rfl, Nat.le_refl _, setRow_heap _ _ _ _ _ _ hnew, Nat.le_add_right _ _, hmax, ?_, ?_⟩⟩, hb1.trans ⟨rfl, rfl, rfl, by simp, fun k hk => setRow_other _ _ _ _ (by omega)⟩⟩
    · simp [bV_length]
    · rw [Nat.mul_one]
      simp [bV_length]

theorem copied_any (a : Option Addr) (cap : Nat) (l : List UInt8) (more : Nat) (w : World) (hl : l.length ≤ 140737488351232) (hm : more ≤ 16) (hin : BIn w a l) :
    Calls Tryd.prog 33 #[.slice a l.length cap, .int .i64 more] w fun e w' => ∃ v, e = .returned v ∧ Bts 5 w' w.heap.size v l ∧ Below w.heap.size w w' := by
  obtain ⟨i0, hi, hz0, hz1, hz2⟩ := info_parts info8
  have hw : IntKind.i64.wrap ((l.length : Int) + more) = (l.length : Int) + more := IntWalk.i64_in _ (by omega)
  have hmk := Lib.hid (show (Instr.makeSlice 28 (.int .i64 (l.length : Int)) (.int .i64 ((l.length : Int) + more))).run Tryd.prog w = .ok (.slice (some ⟨w.heap.size, 0, none⟩) l.length (l.length + more)) (w.alloc (.cells (Array.replicate (l.length + more) (.int .u8 0)) 5)) by
    have := run_make (P := Tryd.prog) w 28 5 i0 (.int .u8 0) Tryd.underlying28 hi hz0 .i64 .i64 (l.length : Int) ((l.length : Int) + more) (by omega) (by omega) (by rw [hz2]; omega) (by omega)
    have hn : ((l.length : Int) + more).toNat = l.length + more := by omega
    have hma : madeCells (Value.int .u8 0).cells (l.length + more) = Array.replicate (l.length + more) (.int .u8 0) := by
      apply Array.toList_inj.mp
      show (madeCells #[.int .u8 0] _).toList = _
      rw [toList_madeCells_one, Array.toList_replicate]
    rw [this, hn, hz1, Nat.mul_one, hma]
    rfl)
  obtain ⟨w2, hcp0, hbt, hbel⟩ := copy_fact Tryd.prog 28 5 3 i0 Tryd.underlying28 size8 w a cap more l hin (by unfold maxLen; omega)
  have hcp := Lib.hid hcp0
  clear hin hcp0
  go_enter Tryd.func33, Tryd.ntmps33
  go_wp2_with fail
  rw [hmk.out]
  go_wp2_with fail
  rw [hcp.out]
  go_wp2
  go_ret
  exact ⟨_, rfl, hbt, hbel⟩
end Go.Proofs.YtkjlpkldonhjdaaDoor
