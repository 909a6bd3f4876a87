/- Plain facts, of no program: a cursor as a datum, what each of its calls makes of it; blocks of memory that hold a cursor; 'Only b': nothing turns but block b and what is new. -/
import Derived.WalkKit
import Derived.ProofKit
import Derived.OpenShut
import Derived.OneCell
import Derived.Deep.Draws
import Derived.Lib.Hide
namespace Go.Proofs.YtmcklfndnjagiaaDoor
open Go Go.RowKit
set_option linter.unusedVariables false

/-- A cursor as a datum: its text, where it stands, where its bytes end, its error. -/
structure CS where
  s : ByteArray
  at_ : Nat
  en : Nat
  er : Int

def CS.ok (c : CS) : Prop := c.at_ ≤ c.en ∧ c.en ≤ c.s.size ∧ c.s.size ≤ 9223372036854775807

def CS.val (c : CS) : Value := .agg #[.string c.s, .int .i64 c.at_, .int .i64 c.en, .int .i64 c.er]
def CS.new (s : ByteArray) : CS := ⟨s, 0, s.size, 0⟩
def CS.zero : CS := ⟨⟨#[]⟩, 0, 0, 0⟩

/-- What is wrong with reading n bytes. -/
def CS.why (c : CS) (n : Int) : Int := if c.er ≠ 0 then c.er else if n < 0 then 13 else if (c.en : Int) - c.at_ < n then 1 else 0
def CS.take (c : CS) (n : Int) : CS := if c.why n = 0 then { c with at_ := c.at_ + n.toNat } else { c with er := c.why n }
def CS.takeS (c : CS) (n : Int) : ByteArray := if c.why n = 0 then c.s.extract c.at_ (c.at_ + n.toNat) else ⟨#[]⟩
def CS.sub (c : CS) (n : Int) : CS := if c.why n = 0 then { c with en := c.at_ + n.toNat } else CS.zero
def CS.subIs (c : CS) (n : Int) : Bool := decide (c.why n = 0)
def CS.fail (c : CS) (k : Int) : CS := if c.er = 0 then { c with er := k } else c
def CS.endC (c : CS) : Int := if c.er = 0 ∧ c.at_ < c.en then 2 else c.er
def CS.peekIs (c : CS) : Bool := decide (c.er = 0 ∧ c.at_ < c.en)
def CS.peekB (c : CS) : Int := if c.peekIs then ((c.s.data[c.at_]?).getD 0).toNat else 0

theorem CS.why_zero {c : CS} {n : Int} (h : c.why n = 0) : c.er = 0 ∧ 0 ≤ n ∧ n ≤ (c.en : Int) - c.at_ := by
  unfold CS.why at h
  by_cases h1 : c.er = 0
  · by_cases h2 : n < 0
    · rw [if_neg (by simp [h1]), if_pos h2] at h; omega
    · by_cases h3 : (c.en : Int) - c.at_ < n
      · rw [if_neg (by simp [h1]), if_neg h2, if_pos h3] at h; omega
      · exact ⟨h1, by omega, by omega⟩
  · rw [if_pos h1] at h; exact ⟨h, absurd h h1⟩
theorem CS.why_mk {c : CS} {n : Int} (h1 : c.er = 0) (h2 : 0 ≤ n) (h3 : n ≤ (c.en : Int) - c.at_) : c.why n = 0 := by
  unfold CS.why; rw [if_neg (by simp [h1]), if_neg (by omega), if_neg (by omega)]
theorem CS.take_ok {c : CS} (h : c.ok) (n : Int) : (c.take n).ok := by
  obtain ⟨h1, h2, h3⟩ := h
  by_cases hw : c.why n = 0
  · obtain ⟨k1, k2, k3⟩ := CS.why_zero hw
    unfold CS.take; rw [if_pos hw]; exact ⟨by simp only; omega, h2, h3⟩
  · unfold CS.take; rw [if_neg hw]; exact ⟨h1, h2, h3⟩
theorem CS.sub_ok {c : CS} (h : c.ok) (n : Int) : (c.sub n).ok := by
  obtain ⟨h1, h2, h3⟩ := h
  by_cases hw : c.why n = 0
  · obtain ⟨k1, k2, k3⟩ := CS.why_zero hw
    unfold CS.sub; rw [if_pos hw]; exact ⟨by simp only; omega, by simp only; omega, h3⟩
  · unfold CS.sub; rw [if_neg hw]; exact ⟨Nat.le_refl _, Nat.le_refl _, by simp [CS.zero, ByteArray.size]⟩
theorem CS.fail_ok {c : CS} (h : c.ok) (n : Int) : (c.fail n).ok := by
  unfold CS.fail; split <;> exact h
theorem CS.new_ok {s : ByteArray} (h : s.size ≤ 9223372036854775807) : (CS.new s).ok := ⟨Nat.zero_le _, Nat.le_refl _, h⟩

/-- Block b holds the cursor c (t: the type of its cells). -/
def CurT (t : TypeId) (w : World) (b : Nat) (c : CS) : Prop := w.heap[b]? = some (.cells #[.string c.s, .int .i64 c.at_, .int .i64 c.en, .int .i64 c.er] t (0, 0))

theorem CurT.lt {t : TypeId} {w : World} {b : Nat} {c : CS} (h : CurT t w b c) : b < w.heap.size := lt_of_block h
theorem CurT.c0 {t : TypeId} {w : World} {b : Nat} {c : CS} (h : CurT t w b c) : w.cell? ⟨b, 0, none⟩ = some (.string c.s) := by unfold CurT at h; simp [World.cell?, h]
theorem CurT.c1 {t : TypeId} {w : World} {b : Nat} {c : CS} (h : CurT t w b c) : w.cell? ⟨b, 1, none⟩ = some (.int .i64 c.at_) := by unfold CurT at h; simp [World.cell?, h]
theorem CurT.c2 {t : TypeId} {w : World} {b : Nat} {c : CS} (h : CurT t w b c) : w.cell? ⟨b, 2, none⟩ = some (.int .i64 c.en) := by unfold CurT at h; simp [World.cell?, h]
theorem CurT.c3 {t : TypeId} {w : World} {b : Nat} {c : CS} (h : CurT t w b c) : w.cell? ⟨b, 3, none⟩ = some (.int .i64 c.er) := by unfold CurT at h; simp [World.cell?, h]
theorem CurT.fr {t : TypeId} {w : World} {b : Nat} {c : CS} (h : CurT t w b c) (o : Nat) : w.frozen? ⟨b, o, none⟩ = false := by unfold CurT at h; simp [World.frozen?, h]
theorem CurT.drewN {t : TypeId} {w : World} {b : Nat} {c : CS} (h : CurT t w b c) (n : Nat) : CurT t (w.drewN n) b c := h

theorem heap_setCell_block {w : World} {b o : Nat} {cs : Array Value} {t : TypeId} {fr : Nat × Nat} (h : w.heap[b]? = some (.cells cs t fr)) (u : Value) : (w.setCell ⟨b, o, none⟩ u).heap[b]? = some (.cells (cs.setIfInBounds o u) t fr) := by
  have hlt := lt_of_block h
  have h' : w.heap[b] = .cells cs t fr := by simpa [Array.getElem?_eq_getElem hlt] using h
  show (w.heap.modify b _)[b]? = _
  rw [Array.getElem?_eq_getElem (by simpa using hlt), Array.getElem_modify_self, h']
  rfl
theorem CurT.setAt {t : TypeId} {w : World} {b : Nat} {c : CS} (h : CurT t w b c) (a : Nat) : CurT t (w.setCell ⟨b, 1, none⟩ (.int .i64 a)) b { c with at_ := a } := heap_setCell_block h _
theorem CurT.setEr {t : TypeId} {w : World} {b : Nat} {c : CS} (h : CurT t w b c) (a : Int) : CurT t (w.setCell ⟨b, 3, none⟩ (.int .i64 a)) b { c with er := a } := heap_setCell_block h _

/-- Nothing turns but block b, and what is new. -/
structure Only (b : Nat) (w w' : World) : Prop where
  os : w'.os = w.os
  tape : w'.tape = w.tape
  output : w'.output = w.output
  size : w.heap.size ≤ w'.heap.size
  block : ∀ k, k < w.heap.size → k ≠ b → w'.heap[k]? = w.heap[k]?

theorem Only.refl (b : Nat) (w : World) : Only b w w := ⟨rfl, rfl, rfl, Nat.le_refl _, fun _ _ _ => rfl⟩
theorem Only.trans {b : Nat} {u v w : World} (h : Only b u v) (k : Only b v w) : Only b u w :=
  ⟨k.os.trans h.os, k.tape.trans h.tape, k.output.trans h.output, Nat.le_trans h.size k.size, fun i hi hb => (k.block i (Nat.lt_of_lt_of_le hi h.size) hb).trans (h.block i hi hb)⟩
theorem Only.drewN {b : Nat} {u v : World} (h : Only b u v) (n : Nat) : Only b u (v.drewN n) := ⟨h.os, h.tape, h.output, h.size, h.block⟩
theorem Only.drew {b : Nat} {u v : World} (h : Only b u v) : Only b u v.drew := ⟨h.os, h.tape, h.output, h.size, h.block⟩
theorem Only.setCell {b : Nat} {u v : World} (h : Only b u v) (o : Nat) (x : Value) : Only b u (v.setCell ⟨b, o, none⟩ x) :=
  h.trans ⟨rfl, rfl, rfl, by simp [World.setCell], fun k _ hk => Below.heap_setCell _ _ _ _ hk⟩
theorem Only.alloc {b : Nat} {u v : World} (h : Only b u v) (o : Obj) : Only b u (v.alloc o) :=
  h.trans ⟨rfl, rfl, rfl, by simp, fun k hk _ => Below.heap_alloc _ _ _ hk⟩
theorem Only.below {b N : Nat} {w w' : World} (h : Only b w w') (hb : N ≤ b) (hN : N ≤ w.heap.size) : Below N w w' :=
  ⟨h.os, h.tape, h.output, h.size, fun k hk => h.block k (Nat.lt_of_lt_of_le hk hN) (by omega)⟩
theorem Only.of_below {b : Nat} {w w' : World} (h : Below w.heap.size w w') : Only b w w' := ⟨h.os, h.tape, h.output, h.size, fun k hk _ => h.block k hk⟩
theorem Only.cur {b k : Nat} {t : TypeId} {c : CS} {w w' : World} (h : Only b w w') (hc : CurT t w k c) (hk : k ≠ b) : CurT t w' k c := (h.block k hc.lt hk).trans hc
theorem Below.cur {N k : Nat} {t : TypeId} {c : CS} {w w' : World} (h : Below N w w') (hc : CurT t w k c) (hk : k < N) : CurT t w' k c := (h.block k hk).trans hc
theorem Below.drewN {B : Nat} {a w : World} (h : Below B a w) (n : Nat) : Below B a (w.drewN n) := ⟨h.os, h.tape, h.output, h.size, h.block⟩
theorem cur_alloc {w : World} {c : CS} (t : TypeId) : CurT t (w.alloc (.cells #[.string c.s, .int .i64 c.at_, .int .i64 c.en, .int .i64 c.er] t (0, 0))) w.heap.size c := by
  show (w.heap.push _)[w.heap.size]? = _
  simp

end Go.Proofs.YtmcklfndnjagiaaDoor
