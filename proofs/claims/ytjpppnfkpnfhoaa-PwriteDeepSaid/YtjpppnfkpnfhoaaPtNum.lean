/- A tag of Protobuf as two numbers: which may be, their bytes, what a number that was read stands for. Of no program. -/
import Derived.Test.YtjpppnfkpnfhoaaVarPut
import Derived.Test.YtjpppnfkpnfhoaaCurB
namespace Go.Proofs.Ytjpppnfkpnfhoaa
open Go Go.RowKit
set_option linter.unusedVariables false

/-- Whether two numbers are a tag. -/
def tagB (n v : Int) : Bool := decide (1 ≤ n) && decide (n ≤ 536870911) && decide (v = 0 ∨ v = 1 ∨ v = 2 ∨ v = 5)
theorem tag_yes {n v : Int} (h : tagB n v = true) : 1 ≤ n ∧ n ≤ 536870911 ∧ (v = 0 ∨ v = 1 ∨ v = 2 ∨ v = 5) := by
  unfold tagB at h; simp at h; exact ⟨h.1.1, h.1.2, h.2⟩
theorem tag_mk {n v : Int} (h1 : 1 ≤ n) (h2 : n ≤ 536870911) (h3 : v = 0 ∨ v = 1 ∨ v = 2 ∨ v = 5) : tagB n v = true := by
  unfold tagB; simp [h1, h2, h3]
/-- The number that stands for a tag. -/
def tagU (n v : Int) : Nat := (n * 8 + v).toNat
/-- A tag's bytes. -/
def tagL (n v : Int) : List UInt8 := if tagB n v then vB (tagU n v) else []
/-- What a number stands for. -/
def mN (u : Nat) : Nat := if tagB (u / 8 : Nat) (u % 8 : Nat) then u / 8 else 0
def mW (u : Nat) : Nat := if tagB (u / 8 : Nat) (u % 8 : Nat) then u % 8 else 0
theorem mN_yes {u : Nat} (h : tagB (u / 8 : Nat) (u % 8 : Nat) = true) : mN u = u / 8 ∧ mW u = u % 8 := ⟨if_pos h, if_pos h⟩
theorem mN_no {u : Nat} (h : tagB (u / 8 : Nat) (u % 8 : Nat) = false) : mN u = 0 ∧ mW u = 0 := ⟨if_neg (by rw [h]; exact Bool.false_ne_true), if_neg (by rw [h]; exact Bool.false_ne_true)⟩
theorem mN_le (u : Nat) : mN u ≤ 536870911 ∧ mW u ≤ 5 := by
  rcases Bool.eq_false_or_eq_true (tagB (u / 8 : Nat) (u % 8 : Nat)) with h | h
  · have := tag_yes h; rw [(mN_yes h).1, (mN_yes h).2]; omega
  · rw [(mN_no h).1, (mN_no h).2]; omega
theorem mN_zero {u : Nat} : mN u = 0 ↔ tagB (u / 8 : Nat) (u % 8 : Nat) = false := by
  rcases Bool.eq_false_or_eq_true (tagB (u / 8 : Nat) (u % 8 : Nat)) with h | h
  · have := tag_yes h; rw [(mN_yes h).1, h]; exact ⟨fun e => by omega, fun e => absurd e (by decide)⟩
  · rw [(mN_no h).1, h]; simp
theorem tagU_lt {n v : Int} (h : tagB n v = true) : tagU n v < 4294967296 := by have := tag_yes h; unfold tagU; omega
/-- The number of a tag stands for it. -/
theorem tagU_back {n v : Int} (h : tagB n v = true) : ((mN (tagU n v) : Nat) : Int) = n ∧ ((mW (tagU n v) : Nat) : Int) = v := by
  have h1 := tag_yes h
  have e1 : ((tagU n v / 8 : Nat) : Int) = n := by unfold tagU; omega
  have e2 : ((tagU n v % 8 : Nat) : Int) = v := by unfold tagU; omega
  have h2 : tagB (tagU n v / 8 : Nat) (tagU n v % 8 : Nat) = true := by rw [e1, e2]; exact h
  rw [(mN_yes h2).1, (mN_yes h2).2]; exact ⟨e1, e2⟩
/-- The cursor behind a tag's reading, and the tag. -/
def CS.gVal (c : CS) : Nat := c.vVal
def CS.gTo (c : CS) : CS := if mN c.vVal = 0 then c.vTo.fail 14 else c.vTo
theorem CS.gTo_yes {c : CS} (h : ¬ mN c.vVal = 0) : c.gTo = c.vTo := by unfold CS.gTo; rw [if_neg h]
theorem CS.gTo_no {c : CS} (h : mN c.vVal = 0) : c.gTo = c.vTo.fail 14 := by unfold CS.gTo; rw [if_pos h]
theorem mW_zero {u : Nat} (h : mN u = 0) : mW u = 0 := (mN_no (mN_zero.mp h)).2
end Go.Proofs.Ytjpppnfkpnfhoaa
