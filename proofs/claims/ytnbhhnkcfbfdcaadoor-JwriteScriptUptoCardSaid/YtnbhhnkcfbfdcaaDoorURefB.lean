/- The document's own utf (package truchmanref05): Rune, walk, Check, Count, Cut. -/
import Derived.Test.YtnbhhnkcfbfdcaaDoorURefA
namespace Go.Proofs.YtnbhhnkcfbfdcaaDoor
open Go Go.RowKit
set_option linter.unusedVariables false

theorem text_is (s : ByteArray) (k L : Nat) (l : List UInt8) : s.extract k (k + L) = bA l ↔ (s.data.toList.drop k).take L = l := by
  have e := ext_toList s k (k + L)
  rw [show k + L - k = L by omega] at e
  constructor
  · intro h
    rw [h] at e
    rw [← e]; rfl
  · intro h
    rw [h] at e
    rw [← bA_of (s.extract k (k + L)), e]

def RWalkRel (s : ByteArray) (W : World) (x y e c : Value) (wr : World) : Prop :=
  ∃ E C : Nat, x = .int .i64 0 ∧ y = .int .i64 0 ∧ e = .int .i64 (E : Nat) ∧ c = .int .i64 (C : Nat) ∧ WPre s s.size E C ∧ Below W.heap.size W wr


theorem uCheck_ok {s : ByteArray} : uCheck s = -1 ↔ uOk s := by
  unfold uCheck uOk
  by_cases h : (wk s s.size).1 = s.size
  · rw [if_pos h]; exact ⟨fun _ => h, fun _ => rfl⟩
  · rw [if_neg h]; exact ⟨fun e => by omega, fun e => absurd e h⟩
def RCutRel (s : ByteArray) (n : Int) (W : World) (x k : Value) (wr : World) : Prop :=
  ∃ K : Int, x = .string ⟨#[]⟩ ∧ k = .int .i64 K ∧ K ≤ n ∧ K ≤ s.size ∧ -9223372036854775808 ≤ K ∧ Hid ((wk s n).1 ≤ K ∨ (wk s n).1 = 0) ∧ Below W.heap.size W wr
end Go.Proofs.YtnbhhnkcfbfdcaaDoor
