/- Low32, Low64, High64, and the document's own Low, High. -/
import Derived.Test.YtmiagebcobcaiaaDoorLayB
namespace Go.Proofs.YtmiagebcobcaiaaDoor
open Go Go.RowKit
set_option linter.unusedVariables false


/-- The highest k of eight bytes, the highest first. -/
def highL (u k : Nat) : List UInt8 := (lowL u 8).reverse.take k
theorem highL_length (u k : Nat) (h : k ≤ 8) : (highL u k).length = k := by
  unfold highL; rw [List.length_take, List.length_reverse, lowL_length]; omega
theorem highL_snoc (u k : Nat) (h : k < 8) : highL u (k + 1) = highL u k ++ [UInt8.ofNat (u / 256 ^ (7 - k) % 256)] := by
  unfold highL
  rw [List.take_add_one]
  congr 1
  rw [List.getElem?_reverse (by rw [lowL_length]; exact h), lowL_length, lowL_get _ _ _ (by omega)]
  rfl
theorem highL_all (u : Nat) : highL u 8 = (lowL u 8).reverse := by
  unfold highL; rw [List.take_of_length_le]; rw [List.length_reverse, lowL_length]; exact Nat.le_refl _

def HighRel (t : TypeId) (W : World) (l : List UInt8) (u : Nat) (B : Nat) (v i : Value) (wr : World) : Prop :=
  ∃ k : Nat, k ≤ 8 ∧ i = .int .i64 k ∧ Bts t wr B v (l ++ highL u k) ∧ Below W.heap.size W wr


def RLowRel (n u0 : Nat) (W : World) (u s i : Value) (wr : World) : Prop :=
  ∃ k uk A, k ≤ n ∧ i = .int .i64 (k : Nat) ∧ u = .int .u64 (uk : Nat) ∧ s = .string (bA A) ∧ uk < 18446744073709551616 ∧ A ++ lowL uk (n - k) = lowL u0 n ∧ A.length = k ∧ Below W.heap.size W wr


def RHighRel (n u0 : Nat) (W : World) (u s i : Value) (wr : World) : Prop :=
  ∃ k A, k ≤ n ∧ i = .int .i64 (k : Nat) ∧ u = .int .u64 ((u0 / 256 ^ k : Nat) : Int) ∧ s = .string (bA A) ∧ A = (lowL u0 k).reverse ∧ A.length = k ∧ Below W.heap.size W wr


end Go.Proofs.YtmiagebcobcaiaaDoor
