/- Package word's readers: readLow, ReadLow32, ReadLow64, ReadHigh64. -/
import Derived.Test.YtjoafbapffdneaaDoorLayC
import Derived.Test.YtjoafbapffdneaaDoorCur4
namespace Go.Proofs.YtjoafbapffdneaaDoor
open Go Go.RowKit
set_option linter.unusedVariables false

theorem ret_num2 {k : IntKind} {a b : Int} (h : a = b) : Ending.returned (.int k a) = .returned (.int k b) := by rw [h]

def RdRel (s : ByteArray) (W : World) (u i : Value) (wr : World) : Prop :=
  ∃ k m, k ≤ s.size ∧ i = .int .i64 (k : Nat) ∧ u = .int .u64 ((valL (s.data.toList.take k) : Nat) : Int) ∧ wr = W.drewN m

theorem takeS_size (c : CS) (n : Nat) (hc : c.ok) : (c.takeS n).size ≤ n := by
  by_cases hy : c.why n = 0
  · rw [takeS_yes hy]; simp; omega
  · rw [takeS_no hy]; simp [ByteArray.size]




end Go.Proofs.YtjoafbapffdneaaDoor
