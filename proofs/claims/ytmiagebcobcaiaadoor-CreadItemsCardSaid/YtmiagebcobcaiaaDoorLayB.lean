/- Package word's layers of bytes: layLow, Low32, Low64, High64. -/
import Derived.Test.YtmiagebcobcaiaaDoorLayA
namespace Go.Proofs.YtmiagebcobcaiaaDoor
open Go Go.RowKit
set_option linter.unusedVariables false

/-- The table of shifts, where the program keeps it. -/
def Tab (w : World) : Prop := ∀ k, k < 8 → w.cell? ⟨0, k, none⟩ = some (.int .u64 (8 * (k : Int)))
theorem Tab.lt {w : World} (h : Tab w) : 0 < w.heap.size := by
  have := World.block_lt_of_cell? w _ (h 0 (by omega)); exact this
theorem Tab.below {w w' : World} {N : Nat} (h : Tab w) (hb : Below N w w') (hN : 0 < N) : Tab w' := fun k hk => (hb.cell (p := ⟨0, k, none⟩) hN).trans (h k hk)

theorem byte_val (u k : Nat) : (u : Int) / 2 ^ (8 * k) % 256 = ((UInt8.ofNat (u / 256 ^ k % 256)).toNat : Int) := by
  rw [shr_byte]
  have : (UInt8.ofNat (u / 256 ^ k % 256)).toNat = u / 256 ^ k % 256 := by rw [UInt8.toNat_ofNat']; omega
  rw [this]; omega

def LayRel (t : TypeId) (W : World) (l : List UInt8) (n : Nat) (u : Nat) (B : Nat) (v i : Value) (wr : World) : Prop :=
  ∃ k : Nat, k ≤ n ∧ i = .int .i64 k ∧ Bts t wr B v (l ++ lowL u k) ∧ Below W.heap.size W wr

end Go.Proofs.YtmiagebcobcaiaaDoor
