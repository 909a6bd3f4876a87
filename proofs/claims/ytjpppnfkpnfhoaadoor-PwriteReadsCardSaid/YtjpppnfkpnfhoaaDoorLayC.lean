/- Low32, Low64, High64, and the document's own Low, High. -/
import Derived.Test.YtjpppnfkpnfhoaaDoorLayB
namespace Go.Proofs.YtjpppnfkpnfhoaaDoor
open Go Go.RowKit
set_option linter.unusedVariables false

set_option maxRecDepth 10000 in
theorem low32_any (a : Option Addr) (cap : Nat) (l : List UInt8) (u : Nat) (w : World) (hl : l.length ≤ 140737488351232) (hu : u < 4294967296) (hin : BIn w a l) (ht : Tab w) :
    Calls Tryd.prog 28 #[.slice a l.length cap, .int .u32 u] w fun e w' => ∃ v, e = .returned v ∧ Bts 5 w' w.heap.size v (l ++ lowL u 4) ∧ Below w.heap.size w w' := by
  have hc := Lib.hid (layLow_any a cap l u 4 w hl (by omega) (by omega) hin ht)
  clear ht hin
  go_enter Tryd.func28, Tryd.ntmps28
  go_wp2_with fail
  refine hc.out.mono ?_
  rintro e w1 ⟨v, rfl, hbt, hbel⟩
  go_wp2
  go_ret
  exact ⟨_, rfl, hbt, hbel⟩
set_option maxRecDepth 10000 in
theorem low64_any (a : Option Addr) (cap : Nat) (l : List UInt8) (u : Nat) (w : World) (hl : l.length ≤ 140737488351232) (hu : u < 18446744073709551616) (hin : BIn w a l) (ht : Tab w) :
    Calls Tryd.prog 27 #[.slice a l.length cap, .int .u64 u] w fun e w' => ∃ v, e = .returned v ∧ Bts 5 w' w.heap.size v (l ++ lowL u 8) ∧ Below w.heap.size w w' := by
  have hc := Lib.hid (layLow_any a cap l u 8 w hl (by omega) (by omega) hin ht)
  clear ht hin
  go_enter Tryd.func27, Tryd.ntmps27
  go_wp2_with fail
  refine hc.out.mono ?_
  rintro e w1 ⟨v, rfl, hbt, hbel⟩
  go_wp2
  go_ret
  exact ⟨_, rfl, hbt, hbel⟩

/-- The highest k of eight bytes, the highest first. -/
def highL (u k : Nat) : List UInt8 := (lowL u 8).reverse.take k
theorem highL_length (u k : Nat) (h : k ≤ 8) : (highL u k).length = k := by
  unfold highL; rw [List.length_take, List.length_reverse, lowL_length]; omega
theorem highL_snoc (u k : Nat) (h : k < 8) : highL u (k + 1) = highL u k ++ [UInt8.ofNat (u / 256 ^ (7 - k) % 256)] := by
  unfold highL
  rw [List.take_add_one]
  congr 1
  rw [List.getElem?_reverse (by rw [lowL_length]; exact h), lowL_length, lowL_get _ _ _ (by omega)]
  rfl
theorem highL_all (u : Nat) : highL u 8 = (lowL u 8).reverse := by
  unfold highL; rw [List.take_of_length_le]; rw [List.length_reverse, lowL_length]; exact Nat.le_refl _

def HighRel (t : TypeId) (W : World) (l : List UInt8) (u : Nat) (B : Nat) (v i : Value) (wr : World) : Prop :=
  ∃ k : Nat, k ≤ 8 ∧ i = .int .i64 k ∧ Bts t wr B v (l ++ highL u k) ∧ Below W.heap.size W wr


def RLowRel (n u0 : Nat) (W : World) (u s i : Value) (wr : World) : Prop :=
  ∃ k uk A, k ≤ n ∧ i = .int .i64 (k : Nat) ∧ u = .int .u64 (uk : Nat) ∧ s = .string (bA A) ∧ uk < 18446744073709551616 ∧ A ++ lowL uk (n - k) = lowL u0 n ∧ A.length = k ∧ Below W.heap.size W wr


def RHighRel (n u0 : Nat) (W : World) (u s i : Value) (wr : World) : Prop :=
  ∃ k A, k ≤ n ∧ i = .int .i64 (k : Nat) ∧ u = .int .u64 ((u0 / 256 ^ k : Nat) : Int) ∧ s = .string (bA A) ∧ A = (lowL u0 k).reverse ∧ A.length = k ∧ Below W.heap.size W wr


end Go.Proofs.YtjpppnfkpnfhoaaDoor
