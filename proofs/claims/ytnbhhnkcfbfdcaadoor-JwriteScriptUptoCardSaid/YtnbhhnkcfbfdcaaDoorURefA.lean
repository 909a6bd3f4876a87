/- The document's own utf (package truchmanref05): Bytes, guess, Rune. -/
import Derived.Test.YtnbhhnkcfbfdcaaDoorZF
namespace Go.Proofs.YtnbhhnkcfbfdcaaDoor
open Go Go.RowKit
set_option linter.unusedVariables false

/-- 'string([]byte{..})', just laid. -/
theorem text_new (P : Program) (t e d : TypeId) (w : World) (l : List UInt8) (n : Nat) (cs : Array Value) (hn : l.length = n) (hcs : cs = (bV l).toArray) (ht : P.underlying t = some (.slice e)) (he : P.underlying e = some (.int .u8)) (hd : P.underlying d = some .string) :
    (convert t d (.slice (some ⟨w.heap.size, 0, none⟩) n n)).run P (w.alloc (.cells cs e)) = .ok (.string (bA l)) (w.alloc (.cells cs e)) := by
  subst hn hcs
  refine run_convert_bytes_back _ t d e ⟨w.heap.size, 0, none⟩ l.length l ht he hd fun j hj => ?_
  have h1 := heap_alloc_new w (.cells (bV l).toArray e)
  have e1 : (Addr.mk w.heap.size 0 none).add j = ⟨w.heap.size, j, none⟩ := by unfold Addr.add; split <;> simp_all
  rw [e1]
  simp only [World.cell?]
  rw [h1]
  show (bV l).toArray[j]? = _
  rw [List.getElem?_toArray, bV_get l j hj]
theorem bV1 (a : UInt8) : (bV [a]).toArray = #[.int .u8 (a.toNat : Int)] := rfl
theorem bV2 (a b : UInt8) : (bV [a, b]).toArray = #[.int .u8 (a.toNat : Int), .int .u8 (b.toNat : Int)] := rfl
theorem bV3 (a b c : UInt8) : (bV [a, b, c]).toArray = #[.int .u8 (a.toNat : Int), .int .u8 (b.toNat : Int), .int .u8 (c.toNat : Int)] := rfl
theorem bV4 (a b c d : UInt8) : (bV [a, b, c, d]).toArray = #[.int .u8 (a.toNat : Int), .int .u8 (b.toNat : Int), .int .u8 (c.toNat : Int), .int .u8 (d.toNat : Int)] := rfl

theorem gFold_snoc (n : Int) (t : List UInt8) (b : UInt8) : gFold n (t ++ [b]) = 64 * gFold n t + (b.toNat : Int) - 128 := by
  unfold gFold; rw [List.foldl_append]; rfl
def RGuessRel (t : List UInt8) (k : Nat) (N0 : Int) (W : World) (z n i : Value) (wr : World) : Prop :=
  ∃ (j : Nat) (N : Int), z = .int .i64 0 ∧ j ≤ k ∧ j ≤ t.length ∧ i = .int .i64 ((1 + j : Nat) : Int) ∧ n = .int .i64 N ∧ Hid (N = gFold N0 (t.take j)) ∧ Hid (-256 * (64 : Int) ^ j + 3 ≤ N ∧ N ≤ 256 * (64 : Int) ^ j - 3) ∧ wr = W
theorem pow_three {j : Nat} (h : j ≤ 3) : (64 : Int) ^ j ≤ 262144 ∧ 0 < (64 : Int) ^ j := by
  match j, h with
  | 0, _ => decide
  | 1, _ => decide
  | 2, _ => decide
  | 3, _ => decide
theorem guess_bound {j : Nat} {N D : Int} (hj : j < 3) (h1 : -256 * (64 : Int) ^ j + 3 ≤ N ∧ N ≤ 256 * (64 : Int) ^ j - 3) (hD0 : 0 ≤ D) (hD : D < 256) :
    (-67108864 ≤ N ∧ N ≤ 67108864) ∧ (-256 * (64 : Int) ^ (j + 1) + 3 ≤ 64 * N + D - 128 ∧ 64 * N + D - 128 ≤ 256 * (64 : Int) ^ (j + 1) - 3) := by
  have hp := pow_three (j := j) (by omega)
  have hpow : (64 : Int) ^ (j + 1) = 64 * 64 ^ j := by rw [Int.pow_succ]; omega
  rw [hpow]
  generalize (64 : Int) ^ j = X at *
  omega
theorem guess_wraps {N D : Int} (h1 : -67108864 ≤ N) (h2 : N ≤ 67108864) (h3 : 0 ≤ D) (h4 : D < 256) : IntKind.i64.wrap (64 * N) = 64 * N ∧ IntKind.i64.wrap D = D ∧ IntKind.i64.wrap (64 * N + D) = 64 * N + D ∧ IntKind.i64.wrap (64 * N + D - 128) = 64 * N + D - 128 :=
  ⟨i64_small (by omega) (by omega), i64_small (by omega) (by omega), i64_small (by omega) (by omega), i64_small (by omega) (by omega)⟩




end Go.Proofs.YtnbhhnkcfbfdcaaDoor
