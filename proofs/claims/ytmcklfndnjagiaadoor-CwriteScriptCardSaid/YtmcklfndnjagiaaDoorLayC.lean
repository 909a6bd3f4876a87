/- Low32, Low64, High64, and the document's own Low, High. -/
import Derived.Test.YtmcklfndnjagiaaDoorLayB
namespace Go.Proofs.YtmcklfndnjagiaaDoor
open Go Go.RowKit
set_option linter.unusedVariables false

set_option maxRecDepth 10000 in
theorem low64_any (a : Option Addr) (cap : Nat) (l : List UInt8) (u : Nat) (w : World) (hl : l.length ≤ 140737488351232) (hu : u < 18446744073709551616) (hin : BIn w a l) (ht : Tab w) :
    Calls Tryd.prog 43 #[.slice a l.length cap, .int .u64 u] w fun e w' => ∃ v, e = .returned v ∧ Bts 5 w' w.heap.size v (l ++ lowL u 8) ∧ Below w.heap.size w w' := by
  have hc := Lib.hid (layLow_any a cap l u 8 w hl (by omega) (by omega) hin ht)
  clear ht hin
  go_enter Tryd.func43, Tryd.ntmps43
  go_wp2_with fail
  refine hc.out.mono ?_
  rintro e w1 ⟨v, rfl, hbt, hbel⟩
  go_wp2
  go_ret
  exact ⟨_, rfl, hbt, hbel⟩

/-- The highest k of eight bytes, the highest first. -/
def highL (u k : Nat) : List UInt8 := (lowL u 8).reverse.take k
theorem highL_length (u k : Nat) (h : k ≤ 8) : (highL u k).length = k := by
  unfold highL; rw [List.length_take, List.length_reverse, lowL_length]; omega
theorem highL_snoc (u k : Nat) (h : k < 8) : highL u (k + 1) = highL u k ++ [UInt8.ofNat (u / 256 ^ (7 - k) % 256)] := by
  unfold highL
  rw [List.take_add_one]
  congr 1
  rw [List.getElem?_reverse (by rw [lowL_length]; exact h), lowL_length, lowL_get _ _ _ (by omega)]
  rfl
theorem highL_all (u : Nat) : highL u 8 = (lowL u 8).reverse := by
  unfold highL; rw [List.take_of_length_le]; rw [List.length_reverse, lowL_length]; exact Nat.le_refl _

def HighRel (t : TypeId) (W : World) (l : List UInt8) (u : Nat) (B : Nat) (v i : Value) (wr : World) : Prop :=
  ∃ k : Nat, k ≤ 8 ∧ i = .int .i64 k ∧ Bts t wr B v (l ++ highL u k) ∧ Below W.heap.size W wr


def RLowRel (n u0 : Nat) (W : World) (u s i : Value) (wr : World) : Prop :=
  ∃ k uk A, k ≤ n ∧ i = .int .i64 (k : Nat) ∧ u = .int .u64 (uk : Nat) ∧ s = .string (bA A) ∧ uk < 18446744073709551616 ∧ A ++ lowL uk (n - k) = lowL u0 n ∧ A.length = k ∧ Below W.heap.size W wr

set_option maxRecDepth 10000 in
theorem rlow_any (u n : Nat) (w : World) (hu : u < 18446744073709551616) (hn : n ≤ 8) :
    Calls Tryd.prog 55 #[.int .u64 u, .int .i64 n] w fun e w' => e = .returned (.string (bA (lowL u n))) ∧ Below w.heap.size w w' := by
  go_enter Tryd.func55, Tryd.ntmps55
  go_wp2_with fail
  go_loopw [0, 5, 6] (fun u' s i wr => RLowRel n u w u' s i wr) (fun _ _ i _ => n - (intOf i).toNat)
  case atStart => exact ⟨0, u, [], Nat.zero_le _, rfl, rfl, rfl, hu, rfl, rfl, Below.refl _ _⟩
  case round =>
    obtain ⟨k, uk, A, hk, rfl, rfl, rfl, hu2, hA, hAl, hbe⟩ := hrel
    by_cases hlt : k < n
    · have p1 : decide ((k : Int) < n) = true := by simp; omega
      have hsz := hbe.size
      have hone := Lib.hid (text_one Tryd.prog 52 5 9 wr _ _ (mod_byte uk) Tryd.underlying52 Tryd.underlying5 Tryd.underlying9)
      have hA2 := Lib.hid (show (A ++ [UInt8.ofNat (uk % 256)]) ++ lowL (uk / 256) (n - (k + 1)) = lowL u n by
        rw [← hA, show n - k = (n - (k + 1)) + 1 by omega, lowL, List.append_assoc]; rfl)
      have hsA : (bA A).size = k := by rw [bA_size, hAl]
      have hs1 : (bA [UInt8.ofNat (uk % 256)]).size = 1 := by rw [bA_size]; rfl
      have hj := Lib.hid (bA_append A [UInt8.ofNat (uk % 256)])
      clear hA
      go_wp2_with fail
      rw [hone.out]
      go_wp2
      go_roundw
      case rel => exact ⟨k + 1, uk / 256, A ++ [UInt8.ofNat (uk % 256)], by omega, by go_num, by go_num, by rw [hj.out], by omega, hA2.out, by simp [hAl], hbe.alloc hsz _⟩
      case measure => simp [intOf]; omega
    · have p1 : decide ((k : Int) < n) = false := by simp; omega
      have hkn : k = n := by omega
      subst hkn
      have hA' : A = lowL u k := by rw [← hA, Nat.sub_self]; simp [lowL]
      go_wp2
      go_ret
      exact ⟨by rw [hA']; rfl, hbe⟩

def RHighRel (n u0 : Nat) (W : World) (u s i : Value) (wr : World) : Prop :=
  ∃ k A, k ≤ n ∧ i = .int .i64 (k : Nat) ∧ u = .int .u64 ((u0 / 256 ^ k : Nat) : Int) ∧ s = .string (bA A) ∧ A = (lowL u0 k).reverse ∧ A.length = k ∧ Below W.heap.size W wr


end Go.Proofs.YtmcklfndnjagiaaDoor
