/- Low32, Low64, High64, and the document's own Low, High. -/
import Derived.Test.YtjoafbapffdneaaDoorLayB
namespace Go.Proofs.YtjoafbapffdneaaDoor
open Go Go.RowKit
set_option linter.unusedVariables false


/-- The highest k of eight bytes, the highest first. -/
def highL (u k : Nat) : List UInt8 := (lowL u 8).reverse.take k
theorem highL_length (u k : Nat) (h : k ≤ 8) : (highL u k).length = k := by
  unfold highL; rw [List.length_take, List.length_reverse, lowL_length]; omega
theorem highL_snoc (u k : Nat) (h : k < 8) : highL u (k + 1) = highL u k ++ [UInt8.ofNat (u / 256 ^ (7 - k) % 256)] := by
  unfold highL
  rw [List.take_add_one]
  congr 1
  rw [List.getElem?_reverse (by rw [lowL_length]; exact h), lowL_length, lowL_get _ _ _ (by omega)]
  rfl
theorem highL_all (u : Nat) : highL u 8 = (lowL u 8).reverse := by
  unfold highL; rw [List.take_of_length_le]; rw [List.length_reverse, lowL_length]; exact Nat.le_refl _

def HighRel (t : TypeId) (W : World) (l : List UInt8) (u : Nat) (B : Nat) (v i : Value) (wr : World) : Prop :=
  ∃ k : Nat, k ≤ 8 ∧ i = .int .i64 k ∧ Bts t wr B v (l ++ highL u k) ∧ Below W.heap.size W wr

theorem high64_any (a : Option Addr) (cap : Nat) (l : List UInt8) (u : Nat) (w : World) (hl : l.length ≤ 140737488351232) (hu : u < 18446744073709551616) (hin : BIn w a l) (ht : Tab w) :
    Calls Tryd.prog 37 #[.slice a l.length cap, .int .u64 u] w fun e w' => ∃ v, e = .returned v ∧ Bts 5 w' w.heap.size v (l ++ highL u 8) ∧ Below w.heap.size w w' := by
  obtain ⟨i0, hi, hz0, hz1, hz2⟩ := info_parts info8
  have HT := Lib.hid ht
  have hc := Lib.hid (copied_any a cap l 8 w hl (by omega) hin)
  have hpos := ht.lt
  clear ht hin
  go_enter Tryd.func37, Tryd.ntmps37
  go_wp2_with fail
  refine hc.out.mono ?_
  rintro e w1 ⟨v, rfl, hbt, hbel⟩
  go_wp2_with fail
  go_loopw [5, 9] (fun v i wr => HighRel 5 w l u w.heap.size v i wr) (fun _ i _ => 8 - (intOf i).toNat)
  case atStart => exact ⟨0, Nat.zero_le _, rfl, by simpa [highL] using hbt, hbel⟩
  case round =>
    obtain ⟨k, hk, rfl, hb, hbe⟩ := hrel
    have hsz := hbe.size
    by_cases hlt : k < 8
    · have p1 : decide ((k : Int) < 8) = true := by simp; omega
      obtain ⟨m, hm⟩ : ∃ m, m + k = 7 := ⟨7 - k, by omega⟩
      have hw7 : IntKind.i64.wrap (7 - (k : Int)) = ((m : Nat) : Int) := by rw [IntWalk.i64_in _ (by omega)]; omega
      have hw8 : (7 - (k : Int)) = ((m : Nat) : Int) := by omega
      have hm8 : (m : Int) < 8 := by omega
      have hcell := (HT.out.below hbe hpos) m (by omega)
      have HL := Lib.hid (show (l ++ highL u k) ++ [UInt8.ofNat (u / 256 ^ m % 256)] = l ++ highL u (k + 1) by rw [highL_snoc _ _ hlt, List.append_assoc, show 7 - k = m by omega])
      go_wp2_with (at_builtin; refine wpList_append_byte rfl (.tmp 12) (.tmp 20) 55 rfl 5 i0 Tryd.underlying55 hi hz0 hz1 hz2 _ w wr w.heap.size (l ++ highL u k) hb hbe hsz rfl _ _ (byte_val u m) rfl (by rw [List.length_append, highL_length _ _ hk]; omega) ?_; intro v2 w2 hb2 hbe2)
      go_roundw
      case rel => exact ⟨k + 1, by omega, by go_num, by rw [← HL.out]; exact hb2, hbe2⟩
      case measure => simp [intOf]; omega
    · have p1 : decide ((k : Int) < 8) = false := by simp; omega
      have hkn : k = 8 := by omega
      subst hkn
      go_wp2
      go_ret
      exact ⟨_, rfl, hb, hbe⟩

def RLowRel (n u0 : Nat) (W : World) (u s i : Value) (wr : World) : Prop :=
  ∃ k uk A, k ≤ n ∧ i = .int .i64 (k : Nat) ∧ u = .int .u64 (uk : Nat) ∧ s = .string (bA A) ∧ uk < 18446744073709551616 ∧ A ++ lowL uk (n - k) = lowL u0 n ∧ A.length = k ∧ Below W.heap.size W wr


def RHighRel (n u0 : Nat) (W : World) (u s i : Value) (wr : World) : Prop :=
  ∃ k A, k ≤ n ∧ i = .int .i64 (k : Nat) ∧ u = .int .u64 ((u0 / 256 ^ k : Nat) : Int) ∧ s = .string (bA A) ∧ A = (lowL u0 k).reverse ∧ A.length = k ∧ Below W.heap.size W wr

theorem rhigh_any (u n : Nat) (w : World) (hu : u < 18446744073709551616) (hn : n ≤ 8) :
    Calls Tryd.prog 38 #[.int .u64 u, .int .i64 n] w fun e w' => e = .returned (.string (bA (lowL u n).reverse)) ∧ Below w.heap.size w w' := by
  go_enter Tryd.func38, Tryd.ntmps38
  go_wp2_with fail
  go_loopw [0, 5, 6] (fun u' s i wr => RHighRel n u w u' s i wr) (fun _ _ i _ => n - (intOf i).toNat)
  case atStart => exact ⟨0, [], Nat.zero_le _, rfl, by simp, rfl, rfl, rfl, Below.refl _ _⟩
  case round =>
    obtain ⟨k, A, hk, rfl, rfl, rfl, hA, hAl, hbe⟩ := hrel
    by_cases hlt : k < n
    · have p1 : decide ((k : Int) < n) = true := by simp; omega
      have hsz := hbe.size
      have hu2 : u / 256 ^ k < 18446744073709551616 := Nat.lt_of_le_of_lt (Nat.div_le_self _ _) hu
      have hA2 := Lib.hid (show ([UInt8.ofNat (u / 256 ^ k % 256)] ++ A) = (lowL u (k + 1)).reverse by
        rw [hA, lowL_snoc, List.reverse_append]; rfl)
      have hU := Lib.hid (show u / 256 ^ k / 256 = u / 256 ^ (k + 1) by rw [Nat.div_div_eq_div_mul, Nat.pow_succ])
      generalize u / 256 ^ k = uk at *
      have hone := Lib.hid (text_one Tryd.prog 55 5 9 wr _ _ (mod_byte uk) Tryd.underlying55 Tryd.underlying5 Tryd.underlying9)
      have hsA : (bA A).size = k := by rw [bA_size, hAl]
      have hs1 : (bA [UInt8.ofNat (uk % 256)]).size = 1 := by rw [bA_size]; rfl
      have hj := Lib.hid (bA_append [UInt8.ofNat (uk % 256)] A)
      clear hA
      go_wp2_with fail
      rw [hone.out]
      go_wp2
      go_roundw
      case rel => exact ⟨k + 1, [UInt8.ofNat (uk % 256)] ++ A, by omega, by go_num, by rw [← hU.out]; go_num, by rw [hj.out], hA2.out, by simp [hAl], hbe.alloc hsz _⟩
      case measure => simp [intOf]; omega
    · have p1 : decide ((k : Int) < n) = false := by simp; omega
      have hkn : k = n := by omega
      subst hkn
      go_wp2
      go_ret
      exact ⟨by rw [hA]; rfl, hbe⟩

end Go.Proofs.YtjoafbapffdneaaDoor
