/- Package word's layers of bytes: layLow, Low32, Low64, High64. -/
import Derived.Test.YtmcklfndnjagiaaDoorLayA
namespace Go.Proofs.YtmcklfndnjagiaaDoor
open Go Go.RowKit
set_option linter.unusedVariables false

/-- The table of shifts, where the program keeps it. -/
def Tab (w : World) : Prop := ∀ k, k < 8 → w.cell? ⟨0, k, none⟩ = some (.int .u64 (8 * (k : Int)))
theorem Tab.lt {w : World} (h : Tab w) : 0 < w.heap.size := by
  have := World.block_lt_of_cell? w _ (h 0 (by omega)); exact this
theorem Tab.below {w w' : World} {N : Nat} (h : Tab w) (hb : Below N w w') (hN : 0 < N) : Tab w' := fun k hk => (hb.cell (p := ⟨0, k, none⟩) hN).trans (h k hk)

theorem byte_val (u k : Nat) : (u : Int) / 2 ^ (8 * k) % 256 = ((UInt8.ofNat (u / 256 ^ k % 256)).toNat : Int) := by
  rw [shr_byte]
  have : (UInt8.ofNat (u / 256 ^ k % 256)).toNat = u / 256 ^ k % 256 := by rw [UInt8.toNat_ofNat']; omega
  rw [this]; omega

def LayRel (t : TypeId) (W : World) (l : List UInt8) (n : Nat) (u : Nat) (B : Nat) (v i : Value) (wr : World) : Prop :=
  ∃ k : Nat, k ≤ n ∧ i = .int .i64 k ∧ Bts t wr B v (l ++ lowL u k) ∧ Below W.heap.size W wr

set_option maxHeartbeats 1000000 in
theorem layLow_any (a : Option Addr) (cap : Nat) (l : List UInt8) (u n : Nat) (w : World) (hl : l.length ≤ 140737488351232) (hn : n ≤ 8) (hu : u < 18446744073709551616) (hin : BIn w a l) (ht : Tab w) :
    Calls Tryd.prog 73 #[.slice a l.length cap, .int .u64 u, .int .i64 n] w fun e w' => ∃ v, e = .returned v ∧ Bts 5 w' w.heap.size v (l ++ lowL u n) ∧ Below w.heap.size w w' := by
  obtain ⟨i0, hi, hz0, hz1, hz2⟩ := info_parts info8
  have HT := Lib.hid ht
  have hc := Lib.hid (copied_any a cap l n w hl (by omega) hin)
  have hpos := ht.lt
  clear ht hin
  go_enter Tryd.func73, Tryd.ntmps73
  go_wp2_with fail
  refine hc.out.mono ?_
  rintro e w1 ⟨v, rfl, hbt, hbel⟩
  go_wp2_with fail
  go_loopw [7, 13] (fun v i wr => LayRel 5 w l n u w.heap.size v i wr) (fun _ i _ => n - (intOf i).toNat)
  case atStart => exact ⟨0, Nat.zero_le _, rfl, by simpa [lowL] using hbt, hbel⟩
  case round =>
    obtain ⟨k, hk, rfl, hb, hbe⟩ := hrel
    have hsz := hbe.size
    by_cases hlt : k < n
    · have p1 : decide ((k : Int) < n) = true := by simp; omega
      have hk8 : (k : Int) < 8 := by omega
      have hcell := (HT.out.below hbe hpos) k (by omega)
      have HL := Lib.hid (show (l ++ lowL u k) ++ [UInt8.ofNat (u / 256 ^ k % 256)] = l ++ lowL u (k + 1) by rw [lowL_snoc, List.append_assoc])
      go_wp2_with (at_builtin; go_loud (refine wpList_append_byte rfl (.tmp 16) (.tmp 23) 52 rfl 5 i0 Tryd.underlying52 hi hz0 hz1 hz2 _ w wr w.heap.size (l ++ lowL u k) hb hbe hsz rfl _ _ (byte_val u k) rfl (by simp [lowL_length]; omega) ?_; intro v2 w2 hb2 hbe2))
      go_roundw
      case rel => exact ⟨k + 1, by omega, by go_num, by rw [← HL.out]; exact hb2, hbe2⟩
      case measure => simp [intOf]; omega
    · have p1 : decide ((k : Int) < n) = false := by simp; omega
      have hkn : k = n := by omega
      subst hkn
      go_wp2
      go_ret
      exact ⟨_, rfl, hb, hbe⟩
end Go.Proofs.YtmcklfndnjagiaaDoor
