/- Several texts in one (LayA, LayB, LayC, Shf): each begins with its own words. -/
import Derived.Test.YtjpppnfkpnfhoaaDoorRows
import Derived.Test.YtjpppnfkpnfhoaaDoorZA
import Derived.Deep.QuietTactic
import Derived.BigQuiet
import Derived.Handy
import Derived.WalkSpells
import Derived.WalkLawsBesides
import Derived.OwnWalk
import Derived.Laws.OwnMore
import Derived.Laws.IdiomCopy
/- Package word's lists of bytes: 'copied', with what memory holds a list ('Bts'). -/
namespace Go.Proofs.YtjpppnfkpnfhoaaDoor
open Go Go.RowKit
set_option linter.unusedVariables false

set_option maxRecDepth 10000 in
theorem copied_any (a : Option Addr) (cap : Nat) (l : List UInt8) (more : Nat) (w : World) (hl : l.length ≤ 140737488351232) (hm : more ≤ 16) (hin : BIn w a l) :
    Calls Tryd.prog 51 #[.slice a l.length cap, .int .i64 more] w fun e w' => ∃ v, e = .returned v ∧ Bts 5 w' w.heap.size v l ∧ Below w.heap.size w w' := by
  obtain ⟨i0, hi, hz0, hz1, hz2⟩ := info_parts info8
  have hw : IntKind.i64.wrap ((l.length : Int) + more) = (l.length : Int) + more := IntWalk.i64_in _ (by omega)
  have hmk := Lib.hid (show (Instr.makeSlice 35 (.int .i64 (l.length : Int)) (.int .i64 ((l.length : Int) + more))).run Tryd.prog w = .ok (.slice (some ⟨w.heap.size, 0, none⟩) l.length (l.length + more)) (w.alloc (.cells (Array.replicate (l.length + more) (.int .u8 0)) 5)) by
    have := run_make (P := Tryd.prog) w 35 5 i0 (.int .u8 0) Tryd.underlying35 hi hz0 .i64 .i64 (l.length : Int) ((l.length : Int) + more) (by omega) (by omega) (by rw [hz2]; omega) (by omega)
    have hn : ((l.length : Int) + more).toNat = l.length + more := by omega
    have hma : madeCells (Value.int .u8 0).cells (l.length + more) = Array.replicate (l.length + more) (.int .u8 0) := by
      apply Array.toList_inj.mp
      show (madeCells #[.int .u8 0] _).toList = _
      rw [toList_madeCells_one, Array.toList_replicate]
    rw [this, hn, hz1, Nat.mul_one, hma]
    rfl)
  obtain ⟨w2, hcp0, hbt, hbel⟩ := copy_fact Tryd.prog 35 5 3 i0 Tryd.underlying35 size8 w a cap more l hin (by unfold maxLen; omega)
  have hcp := Lib.hid hcp0
  clear hin hcp0
  go_enter Tryd.func51, Tryd.ntmps51
  go_wp2_with fail
  rw [hmk.out]
  go_wp2_with fail
  rw [hcp.out]
  go_wp2
  go_ret
  exact ⟨_, rfl, hbt, hbel⟩
end Go.Proofs.YtjpppnfkpnfhoaaDoor
/- Package word's layers of bytes: layLow, Low32, Low64, High64. -/
namespace Go.Proofs.YtjpppnfkpnfhoaaDoor
open Go Go.RowKit
set_option linter.unusedVariables false

/-- The table of shifts, where the program keeps it. -/
def Tab (w : World) : Prop := ∀ k, k < 8 → w.cell? ⟨0, k, none⟩ = some (.int .u64 (8 * (k : Int)))
theorem Tab.lt {w : World} (h : Tab w) : 0 < w.heap.size := by
  have := World.block_lt_of_cell? w _ (h 0 (by omega)); exact this
theorem Tab.below {w w' : World} {N : Nat} (h : Tab w) (hb : Below N w w') (hN : 0 < N) : Tab w' := fun k hk => (hb.cell (p := ⟨0, k, none⟩) hN).trans (h k hk)

theorem byte_val (u k : Nat) : (u : Int) / 2 ^ (8 * k) % 256 = ((UInt8.ofNat (u / 256 ^ k % 256)).toNat : Int) := by
  rw [shr_byte]
  have : (UInt8.ofNat (u / 256 ^ k % 256)).toNat = u / 256 ^ k % 256 := by rw [UInt8.toNat_ofNat']; omega
  rw [this]; omega

def LayRel (t : TypeId) (W : World) (l : List UInt8) (n : Nat) (u : Nat) (B : Nat) (v i : Value) (wr : World) : Prop :=
  ∃ k : Nat, k ≤ n ∧ i = .int .i64 k ∧ Bts t wr B v (l ++ lowL u k) ∧ Below W.heap.size W wr

set_option maxHeartbeats 1000000 in
theorem layLow_any (a : Option Addr) (cap : Nat) (l : List UInt8) (u n : Nat) (w : World) (hl : l.length ≤ 140737488351232) (hn : n ≤ 8) (hu : u < 18446744073709551616) (hin : BIn w a l) (ht : Tab w) :
    Calls Tryd.prog 42 #[.slice a l.length cap, .int .u64 u, .int .i64 n] w fun e w' => ∃ v, e = .returned v ∧ Bts 5 w' w.heap.size v (l ++ lowL u n) ∧ Below w.heap.size w w' := by
  obtain ⟨i0, hi, hz0, hz1, hz2⟩ := info_parts info8
  have HT := Lib.hid ht
  have hc := Lib.hid (copied_any a cap l n w hl (by omega) hin)
  have hpos := ht.lt
  clear ht hin
  go_enter Tryd.func42, Tryd.ntmps42
  go_wp2_with fail
  refine hc.out.mono ?_
  rintro e w1 ⟨v, rfl, hbt, hbel⟩
  go_wp2_with fail
  go_loopw [7, 13] (fun v i wr => LayRel 5 w l n u w.heap.size v i wr) (fun _ i _ => n - (intOf i).toNat)
  case atStart => exact ⟨0, Nat.zero_le _, rfl, by simpa [lowL] using hbt, hbel⟩
  case round =>
    obtain ⟨k, hk, rfl, hb, hbe⟩ := hrel
    have hsz := hbe.size
    by_cases hlt : k < n
    · have p1 : decide ((k : Int) < n) = true := by simp; omega
      have hk8 : (k : Int) < 8 := by omega
      have hcell := (HT.out.below hbe hpos) k (by omega)
      have HL := Lib.hid (show (l ++ lowL u k) ++ [UInt8.ofNat (u / 256 ^ k % 256)] = l ++ lowL u (k + 1) by rw [lowL_snoc, List.append_assoc])
      go_wp2_with (at_builtin; go_loud (refine wpList_append_byte rfl (.tmp 16) (.tmp 23) 35 rfl 5 i0 Tryd.underlying35 hi hz0 hz1 hz2 _ w wr w.heap.size (l ++ lowL u k) hb hbe hsz rfl _ _ (byte_val u k) rfl (by simp [lowL_length]; omega) ?_; intro v2 w2 hb2 hbe2))
      go_roundw
      case rel => exact ⟨k + 1, by omega, by go_num, by rw [← HL.out]; exact hb2, hbe2⟩
      case measure => simp [intOf]; omega
    · have p1 : decide ((k : Int) < n) = false := by simp; omega
      have hkn : k = n := by omega
      subst hkn
      go_wp2
      go_ret
      exact ⟨_, rfl, hb, hbe⟩
end Go.Proofs.YtjpppnfkpnfhoaaDoor
/- Low32, Low64, High64, and the document's own Low, High. -/
namespace Go.Proofs.YtjpppnfkpnfhoaaDoor
open Go Go.RowKit
set_option linter.unusedVariables false

set_option maxRecDepth 10000 in
theorem low32_any (a : Option Addr) (cap : Nat) (l : List UInt8) (u : Nat) (w : World) (hl : l.length ≤ 140737488351232) (hu : u < 4294967296) (hin : BIn w a l) (ht : Tab w) :
    Calls Tryd.prog 28 #[.slice a l.length cap, .int .u32 u] w fun e w' => ∃ v, e = .returned v ∧ Bts 5 w' w.heap.size v (l ++ lowL u 4) ∧ Below w.heap.size w w' := by
  have hc := Lib.hid (layLow_any a cap l u 4 w hl (by omega) (by omega) hin ht)
  clear ht hin
  go_enter Tryd.func28, Tryd.ntmps28
  go_wp2_with fail
  refine hc.out.mono ?_
  rintro e w1 ⟨v, rfl, hbt, hbel⟩
  go_wp2
  go_ret
  exact ⟨_, rfl, hbt, hbel⟩
set_option maxRecDepth 10000 in
theorem low64_any (a : Option Addr) (cap : Nat) (l : List UInt8) (u : Nat) (w : World) (hl : l.length ≤ 140737488351232) (hu : u < 18446744073709551616) (hin : BIn w a l) (ht : Tab w) :
    Calls Tryd.prog 27 #[.slice a l.length cap, .int .u64 u] w fun e w' => ∃ v, e = .returned v ∧ Bts 5 w' w.heap.size v (l ++ lowL u 8) ∧ Below w.heap.size w w' := by
  have hc := Lib.hid (layLow_any a cap l u 8 w hl (by omega) (by omega) hin ht)
  clear ht hin
  go_enter Tryd.func27, Tryd.ntmps27
  go_wp2_with fail
  refine hc.out.mono ?_
  rintro e w1 ⟨v, rfl, hbt, hbel⟩
  go_wp2
  go_ret
  exact ⟨_, rfl, hbt, hbel⟩

/-- The highest k of eight bytes, the highest first. -/
def highL (u k : Nat) : List UInt8 := (lowL u 8).reverse.take k
theorem highL_length (u k : Nat) (h : k ≤ 8) : (highL u k).length = k := by
  unfold highL; rw [List.length_take, List.length_reverse, lowL_length]; omega
theorem highL_snoc (u k : Nat) (h : k < 8) : highL u (k + 1) = highL u k ++ [UInt8.ofNat (u / 256 ^ (7 - k) % 256)] := by
  unfold highL
  rw [List.take_add_one]
  congr 1
  rw [List.getElem?_reverse (by rw [lowL_length]; exact h), lowL_length, lowL_get _ _ _ (by omega)]
  rfl
theorem highL_all (u : Nat) : highL u 8 = (lowL u 8).reverse := by
  unfold highL; rw [List.take_of_length_le]; rw [List.length_reverse, lowL_length]; exact Nat.le_refl _

def HighRel (t : TypeId) (W : World) (l : List UInt8) (u : Nat) (B : Nat) (v i : Value) (wr : World) : Prop :=
  ∃ k : Nat, k ≤ 8 ∧ i = .int .i64 k ∧ Bts t wr B v (l ++ highL u k) ∧ Below W.heap.size W wr


def RLowRel (n u0 : Nat) (W : World) (u s i : Value) (wr : World) : Prop :=
  ∃ k uk A, k ≤ n ∧ i = .int .i64 (k : Nat) ∧ u = .int .u64 (uk : Nat) ∧ s = .string (bA A) ∧ uk < 18446744073709551616 ∧ A ++ lowL uk (n - k) = lowL u0 n ∧ A.length = k ∧ Below W.heap.size W wr


def RHighRel (n u0 : Nat) (W : World) (u s i : Value) (wr : World) : Prop :=
  ∃ k A, k ≤ n ∧ i = .int .i64 (k : Nat) ∧ u = .int .u64 ((u0 / 256 ^ k : Nat) : Int) ∧ s = .string (bA A) ∧ A = (lowL u0 k).reverse ∧ A.length = k ∧ Below W.heap.size W wr


end Go.Proofs.YtjpppnfkpnfhoaaDoor
/- What a row's condition on word's table says of memory: 'Tab'. -/
namespace Go.Proofs.YtjpppnfkpnfhoaaDoor
open Go.RowKit

theorem shifts_of {laid : List (String × DataW Unit)} {W : World} (hp : (laid.all fun x => x.2.handleName?.isNone) = true) (h : laidMetH Tryd.prog laid W) (hm : ("truchman/word.shifts", Rows.laid_truchman_word_shifts) ∈ laid) : Tab W := by
  have hc := ints_of_laid (k := .u64) (zs := [0, 8, 16, 24, 32, 40, 48, 56]) (g := 0) (t := 92) (e := 91) (m := 8) hp h hm rfl (by kernel_rfl) (by kernel_rfl) Tryd.underlying92 Tryd.underlying91 (by kernel_rfl)
  intro k hk
  rw [hc k hk]
  match k, hk with
  | 0, _ => rfl
  | 1, _ => rfl
  | 2, _ => rfl
  | 3, _ => rfl
  | 4, _ => rfl
  | 5, _ => rfl
  | 6, _ => rfl
  | 7, _ => rfl
end Go.Proofs.YtjpppnfkpnfhoaaDoor
