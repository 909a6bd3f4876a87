/- Package moment: Nano, Micro, a range's Check, its two methods in nanoseconds; the document's Nano, Micro, Fine. -/
import Derived.Test.YtgljkoffanphkaaRows
import Derived.Test.YtgljkoffanphkaaPlain
import Derived.Deep.QuietTactic
import Derived.BigQuiet
import Derived.Handy
import Derived.PlainAid
import Derived.WalkSpells
import Derived.WalkLawsBesides
namespace Go.Proofs.Ytgljkoffanphkaa
open Go Go.RowKit
set_option linter.unusedVariables false

/-- A range as a value. -/
abbrev rV (s e : Int) : Value := .agg #[.int .u64 s, .int .u64 e]
def fineB (s e : Int) : Bool := decide (s ≤ e ∧ e ≤ 9223372036854775807)
def chkC (s e : Int) : Int := if fineB s e then 0 else 11
def nanoB (us : Int) : Bool := decide (0 ≤ us ∧ us ≤ 9223372036854775)
def nanoV (us : Int) : Int := if nanoB us then us * 1000 else 0
def nanoC (us : Int) : Int := if nanoB us then 0 else 11
theorem nanoB_yes {us : Int} (h : nanoB us = true) : 0 ≤ us ∧ us ≤ 9223372036854775 := of_decide_eq_true h
theorem fineB_yes {s e : Int} (h : fineB s e = true) : s ≤ e ∧ e ≤ 9223372036854775807 := of_decide_eq_true h
theorem nano_yes {us : Int} (h : nanoB us = true) : nanoV us = us * 1000 ∧ nanoC us = 0 := by unfold nanoV nanoC; simp [h]
theorem nano_no {us : Int} (h : nanoB us = false) : nanoV us = 0 ∧ nanoC us = 11 := by unfold nanoV nanoC; simp [h]
theorem chk_yes {s e : Int} (h : fineB s e = true) : chkC s e = 0 := by unfold chkC; simp [h]
theorem chk_no {s e : Int} (h : fineB s e = false) : chkC s e = 11 := by unfold chkC; simp [h]

theorem nano_any (us : Int) (w : World) (h1 : -9223372036854775808 ≤ us) (h2 : us ≤ 9223372036854775807) :
    Calls Try.prog 17 #[.int .i64 us] w fun e w' => e = .returned (.tuple #[.int .u64 (nanoV us), .int .i64 (nanoC us)]) ∧ w' = w := by
  by_cases h3 : us < 0
  · have p1 : decide (us < 0) = true := by simp [h3]
    have HR := Lib.hid (nano_no (us := us) (by unfold nanoB; simp; omega))
    go_enter Try.func17, Try.ntmps17
    go_wp2
    go_ret2
    exact ⟨by rw [HR.out.1, HR.out.2]; rfl, rfl⟩
  · have p1 : decide (us < 0) = false := by simp; omega
    by_cases h4 : 9223372036854775 < us
    · have p2 : decide (9223372036854775 < us) = true := by simp [h4]
      have HR := Lib.hid (nano_no (us := us) (by unfold nanoB; simp; omega))
      go_enter Try.func17, Try.ntmps17
      go_wp2
      go_ret2
      exact ⟨by rw [HR.out.1, HR.out.2]; rfl, rfl⟩
    · have p2 : decide (9223372036854775 < us) = false := by simp; omega
      have e1 : IntKind.u64.wrap us = us := PlainAid.u64_nonneg (by omega) (by omega)
      have e2 : IntKind.u64.wrap (us * 1000) = us * 1000 := PlainAid.u64_nonneg (by omega) (by omega)
      have HR := Lib.hid (nano_yes (us := us) (by unfold nanoB; simp; omega))
      go_enter Try.func17, Try.ntmps17
      go_wp2
      go_ret2
      exact ⟨by rw [HR.out.1, HR.out.2]; rfl, rfl⟩

theorem rnano_any (us : Int) (w : World) (h1 : -9223372036854775808 ≤ us) (h2 : us ≤ 9223372036854775807) :
    Calls Try.prog 18 #[.int .i64 us] w fun e w' => e = .returned (.tuple #[.int .u64 (nanoV us), .int .i64 (nanoC us)]) ∧ w' = w := by
  by_cases h3 : us < 0
  · have p1 : decide (us < 0) = true := by simp [h3]
    have HR := Lib.hid (nano_no (us := us) (by unfold nanoB; simp; omega))
    go_enter Try.func18, Try.ntmps18
    go_wp2
    go_ret2
    exact ⟨by rw [HR.out.1, HR.out.2]; rfl, rfl⟩
  · have p1 : decide (us < 0) = false := by simp; omega
    by_cases h4 : 9223372036854775 < us
    · have p2 : decide (9223372036854775 < us) = true := by simp [h4]
      have HR := Lib.hid (nano_no (us := us) (by unfold nanoB; simp; omega))
      go_enter Try.func18, Try.ntmps18
      go_wp2
      go_ret2
      exact ⟨by rw [HR.out.1, HR.out.2]; rfl, rfl⟩
    · have p2 : decide (9223372036854775 < us) = false := by simp; omega
      have e1 : IntKind.u64.wrap us = us := PlainAid.u64_nonneg (by omega) (by omega)
      have e2 : IntKind.u64.wrap (1000 * us) = us * 1000 := by rw [Int.mul_comm]; exact PlainAid.u64_nonneg (by omega) (by omega)
      have HR := Lib.hid (nano_yes (us := us) (by unfold nanoB; simp; omega))
      go_enter Try.func18, Try.ntmps18
      go_wp2
      go_ret2
      exact ⟨by rw [HR.out.1, HR.out.2]; rfl, rfl⟩

theorem ret_num {k : IntKind} {a b : Int} (h : a = b) : Ending.returned (.int k a) = .returned (.int k b) := by rw [h]

theorem micro_any (ns : Int) (w : World) (h1 : 0 ≤ ns) (h2 : ns ≤ 18446744073709551615) :
    Calls Try.prog 19 #[.int .u64 ns] w fun e w' => e = .returned (.int .i64 (ns / 1000)) ∧ w' = w := by
  go_enter Try.func19, Try.ntmps19
  go_wp2
  go_ret
  exact ⟨rfl, rfl⟩
theorem rmicro_any (ns : Int) (w : World) (h1 : 0 ≤ ns) (h2 : ns ≤ 18446744073709551615) :
    Calls Try.prog 20 #[.int .u64 ns] w fun e w' => e = .returned (.int .i64 (ns / 1000)) ∧ w' = w := by
  go_enter Try.func20, Try.ntmps20
  go_wp2
  go_ret
  exact ⟨rfl, rfl⟩

theorem below_alloc (w : World) (o : Obj) : Below w.heap.size w (w.alloc o) := (Below.refl _ _).alloc (Nat.le_refl _) _

theorem start_any (s e : Int) (w : World) :
    Calls Try.prog 22 #[rV s e] w fun r w' => r = .returned (.int .u64 s) ∧ Below w.heap.size w w' := by
  go_enter Try.func22, Try.ntmps22
  go_wp2
  go_ret
  exact ⟨rfl, below_alloc _ _⟩
theorem length_any (s e : Int) (w : World) (h1 : 0 ≤ s) (h2 : s ≤ e) (h3 : e ≤ 18446744073709551615) :
    Calls Try.prog 23 #[rV s e] w fun r w' => r = .returned (.int .u64 (e - s)) ∧ Below w.heap.size w w' := by
  have e1 : IntKind.u64.wrap (e - s) = e - s := PlainAid.u64_nonneg (by omega) (by omega)
  go_enter Try.func23, Try.ntmps23
  go_wp2
  go_ret
  exact ⟨rfl, below_alloc _ _⟩
theorem check_any (s e : Int) (w : World) :
    Calls Try.prog 8 #[rV s e] w fun r w' => r = .returned (.int .i64 (chkC s e)) ∧ Below w.heap.size w w' := by
  by_cases h1 : e < s
  · have p1 : decide (e < s) = true := by simp [h1]
    have HR := Lib.hid (chk_no (s := s) (e := e) (by unfold fineB; simp; omega))
    go_enter Try.func8, Try.ntmps8
    go_wp2
    go_ret
    exact ⟨by rw [HR.out]; rfl, below_alloc _ _⟩
  · have p1 : decide (e < s) = false := by simp; omega
    by_cases h2 : 9223372036854775807 < e
    · have p2 : decide (9223372036854775807 < e) = true := by simp [h2]
      have HR := Lib.hid (chk_no (s := s) (e := e) (by unfold fineB; simp; omega))
      go_enter Try.func8, Try.ntmps8
      go_wp2
      go_ret
      exact ⟨by rw [HR.out]; rfl, below_alloc _ _⟩
    · have p2 : decide (9223372036854775807 < e) = false := by simp; omega
      have HR := Lib.hid (chk_yes (s := s) (e := e) (by unfold fineB; simp; omega))
      go_enter Try.func8, Try.ntmps8
      go_wp2
      go_ret
      exact ⟨by rw [HR.out]; rfl, below_alloc _ _⟩
theorem fine_any (s e : Int) (w : World) :
    Calls Try.prog 9 #[.int .u64 s, .int .u64 e] w fun r w' => r = .returned (.bool (fineB s e)) ∧ w' = w := by
  by_cases h1 : s ≤ e
  · have p1 : decide (s ≤ e) = true := by simp [h1]
    by_cases h2 : e ≤ 9223372036854775807
    · have p2 : decide (e ≤ 9223372036854775807) = true := by simp [h2]
      have HR := Lib.hid (show fineB s e = true by unfold fineB; simp; omega)
      go_enter Try.func9, Try.ntmps9
      go_wp2
      go_ret
      exact ⟨by rw [HR.out]; rfl, rfl⟩
    · have p2 : decide (e ≤ 9223372036854775807) = false := by simp; omega
      have HR := Lib.hid (show fineB s e = false by unfold fineB; simp; omega)
      go_enter Try.func9, Try.ntmps9
      go_wp2
      go_ret
      exact ⟨by rw [HR.out]; rfl, rfl⟩
  · have p1 : decide (s ≤ e) = false := by simp; omega
    have HR := Lib.hid (show fineB s e = false by unfold fineB; simp; omega)
    go_enter Try.func9, Try.ntmps9
    go_wp2
    go_ret
    exact ⟨by rw [HR.out]; rfl, rfl⟩
end Go.Proofs.Ytgljkoffanphkaa
