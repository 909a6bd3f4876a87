/- Package word's numbers, each call as a contract: Zig, Zag, isCount, Wide, Fit, Signed. -/
import Derived.Test.YtmaojbhpnflbcaaRows
import Derived.Test.YtmaojbhpnflbcaaPlain
import Derived.Test.YtmaojbhpnflbcaaWordNum
import Derived.Deep.QuietTactic
import Derived.BigQuiet
import Derived.Handy
import Derived.WalkSpells
import Derived.WalkLawsBesides
namespace Go.Proofs.Ytmaojbhpnflbcaa
open Go Go.RowKit
set_option linter.unusedVariables false

theorem ret_num {k : IntKind} {a b : Int} (h : a = b) : Ending.returned (.int k a) = .returned (.int k b) := by rw [h]

/-- What a whole number is folded into, and back. -/
def zigI (n : Int) : Int := if n < 0 then -2 * n - 1 else 2 * n
def zagI (u : Int) : Int := if u % 2 = 1 then -(u / 2) - 1 else u / 2

theorem zag_any (u : Int) (w : World) (h1 : 0 ≤ u) (h2 : u ≤ 18446744073709551615) :
    Calls Try.prog 55 #[.int .u64 u] w fun e w' => e = .returned (.int .i64 (zagI u)) ∧ w' = w := by
  by_cases h3 : u % 2 = 1
  · have p1 : (u % 2 == 1) = true := by simp [h3]
    have e3 : bits .xor .i64 (-1) (u / 2) = -(u / 2) - 1 := by rw [i64_xor_all _ (by omega) (by omega)]; omega
    have HR := Lib.hid (show zagI u = -(u / 2) - 1 by unfold zagI; rw [if_pos h3])
    go_enter Try.func55, Try.ntmps55
    go_wp2
    all_goals first | exact absurd ‹IntKind.u64.signed = true› (by decide) | exact absurd (show IntKind.i64.signed = true from rfl) ‹¬ IntKind.i64.signed = true› | (go_ret; exact ⟨ret_num (by first | (rw [HR.out]; done) | (rw [HR.out, IntKind.wrap_u64, IntKind.wrap_u64]; omega) | (rw [HR.out]; unfold wrap64; omega)), rfl⟩)
  · have p1 : (u % 2 == 1) = false := by simp [h3]
    have HR := Lib.hid (show zagI u = u / 2 by unfold zagI; rw [if_neg h3])
    go_enter Try.func55, Try.ntmps55
    go_wp2
    go_ret
    exact ⟨ret_num HR.out.symm, rfl⟩
theorem rzag_any (u : Int) (w : World) (h1 : 0 ≤ u) (h2 : u ≤ 18446744073709551615) :
    Calls Try.prog 57 #[.int .u64 u] w fun e w' => e = .returned (.int .i64 (zagI u)) ∧ w' = w := by
  by_cases h3 : u % 2 = 1
  · have p1 : (u % 2 == 1) = true := by simp [h3]
    have e3 : bits .xor .u64 IntKind.u64.max (u / 2) = 18446744073709551615 - u / 2 := u64_xor_allI _ (by omega) (by omega)
    have e4 : wrap64 (bits .xor .u64 IntKind.u64.max (u / 2)) = -(u / 2) - 1 := by rw [e3]; unfold wrap64; omega
    have HR := Lib.hid (show zagI u = -(u / 2) - 1 by unfold zagI; rw [if_pos h3])
    go_enter Try.func57, Try.ntmps57
    go_wp2
    all_goals first | exact absurd ‹IntKind.u64.signed = true› (by decide) | exact absurd (show IntKind.i64.signed = true from rfl) ‹¬ IntKind.i64.signed = true› | (go_ret; exact ⟨ret_num (by first | (rw [HR.out]; done) | (rw [HR.out, IntKind.wrap_u64, IntKind.wrap_u64]; omega) | (rw [HR.out]; unfold wrap64; omega)), rfl⟩)
  · have p1 : (u % 2 == 1) = false := by simp [h3]
    have HR := Lib.hid (show zagI u = u / 2 by unfold zagI; rw [if_neg h3])
    go_enter Try.func57, Try.ntmps57
    go_wp2
    go_ret
    exact ⟨ret_num HR.out.symm, rfl⟩



/-- The bits of a whole number, so many, and whether there is such a number. -/
def fitC (n b : Int) : Int := if b < 1 ∨ 64 < b then 13 else if wideI n b = n then 0 else 4
def fitU (n b : Int) : Int := if fitC n b = 0 then n % pw b.toNat else 0

theorem ret_fit {a b c d : Int} (h : a = b) (k : c = d) : Ending.returned (.tuple #[.int .u64 a, .int .i64 c]) = .returned (.tuple #[.int .u64 b, .int .i64 d]) := by rw [h, k]



theorem pw_small {k : Nat} (h : k < 63) : IntKind.u64.wrap (2 * pw k) = pw (k + 1) := by
  have h1 := pw_le (show k + 1 ≤ 63 by omega)
  have h2 := pw_pos (k + 1)
  rw [← pw_succ]
  exact IntWalk.u64_in _ ⟨by omega, Int.le_trans h1 (by decide)⟩

def PowFRel (n : Nat) (W : World) (u i : Value) (wr : World) : Prop := ∃ k : Nat, k ≤ n ∧ i = .int .i64 k ∧ u = .int .u64 (pw k) ∧ wr = W


end Go.Proofs.Ytmaojbhpnflbcaa
