/- Package word's numbers, each call as a contract: Zig, Zag, isCount, Wide, Fit, Signed. -/
import Derived.Test.YtmcklfndnjagiaaDoorRows
import Derived.Test.YtmcklfndnjagiaaDoorPlain
import Derived.Test.YtmcklfndnjagiaaDoorWordNum
import Derived.Deep.QuietTactic
import Derived.BigQuiet
import Derived.Handy
import Derived.WalkSpells
import Derived.WalkLawsBesides
namespace Go.Proofs.YtmcklfndnjagiaaDoor
open Go Go.RowKit
set_option linter.unusedVariables false

theorem ret_num {k : IntKind} {a b : Int} (h : a = b) : Ending.returned (.int k a) = .returned (.int k b) := by rw [h]

/-- What a whole number is folded into, and back. -/
def zigI (n : Int) : Int := if n < 0 then -2 * n - 1 else 2 * n
def zagI (u : Int) : Int := if u % 2 = 1 then -(u / 2) - 1 else u / 2

theorem zig_any (n : Int) (w : World) (h1 : -9223372036854775808 ≤ n) (h2 : n ≤ 9223372036854775807) :
    Calls Tryd.prog 42 #[.int .i64 n] w fun e w' => e = .returned (.int .u64 (zigI n)) ∧ w' = w := by
  by_cases h : n < 0
  · have p1 : decide (n < 0) = true := by simp [h]
    have e1 : IntKind.u64.wrap n = n + 18446744073709551616 := PlainAid.u64_neg h (by omega)
    have e2 : IntKind.u64.wrap (2 * (n + 18446744073709551616)) = 2 * n + 18446744073709551616 := by rw [IntKind.wrap_u64]; omega
    have e3 : bits .xor .u64 IntKind.u64.max (2 * n + 18446744073709551616) = -2 * n - 1 := by rw [u64_xor_allI _ (by omega) (by omega)]; omega
    have HR := Lib.hid (show zigI n = -2 * n - 1 by unfold zigI; rw [if_pos h])
    go_enter Tryd.func42, Tryd.ntmps42
    go_wp2
    all_goals first | exact absurd ‹IntKind.u64.signed = true› (by decide) | exact absurd (show IntKind.i64.signed = true from rfl) ‹¬ IntKind.i64.signed = true› | (go_ret; exact ⟨ret_num (by first | (rw [HR.out]; done) | (rw [HR.out, IntKind.wrap_u64, IntKind.wrap_u64]; omega) | (rw [HR.out]; unfold wrap64; omega)), rfl⟩)
  · have p1 : decide (n < 0) = false := by simp [h]
    have e1 : IntKind.u64.wrap n = n := PlainAid.u64_nonneg (by omega) (by omega)
    have HR := Lib.hid (show zigI n = 2 * n by unfold zigI; rw [if_neg h])
    go_enter Tryd.func42, Tryd.ntmps42
    go_wp2
    go_ret
    exact ⟨ret_num HR.out.symm, rfl⟩
theorem zag_any (u : Int) (w : World) (h1 : 0 ≤ u) (h2 : u ≤ 18446744073709551615) :
    Calls Tryd.prog 61 #[.int .u64 u] w fun e w' => e = .returned (.int .i64 (zagI u)) ∧ w' = w := by
  by_cases h3 : u % 2 = 1
  · have p1 : (u % 2 == 1) = true := by simp [h3]
    have e3 : bits .xor .i64 (-1) (u / 2) = -(u / 2) - 1 := by rw [i64_xor_all _ (by omega) (by omega)]; omega
    have HR := Lib.hid (show zagI u = -(u / 2) - 1 by unfold zagI; rw [if_pos h3])
    go_enter Tryd.func61, Tryd.ntmps61
    go_wp2
    all_goals first | exact absurd ‹IntKind.u64.signed = true› (by decide) | exact absurd (show IntKind.i64.signed = true from rfl) ‹¬ IntKind.i64.signed = true› | (go_ret; exact ⟨ret_num (by first | (rw [HR.out]; done) | (rw [HR.out, IntKind.wrap_u64, IntKind.wrap_u64]; omega) | (rw [HR.out]; unfold wrap64; omega)), rfl⟩)
  · have p1 : (u % 2 == 1) = false := by simp [h3]
    have HR := Lib.hid (show zagI u = u / 2 by unfold zagI; rw [if_neg h3])
    go_enter Tryd.func61, Tryd.ntmps61
    go_wp2
    go_ret
    exact ⟨ret_num HR.out.symm, rfl⟩
theorem rzig_any (n : Int) (w : World) (h1 : -9223372036854775808 ≤ n) (h2 : n ≤ 9223372036854775807) :
    Calls Tryd.prog 54 #[.int .i64 n] w fun e w' => e = .returned (.int .u64 (zigI n)) ∧ w' = w := by
  by_cases h : n < 0
  · have p1 : decide (n < 0) = true := by simp [h]
    have e1 : IntKind.u64.wrap n = n + 18446744073709551616 := PlainAid.u64_neg h (by omega)
    have e3 : bits .xor .u64 IntKind.u64.max (n + 18446744073709551616) = -n - 1 := by rw [u64_xor_allI _ (by omega) (by omega)]; omega
    have e4 : IntKind.u64.wrap (IntKind.u64.wrap (2 * bits .xor .u64 IntKind.u64.max (n + 18446744073709551616)) + 1) = -2 * n - 1 := by rw [e3, IntKind.wrap_u64, IntKind.wrap_u64]; omega
    have HR := Lib.hid (show zigI n = -2 * n - 1 by unfold zigI; rw [if_pos h])
    go_enter Tryd.func54, Tryd.ntmps54
    go_wp2
    all_goals first | exact absurd ‹IntKind.u64.signed = true› (by decide) | exact absurd (show IntKind.i64.signed = true from rfl) ‹¬ IntKind.i64.signed = true› | (go_ret; exact ⟨ret_num (by first | (rw [HR.out]; done) | (rw [HR.out, IntKind.wrap_u64, IntKind.wrap_u64]; omega) | (rw [HR.out]; unfold wrap64; omega)), rfl⟩)
  · have p1 : decide (n < 0) = false := by simp [h]
    have e1 : IntKind.u64.wrap n = n := PlainAid.u64_nonneg (by omega) (by omega)
    have HR := Lib.hid (show zigI n = 2 * n by unfold zigI; rw [if_neg h])
    go_enter Tryd.func54, Tryd.ntmps54
    go_wp2
    go_ret
    exact ⟨ret_num HR.out.symm, rfl⟩

theorem is_count (b : Int) (w : World) :
    Calls Tryd.prog 71 #[.int .i64 b] w fun e w' => e = .returned (.bool (decide (1 ≤ b ∧ b ≤ 64))) ∧ w' = w := by
  by_cases h1 : 1 ≤ b
  · have p1 : decide (1 ≤ b) = true := by simp [h1]
    by_cases h2 : b ≤ 64
    · have p2 : decide (b ≤ 64) = true := by simp [h2]
      have HR := Lib.hid (show decide (1 ≤ b ∧ b ≤ 64) = true by simp [h1, h2])
      go_enter Tryd.func71, Tryd.ntmps71
      go_wp2
      go_ret
      first | exact ⟨rfl, rfl⟩ | (rw [HR.out]; exact ⟨rfl, rfl⟩)
    · have p2 : decide (b ≤ 64) = false := by simp; omega
      have HR := Lib.hid (show decide (1 ≤ b ∧ b ≤ 64) = false by simp; omega)
      go_enter Tryd.func71, Tryd.ntmps71
      go_wp2
      go_ret
      first | exact ⟨rfl, rfl⟩ | (rw [HR.out]; exact ⟨rfl, rfl⟩)
  · have p1 : decide (1 ≤ b) = false := by simp; omega
    have HR := Lib.hid (show decide (1 ≤ b ∧ b ≤ 64) = false by simp; omega)
    go_enter Tryd.func71, Tryd.ntmps71
    go_wp2
    go_ret
    first | exact ⟨rfl, rfl⟩ | (rw [HR.out]; exact ⟨rfl, rfl⟩)

theorem wide_any (u b : Int) (w : World) :
    Calls Tryd.prog 64 #[.int .u64 u, .int .i64 b] w fun e w' => e = .returned (.int .i64 (wideI u b)) ∧ w' = w := by
  by_cases h : 1 ≤ b ∧ b ≤ 64
  · have HC : ∀ w, Calls Tryd.prog 71 #[.int .i64 b] w fun e w' => e = .returned (.bool true) ∧ w' = w := fun w => by
      have := is_count b w; rw [decide_eq_true h] at this; exact this
    have hc := Lib.hid HC
    obtain ⟨h1, h2⟩ := h
    have e1 : IntKind.i64.wrap (64 - b) = 64 - b := IntWalk.i64_in _ (by omega)
    have HR := Lib.hid (show wrap64 (IntKind.u64.wrap (u * 2 ^ (64 - b).toNat)) / 2 ^ (64 - b).toNat = wideI u b by
      obtain ⟨m, rfl⟩ := Int.eq_ofNat_of_zero_le (show 0 ≤ b by omega)
      exact wide_shifts u _ m (by omega) (by omega))
    clear HC
    go_enter Tryd.func64, Tryd.ntmps64
    go_wp2_with ((with_reducible refine (hc.out _).mono ?_); rintro e w' ⟨rfl, rfl⟩)
    go_ret
    exact ⟨ret_num HR.out, rfl⟩
  · have HC : ∀ w, Calls Tryd.prog 71 #[.int .i64 b] w fun e w' => e = .returned (.bool false) ∧ w' = w := fun w => by
      have := is_count b w; rw [decide_eq_false h] at this; exact this
    have hc := Lib.hid HC
    have HR := Lib.hid (show wideI u b = 0 from wideI_none (by omega))
    clear HC h
    go_enter Tryd.func64, Tryd.ntmps64
    go_wp2_with ((with_reducible refine (hc.out _).mono ?_); rintro e w' ⟨rfl, rfl⟩)
    go_ret
    exact ⟨ret_num HR.out.symm, rfl⟩

/-- The bits of a whole number, so many, and whether there is such a number. -/
def fitC (n b : Int) : Int := if b < 1 ∨ 64 < b then 13 else if wideI n b = n then 0 else 4
def fitU (n b : Int) : Int := if fitC n b = 0 then n % pw b.toNat else 0

theorem ret_fit {a b c d : Int} (h : a = b) (k : c = d) : Ending.returned (.tuple #[.int .u64 a, .int .i64 c]) = .returned (.tuple #[.int .u64 b, .int .i64 d]) := by rw [h, k]

theorem fit_any (n b : Int) (w : World) :
    Calls Tryd.prog 39 #[.int .i64 n, .int .i64 b] w fun e w' => e = .returned (.tuple #[.int .u64 (fitU n b), .int .i64 (fitC n b)]) ∧ w' = w := by
  by_cases h : 1 ≤ b ∧ b ≤ 64
  · have HC : ∀ w, Calls Tryd.prog 71 #[.int .i64 b] w fun e w' => e = .returned (.bool true) ∧ w' = w := fun w => by
      have := is_count b w; rw [decide_eq_true h] at this; exact this
    have hc := Lib.hid HC
    obtain ⟨h1, h2⟩ := h
    have e1 : IntKind.i64.wrap (64 - b) = 64 - b := IntWalk.i64_in _ (by omega)
    have e2 : IntKind.u64.wrap (IntKind.u64.wrap n * 2 ^ (64 - b).toNat) / 2 ^ (64 - b).toNat = n % pw b.toNat := by
      obtain ⟨m, rfl⟩ := Int.eq_ofNat_of_zero_le (show 0 ≤ b by omega)
      exact fit_shifts n _ m (by omega)
    have HW := Lib.hid (show ∀ w, Calls Tryd.prog 64 #[.int .u64 (IntKind.u64.wrap (IntKind.u64.wrap n * 2 ^ (64 - b).toNat) / 2 ^ (64 - b).toNat), .int .i64 b] w fun e w' => e = .returned (.int .i64 (wideI n b)) ∧ w' = w from fun w => by
      have := wide_any (n % pw b.toNat) b w; rw [wideI_mod] at this; rw [e2]; exact this)
    have E2 := Lib.hid e2
    clear HC e2
    by_cases h3 : wideI n b = n
    · have p1 : (wideI n b == n) = true := by simp [h3]
      have p2 : (wideI n b != n) = false := by simp [h3]
      have HR := Lib.hid (show fitC n b = 0 by unfold fitC; rw [if_neg (by omega), if_pos h3])
      have HS := Lib.hid (show fitU n b = n % pw b.toNat by unfold fitU; rw [if_pos HR.out])
      clear h3
      go_enter Tryd.func39, Tryd.ntmps39
      go_wp2_with (first | ((with_reducible refine (hc.out _).mono ?_); rintro e w' ⟨rfl, rfl⟩) | ((with_reducible refine (HW.out _).mono ?_); rintro e w' ⟨rfl, rfl⟩))
      go_ret2
      exact ⟨ret_fit (by rw [HS.out, E2.out]) HR.out.symm, rfl⟩
    · have p1 : (wideI n b == n) = false := by simp [h3]
      have p2 : (wideI n b != n) = true := by simp [h3]
      have HR := Lib.hid (show fitC n b = 4 by unfold fitC; rw [if_neg (by omega), if_neg h3])
      have HS := Lib.hid (show fitU n b = 0 by unfold fitU; rw [if_neg (by rw [HR.out]; decide)])
      clear h3
      go_enter Tryd.func39, Tryd.ntmps39
      go_wp2_with (first | ((with_reducible refine (hc.out _).mono ?_); rintro e w' ⟨rfl, rfl⟩) | ((with_reducible refine (HW.out _).mono ?_); rintro e w' ⟨rfl, rfl⟩))
      go_ret2
      exact ⟨ret_fit HS.out.symm HR.out.symm, rfl⟩
  · have HC : ∀ w, Calls Tryd.prog 71 #[.int .i64 b] w fun e w' => e = .returned (.bool false) ∧ w' = w := fun w => by
      have := is_count b w; rw [decide_eq_false h] at this; exact this
    have hc := Lib.hid HC
    have HR := Lib.hid (show fitC n b = 13 by unfold fitC; rw [if_pos (by omega)])
    have HS := Lib.hid (show fitU n b = 0 by unfold fitU; rw [if_neg (by rw [HR.out]; decide)])
    clear HC h
    go_enter Tryd.func39, Tryd.ntmps39
    go_wp2_with ((with_reducible refine (hc.out _).mono ?_); rintro e w' ⟨rfl, rfl⟩)
    go_ret2
    exact ⟨ret_fit HS.out.symm HR.out.symm, rfl⟩


theorem pw_small {k : Nat} (h : k < 63) : IntKind.u64.wrap (2 * pw k) = pw (k + 1) := by
  have h1 := pw_le (show k + 1 ≤ 63 by omega)
  have h2 := pw_pos (k + 1)
  rw [← pw_succ]
  exact IntWalk.u64_in _ ⟨by omega, Int.le_trans h1 (by decide)⟩

def PowFRel (n : Nat) (W : World) (u i : Value) (wr : World) : Prop := ∃ k : Nat, k ≤ n ∧ i = .int .i64 k ∧ u = .int .u64 (pw k) ∧ wr = W

theorem power_nat (n : Nat) (w : World) (h2 : n ≤ 63) :
    Calls Tryd.prog 78 #[.int .i64 n] w fun e w' => e = .returned (.int .u64 (pw n)) ∧ w' = w := by
  go_enter Tryd.func78, Tryd.ntmps78
  go_wp2_with fail
  go_loopw [3, 4] (fun u i wr => PowFRel n w u i wr) (fun _ i _ => n - (intOf i).toNat)
  case atStart => exact ⟨0, Nat.zero_le _, rfl, rfl, rfl⟩
  case round =>
    obtain ⟨k, hk, rfl, rfl, rfl⟩ := hrel
    by_cases hlt : k < n
    · have p1 : decide ((k : Int) < n) = true := by simp; omega
      have HP := Lib.hid (pw_small (k := k) (by omega))
      go_wp2
      go_roundw
      case rel => exact ⟨k + 1, by omega, by go_num, by rw [HP.out], rfl⟩
      case measure => simp [intOf]; omega
    · have p1 : decide ((k : Int) < n) = false := by simp; omega
      have hkn : k = n := by omega
      subst hkn
      go_wp2
      go_ret
      exact ⟨rfl, rfl⟩

end Go.Proofs.YtmcklfndnjagiaaDoor
