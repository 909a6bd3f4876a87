/- The document's own numbers of so many bits (package truchmanref02): Wide, Fit. -/
import Derived.Test.YtmcklfndnjagiaaDoorFoldA
namespace Go.Proofs.YtmcklfndnjagiaaDoor
open Go Go.RowKit
set_option linter.unusedVariables false

theorem power_int (n : Int) (k : Nat) (w : World) (h : n = k) (hk : k ≤ 63) :
    Calls Tryd.prog 78 #[.int .i64 n] w fun e w' => e = .returned (.int .u64 (pw k)) ∧ w' = w := by
  subst h; exact power_nat k w hk

theorem rwide_any (u b : Int) (w : World) (hu : 0 ≤ u) (hu2 : u ≤ 18446744073709551615) :
    Calls Tryd.prog 79 #[.int .u64 u, .int .i64 b] w fun e w' => e = .returned (.int .i64 (wideI u b)) ∧ w' = w := by
  by_cases h1 : b < 1
  · have p1 : decide (b < 1) = true := by simp [h1]
    have HR := Lib.hid (show wideI u b = 0 from wideI_none (by omega))
    clear h1
    go_enter Tryd.func79, Tryd.ntmps79
    go_wp2
    go_ret
    exact ⟨ret_num HR.out.symm, rfl⟩
  · have p1 : decide (b < 1) = false := by simp [h1]
    by_cases h2 : 64 < b
    · have p2 : decide (64 < b) = true := by simp [h2]
      have HR := Lib.hid (show wideI u b = 0 from wideI_none (by omega))
      clear h1 h2
      go_enter Tryd.func79, Tryd.ntmps79
      go_wp2
      go_ret
      exact ⟨ret_num HR.out.symm, rfl⟩
    · have p2 : decide (64 < b) = false := by simp [h2]
      obtain ⟨m, rfl⟩ := Int.eq_ofNat_of_zero_le (show 0 ≤ b by omega)
      by_cases h3 : m = 64
      · subst h3
        have HR := Lib.hid (show wideI u (64 : Nat) = wrap64 u by
          unfold wideI wrap64
          rw [if_neg (by decide), show pw ((64 : Nat) : Int).toNat = 18446744073709551616 from pw_64]
          split <;> omega)
        clear h1 h2
        go_enter Tryd.func79, Tryd.ntmps79
        go_wp2
        go_ret
        exact ⟨ret_num HR.out.symm, rfl⟩
      · have p3 : ((m : Int) == 64) = false := by simp; omega
        have hm1 : 1 ≤ m := by omega
        have hm2 : m ≤ 63 := by omega
        have HP1 := Lib.hid (show ∀ w, Calls Tryd.prog 78 #[.int .i64 (m : Int)] w fun e w' => e = .returned (.int .u64 (pw m)) ∧ w' = w from fun w => power_nat m w hm2)
        have HP2 := Lib.hid (show ∀ w, Calls Tryd.prog 78 #[.int .i64 ((m : Int) - 1)] w fun e w' => e = .returned (.int .u64 (pw (m - 1))) ∧ w' = w from fun w => power_int _ (m - 1) w (by omega) (by omega))
        have hM := pw_pos m
        have hM1 := pw_pos (m - 1)
        have hM2 := Lib.hid (show pw m = 2 * pw (m - 1) by rw [← pw_succ]; congr 1; omega)
        have hMx := Lib.hid (show pw m ≤ 9223372036854775808 from pw_le hm2)
        have d1 : (pw m == 0) = false := by simp; omega
        have d2 : ¬ pw m = 0 := by omega
        have hr0 := Int.emod_nonneg u d2
        have hr1 := Int.emod_lt_of_pos u hM
        have HW := Lib.hid (show wideI u m = if pw m ≤ 2 * (u % pw m) then u % pw m - pw m else u % pw m by
          unfold wideI; rw [if_neg (by omega), Int.toNat_natCast])
        clear h1 h2 h3
        generalize hr : u % pw m = r at *
        by_cases h4 : pw (m - 1) ≤ r
        · have p4 : decide (pw (m - 1) ≤ r) = true := by simp [h4]
          have HR := Lib.hid (show wideI u m = r - pw m by rw [HW.out, if_pos (by rw [hM2.out]; omega)])
          have e4 : wrap64 (IntKind.u64.wrap (r - pw m)) = r - pw m := by have := hMx.out; rw [IntKind.wrap_u64]; unfold wrap64; omega
          go_enter Tryd.func79, Tryd.ntmps79
          go_wp2_with (first | ((with_reducible refine (HP1.out _).mono ?_); rintro e w' ⟨rfl, rfl⟩) | ((with_reducible refine (HP2.out _).mono ?_); rintro e w' ⟨rfl, rfl⟩))
          go_ret
          exact ⟨ret_num (by rw [HR.out]; exact e4), rfl⟩
        · have p4 : decide (pw (m - 1) ≤ r) = false := by simp; omega
          have HR := Lib.hid (show wideI u m = r by rw [HW.out, if_neg (by rw [hM2.out]; omega)])
          go_enter Tryd.func79, Tryd.ntmps79
          go_wp2_with (first | ((with_reducible refine (HP1.out _).mono ?_); rintro e w' ⟨rfl, rfl⟩) | ((with_reducible refine (HP2.out _).mono ?_); rintro e w' ⟨rfl, rfl⟩))
          go_ret
          exact ⟨ret_num (by rw [HR.out]; have := hMx.out; unfold wrap64; omega), rfl⟩

theorem pw_dvd {m : Nat} (h : m ≤ 64) : pw m ∣ 18446744073709551616 := by
  rw [← pw_64, show (64 : Nat) = m + (64 - m) by omega, pw_add]
  exact Int.dvd_mul_right _ _
theorem wrap_pw (n : Int) {m : Nat} (h : m ≤ 64) : IntKind.u64.wrap n % pw m = n % pw m := by
  rw [IntKind.wrap_u64]
  exact Int.emod_emod_of_dvd _ (pw_dvd h)
theorem wideI_congr {u v : Int} {m : Nat} (h : u % pw m = v % pw m) : wideI u m = wideI v m := by
  rw [← wideI_mod u, ← wideI_mod v, Int.toNat_natCast, h]

theorem rfit_any (n b : Int) (w : World) (h1 : -9223372036854775808 ≤ n) (h2 : n ≤ 9223372036854775807) :
    Calls Tryd.prog 49 #[.int .i64 n, .int .i64 b] w fun e w' => e = .returned (.tuple #[.int .u64 (fitU n b), .int .i64 (fitC n b)]) ∧ w' = w := by
  by_cases h1 : b < 1
  · have p1 : decide (b < 1) = true := by simp [h1]
    have HR := Lib.hid (show fitC n b = 13 by unfold fitC; rw [if_pos (by omega)])
    have HS := Lib.hid (show fitU n b = 0 by unfold fitU; rw [if_neg (by rw [HR.out]; decide)])
    clear h1
    go_enter Tryd.func49, Tryd.ntmps49
    go_wp2
    go_ret2
    exact ⟨ret_fit HS.out.symm HR.out.symm, rfl⟩
  · have p1 : decide (b < 1) = false := by simp [h1]
    by_cases h2 : 64 < b
    · have p2 : decide (64 < b) = true := by simp [h2]
      have HR := Lib.hid (show fitC n b = 13 by unfold fitC; rw [if_pos (by omega)])
      have HS := Lib.hid (show fitU n b = 0 by unfold fitU; rw [if_neg (by rw [HR.out]; decide)])
      clear h1 h2
      go_enter Tryd.func49, Tryd.ntmps49
      go_wp2
      go_ret2
      exact ⟨ret_fit HS.out.symm HR.out.symm, rfl⟩
    · have p2 : decide (64 < b) = false := by simp [h2]
      obtain ⟨m, rfl⟩ := Int.eq_ofNat_of_zero_le (show 0 ≤ b by omega)
      have hw0 := wrap_u64_nonneg n
      have hw1 : IntKind.u64.wrap n ≤ 18446744073709551615 := by rw [IntKind.wrap_u64]; omega
      have hm1 : 1 ≤ m := by omega
      have HC := Lib.hid (show fitC n m = if wideI n m = n then 0 else 4 by unfold fitC; rw [if_neg (by omega)])
      by_cases h3 : m = 64
      · subst h3
        have p3 : decide (((64 : Nat) : Int) < 64) = false := by decide
        have hr : n % pw 64 = IntKind.u64.wrap n := by rw [IntKind.wrap_u64, pw_64]
        have HV := Lib.hid (show ∀ w, Calls Tryd.prog 79 #[.int .u64 (IntKind.u64.wrap n), .int .i64 64] w fun e w' => e = .returned (.int .i64 (wideI n (64 : Nat))) ∧ w' = w from fun w => by
          have := rwide_any (IntKind.u64.wrap n) (64 : Nat) w hw0 hw1
          rw [wideI_congr (wrap_pw n (by decide))] at this; exact this)
        by_cases h4 : wideI n (64 : Nat) = n
        · have q1 : (wideI n (64 : Nat) == n) = true := beq_iff_eq.mpr h4
          have q2 : (wideI n (64 : Nat) != n) = false := bne_eq_false_iff_eq.mpr h4
          have HR := Lib.hid (show fitC n (64 : Nat) = 0 by rw [HC.out, if_pos h4])
          have HS := Lib.hid (show fitU n (64 : Nat) = IntKind.u64.wrap n by unfold fitU; rw [if_pos HR.out, ← hr]; rfl)
          generalize hwi : wideI n (64 : Nat) = y at *
          clear h1 h2 h4 hr
          generalize hwu : IntKind.u64.wrap n = x at *
          go_enter Tryd.func49, Tryd.ntmps49
          go_wp2_with ((with_reducible refine (HV.out _).mono ?_); rintro e w' ⟨rfl, rfl⟩)
          go_ret2
          exact ⟨ret_fit HS.out.symm HR.out.symm, rfl⟩
        · have q1 : (wideI n (64 : Nat) == n) = false := beq_eq_false_iff_ne.mpr h4
          have q2 : (wideI n (64 : Nat) != n) = true := bne_iff_ne.mpr h4
          have HR := Lib.hid (show fitC n (64 : Nat) = 4 by rw [HC.out, if_neg h4])
          have HS := Lib.hid (show fitU n (64 : Nat) = 0 by unfold fitU; rw [if_neg (by rw [HR.out]; decide)])
          generalize hwi : wideI n (64 : Nat) = y at *
          clear h1 h2 h4 hr
          generalize hwu : IntKind.u64.wrap n = x at *
          go_enter Tryd.func49, Tryd.ntmps49
          go_wp2_with ((with_reducible refine (HV.out _).mono ?_); rintro e w' ⟨rfl, rfl⟩)
          go_ret2
          exact ⟨ret_fit HS.out.symm HR.out.symm, rfl⟩
      · have p3 : decide ((m : Int) < 64) = true := by simp; omega
        have hm2 : m ≤ 63 := by omega
        have HP1 := Lib.hid (show ∀ w, Calls Tryd.prog 78 #[.int .i64 (m : Int)] w fun e w' => e = .returned (.int .u64 (pw m)) ∧ w' = w from fun w => power_nat m w hm2)
        have hM := pw_pos m
        have hMx := Lib.hid (show pw m ≤ 9223372036854775808 from pw_le hm2)
        have d1 : (pw m == 0) = false := by simp; omega
        have d2 : ¬ pw m = 0 := by omega
        have hr : IntKind.u64.wrap n % pw m = n % pw m := wrap_pw n (by omega)
        have hr0 := Int.emod_nonneg n d2
        have hr1 := Int.emod_lt_of_pos n hM
        have hr2 : n % pw m ≤ 18446744073709551615 := by have := hMx.out; omega
        have HV := Lib.hid (show ∀ w, Calls Tryd.prog 79 #[.int .u64 (n % pw m), .int .i64 m] w fun e w' => e = .returned (.int .i64 (wideI n m)) ∧ w' = w from fun w => by
          have := rwide_any (n % pw m) m w hr0 hr2
          rw [show wideI (n % pw m) m = wideI n m from wideI_mod n m] at this; exact this)
        have HT : fitC n m = 0 → fitU n m = n % pw m := fun h => by unfold fitU; rw [if_pos h, Int.toNat_natCast]
        clear h1 h2
        generalize hrr : n % pw m = r at *
        generalize hwi : wideI n m = y at *
        generalize hwu : IntKind.u64.wrap n = x at *
        by_cases h4 : y = n
        · have q1 : (y == n) = true := by simp [h4]
          have q2 : (y != n) = false := by simp [h4]
          have HR := Lib.hid (show fitC n m = 0 by rw [HC.out, if_pos h4])
          have HS := Lib.hid (show fitU n m = r from HT HR.out)
          clear h4 HT hrr hwi
          go_enter Tryd.func49, Tryd.ntmps49
          go_wp2_with (first | ((with_reducible refine (HV.out _).mono ?_); rintro e w' ⟨rfl, rfl⟩) | ((with_reducible refine (HP1.out _).mono ?_); rintro e w' ⟨rfl, rfl⟩))
          go_ret2
          exact ⟨ret_fit HS.out.symm HR.out.symm, rfl⟩
        · have q1 : (y == n) = false := by simp [h4]
          have q2 : (y != n) = true := by simp [h4]
          have HR := Lib.hid (show fitC n m = 4 by rw [HC.out, if_neg h4])
          have HS := Lib.hid (show fitU n m = 0 by unfold fitU; rw [if_neg (by rw [HR.out]; decide)])
          clear h4 HT hrr hwi
          go_enter Tryd.func49, Tryd.ntmps49
          go_wp2_with (first | ((with_reducible refine (HV.out _).mono ?_); rintro e w' ⟨rfl, rfl⟩) | ((with_reducible refine (HP1.out _).mono ?_); rintro e w' ⟨rfl, rfl⟩))
          go_ret2
          exact ⟨ret_fit HS.out.symm HR.out.symm, rfl⟩

end Go.Proofs.YtmcklfndnjagiaaDoor
