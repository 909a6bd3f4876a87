/- Plain facts, of no program: the number of so many bits with its sign ('wideI'), powers of two, what turning all bits makes. -/
import Derived.WalkKit
import Derived.PlainAid
import Derived.Laws.DeepNot64
namespace Go.Proofs.YtmcklfndnjagiaaDoor
open Go Go.RowKit

theorem u64_xor_all (a : Nat) (ha : a < 18446744073709551616) : bits .xor .u64 IntKind.u64.max (a : Int) = 18446744073709551615 - (a : Int) := by
  have h0 : IntKind.u64.max = ((18446744073709551615 : Nat) : Int) := by decide
  rw [h0, u64_xor_nat _ _ (by decide) ha]
  have h1 : (18446744073709551615 ^^^ a : Nat) = 18446744073709551615 - a := by
    have h2 := BitVec.toNat_not (x := BitVec.ofNat 64 a)
    rw [← BitVec.allOnes_xor, BitVec.toNat_xor] at h2
    simp only [BitVec.toNat_allOnes, BitVec.toNat_ofNat] at h2
    rw [Nat.mod_eq_of_lt (by simpa using ha)] at h2
    simpa using h2
  rw [h1]; omega

theorem i64_xor_all (a : Int) (h0 : 0 ≤ a) (ha : a < 9223372036854775808) : bits .xor .i64 (-1) a = -1 - a := by
  obtain ⟨m, rfl⟩ := Int.eq_ofNat_of_zero_le h0
  exact i64_not m (by omega)
theorem u64_xor_allI (a : Int) (h0 : 0 ≤ a) (ha : a < 18446744073709551616) : bits .xor .u64 IntKind.u64.max a = 18446744073709551615 - a := by
  obtain ⟨m, rfl⟩ := Int.eq_ofNat_of_zero_le h0
  exact u64_xor_all m (by omega)

/-- 2 to the power of so many. -/
def pw (n : Nat) : Int := 2 ^ n
theorem pw_pos (n : Nat) : 0 < pw n := Int.pow_pos (by decide)
theorem pw_succ (n : Nat) : pw (n + 1) = 2 * pw n := by unfold pw; rw [Int.pow_succ]; omega
theorem pw_add (m n : Nat) : pw (m + n) = pw m * pw n := Int.pow_add ..
theorem emod_pw {u m p : Int} (hp : 0 < p) : u * p % (m * p) = u % m * p := by
  rw [Int.mul_comm u p, Int.mul_comm m p, Int.mul_emod_mul_of_pos _ _ hp, Int.mul_comm]
theorem pw_64 : pw 64 = 18446744073709551616 := by decide
theorem pw_le {m n : Nat} (h : m ≤ n) : pw m ≤ pw n := by
  obtain ⟨k, rfl⟩ := Nat.le.dest h
  rw [pw_add]
  have h1 := pw_pos m; have h2 := pw_pos k
  have h3 := Int.mul_le_mul_of_nonneg_left (show (1:Int) ≤ pw k by omega) (Int.le_of_lt h1)
  omega

/-- The whole number that the lowest bits of u are, so many of them, with a sign; 0 for another count. -/
def wideI (u b : Int) : Int := if b < 1 ∨ 64 < b then 0 else if pw b.toNat ≤ 2 * (u % pw b.toNat) then u % pw b.toNat - pw b.toNat else u % pw b.toNat

theorem wideI_none {u b : Int} (h : b < 1 ∨ 64 < b) : wideI u b = 0 := by unfold wideI; rw [if_pos h]
theorem wideI_high {u b : Int} (h1 : 1 ≤ b) (h2 : b ≤ 64) (h : pw b.toNat ≤ 2 * (u % pw b.toNat)) : wideI u b = u % pw b.toNat - pw b.toNat := by
  unfold wideI; rw [if_neg (by omega), if_pos h]
theorem wideI_low {u b : Int} (h1 : 1 ≤ b) (h2 : b ≤ 64) (h : ¬ pw b.toNat ≤ 2 * (u % pw b.toNat)) : wideI u b = u % pw b.toNat := by
  unfold wideI; rw [if_neg (by omega), if_neg h]
theorem wideI_mod (u b : Int) : wideI (u % pw b.toNat) b = wideI u b := by
  unfold wideI
  rw [Int.emod_emod_of_dvd _ (Int.dvd_refl _)]

/-- The two shifts of Wide. -/
theorem wide_shifts (u : Int) (k b : Nat) (hk : k + b = 64) (hb : 1 ≤ b) : wrap64 (IntKind.u64.wrap (u * 2 ^ k)) / 2 ^ k = wideI u b := by
  have hM := pw_pos b; have hP := pw_pos k
  have hPM : pw b * pw k = 18446744073709551616 := by rw [← pw_add, Nat.add_comm, hk, pw_64]
  have e1 : IntKind.u64.wrap (u * pw k) = u % pw b * pw k := by
    rw [IntKind.wrap_u64, ← hPM, emod_pw hP]
  show wrap64 (IntKind.u64.wrap (u * pw k)) / pw k = _
  rw [e1]
  have hm0 := Int.emod_nonneg u (show pw b ≠ 0 by omega)
  have hm1 := Int.emod_lt_of_pos u hM
  by_cases h : pw b ≤ 2 * (u % pw b)
  · rw [wideI_high (by omega) (by omega) h]
    rw [Int.toNat_natCast]
    have h5 : 9223372036854775808 ≤ u % pw b * pw k := by
      have := Int.mul_le_mul_of_nonneg_right h (Int.le_of_lt hP)
      rw [hPM, Int.mul_assoc] at this
      omega
    have h6 : u % pw b * pw k < 18446744073709551616 := by
      have := Int.mul_lt_mul_of_pos_right hm1 hP
      omega
    have e2 : wrap64 (u % pw b * pw k) = (u % pw b - pw b) * pw k := by
      rw [Int.sub_mul, hPM]; unfold wrap64; omega
    rw [e2, Int.mul_ediv_cancel _ (by omega)]
  · rw [wideI_low (by omega) (by omega) h]
    rw [Int.toNat_natCast]
    have h5 : u % pw b * pw k < 9223372036854775808 := by
      have := Int.mul_lt_mul_of_pos_right (Int.not_le.mp h) hP
      rw [hPM, Int.mul_assoc] at this
      omega
    have h6 : 0 ≤ u % pw b * pw k := Int.mul_nonneg hm0 (by omega)
    have e2 : wrap64 (u % pw b * pw k) = u % pw b * pw k := by unfold wrap64; omega
    rw [e2, Int.mul_ediv_cancel _ (by omega)]

/-- The two shifts of Fit. -/
theorem fit_shifts (n : Int) (k b : Nat) (hk : k + b = 64) : IntKind.u64.wrap (IntKind.u64.wrap n * 2 ^ k) / 2 ^ k = n % pw b := by
  have hM := pw_pos b; have hP := pw_pos k
  have hPM : pw b * pw k = 18446744073709551616 := by rw [← pw_add, Nat.add_comm, hk, pw_64]
  have e1 : IntKind.u64.wrap (IntKind.u64.wrap n * pw k) = (IntKind.u64.wrap n) % pw b * pw k := by
    rw [IntKind.wrap_u64 (_ * _), ← hPM, emod_pw hP]
  show IntKind.u64.wrap (IntKind.u64.wrap n * pw k) / pw k = _
  rw [e1, Int.mul_ediv_cancel _ (by omega), IntKind.wrap_u64, ← hPM]
  exact Int.emod_emod_of_dvd _ (Int.dvd_mul_right _ _)

end Go.Proofs.YtmcklfndnjagiaaDoor
