/- WordFolds and WordFits, walked. -/
import Derived.Test.YtkjlpkldonhjdaaDoorWorkB
namespace Go.Proofs.YtkjlpkldonhjdaaDoor
open Go Go.RowKit
set_option linter.unusedVariables false

theorem zag_zig (n : Int) : zagI (zigI n) = n := by
  unfold zagI zigI
  by_cases h : n < 0
  · rw [if_pos h, if_pos (by omega)]; omega
  · rw [if_neg h, if_neg (by omega)]; omega
theorem zig_zag (u : Int) (h0 : 0 ≤ u) : zigI (zagI u) = u := by
  unfold zagI zigI
  by_cases h : u % 2 = 1
  · rw [if_pos h, if_pos (by omega)]; omega
  · rw [if_neg h, if_neg (by omega)]; omega
theorem zigI_range {n : Int} (h1 : -9223372036854775808 ≤ n) (h2 : n ≤ 9223372036854775807) : 0 ≤ zigI n ∧ zigI n ≤ 18446744073709551615 := by
  unfold zigI; split <;> omega
theorem zagI_range {u : Int} (h1 : 0 ≤ u) (h2 : u ≤ 18446744073709551615) : -9223372036854775808 ≤ zagI u ∧ zagI u ≤ 9223372036854775807 := by
  unfold zagI; split <;> omega

theorem folds_any (n u : Int) (w : World) (h1 : -9223372036854775808 ≤ n) (h2 : n ≤ 9223372036854775807) (h3 : 0 ≤ u) (h4 : u ≤ 18446744073709551615) (ht : Tab w) :
    Calls Tryd.prog 3 #[.int .i64 n, .int .u64 u] w fun e w' => e = .returned (.bool true) ∧ Below w.heap.size w w' := by
  have Z1 := Lib.hid (fun w => zig_any n w h1 h2)
  have Z2 := Lib.hid (fun w => rzig_any n w h1 h2)
  have Z3 := Lib.hid (fun w => zag_any u w h3 h4)
  have Z4 := Lib.hid (fun w => rzag_any u w h3 h4)
  obtain ⟨r1, r2⟩ := zigI_range h1 h2
  obtain ⟨r3, r4⟩ := zagI_range h3 h4
  have Z5 := Lib.hid (show ∀ w, Calls Tryd.prog 9 #[.int .u64 (zigI n)] w fun e w' => e = .returned (.int .i64 n) ∧ w' = w from fun w => by
    have := zag_any (zigI n) w r1 r2; rw [zag_zig] at this; exact this)
  have Z6 := Lib.hid (show ∀ w, Calls Tryd.prog 7 #[.int .i64 (zagI u)] w fun e w' => e = .returned (.int .u64 u) ∧ w' = w from fun w => by
    have := zig_any (zagI u) w r3 r4; rw [zig_zag u h3] at this; exact this)
  generalize zigI n = a at *
  generalize zagI u = b at *
  have HT := Lib.hid ht
  clear ht
  go_enter Tryd.func3, Tryd.ntmps3
  go_wp2_with (first | ((with_reducible refine (Z1.out _).mono ?_); rintro e w' ⟨rfl, rfl⟩) | ((with_reducible refine (Z2.out _).mono ?_); rintro e w' ⟨rfl, rfl⟩) | ((with_reducible refine (Z3.out _).mono ?_); rintro e w' ⟨rfl, rfl⟩) | ((with_reducible refine (Z4.out _).mono ?_); rintro e w' ⟨rfl, rfl⟩) | ((with_reducible refine (Z5.out _).mono ?_); rintro e w' ⟨rfl, rfl⟩) | ((with_reducible refine (Z6.out _).mono ?_); rintro e w' ⟨rfl, rfl⟩) | ((with_reducible refine (works2_any _ HT.out).mono ?_); rintro e w' ⟨rfl, hbe⟩))
  go_ret
  exact ⟨rfl, hbe⟩

theorem fits_any (n b u : Int) (w : World) (h1 : -9223372036854775808 ≤ n) (h2 : n ≤ 9223372036854775807) (hb1 : -9223372036854775808 ≤ b) (hb2 : b ≤ 9223372036854775807) (h3 : 0 ≤ u) (h4 : u ≤ 18446744073709551615) (ht : Tab w) :
    Calls Tryd.prog 6 #[.int .i64 n, .int .i64 b, .int .u64 u] w fun e w' => e = .returned (.bool true) ∧ Below w.heap.size w w' := by
  have Z1 := Lib.hid (fun w => fit_any n b w)
  have Z2 := Lib.hid (fun w => rfit_any n b w h1 h2)
  have Z3 := Lib.hid (fun w => wide_any u b w)
  have Z4 := Lib.hid (fun w => rwide_any u b w h3 h4)
  have Z5 := Lib.hid (show ∀ w, Calls Tryd.prog 31 #[.int .u32 (u % 4294967296)] w fun e w' => e = .returned (.int .i64 (wideI u 32)) ∧ w' = w from fun w => by
    have := signed_any (u % 4294967296) w (by omega) (by omega)
    rw [show wideI (u % 4294967296) 32 = wideI u 32 from wideI_mod u 32] at this; exact this)
  have Z6 := Lib.hid (show ∀ w, Calls Tryd.prog 30 #[.int .u64 u, .int .i64 32] w fun e w' => e = .returned (.int .i64 (wideI u 32)) ∧ w' = w from fun w => rwide_any u 32 w h3 h4)
  have HT := Lib.hid ht
  by_cases h0 : fitC n b = 0
  · have q1 : (fitC n b == 0) = true := by simp [h0]
    have Z7 := Lib.hid (show ∀ w, Calls Tryd.prog 29 #[.int .u64 (fitU n b), .int .i64 b] w fun e w' => e = .returned (.int .i64 n) ∧ w' = w from fun w => by
      have := wide_any (fitU n b) b w
      have hb : ¬ (b < 1 ∨ 64 < b) := fun hb => by unfold fitC at h0; rw [if_pos hb] at h0; omega
      have hn : wideI n b = n := by
        unfold fitC at h0; rw [if_neg hb] at h0
        by_cases hx : wideI n b = n
        · exact hx
        · rw [if_neg hx] at h0; omega
      rw [show fitU n b = n % pw b.toNat from if_pos h0, wideI_mod, hn] at this
      rw [show fitU n b = n % pw b.toNat from if_pos h0]
      exact this)
    clear ht h0
    generalize fitU n b = x at *
    generalize fitC n b = y at *
    generalize wideI u b = z at *
    generalize wideI u 32 = z2 at *
    go_enter Tryd.func6, Tryd.ntmps6
    go_wp2_with (first | ((with_reducible refine (Z1.out _).mono ?_); rintro e w' ⟨rfl, rfl⟩) | ((with_reducible refine (Z2.out _).mono ?_); rintro e w' ⟨rfl, rfl⟩) | ((with_reducible refine (Z3.out _).mono ?_); rintro e w' ⟨rfl, rfl⟩) | ((with_reducible refine (Z4.out _).mono ?_); rintro e w' ⟨rfl, rfl⟩) | ((with_reducible refine (Z5.out _).mono ?_); rintro e w' ⟨rfl, rfl⟩) | ((with_reducible refine (Z6.out _).mono ?_); rintro e w' ⟨rfl, rfl⟩) | ((with_reducible refine (Z7.out _).mono ?_); rintro e w' ⟨rfl, rfl⟩) | ((with_reducible refine (works2_any _ HT.out).mono ?_); rintro e w' ⟨rfl, hbe⟩))
    go_ret
    exact ⟨rfl, hbe⟩
  · have q1 : (fitC n b == 0) = false := by simp [h0]
    clear ht h0
    generalize fitU n b = x at *
    generalize fitC n b = y at *
    generalize wideI u b = z at *
    generalize wideI u 32 = z2 at *
    go_enter Tryd.func6, Tryd.ntmps6
    go_wp2_with (first | ((with_reducible refine (Z1.out _).mono ?_); rintro e w' ⟨rfl, rfl⟩) | ((with_reducible refine (Z2.out _).mono ?_); rintro e w' ⟨rfl, rfl⟩) | ((with_reducible refine (Z3.out _).mono ?_); rintro e w' ⟨rfl, rfl⟩) | ((with_reducible refine (Z4.out _).mono ?_); rintro e w' ⟨rfl, rfl⟩) | ((with_reducible refine (Z5.out _).mono ?_); rintro e w' ⟨rfl, rfl⟩) | ((with_reducible refine (Z6.out _).mono ?_); rintro e w' ⟨rfl, rfl⟩) | ((with_reducible refine (works2_any _ HT.out).mono ?_); rintro e w' ⟨rfl, hbe⟩))
    go_ret
    exact ⟨rfl, hbe⟩
end Go.Proofs.YtkjlpkldonhjdaaDoor
