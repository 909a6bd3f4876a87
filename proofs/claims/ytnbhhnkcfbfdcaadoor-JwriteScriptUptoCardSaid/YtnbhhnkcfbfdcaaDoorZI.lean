/- Several texts in one (JsHex, JsEsc): each begins with its own words. -/
import Derived.Test.YtnbhhnkcfbfdcaaDoorJsCur
import Derived.Test.YtnbhhnkcfbfdcaaDoorZF
/- Package jstring's numbered, escaped. -/
namespace Go.Proofs.YtnbhhnkcfbfdcaaDoor
open Go Go.RowKit
set_option linter.unusedVariables false

theorem jNum_bad {l : List UInt8} (h : ¬ (jDg 4 0 l).2 = 0) : jNum l = ⟨0, 0, (jDg 4 0 l).2⟩ := by unfold jNum; rw [if_neg h]
theorem jNum_char {l : List UInt8} (h : (jDg 4 0 l).2 = 0) (h1 : uIs (jDg 4 0 l).1 = true) : jNum l = ⟨(jDg 4 0 l).1, 4, 0⟩ := by unfold jNum; rw [if_pos h, if_pos h1]
theorem jNum_second {l : List UInt8} (h : (jDg 4 0 l).2 = 0) (h1 : ¬ uIs (jDg 4 0 l).1 = true) (h2 : 56320 ≤ (jDg 4 0 l).1) : jNum l = ⟨0, 0, 6⟩ := by unfold jNum; rw [if_pos h, if_neg h1, if_pos h2]
theorem jNum_pair {l : List UInt8} (h : (jDg 4 0 l).2 = 0) (h1 : ¬ uIs (jDg 4 0 l).1 = true) (h2 : ¬ 56320 ≤ (jDg 4 0 l).1) : jNum l = if (jPair (jDg 4 0 l).1 (l.drop 4)).e = 0 then ⟨(jPair (jDg 4 0 l).1 (l.drop 4)).r, (jPair (jDg 4 0 l).1 (l.drop 4)).k + 4, 0⟩ else ⟨0, 0, (jPair (jDg 4 0 l).1 (l.drop 4)).e⟩ := by unfold jNum; rw [if_pos h, if_neg h1, if_neg h2]
theorem jPair_x {n : Nat} {x : UInt8} {t : List UInt8} (hx : ¬ x.toNat = 92) : jPair n (x :: t) = ⟨0, 0, 6⟩ := by simp only [jPair]; rw [if_neg hx]
theorem jPair_1 {n : Nat} {x : UInt8} (hx : x.toNat = 92) : jPair n [x] = ⟨0, 0, 1⟩ := by simp only [jPair]; rw [if_pos hx]
theorem jPair_y {n : Nat} {x y : UInt8} {t : List UInt8} (hx : x.toNat = 92) (hy : ¬ y.toNat = 117) : jPair n (x :: y :: t) = ⟨0, 0, 6⟩ := by simp only [jPair]; rw [if_pos hx, if_neg hy]
theorem jPair_bad {n : Nat} {x y : UInt8} {t : List UInt8} (hx : x.toNat = 92) (hy : y.toNat = 117) (h : ¬ (jDg 4 0 t).2 = 0) : jPair n (x :: y :: t) = ⟨0, 0, (jDg 4 0 t).2⟩ := by simp only [jPair]; rw [if_pos hx, if_pos hy, if_neg h]
theorem jPair_out {n : Nat} {x y : UInt8} {t : List UInt8} (hx : x.toNat = 92) (hy : y.toNat = 117) (h : (jDg 4 0 t).2 = 0) (h2 : (jDg 4 0 t).1 < 56320 ∨ 57343 < (jDg 4 0 t).1) : jPair n (x :: y :: t) = ⟨0, 0, 6⟩ := by simp only [jPair]; rw [if_pos hx, if_pos hy, if_pos h, if_pos h2]
theorem jPair_in {n : Nat} {x y : UInt8} {t : List UInt8} (hx : x.toNat = 92) (hy : y.toNat = 117) (h : (jDg 4 0 t).2 = 0) (h2 : ¬ (jDg 4 0 t).1 < 56320) (h3 : ¬ 57343 < (jDg 4 0 t).1) : jPair n (x :: y :: t) = ⟨65536 + 1024 * (n - 55296) + ((jDg 4 0 t).1 - 56320), 6, 0⟩ := by simp only [jPair]; rw [if_pos hx, if_pos hy, if_pos h, if_neg (by omega)]
theorem ret_i32 {a b : Int} (h : a = b) : Ending.returned (.int .i32 a) = .returned (.int .i32 b) := by rw [h]

end Go.Proofs.YtnbhhnkcfbfdcaaDoor
/- Package jstring's escaped. -/
namespace Go.Proofs.YtnbhhnkcfbfdcaaDoor
open Go Go.RowKit
set_option linter.unusedVariables false

theorem jPair_none {n : Nat} {l : List UInt8} (h : ¬ (jPair n l).e = 0) : (jPair n l).r = 0 := by
  match l, h with
  | [], _ => rfl
  | [a], h =>
    simp only [jPair] at h ⊢
    split <;> rfl
  | a :: b :: u, h =>
    simp only [jPair] at h ⊢
    by_cases h1 : a.toNat = 92
    · rw [if_pos h1] at h ⊢
      by_cases h2 : b.toNat = 117
      · rw [if_pos h2] at h ⊢
        by_cases h3 : (jDg 4 0 u).2 = 0
        · rw [if_pos h3] at h ⊢
          by_cases h4 : (jDg 4 0 u).1 < 56320 ∨ 57343 < (jDg 4 0 u).1
          · rw [if_pos h4]
          · rw [if_neg h4] at h; exact absurd rfl h
        · rw [if_neg h3]
      · rw [if_neg h2]
    · rw [if_neg h1]
theorem jNum_none {l : List UInt8} (h : ¬ (jNum l).e = 0) : (jNum l).r = 0 := by
  unfold jNum at h ⊢
  by_cases h1 : (jDg 4 0 l).2 = 0
  · rw [if_pos h1] at h ⊢
    by_cases h2 : uIs (jDg 4 0 l).1 = true
    · rw [if_pos h2] at h; exact absurd rfl h
    · rw [if_neg h2] at h ⊢
      by_cases h3 : 56320 ≤ (jDg 4 0 l).1
      · rw [if_pos h3]
      · rw [if_neg h3] at h ⊢
        by_cases h4 : (jPair (jDg 4 0 l).1 (l.drop 4)).e = 0
        · rw [if_pos h4] at h; exact absurd rfl h
        · rw [if_neg h4]
  · rw [if_neg h1]
end Go.Proofs.YtnbhhnkcfbfdcaaDoor
