/- Package chead's small calls: Is, isTruth, Same, isNumber, want, count. -/
import Derived.Test.YtmcklfndnjagiaaDoorChNum
import Derived.Test.YtmcklfndnjagiaaDoorBts
namespace Go.Proofs.YtmcklfndnjagiaaDoor
open Go Go.RowKit
set_option linter.unusedVariables false

theorem is_any (k : Nat) (w : World) :
    Calls Tryd.prog 60 #[.int .u8 (k : Nat)] w fun e w' => e = .returned (.bool (kB k)) ∧ w' = w := by
  unfold kB
  rcases Bool.eq_false_or_eq_true (decide (1 ≤ k)) with h1 | h1 <;> rcases Bool.eq_false_or_eq_true (decide (k ≤ 12)) with h2 | h2 <;>
    (have p1 : decide ((0 : Int) < (k : Int)) = decide (1 ≤ k) := by apply decide_eq_decide.mpr; omega
     have p1' : decide (0 < k) = decide (1 ≤ k) := by apply decide_eq_decide.mpr; omega
     have p2 : decide ((k : Int) ≤ 12) = decide (k ≤ 12) := by apply decide_eq_decide.mpr; omega
     rw [h1] at p1 p1'; rw [h2] at p2
     rw [h1, h2]
     have HK := Lib.hid (And.intro h1 h2)
     go_enter Tryd.func60, Tryd.ntmps60
     go_wp2
     go_ret
     exact ⟨rfl, rfl⟩)
def trB (k : Nat) : Bool := decide (k = 1) || decide (k = 2)
theorem is_truth (k : Nat) (w : World) :
    Calls Tryd.prog 85 #[.int .u8 (k : Nat)] w fun e w' => e = .returned (.bool (trB k)) ∧ w' = w := by
  by_cases h1 : k = 1
  · subst h1
    go_enter Tryd.func85, Tryd.ntmps85
    go_wp2
    go_ret
    exact ⟨rfl, rfl⟩
  · have p1 : ((k : Int) == 1) = false := beq_eq_false_iff_ne.mpr (by omega)
    have p1' : (k == 1) = false := beq_eq_false_iff_ne.mpr h1
    by_cases h2 : k = 2
    · subst h2
      go_enter Tryd.func85, Tryd.ntmps85
      go_wp2
      go_ret
      exact ⟨rfl, rfl⟩
    · have p2 : ((k : Int) == 2) = false := beq_eq_false_iff_ne.mpr (by omega)
      have p2' : (k == 2) = false := beq_eq_false_iff_ne.mpr h2
      have HR := Lib.hid (show trB k = false by unfold trB; simp [h1, h2])
      clear h1 h2
      go_enter Tryd.func85, Tryd.ntmps85
      go_wp2
      go_ret
      exact ⟨ret_b HR.out.symm, rfl⟩
def sameB (a b : Nat) : Bool := decide (a = b) || (trB a && trB b)
theorem same_any (a b : Nat) (w : World) :
    Calls Tryd.prog 69 #[.int .u8 (a : Nat), .int .u8 (b : Nat)] w fun e w' => e = .returned (.bool (sameB a b)) ∧ w' = w := by
  by_cases h : a = b
  · subst h
    have HR := Lib.hid (show sameB a a = true by unfold sameB; simp)
    go_enter Tryd.func69, Tryd.ntmps69
    go_wp2
    go_ret
    exact ⟨ret_b HR.out.symm, rfl⟩
  · have p1 : ((a : Int) == (b : Int)) = false := beq_eq_false_iff_ne.mpr (by omega)
    have p1' : (a == b) = false := beq_eq_false_iff_ne.mpr h
    have HA := Lib.hid (fun w => is_truth a w)
    have HB := Lib.hid (fun w => is_truth b w)
    have HR := Lib.hid (show sameB a b = (trB a && trB b) by unfold sameB; rw [decide_eq_false h, Bool.false_or])
    clear h
    generalize trB a = x at HA HR
    generalize trB b = y at HB HR
    cases x
    · go_enter Tryd.func69, Tryd.ntmps69
      go_wp2_with ((with_reducible refine (HA.out _).mono ?_); rintro e w' ⟨rfl, rfl⟩)
      go_ret
      exact ⟨ret_b HR.out.symm, rfl⟩
    · go_enter Tryd.func69, Tryd.ntmps69
      go_wp2_with (first | ((with_reducible refine (HA.out _).mono ?_); rintro e w' ⟨rfl, rfl⟩) | ((with_reducible refine (HB.out _).mono ?_); rintro e w' ⟨rfl, rfl⟩))
      go_ret
      exact ⟨ret_b HR.out.symm, rfl⟩
theorem is_number (i : Int) (w : World) :
    Calls Tryd.prog 63 #[.int .i64 i] w fun e w' => e = .returned (.bool (numB i)) ∧ w' = w := by
  unfold numB
  rcases Bool.eq_false_or_eq_true (decide (-32768 ≤ i)) with h1 | h1 <;> rcases Bool.eq_false_or_eq_true (decide (i ≤ 32767)) with h2 | h2 <;>
    (rw [h1, h2]
     go_enter Tryd.func63, Tryd.ntmps63
     go_wp2
     go_ret
     exact ⟨rfl, rfl⟩)
theorem want_any {b : Nat} {c : CS} {w : World} (h : CurT 105 w b c) (x : Bool) (k : Int) :
    Calls Tryd.prog 59 #[.pointer (some ⟨b, 0, none⟩), .bool x, .int .i64 k] w fun e w' => e = .returned (.tuple #[]) ∧ CurT 105 w' b (c.want x k) ∧ Only b w w' := by
  cases x
  · have HF := Lib.hid (fun w (h : CurT 105 w b c) => fail_any h k)
    have HR := Lib.hid (CS.want_no c k)
    go_enter Tryd.func59, Tryd.ntmps59
    go_wp2_with fail
    with_reducible refine (HF.out _ h).mono ?_
    rintro e w1 ⟨rfl, h1, o1⟩
    go_wp2
    go_end0
    exact ⟨rfl, by rw [HR.out]; exact h1, o1⟩
  · go_enter Tryd.func59, Tryd.ntmps59
    go_wp2
    go_end0
    exact ⟨rfl, h, Only.refl _ _⟩
theorem count_any {b : Nat} {c : CS} {w : World} (h : CurT 105 w b c) (u : Nat) :
    Calls Tryd.prog 103 #[.pointer (some ⟨b, 0, none⟩), .int .u64 (u : Nat)] w fun e w' => e = .returned (.int .i64 (wrap64 (u : Int))) ∧ CurT 105 w' b (c.want (decide (u ≤ 2147483647)) 4) ∧ Only b w w' := by
  have p1 : decide ((u : Int) ≤ 2147483647) = decide (u ≤ 2147483647) := by apply decide_eq_decide.mpr; omega
  obtain ⟨x, hx⟩ : ∃ x, x = decide (u ≤ 2147483647) := ⟨_, rfl⟩
  have p2 := hx.symm
  rw [p2] at p1
  have HW := Lib.hid (fun w (h : CurT 105 w b c) => want_any h x 4)
  rw [← hx]
  clear hx
  go_enter Tryd.func103, Tryd.ntmps103
  go_wp2_with fail
  with_reducible refine (HW.out _ h).mono ?_
  rintro e w1 ⟨rfl, h1, o1⟩
  go_wp2
  go_ret
  exact ⟨rfl, h1, o1⟩

end Go.Proofs.YtmcklfndnjagiaaDoor
