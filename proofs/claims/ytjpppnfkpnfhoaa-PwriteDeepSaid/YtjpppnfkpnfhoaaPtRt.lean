/- The document's own tags (package truchmanref16): May, Text. -/
import Derived.Test.YtjpppnfkpnfhoaaPtB
import Derived.Test.YtjpppnfkpnfhoaaVarRefA
namespace Go.Proofs.Ytjpppnfkpnfhoaa
open Go Go.RowKit
set_option linter.unusedVariables false

set_option maxRecDepth 10000 in
theorem rmay_way (n v : Int) (w : World) (x y : Bool) (p1 : decide (1 ≤ n) = x) (p2 : decide (n ≤ 536870911) = y) (hv : v = 0 ∨ v = 1 ∨ v = 2 ∨ v = 5) :
    Calls Try.prog 19 #[.int .i64 n, .int .i64 v] w fun e w' => e = .returned (.bool (x && y)) ∧ w' = w := by
  cases x <;> cases y <;> rcases hv with rfl | rfl | rfl | rfl <;>
    (go_enter Try.func19, Try.ntmps19
     go_wp2
     go_ret
     exact ⟨rfl, rfl⟩)
theorem rmay_none (n v : Int) (w : World) (x y : Bool) (q1 : decide (1 ≤ n) = x) (q2 : decide (n ≤ 536870911) = y) (h0 : ¬ v = 0) (h1 : ¬ v = 1) (h2 : ¬ v = 2) (h5 : ¬ v = 5) :
    Calls Try.prog 19 #[.int .i64 n, .int .i64 v] w fun e w' => e = .returned (.bool false) ∧ w' = w := by
  have p0 : (v == 0) = false := beq_eq_false_iff_ne.mpr h0
  have p1 : (v == 1) = false := beq_eq_false_iff_ne.mpr h1
  have p2 : (v == 2) = false := beq_eq_false_iff_ne.mpr h2
  have p5 : (v == 5) = false := beq_eq_false_iff_ne.mpr h5
  clear h0 h1 h2 h5
  cases x <;> cases y <;>
    (go_enter Try.func19, Try.ntmps19
     go_wp2
     go_ret
     exact ⟨rfl, rfl⟩)
theorem rmay_any (n v : Int) (w : World) :
    Calls Try.prog 19 #[.int .i64 n, .int .i64 v] w fun e w' => e = .returned (.bool (tagB n v)) ∧ w' = w := by
  by_cases hv : v = 0 ∨ v = 1 ∨ v = 2 ∨ v = 5
  · have e : tagB n v = (decide (1 ≤ n) && decide (n ≤ 536870911)) := by unfold tagB; simp [hv]
    rw [e]; exact rmay_way n v w _ _ rfl rfl hv
  · have e : tagB n v = false := by unfold tagB; simp [hv]
    rw [e]; exact rmay_none n v w _ _ rfl rfl (fun h => hv (.inl h)) (fun h => hv (.inr (.inl h))) (fun h => hv (.inr (.inr (.inl h)))) (fun h => hv (.inr (.inr (.inr h))))

theorem rtext_any (n v : Int) (w : World) :
    Calls Try.prog 25 #[.int .i64 n, .int .i64 v] w fun e w' => e = .returned (.string (bA (tagL n v))) ∧ Below w.heap.size w w' := by
  have HM := Lib.hid (fun w => rmay_any n v w)
  rcases Bool.eq_false_or_eq_true (tagB n v) with h | h
  · rw [h] at HM
    have h1 := tag_yes h
    have e1 : IntKind.u64.wrap n = n := IntWalk.u64_in _ (by omega)
    have e2 : IntKind.u64.wrap (8 * n) = 8 * n := IntWalk.u64_in _ (by omega)
    have e3 : IntKind.u64.wrap v = v := IntWalk.u64_in _ (by omega)
    have e4 : IntKind.u64.wrap (8 * n + v) = ((tagU n v : Nat) : Int) := by rw [IntWalk.u64_in _ (by omega)]; unfold tagU; omega
    have HP := Lib.hid (fun w => rput_any 10 (tagU n v) w (by have := tagU_lt h; omega) (by have := tagU_lt h; omega))
    have HR := Lib.hid (show tagL n v = vB (tagU n v) from if_pos h)
    clear h h1
    go_enter Try.func25, Try.ntmps25
    go_wp2_with fail
    with_reducible refine (HM.out _).mono ?_
    rintro e w1 ⟨rfl, rfl⟩
    go_wp2_with fail
    with_reducible refine (HP.out _).mono ?_
    rintro e w2 ⟨rfl, b2⟩
    go_wp2
    go_ret
    exact ⟨by rw [HR.out]; rfl, b2⟩
  · rw [h] at HM
    have HR := Lib.hid (show bA (tagL n v) = ⟨#[]⟩ by unfold tagL; simp [h]; rfl)
    clear h
    go_enter Try.func25, Try.ntmps25
    go_wp2_with fail
    with_reducible refine (HM.out _).mono ?_
    rintro e w1 ⟨rfl, rfl⟩
    go_wp2
    go_ret
    exact ⟨by rw [HR.out]; rfl, Below.refl _ _⟩
end Go.Proofs.Ytjpppnfkpnfhoaa
