/- MomentWhole, walked. -/
import Derived.Test.YtgljkoffanphkaaMoWork
namespace Go.Proofs.Ytgljkoffanphkaa
open Go Go.RowKit
set_option linter.unusedVariables false

/-- The worlds within the law: the range's block and what is left of it, nothing else turned. -/
structure WH (w : World) (g : Nat) (s e S E : Int) (wx : World) : Prop where
  p : RBlk 24 wx w.heap.size s e
  q : RBlk 24 wx g S E
  b : Below w.heap.size w wx
theorem WH.next {w wx w' : World} {g : Nat} {s e S E : Int} (h : WH w g s e S E wx) (hb : Below wx.heap.size wx w') : WH w g s e S E w' := ⟨h.p.below hb h.p.lt, h.q.below hb h.q.lt, grown_then h.b hb⟩
theorem WH.drew {w wx : World} {g : Nat} {s e S E : Int} (h : WH w g s e S E wx) : WH w g s e S E wx.drew := ⟨h.p, h.q, h.b.drew⟩
theorem WH.all {w wx : World} {g : Nat} {s e S E : Int} (h : WH w g s e S E wx) : wx.cell? ⟨w.heap.size, 0, none⟩ = some (.int .u64 s) ∧ wx.cell? ⟨w.heap.size, 1, none⟩ = some (.int .u64 e) ∧ wx.cell? ⟨g, 0, none⟩ = some (.int .u64 S) ∧ wx.cell? ⟨g, 1, none⟩ = some (.int .u64 E) ∧ WH w g s e S E wx :=
  ⟨h.p.c0, h.p.c1, h.q.c0, h.q.c1, h⟩
theorem wh_keep {w wx w' : World} {g : Nat} {s e S E : Int} (h : wx.cell? ⟨w.heap.size, 0, none⟩ = some (.int .u64 s) ∧ wx.cell? ⟨w.heap.size, 1, none⟩ = some (.int .u64 e) ∧ wx.cell? ⟨g, 0, none⟩ = some (.int .u64 S) ∧ wx.cell? ⟨g, 1, none⟩ = some (.int .u64 E) ∧ WH w g s e S E wx)
    (hb : Below wx.heap.size wx w') : w'.cell? ⟨w.heap.size, 0, none⟩ = some (.int .u64 s) ∧ w'.cell? ⟨w.heap.size, 1, none⟩ = some (.int .u64 e) ∧ w'.cell? ⟨g, 0, none⟩ = some (.int .u64 S) ∧ w'.cell? ⟨g, 1, none⟩ = some (.int .u64 E) ∧ WH w g s e S E w' :=
  (h.2.2.2.2.next hb).all

theorem wh_last {w wx : World} {g : Nat} {s e S E : Int} (h : wx.cell? ⟨w.heap.size, 0, none⟩ = some (.int .u64 s) ∧ wx.cell? ⟨w.heap.size, 1, none⟩ = some (.int .u64 e) ∧ wx.cell? ⟨g, 0, none⟩ = some (.int .u64 S) ∧ wx.cell? ⟨g, 1, none⟩ = some (.int .u64 E) ∧ WH w g s e S E wx) : WH w g s e S E wx := h.2.2.2.2

set_option maxRecDepth 10000 in
theorem mwhole_no (s e : Int) (w : World)
    (R1 : Hid (∀ w : World, Calls Try.prog 9 #[.int .u64 s, .int .u64 e] w fun r w' => r = .returned (.bool false) ∧ w' = w))
    (A1 : Hid (∀ w : World, Calls Try.prog 7 #[rV s e] w fun r w' => r = .returned (rV 0 0) ∧ Below w.heap.size w w')) :
    Calls Try.prog 4 #[.int .u64 s, .int .u64 e] w fun r w' => r = .returned (.bool true) ∧ Below w.heap.size w w' := by
  have HX := Lib.hid (fun w => works8_any w)
  have hB := Lib.hid (below_alloc w (.cells #[.int .u64 s, .int .u64 e] 24))
  go_enter Try.func4, Try.ntmps4
  go_wp2_with fail
  with_reducible refine (R1.out _).mono ?_
  rintro r wr ⟨rfl, br⟩
  rw [br]; clear br
  go_wp2_with fail
  with_reducible refine (A1.out _).mono ?_
  rintro r w1 ⟨rfl, b1⟩
  have B1 := Lib.hid (grown_then hB.out b1)
  clear b1
  go_wp2_with fail
  with_reducible refine (HX.out _).mono ?_
  rintro r wz ⟨rfl, bz⟩
  have BZ := Lib.hid (grown_then B1.out bz)
  clear bz
  go_wp2
  go_ret
  exact ⟨rfl, BZ.out⟩

set_option maxRecDepth 10000 in
set_option maxHeartbeats 2000000 in
theorem mwhole_yes (s e B L S E : Int) (w : World) (h0 : 0 ≤ S) (h1 : S ≤ s) (h2 : s ≤ e) (h3 : S ≤ E) (h4 : E ≤ e) (h5 : e ≤ 9223372036854775807) (h6 : s - S < 1000) (h7 : 0 ≤ e - s - (E - S)) (h8 : e - s - (E - S) < 1000)
    (R1 : Hid (∀ w : World, Calls Try.prog 9 #[.int .u64 s, .int .u64 e] w fun r w' => r = .returned (.bool true) ∧ w' = w))
    (A1 : Hid (∀ w : World, Calls Try.prog 7 #[rV s e] w fun r w' => r = .returned (rV S E) ∧ Below w.heap.size w w'))
    (A2 : Hid (∀ w : World, Calls Try.prog 7 #[rV S E] w fun r w' => r = .returned (rV S E) ∧ Below w.heap.size w w'))
    (A3 : Hid (∀ w : World, Calls Try.prog 10 #[rV s e] w fun r w' => r = .returned (.int .i64 B) ∧ Below w.heap.size w w'))
    (A4 : Hid (∀ w : World, Calls Try.prog 10 #[rV S E] w fun r w' => r = .returned (.int .i64 B) ∧ Below w.heap.size w w'))
    (A5 : Hid (∀ w : World, Calls Try.prog 12 #[rV s e] w fun r w' => r = .returned (.int .i64 L) ∧ Below w.heap.size w w'))
    (A6 : Hid (∀ w : World, Calls Try.prog 12 #[rV S E] w fun r w' => r = .returned (.int .i64 L) ∧ Below w.heap.size w w'))
    (A7 : Hid (∀ w : World, Calls Try.prog 8 #[rV S E] w fun r w' => r = .returned (.int .i64 0) ∧ Below w.heap.size w w')) :
    Calls Try.prog 4 #[.int .u64 s, .int .u64 e] w fun r w' => r = .returned (.bool true) ∧ Below w.heap.size w w' := by
  have HX := Lib.hid (fun w => works8_any w)
  have hA := Lib.hid (rblk_alloc 24 w s e)
  have hB := Lib.hid (below_alloc w (.cells #[.int .u64 s, .int .u64 e] 24))
  have p1 : decide (s < S) = false := by simp; omega
  have p2 : decide (e < E) = false := by simp; omega
  have p3 : decide (s - S < 1000) = true := by simp; omega
  have p4 : decide (e - s - (E - S) < 1000) = true := by simp; omega
  have e1 : IntKind.u64.wrap (s - S) = s - S := PlainAid.u64_nonneg (by omega) (by omega)
  have e2 : IntKind.u64.wrap (e - s) = e - s := PlainAid.u64_nonneg (by omega) (by omega)
  have e3 : IntKind.u64.wrap (E - S) = E - S := PlainAid.u64_nonneg (by omega) (by omega)
  have e4 : IntKind.u64.wrap (e - s - (E - S)) = e - s - (E - S) := PlainAid.u64_nonneg (by omega) (by omega)
  clear h0 h1 h2 h3 h4 h5 h6 h7 h8
  go_enter Try.func4, Try.ntmps4
  go_wp2_with fail
  with_reducible refine (R1.out _).mono ?_
  rintro r wr ⟨rfl, br⟩
  rw [br]; clear br
  go_wp2_with fail
  with_reducible refine (A1.out _).mono ?_
  rintro r w1 ⟨rfl, b1⟩
  have HW : WH w w1.heap.size s e S E (w1.alloc (.cells #[.int .u64 S, .int .u64 E] 24)) :=
    ⟨(hA.out.below b1 hA.out.lt).below (below_alloc w1 _) (hA.out.below b1 hA.out.lt).lt, rblk_alloc _ _ _ _, grown_then (grown_then hB.out b1) (below_alloc w1 _)⟩
  clear b1
  go_wp2_with fail
  generalize (w1.alloc (.cells #[.int .u64 S, .int .u64 E] 24)) = w2 at *
  generalize w1.heap.size = g at *
  have hW := HW.drew.all
  have HW' := Lib.hid HW
  clear HW
  go_cut [5, 6, 57] from 58 (fun q5 q6 q wx => q5 = .pointer (some ⟨w.heap.size, 0, none⟩) ∧ q6 = .pointer (some ⟨g, 0, none⟩) ∧ q = .bool false ∧ WH w g s e S E wx)
  case first =>
    go_region_held3 (fun wx => wx.cell? ⟨w.heap.size, 0, none⟩ = some (.int .u64 s) ∧ wx.cell? ⟨w.heap.size, 1, none⟩ = some (.int .u64 e) ∧ wx.cell? ⟨g, 0, none⟩ = some (.int .u64 S) ∧ wx.cell? ⟨g, 1, none⟩ = some (.int .u64 E) ∧ WH w g s e S E wx)
      (first | exact hW | exact wh_keep (by assumption) hb3)
      (first
      | (go_at_call 8; with_reducible refine (A7.out _).mono ?_; rintro r w' ⟨rfl, hb3⟩)
      | (go_at_call 7; with_reducible refine (A2.out _).mono ?_; rintro r w' ⟨rfl, hb3⟩)
      | (go_at_call 10; (first | with_reducible refine (A3.out _).mono ?_ | with_reducible refine (A4.out _).mono ?_); rintro r w' ⟨rfl, hb3⟩)
      | (go_at_call 12; (first | with_reducible refine (A5.out _).mono ?_ | with_reducible refine (A6.out _).mono ?_); rintro r w' ⟨rfl, hb3⟩))
    all_goals go_wp2_with fail
    all_goals go_meet
    all_goals (case rel => exact ⟨rfl, rfl, rfl, wh_last (by assumption)⟩)
  case rest =>
    obtain ⟨rfl, rfl, rfl, hW3⟩ := hcut
    obtain ⟨c0, c1, d0, d1, hW4⟩ := hW3.all
    have KB := Lib.hid hW4.b
    clear hW3 hW4 hW
    go_wp2_with fail
    with_reducible refine (HX.out _).mono ?_
    rintro r wz ⟨rfl, bz⟩
    have BZ := Lib.hid (grown_then KB.out bz)
    clear bz
    go_wp2
    go_ret
    exact ⟨rfl, BZ.out⟩

theorem whole_facts (s e : Int) (h : fineB s e = true) (h0 : 0 ≤ s) : fineB (whS s e) (whE s e) = true ∧ whS (whS s e) (whE s e) = whS s e ∧ whE (whS s e) (whE s e) = whE s e ∧ begI (whS s e) (whE s e) = begI s e ∧ lasI (whS s e) (whE s e) = lasI s e ∧
    0 ≤ whS s e ∧ whS s e ≤ s ∧ whS s e ≤ whE s e ∧ whE s e ≤ e ∧ s - whS s e < 1000 ∧ 0 ≤ e - s - (whE s e - whS s e) ∧ e - s - (whE s e - whS s e) < 1000 := by
  have ho := fineB_yes h
  have k1 : whS s e = s / 1000 * 1000 := by unfold whS; rw [if_pos h]
  have k2 : whE s e = s / 1000 * 1000 + (e - s) / 1000 * 1000 := by unfold whE; rw [if_pos h]
  obtain ⟨k3, k4⟩ := beg_yes h
  rw [k1, k2, k3, k4]
  have hf : fineB (s / 1000 * 1000) (s / 1000 * 1000 + (e - s) / 1000 * 1000) = true := by unfold fineB; simp only [decide_eq_true_eq]; omega
  obtain ⟨k5, k6⟩ := beg_yes hf
  rw [k5, k6]
  refine ⟨hf, ?_, ?_, by omega, by omega, by omega, by omega, by omega, by omega, by omega, by omega, by omega⟩
  · unfold whS; rw [if_pos hf]; omega
  · unfold whE; rw [if_pos hf]; omega

theorem mwhole_any (s e : Int) (w : World) (h0 : 0 ≤ s) (h1 : s ≤ 18446744073709551615) (h2 : 0 ≤ e) (h3 : e ≤ 18446744073709551615) :
    Calls Try.prog 4 #[.int .u64 s, .int .u64 e] w fun r w' => r = .returned (.bool true) ∧ Below w.heap.size w w' := by
  have W1 := fun w => whole_any s e w h0 h1
  rcases Bool.eq_false_or_eq_true (fineB s e) with hf | hf
  · have ho := fineB_yes hf
    obtain ⟨z1, z2, z3, z4, z5, z6, z7, z8, z9, z10, z11, z12⟩ := whole_facts s e hf h0
    have W2 := fun w => whole_any (whS s e) (whE s e) w (by omega) (by omega)
    have W3 := fun w => begun_any (whS s e) (whE s e) w (by omega) (by omega)
    have W4 := fun w => lasts_any (whS s e) (whE s e) w (by omega) (by omega)
    rw [z2, z3] at W2
    rw [z4] at W3
    rw [z5] at W4
    exact mwhole_yes s e _ _ _ _ w z6 z7 ho.1 z8 z9 ho.2 z10 z11 z12 (Lib.hid (rfine_yes s e hf)) (Lib.hid W1) (Lib.hid W2) (Lib.hid (fun w => begun_any s e w h0 h1)) (Lib.hid W3) (Lib.hid (fun w => lasts_any s e w h0 h1)) (Lib.hid W4) (Lib.hid (check_yes _ _ z1))
  · rw [show whS s e = 0 by unfold whS; rw [if_neg (by simp [hf])], show whE s e = 0 by unfold whE; rw [if_neg (by simp [hf])]] at W1
    exact mwhole_no s e w (Lib.hid (rfine_no s e hf)) (Lib.hid W1)
end Go.Proofs.Ytgljkoffanphkaa
