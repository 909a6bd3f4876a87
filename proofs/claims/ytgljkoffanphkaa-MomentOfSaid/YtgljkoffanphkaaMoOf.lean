/- MomentOf, walked. -/
import Derived.Test.YtgljkoffanphkaaMoWork
namespace Go.Proofs.Ytgljkoffanphkaa
open Go Go.RowKit
set_option linter.unusedVariables false

theorem of_back (b l : Int) (h : ofB b l = true) : fineB (ofS b l) (ofE b l) = true ∧ begI (ofS b l) (ofE b l) = b ∧ lasI (ofS b l) (ofE b l) = l ∧ 0 ≤ ofS b l ∧ ofS b l ≤ 18446744073709551615 := by
  obtain ⟨q1, q2, q3⟩ := of_yes h
  have ho : nanoB b = true ∧ nanoB l = true ∧ b * 1000 + l * 1000 ≤ 9223372036854775807 := of_decide_eq_true h
  have kb := nanoB_yes ho.1
  have kl := nanoB_yes ho.2.1
  have hf : fineB (b * 1000) (b * 1000 + l * 1000) = true := by unfold fineB; simp only [decide_eq_true_eq]; omega
  obtain ⟨k1, k2⟩ := beg_yes hf
  rw [q1, q2, k1, k2]
  exact ⟨hf, by omega, by omega, by omega, by omega⟩

set_option maxRecDepth 10000 in
theorem mof_yes (b l u S E N K : Int) (w : World) (h4 : 0 ≤ u) (h5 : u ≤ 18446744073709551615)
    (R1 : Hid (∀ w : World, Calls Try.prog 16 #[.int .i64 b, .int .i64 l] w fun e w' => e = .returned (.tuple #[.int .u64 S, .int .u64 E, .int .i64 0]) ∧ w' = w))
    (R2 : Hid (∀ w : World, Calls Try.prog 18 #[.int .i64 b] w fun e w' => e = .returned (.tuple #[.int .u64 N, .int .i64 K]) ∧ w' = w))
    (A1 : Hid (∀ w : World, Calls Try.prog 15 #[.int .i64 b, .int .i64 l] w fun e w' => e = .returned (.tuple #[rV S E, .int .i64 0]) ∧ Below w.heap.size w w'))
    (A5 : Hid (∀ w : World, Calls Try.prog 17 #[.int .i64 b] w fun e w' => e = .returned (.tuple #[.int .u64 N, .int .i64 K]) ∧ w' = w))
    (A2 : Hid (∀ w : World, Calls Try.prog 10 #[rV S E] w fun r w' => r = .returned (.int .i64 b) ∧ Below w.heap.size w w'))
    (A3 : Hid (∀ w : World, Calls Try.prog 12 #[rV S E] w fun r w' => r = .returned (.int .i64 l) ∧ Below w.heap.size w w'))
    (A4 : Hid (∀ w : World, Calls Try.prog 8 #[rV S E] w fun r w' => r = .returned (.int .i64 0) ∧ Below w.heap.size w w')) :
    Calls Try.prog 5 #[.int .i64 b, .int .i64 l, .int .u64 u] w fun r w' => r = .returned (.bool true) ∧ Below w.heap.size w w' := by
  have HX := Lib.hid (fun w => works8_any w)
  have M1 := Lib.hid (fun w => micro_any u w h4 h5)
  have M2 := Lib.hid (fun w => rmicro_any u w h4 h5)
  go_enter Try.func5, Try.ntmps5
  go_wp2_with fail
  with_reducible refine (A1.out _).mono ?_
  rintro r w1 ⟨rfl, b1⟩
  have P3 := Lib.hid (rblk_alloc 24 w1 S E)
  have B3 := Lib.hid (grown_then b1 (below_alloc w1 (.cells #[.int .u64 S, .int .u64 E] 24)))
  clear b1
  go_wp2_with fail
  with_reducible refine (R1.out _).mono ?_
  rintro r wr ⟨rfl, br⟩
  rw [br]; clear br
  go_wp2_with fail
  with_reducible refine (A5.out _).mono ?_
  rintro r wr ⟨rfl, br⟩
  rw [br]; clear br
  go_wp2_with fail
  with_reducible refine (R2.out _).mono ?_
  rintro r wr ⟨rfl, br⟩
  rw [br]; clear br
  go_wp2_with fail
  with_reducible refine (M1.out _).mono ?_
  rintro r wr ⟨rfl, br⟩
  rw [br]; clear br
  go_wp2_with fail
  with_reducible refine (M2.out _).mono ?_
  rintro r wr ⟨rfl, br⟩
  rw [br]; clear br
  go_wp2_with fail
  with_reducible refine (A2.out _).mono ?_
  rintro r w4 ⟨rfl, b4⟩
  have P4 := Lib.hid (P3.out.below b4 P3.out.lt)
  have B4 := Lib.hid (grown_then B3.out b4)
  have p40 := P4.out.c0
  have p41 := P4.out.c1
  clear b4 P3 B3
  go_wp2_with fail
  with_reducible refine (A3.out _).mono ?_
  rintro r w5 ⟨rfl, b5⟩
  have P5 := Lib.hid (P4.out.below b5 P4.out.lt)
  have B5 := Lib.hid (grown_then B4.out b5)
  have p50 := P5.out.c0
  have p51 := P5.out.c1
  clear b5 P4 B4
  go_wp2_with fail
  with_reducible refine (A4.out _).mono ?_
  rintro r w6 ⟨rfl, b6⟩
  have P6 := Lib.hid (P5.out.below b6 P5.out.lt)
  have B6 := Lib.hid (grown_then B5.out b6)
  have p60 := P6.out.c0
  have p61 := P6.out.c1
  clear b6 P5 B5
  go_wp2_with fail
  with_reducible refine (HX.out _).mono ?_
  rintro r wz ⟨rfl, bz⟩
  have BZ := Lib.hid (grown_then B6.out bz)
  clear bz
  go_wp2
  go_ret
  exact ⟨rfl, BZ.out⟩

set_option maxRecDepth 10000 in
theorem mof_no (b l u S E N K : Int) (w : World) (h4 : 0 ≤ u) (h5 : u ≤ 18446744073709551615)
    (R1 : Hid (∀ w : World, Calls Try.prog 16 #[.int .i64 b, .int .i64 l] w fun e w' => e = .returned (.tuple #[.int .u64 S, .int .u64 E, .int .i64 11]) ∧ w' = w))
    (R2 : Hid (∀ w : World, Calls Try.prog 18 #[.int .i64 b] w fun e w' => e = .returned (.tuple #[.int .u64 N, .int .i64 K]) ∧ w' = w))
    (A1 : Hid (∀ w : World, Calls Try.prog 15 #[.int .i64 b, .int .i64 l] w fun e w' => e = .returned (.tuple #[rV S E, .int .i64 11]) ∧ Below w.heap.size w w'))
    (A5 : Hid (∀ w : World, Calls Try.prog 17 #[.int .i64 b] w fun e w' => e = .returned (.tuple #[.int .u64 N, .int .i64 K]) ∧ w' = w)) :
    Calls Try.prog 5 #[.int .i64 b, .int .i64 l, .int .u64 u] w fun r w' => r = .returned (.bool true) ∧ Below w.heap.size w w' := by
  have HX := Lib.hid (fun w => works8_any w)
  have M1 := Lib.hid (fun w => micro_any u w h4 h5)
  have M2 := Lib.hid (fun w => rmicro_any u w h4 h5)
  go_enter Try.func5, Try.ntmps5
  go_wp2_with fail
  with_reducible refine (A1.out _).mono ?_
  rintro r w1 ⟨rfl, b1⟩
  have P3 := Lib.hid (rblk_alloc 24 w1 S E)
  have B3 := Lib.hid (grown_then b1 (below_alloc w1 (.cells #[.int .u64 S, .int .u64 E] 24)))
  clear b1
  go_wp2_with fail
  with_reducible refine (R1.out _).mono ?_
  rintro r wr ⟨rfl, br⟩
  rw [br]; clear br
  go_wp2_with fail
  with_reducible refine (A5.out _).mono ?_
  rintro r wr ⟨rfl, br⟩
  rw [br]; clear br
  go_wp2_with fail
  with_reducible refine (R2.out _).mono ?_
  rintro r wr ⟨rfl, br⟩
  rw [br]; clear br
  go_wp2_with fail
  with_reducible refine (M1.out _).mono ?_
  rintro r wr ⟨rfl, br⟩
  rw [br]; clear br
  go_wp2_with fail
  with_reducible refine (M2.out _).mono ?_
  rintro r wr ⟨rfl, br⟩
  rw [br]; clear br
  go_wp2_with fail
  with_reducible refine (HX.out _).mono ?_
  rintro r wz ⟨rfl, bz⟩
  have BZ := Lib.hid (grown_then B3.out bz)
  clear bz
  go_wp2
  go_ret
  exact ⟨rfl, BZ.out⟩

theorem mof_any (b l u : Int) (w : World) (h0 : -9223372036854775808 ≤ b) (h1 : b ≤ 9223372036854775807) (h2 : -9223372036854775808 ≤ l) (h3 : l ≤ 9223372036854775807) (h4 : 0 ≤ u) (h5 : u ≤ 18446744073709551615) :
    Calls Try.prog 5 #[.int .i64 b, .int .i64 l, .int .u64 u] w fun r w' => r = .returned (.bool true) ∧ Below w.heap.size w w' := by
  have R1 := fun w => rof_any b l w h0 h1 h2 h3
  have A1 := fun w => of_any b l w h0 h1 h2 h3
  rcases Bool.eq_false_or_eq_true (ofB b l) with hf | hf
  · obtain ⟨z1, z2, z3, z4, z5⟩ := of_back b l hf
    have A2 := fun w => begun_any (ofS b l) (ofE b l) w z4 z5
    have A3 := fun w => lasts_any (ofS b l) (ofE b l) w z4 z5
    rw [z2] at A2
    rw [z3] at A3
    rw [(of_yes hf).2.2] at R1 A1
    exact mof_yes b l u _ _ _ _ w h4 h5 (Lib.hid R1) (Lib.hid (fun w => rnano_any b w h0 h1)) (Lib.hid A1) (Lib.hid (fun w => nano_any b w h0 h1)) (Lib.hid A2) (Lib.hid A3) (Lib.hid (check_yes _ _ z1))
  · rw [(of_no hf).2.2] at R1 A1
    exact mof_no b l u _ _ _ _ w h4 h5 (Lib.hid R1) (Lib.hid (fun w => rnano_any b w h0 h1)) (Lib.hid A1) (Lib.hid (fun w => nano_any b w h0 h1))
end Go.Proofs.Ytgljkoffanphkaa
