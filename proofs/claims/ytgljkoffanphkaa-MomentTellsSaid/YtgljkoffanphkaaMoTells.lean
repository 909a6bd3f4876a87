/- MomentTells, walked. -/
import Derived.Test.YtgljkoffanphkaaMoWork
namespace Go.Proofs.Ytgljkoffanphkaa
open Go Go.RowKit
set_option linter.unusedVariables false

set_option maxRecDepth 10000 in
theorem tells_yes (s e B L S E : Int) (w : World)
    (R1 : Hid (∀ w : World, Calls Try.prog 6 #[.int .u64 s, .int .u64 e] w fun r w' => r = .returned (.tuple #[.int .u64 S, .int .u64 E]) ∧ w' = w))
    (R2 : Hid (∀ w : World, Calls Try.prog 11 #[.int .u64 s, .int .u64 e] w fun r w' => r = .returned (.int .i64 B) ∧ w' = w))
    (R3 : Hid (∀ w : World, Calls Try.prog 13 #[.int .u64 s, .int .u64 e] w fun r w' => r = .returned (.int .i64 L) ∧ w' = w))
    (R4 : Hid (∀ w : World, Calls Try.prog 9 #[.int .u64 s, .int .u64 e] w fun r w' => r = .returned (.bool true) ∧ w' = w))
    (A1 : Hid (∀ w : World, Calls Try.prog 7 #[rV s e] w fun r w' => r = .returned (rV S E) ∧ Below w.heap.size w w'))
    (A2 : Hid (∀ w : World, Calls Try.prog 10 #[rV s e] w fun r w' => r = .returned (.int .i64 B) ∧ Below w.heap.size w w'))
    (A3 : Hid (∀ w : World, Calls Try.prog 12 #[rV s e] w fun r w' => r = .returned (.int .i64 L) ∧ Below w.heap.size w w'))
    (A4 : Hid (∀ w : World, Calls Try.prog 8 #[rV s e] w fun r w' => r = .returned (.int .i64 0) ∧ Below w.heap.size w w')) :
    Calls Try.prog 3 #[.int .u64 s, .int .u64 e] w fun r w' => r = .returned (.bool true) ∧ Below w.heap.size w w' := by
  have hA := Lib.hid (rblk_alloc 24 w s e)
  have hB := Lib.hid (below_alloc w (.cells #[.int .u64 s, .int .u64 e] 24))
  have HX := Lib.hid (fun w => works8_any w)
  go_enter Try.func3, Try.ntmps3
  go_wp2_with fail
  with_reducible refine (R1.out _).mono ?_
  rintro r w1 ⟨rfl, b1⟩
  rw [b1]; clear b1
  go_wp2_with fail
  with_reducible refine (A1.out _).mono ?_
  rintro r w2 ⟨rfl, b2⟩
  have P2 := Lib.hid (hA.out.below b2 hA.out.lt)
  have B2 := Lib.hid (grown_then hB.out b2)
  clear b2
  have P3 := Lib.hid (P2.out.below (below_alloc w2 (.cells #[.int .u64 S, .int .u64 E] 24)) P2.out.lt)
  have G3 := Lib.hid (rblk_alloc 24 w2 S E)
  have B3 := Lib.hid (grown_then B2.out (below_alloc w2 (.cells #[.int .u64 S, .int .u64 E] 24)))
  have c0 := P2.out.c0
  have c1 := P2.out.c1
  have cl := P2.out.lt
  clear hA hB
  go_wp2_with fail
  with_reducible refine (A4.out _).mono ?_
  rintro r w4 ⟨rfl, b4⟩
  have P4 := Lib.hid (P3.out.below b4 P3.out.lt)
  have G4 := Lib.hid (G3.out.below b4 G3.out.lt)
  have B4 := Lib.hid (grown_then B3.out b4)
  have p40 := P4.out.c0
  have p41 := P4.out.c1
  have g40 := G4.out.c0
  have g41 := G4.out.c1
  clear b4 P3 G3 B3
  go_wp2_with fail
  with_reducible refine (R4.out _).mono ?_
  rintro r wr ⟨rfl, br⟩
  rw [br]; clear br
  go_wp2_with fail
  with_reducible refine (A4.out _).mono ?_
  rintro r w5 ⟨rfl, b5⟩
  have P5 := Lib.hid (P4.out.below b5 P4.out.lt)
  have G5 := Lib.hid (G4.out.below b5 G4.out.lt)
  have B5 := Lib.hid (grown_then B4.out b5)
  have p50 := P5.out.c0
  have p51 := P5.out.c1
  have g50 := G5.out.c0
  have g51 := G5.out.c1
  clear b5 P4 G4 B4
  go_wp2_with fail
  with_reducible refine (A2.out _).mono ?_
  rintro r w6 ⟨rfl, b6⟩
  have P6 := Lib.hid (P5.out.below b6 P5.out.lt)
  have G6 := Lib.hid (G5.out.below b6 G5.out.lt)
  have B6 := Lib.hid (grown_then B5.out b6)
  have p60 := P6.out.c0
  have p61 := P6.out.c1
  have g60 := G6.out.c0
  have g61 := G6.out.c1
  clear b6 P5 G5 B5
  go_wp2_with fail
  with_reducible refine (R2.out _).mono ?_
  rintro r wr ⟨rfl, br⟩
  rw [br]; clear br
  go_wp2_with fail
  with_reducible refine (A3.out _).mono ?_
  rintro r w7 ⟨rfl, b7⟩
  have P7 := Lib.hid (P6.out.below b7 P6.out.lt)
  have G7 := Lib.hid (G6.out.below b7 G6.out.lt)
  have B7 := Lib.hid (grown_then B6.out b7)
  have p70 := P7.out.c0
  have p71 := P7.out.c1
  have g70 := G7.out.c0
  have g71 := G7.out.c1
  clear b7 P6 G6 B6
  go_wp2_with fail
  with_reducible refine (R3.out _).mono ?_
  rintro r wr ⟨rfl, br⟩
  rw [br]; clear br
  go_wp2_with fail
  with_reducible refine (HX.out _).mono ?_
  rintro r wz ⟨rfl, bz⟩
  have BZ := Lib.hid (grown_then B7.out bz)
  clear bz
  go_wp2
  go_ret
  exact ⟨rfl, BZ.out⟩

set_option maxRecDepth 10000 in
theorem tells_no (s e B L S E : Int) (w : World)
    (R1 : Hid (∀ w : World, Calls Try.prog 6 #[.int .u64 s, .int .u64 e] w fun r w' => r = .returned (.tuple #[.int .u64 S, .int .u64 E]) ∧ w' = w))
    (R2 : Hid (∀ w : World, Calls Try.prog 11 #[.int .u64 s, .int .u64 e] w fun r w' => r = .returned (.int .i64 B) ∧ w' = w))
    (R3 : Hid (∀ w : World, Calls Try.prog 13 #[.int .u64 s, .int .u64 e] w fun r w' => r = .returned (.int .i64 L) ∧ w' = w))
    (R4 : Hid (∀ w : World, Calls Try.prog 9 #[.int .u64 s, .int .u64 e] w fun r w' => r = .returned (.bool false) ∧ w' = w))
    (A1 : Hid (∀ w : World, Calls Try.prog 7 #[rV s e] w fun r w' => r = .returned (rV S E) ∧ Below w.heap.size w w'))
    (A2 : Hid (∀ w : World, Calls Try.prog 10 #[rV s e] w fun r w' => r = .returned (.int .i64 B) ∧ Below w.heap.size w w'))
    (A3 : Hid (∀ w : World, Calls Try.prog 12 #[rV s e] w fun r w' => r = .returned (.int .i64 L) ∧ Below w.heap.size w w'))
    (A4 : Hid (∀ w : World, Calls Try.prog 8 #[rV s e] w fun r w' => r = .returned (.int .i64 11) ∧ Below w.heap.size w w')) :
    Calls Try.prog 3 #[.int .u64 s, .int .u64 e] w fun r w' => r = .returned (.bool true) ∧ Below w.heap.size w w' := by
  have hA := Lib.hid (rblk_alloc 24 w s e)
  have hB := Lib.hid (below_alloc w (.cells #[.int .u64 s, .int .u64 e] 24))
  have HX := Lib.hid (fun w => works8_any w)
  go_enter Try.func3, Try.ntmps3
  go_wp2_with fail
  with_reducible refine (R1.out _).mono ?_
  rintro r w1 ⟨rfl, b1⟩
  rw [b1]; clear b1
  go_wp2_with fail
  with_reducible refine (A1.out _).mono ?_
  rintro r w2 ⟨rfl, b2⟩
  have P2 := Lib.hid (hA.out.below b2 hA.out.lt)
  have B2 := Lib.hid (grown_then hB.out b2)
  clear b2
  have P3 := Lib.hid (P2.out.below (below_alloc w2 (.cells #[.int .u64 S, .int .u64 E] 24)) P2.out.lt)
  have G3 := Lib.hid (rblk_alloc 24 w2 S E)
  have B3 := Lib.hid (grown_then B2.out (below_alloc w2 (.cells #[.int .u64 S, .int .u64 E] 24)))
  have c0 := P2.out.c0
  have c1 := P2.out.c1
  have cl := P2.out.lt
  clear hA hB
  go_wp2_with fail
  with_reducible refine (A4.out _).mono ?_
  rintro r w4 ⟨rfl, b4⟩
  have P4 := Lib.hid (P3.out.below b4 P3.out.lt)
  have G4 := Lib.hid (G3.out.below b4 G3.out.lt)
  have B4 := Lib.hid (grown_then B3.out b4)
  have p40 := P4.out.c0
  have p41 := P4.out.c1
  have g40 := G4.out.c0
  have g41 := G4.out.c1
  clear b4 P3 G3 B3
  go_wp2_with fail
  with_reducible refine (R4.out _).mono ?_
  rintro r wr ⟨rfl, br⟩
  rw [br]; clear br
  go_wp2_with fail
  with_reducible refine (A4.out _).mono ?_
  rintro r w5 ⟨rfl, b5⟩
  have P5 := Lib.hid (P4.out.below b5 P4.out.lt)
  have G5 := Lib.hid (G4.out.below b5 G4.out.lt)
  have B5 := Lib.hid (grown_then B4.out b5)
  have p50 := P5.out.c0
  have p51 := P5.out.c1
  have g50 := G5.out.c0
  have g51 := G5.out.c1
  clear b5 P4 G4 B4
  go_wp2_with fail
  with_reducible refine (A4.out _).mono ?_
  rintro r w6 ⟨rfl, b6⟩
  have P6 := Lib.hid (P5.out.below b6 P5.out.lt)
  have G6 := Lib.hid (G5.out.below b6 G5.out.lt)
  have B6 := Lib.hid (grown_then B5.out b6)
  have p60 := P6.out.c0
  have p61 := P6.out.c1
  have g60 := G6.out.c0
  have g61 := G6.out.c1
  clear b6 P5 G5 B5
  go_wp2_with fail
  with_reducible refine (A2.out _).mono ?_
  rintro r w7 ⟨rfl, b7⟩
  have P7 := Lib.hid (P6.out.below b7 P6.out.lt)
  have G7 := Lib.hid (G6.out.below b7 G6.out.lt)
  have B7 := Lib.hid (grown_then B6.out b7)
  have p70 := P7.out.c0
  have p71 := P7.out.c1
  have g70 := G7.out.c0
  have g71 := G7.out.c1
  clear b7 P6 G6 B6
  go_wp2_with fail
  with_reducible refine (R2.out _).mono ?_
  rintro r wr ⟨rfl, br⟩
  rw [br]; clear br
  go_wp2_with fail
  with_reducible refine (A3.out _).mono ?_
  rintro r w8 ⟨rfl, b8⟩
  have P8 := Lib.hid (P7.out.below b8 P7.out.lt)
  have G8 := Lib.hid (G7.out.below b8 G7.out.lt)
  have B8 := Lib.hid (grown_then B7.out b8)
  have p80 := P8.out.c0
  have p81 := P8.out.c1
  have g80 := G8.out.c0
  have g81 := G8.out.c1
  clear b8 P7 G7 B7
  go_wp2_with fail
  with_reducible refine (R3.out _).mono ?_
  rintro r wr ⟨rfl, br⟩
  rw [br]; clear br
  go_wp2_with fail
  with_reducible refine (HX.out _).mono ?_
  rintro r wz ⟨rfl, bz⟩
  have BZ := Lib.hid (grown_then B8.out bz)
  clear bz
  go_wp2
  go_ret
  exact ⟨rfl, BZ.out⟩

theorem tells_any (s e : Int) (w : World) (h0 : 0 ≤ s) (h1 : s ≤ 18446744073709551615) (h2 : 0 ≤ e) (h3 : e ≤ 18446744073709551615) :
    Calls Try.prog 3 #[.int .u64 s, .int .u64 e] w fun r w' => r = .returned (.bool true) ∧ Below w.heap.size w w' := by
  rcases Bool.eq_false_or_eq_true (fineB s e) with hf | hf
  · exact tells_yes s e _ _ _ _ w (Lib.hid (fun w => rwhole_any s e w h0 h1)) (Lib.hid (fun w => rbegun_any s e w h0 h1)) (Lib.hid (fun w => rlasts_any s e w h0 h1)) (Lib.hid (rfine_yes s e hf))
      (Lib.hid (fun w => whole_any s e w h0 h1)) (Lib.hid (fun w => begun_any s e w h0 h1)) (Lib.hid (fun w => lasts_any s e w h0 h1)) (Lib.hid (check_yes s e hf))
  · exact tells_no s e _ _ _ _ w (Lib.hid (fun w => rwhole_any s e w h0 h1)) (Lib.hid (fun w => rbegun_any s e w h0 h1)) (Lib.hid (fun w => rlasts_any s e w h0 h1)) (Lib.hid (rfine_no s e hf))
      (Lib.hid (fun w => whole_any s e w h0 h1)) (Lib.hid (fun w => begun_any s e w h0 h1)) (Lib.hid (fun w => lasts_any s e w h0 h1)) (Lib.hid (check_no s e hf))
end Go.Proofs.Ytgljkoffanphkaa
