/- Law 8's example. -/
import Derived.Test.YtgljkoffanphkaaMoD
namespace Go.Proofs.Ytgljkoffanphkaa
open Go Go.RowKit
set_option linter.unusedVariables false

theorem wk_far (w : World) : Calls Try.prog 15 #[.int .i64 9223372036854775, .int .i64 1] w fun e w' => e = .returned (.tuple #[.agg #[.int .u64 0, .int .u64 0], .int .i64 11]) ∧ Below w.heap.size w w' := by
  have := of_any 9223372036854775 1 w (by decide) (by decide) (by decide) (by decide)
  rw [show ofS 9223372036854775 1 = 0 by decide +kernel, show ofE 9223372036854775 1 = 0 by decide +kernel, show ofC 9223372036854775 1 = 11 by decide +kernel] at this; exact this
theorem wk_low (w : World) : Calls Try.prog 17 #[.int .i64 (-1)] w fun e w' => e = .returned (.tuple #[.int .u64 0, .int .i64 11]) ∧ w' = w := nanoNo (-1) (by decide +kernel) w (by decide) (by decide)
theorem wk_beg (w : World) : Calls Try.prog 10 #[.agg #[.int .u64 1999, .int .u64 4001]] w fun r w' => r = .returned (.int .i64 1) ∧ Below w.heap.size w w' := begun_any 1999 4001 w (by decide) (by decide)
theorem wk_las (w : World) : Calls Try.prog 12 #[.agg #[.int .u64 1999, .int .u64 4001]] w fun r w' => r = .returned (.int .i64 2) ∧ Below w.heap.size w w' := lasts_any 1999 4001 w (by decide) (by decide)
theorem wk_who (w : World) : Calls Try.prog 7 #[.agg #[.int .u64 1999, .int .u64 4001]] w fun r w' => r = .returned (.agg #[.int .u64 1000, .int .u64 3000]) ∧ Below w.heap.size w w' := whole_any 1999 4001 w (by decide) (by decide)
theorem wk_chk (w : World) : Calls Try.prog 8 #[.agg #[.int .u64 2, .int .u64 1]] w fun r w' => r = .returned (.int .i64 11) ∧ Below w.heap.size w w' := check_no 2 1 (by decide +kernel) w

set_option maxRecDepth 10000 in
theorem works8_any (w : World) : Calls Try.prog 14 #[] w fun r w' => r = .returned (.bool true) ∧ Below w.heap.size w w' := by
  have hA := Lib.hid (rblk_alloc 24 w 1999 4001)
  have hB := Lib.hid (below_alloc w (.cells #[.int .u64 1999, .int .u64 4001] 24))
  go_enter Try.func14, Try.ntmps14
  go_wp2_with fail
  with_reducible refine (wk_far _).mono ?_
  rintro r w1 ⟨rfl, b1⟩
  have A1 := Lib.hid (hA.out.below b1 hA.out.lt)
  have B1 := Lib.hid (grown_then hB.out b1)
  clear b1 hA hB
  go_wp2_with fail
  have A2 := Lib.hid (A1.out.below (below_alloc w1 (.cells #[.int .u64 0, .int .u64 0] 24)) A1.out.lt)
  have B2 := Lib.hid (grown_then B1.out (below_alloc w1 (.cells #[.int .u64 0, .int .u64 0] 24)))
  generalize (w1.alloc (.cells #[.int .u64 0, .int .u64 0] 24)) = w2 at *
  with_reducible refine (wk_low _).mono ?_
  rintro r w3 ⟨rfl, b3⟩
  rw [b3]; clear b3 A1 B1
  have c0 := A2.out.c0
  have c1 := A2.out.c1
  go_wp2_with fail
  with_reducible refine (wk_beg _).mono ?_
  rintro r w4 ⟨rfl, b4⟩
  have A3 := Lib.hid (A2.out.below b4 A2.out.lt)
  have B3 := Lib.hid (grown_then B2.out b4)
  have d0 := A3.out.c0
  have d1 := A3.out.c1
  clear b4 A2 B2 c0 c1
  go_wp2_with fail
  with_reducible refine (wk_las _).mono ?_
  rintro r w5 ⟨rfl, b5⟩
  have A4 := Lib.hid (A3.out.below b5 A3.out.lt)
  have B4 := Lib.hid (grown_then B3.out b5)
  have f0 := A4.out.c0
  have f1 := A4.out.c1
  clear b5 A3 B3 d0 d1
  go_wp2_with fail
  with_reducible refine (wk_who _).mono ?_
  rintro r w6 ⟨rfl, b6⟩
  have B5 := Lib.hid (grown_then B4.out b6)
  clear b6 A4 B4 f0 f1
  go_wp2_with fail
  with_reducible refine (wk_chk _).mono ?_
  rintro r w7 ⟨rfl, b7⟩
  have B6 := Lib.hid (grown_then B5.out b7)
  clear b7 B5
  go_wp2
  go_ret
  exact ⟨rfl, B6.out⟩
end Go.Proofs.Ytgljkoffanphkaa
