/- Package utf's Is, announced, width, and the document's own Is. -/
import Derived.Test.YteakcfgjjlocjaaDoorUText
import Derived.BigQuiet
namespace Go.Proofs.YteakcfgjjlocjaaDoor
open Go Go.RowKit
set_option linter.unusedVariables false

theorem uis_any (r : Int) (w : World) :
    Calls Tryd.prog 40 #[.int .i32 r] w fun e w' => e = .returned (.bool (uIs r)) ∧ w' = w := by
  by_cases h0 : 0 ≤ r
  · have p1 : decide ((0 : Int) ≤ r) = true := decide_eq_true h0
    by_cases h1 : r ≤ 1114111
    · have p2 : decide (r ≤ 1114111) = true := decide_eq_true h1
      by_cases h2 : 55296 ≤ r
      · have p3 : decide ((55296 : Int) ≤ r) = true := decide_eq_true h2
        by_cases h3 : r ≤ 57343
        · have p4 : decide (r ≤ 57343) = true := decide_eq_true h3
          have HI := Lib.hid (show uIs r = false from uIs_no.mpr (by omega))
          clear h0 h1 h2 h3
          go_enter Tryd.func40, Tryd.ntmps40
          go_wp2
          go_ret
          exact ⟨ret_b HI.out.symm, rfl⟩
        · have p4 : decide (r ≤ 57343) = false := decide_eq_false h3
          have HI := Lib.hid (show uIs r = true from uIs_iff.mpr (by omega))
          clear h0 h1 h2 h3
          go_enter Tryd.func40, Tryd.ntmps40
          go_wp2
          go_ret
          exact ⟨ret_b HI.out.symm, rfl⟩
      · have p3 : decide ((55296 : Int) ≤ r) = false := decide_eq_false h2
        have HI := Lib.hid (show uIs r = true from uIs_iff.mpr (by omega))
        clear h0 h1 h2
        go_enter Tryd.func40, Tryd.ntmps40
        go_wp2
        go_ret
        exact ⟨ret_b HI.out.symm, rfl⟩
    · have p2 : decide (r ≤ 1114111) = false := decide_eq_false h1
      have HI := Lib.hid (show uIs r = false from uIs_no.mpr (by omega))
      clear h0 h1
      go_enter Tryd.func40, Tryd.ntmps40
      go_wp2
      go_ret
      exact ⟨ret_b HI.out.symm, rfl⟩
  · have p1 : decide ((0 : Int) ≤ r) = false := decide_eq_false h0
    have HI := Lib.hid (show uIs r = false from uIs_no.mpr (by omega))
    clear h0
    go_enter Tryd.func40, Tryd.ntmps40
    go_wp2
    go_ret
    exact ⟨ret_b HI.out.symm, rfl⟩

theorem ruis_any (r : Int) (w : World) :
    Calls Tryd.prog 47 #[.int .i32 r] w fun e w' => e = .returned (.bool (uIs r)) ∧ w' = w := by
  by_cases h0 : 0 ≤ r
  · have p1 : decide ((0 : Int) ≤ r) = true := decide_eq_true h0
    by_cases h1 : r ≤ 1114111
    · have p2 : decide (r ≤ 1114111) = true := decide_eq_true h1
      by_cases h2 : r < 55296
      · have p3 : decide (r < 55296) = true := decide_eq_true h2
        have HI := Lib.hid (show uIs r = true from uIs_iff.mpr (by omega))
        clear h0 h1 h2
        go_enter Tryd.func47, Tryd.ntmps47
        go_wp2
        go_ret
        exact ⟨ret_b HI.out.symm, rfl⟩
      · have p3 : decide (r < 55296) = false := decide_eq_false h2
        by_cases h3 : 57343 < r
        · have p4 : decide (57343 < r) = true := decide_eq_true h3
          have HI := Lib.hid (show uIs r = true from uIs_iff.mpr (by omega))
          clear h0 h1 h2 h3
          go_enter Tryd.func47, Tryd.ntmps47
          go_wp2
          go_ret
          exact ⟨ret_b HI.out.symm, rfl⟩
        · have p4 : decide (57343 < r) = false := decide_eq_false h3
          have HI := Lib.hid (show uIs r = false from uIs_no.mpr (by omega))
          clear h0 h1 h2 h3
          go_enter Tryd.func47, Tryd.ntmps47
          go_wp2
          go_ret
          exact ⟨ret_b HI.out.symm, rfl⟩
    · have p2 : decide (r ≤ 1114111) = false := decide_eq_false h1
      have HI := Lib.hid (show uIs r = false from uIs_no.mpr (by omega))
      clear h0 h1
      go_enter Tryd.func47, Tryd.ntmps47
      go_wp2
      go_ret
      exact ⟨ret_b HI.out.symm, rfl⟩
  · have p1 : decide ((0 : Int) ≤ r) = false := decide_eq_false h0
    have HI := Lib.hid (show uIs r = false from uIs_no.mpr (by omega))
    clear h0
    go_enter Tryd.func47, Tryd.ntmps47
    go_wp2
    go_ret
    exact ⟨ret_b HI.out.symm, rfl⟩

theorem uwidth_any (r : Int) (w : World) :
    Calls Tryd.prog 33 #[.int .i32 r] w fun e w' => e = .returned (.int .i64 (uW r : Nat)) ∧ w' = w := by
  have hi := Lib.hid (fun w => uis_any r w)
  by_cases h0 : uIs r = true
  · rw [h0] at hi
    by_cases h1 : r < 128
    · have p1 : decide (r < 128) = true := decide_eq_true h1
      have HW := Lib.hid (show uW r = 1 by unfold uW; rw [if_pos h0, if_pos h1])
      clear h0 h1
      go_enter Tryd.func33, Tryd.ntmps33
      go_wp2_with fail
      with_reducible refine (hi.out _).mono ?_
      rintro e w' ⟨rfl, hw⟩
      rw [hw]; clear hw
      go_wp2
      go_ret
      exact ⟨ret_i (by rw [HW.out]; rfl), rfl⟩
    · have p1 : decide (r < 128) = false := decide_eq_false h1
      by_cases h2 : r < 2048
      · have p2 : decide (r < 2048) = true := decide_eq_true h2
        have HW := Lib.hid (show uW r = 2 by unfold uW; rw [if_pos h0, if_neg h1, if_pos h2])
        clear h0 h1 h2
        go_enter Tryd.func33, Tryd.ntmps33
        go_wp2_with fail
        with_reducible refine (hi.out _).mono ?_
        rintro e w' ⟨rfl, hw⟩
        rw [hw]; clear hw
        go_wp2
        go_ret
        exact ⟨ret_i (by rw [HW.out]; rfl), rfl⟩
      · have p2 : decide (r < 2048) = false := decide_eq_false h2
        by_cases h3 : r < 65536
        · have p3 : decide (r < 65536) = true := decide_eq_true h3
          have HW := Lib.hid (show uW r = 3 by unfold uW; rw [if_pos h0, if_neg h1, if_neg h2, if_pos h3])
          clear h0 h1 h2 h3
          go_enter Tryd.func33, Tryd.ntmps33
          go_wp2_with fail
          with_reducible refine (hi.out _).mono ?_
          rintro e w' ⟨rfl, hw⟩
          rw [hw]; clear hw
          go_wp2
          go_ret
          exact ⟨ret_i (by rw [HW.out]; rfl), rfl⟩
        · have p3 : decide (r < 65536) = false := decide_eq_false h3
          have HW := Lib.hid (show uW r = 4 by unfold uW; rw [if_pos h0, if_neg h1, if_neg h2, if_neg h3])
          clear h0 h1 h2 h3
          go_enter Tryd.func33, Tryd.ntmps33
          go_wp2_with fail
          with_reducible refine (hi.out _).mono ?_
          rintro e w' ⟨rfl, hw⟩
          rw [hw]; clear hw
          go_wp2
          go_ret
          exact ⟨ret_i (by rw [HW.out]; rfl), rfl⟩
  · have HW := Lib.hid (show uW r = 0 by unfold uW; rw [if_neg h0])
    rw [show uIs r = false by simpa using h0] at hi
    clear h0
    go_enter Tryd.func33, Tryd.ntmps33
    go_wp2_with fail
    with_reducible refine (hi.out _).mono ?_
    rintro e w' ⟨rfl, hw⟩
    rw [hw]; clear hw
    go_wp2
    go_ret
    exact ⟨ret_i (by rw [HW.out]; rfl), rfl⟩

theorem uann_any (c : Nat) (w : World) :
    Calls Tryd.prog 53 #[.int .u8 c] w fun e w' => e = .returned (.int .i64 (uAnn c : Nat)) ∧ w' = w := by
  by_cases h1 : c < 128
  · have p1 : decide ((c : Int) < 128) = true := decide_eq_true (by omega)
    have HW := Lib.hid (show uAnn c = 1 by unfold uAnn; rw [if_pos h1])
    clear h1
    go_enter Tryd.func53, Tryd.ntmps53
    go_wp2
    go_ret
    exact ⟨ret_i (by rw [HW.out]; rfl), rfl⟩
  · have p1 : decide ((c : Int) < 128) = false := decide_eq_false (by omega)
    by_cases h2 : c < 192
    · have p2 : decide ((c : Int) < 192) = true := decide_eq_true (by omega)
      have HW := Lib.hid (show uAnn c = 0 by unfold uAnn; rw [if_neg h1, if_pos h2])
      clear h1 h2
      go_enter Tryd.func53, Tryd.ntmps53
      go_wp2
      go_ret
      exact ⟨ret_i (by rw [HW.out]; rfl), rfl⟩
    · have p2 : decide ((c : Int) < 192) = false := decide_eq_false (by omega)
      by_cases h3 : c < 224
      · have p3 : decide ((c : Int) < 224) = true := decide_eq_true (by omega)
        have HW := Lib.hid (show uAnn c = 2 by unfold uAnn; rw [if_neg h1, if_neg h2, if_pos h3])
        clear h1 h2 h3
        go_enter Tryd.func53, Tryd.ntmps53
        go_wp2
        go_ret
        exact ⟨ret_i (by rw [HW.out]; rfl), rfl⟩
      · have p3 : decide ((c : Int) < 224) = false := decide_eq_false (by omega)
        by_cases h4 : c < 240
        · have p4 : decide ((c : Int) < 240) = true := decide_eq_true (by omega)
          have HW := Lib.hid (show uAnn c = 3 by unfold uAnn; rw [if_neg h1, if_neg h2, if_neg h3, if_pos h4])
          clear h1 h2 h3 h4
          go_enter Tryd.func53, Tryd.ntmps53
          go_wp2
          go_ret
          exact ⟨ret_i (by rw [HW.out]; rfl), rfl⟩
        · have p4 : decide ((c : Int) < 240) = false := decide_eq_false (by omega)
          by_cases h5 : c < 248
          · have p5 : decide ((c : Int) < 248) = true := decide_eq_true (by omega)
            have HW := Lib.hid (show uAnn c = 4 by unfold uAnn; rw [if_neg h1, if_neg h2, if_neg h3, if_neg h4, if_pos h5])
            clear h1 h2 h3 h4 h5
            go_enter Tryd.func53, Tryd.ntmps53
            go_wp2
            go_ret
            exact ⟨ret_i (by rw [HW.out]; rfl), rfl⟩
          · have p5 : decide ((c : Int) < 248) = false := decide_eq_false (by omega)
            have HW := Lib.hid (show uAnn c = 0 by unfold uAnn; rw [if_neg h1, if_neg h2, if_neg h3, if_neg h4, if_neg h5])
            clear h1 h2 h3 h4 h5
            go_enter Tryd.func53, Tryd.ntmps53
            go_wp2
            go_ret
            exact ⟨ret_i (by rw [HW.out]; rfl), rfl⟩
end Go.Proofs.YteakcfgjjlocjaaDoor
