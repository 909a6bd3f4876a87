/- Package hexa's worth, Nibble, and the document's own Nibble. -/
import Derived.Test.YteakcfgjjlocjaaDoorBts
import Derived.Test.YteakcfgjjlocjaaDoorHNum
namespace Go.Proofs.YteakcfgjjlocjaaDoor
open Go Go.RowKit
set_option linter.unusedVariables false

theorem ret_two {a c : Int} {b d : Bool} (h : a = c) (k : b = d) : Ending.returned (.tuple #[.int .i64 a, .bool b]) = .returned (.tuple #[.int .i64 c, .bool d]) := by rw [h, k]

theorem worth_any (r : Nat) (w : World) (hr : r ≤ 2147483647) :
    Calls Tryd.prog 54 #[.int .i32 r] w fun e w' => e = .returned (.tuple #[.int .i64 (nibV r : Nat), .bool (nibIs r)]) ∧ w' = w := by
  by_cases h1 : 48 ≤ r ∧ r ≤ 57
  · have p1 : decide ((48 : Int) ≤ (r : Int)) = true := decide_eq_true (by omega)
    have p2 : decide ((r : Int) ≤ 57) = true := decide_eq_true (by omega)
    have hV := Lib.hid (show nibV r = r - 48 by unfold nibV; rw [if_pos h1])
    have hI := Lib.hid (show nibIs r = true from decide_eq_true (.inl h1))
    go_enter Tryd.func54, Tryd.ntmps54
    go_wp2
    go_ret2
    exact ⟨ret_two (by rw [hV.out]; go_num) hI.out.symm, rfl⟩
  · by_cases h2 : 97 ≤ r ∧ r ≤ 102
    · have p1 : decide ((48 : Int) ≤ (r : Int)) = true := decide_eq_true (by omega)
      have p2 : decide ((r : Int) ≤ 57) = false := decide_eq_false (by omega)
      have p3 : decide ((97 : Int) ≤ (r : Int)) = true := decide_eq_true (by omega)
      have p4 : decide ((r : Int) ≤ 102) = true := decide_eq_true (by omega)
      have hV := Lib.hid (show nibV r = r - 87 by unfold nibV; rw [if_neg h1, if_pos h2])
      have hI := Lib.hid (show nibIs r = true from decide_eq_true (.inr h2))
      go_enter Tryd.func54, Tryd.ntmps54
      go_wp2
      go_ret2
      exact ⟨ret_two (by rw [hV.out]; go_num) hI.out.symm, rfl⟩
    · have hV := Lib.hid (show nibV r = 0 by unfold nibV; rw [if_neg h1, if_neg h2])
      have hI := Lib.hid (show nibIs r = false from decide_eq_false (by omega))
      by_cases h3 : 48 ≤ r
      · have p1 : decide ((48 : Int) ≤ (r : Int)) = true := decide_eq_true (by omega)
        have p2 : decide ((r : Int) ≤ 57) = false := decide_eq_false (by omega)
        by_cases h4 : 97 ≤ r
        · have p3 : decide ((97 : Int) ≤ (r : Int)) = true := decide_eq_true (by omega)
          have p4 : decide ((r : Int) ≤ 102) = false := decide_eq_false (by omega)
          clear h1 h2
          go_enter Tryd.func54, Tryd.ntmps54
          go_wp2
          go_ret2
          exact ⟨ret_two (by rw [hV.out]; rfl) hI.out.symm, rfl⟩
        · have p3 : decide ((97 : Int) ≤ (r : Int)) = false := decide_eq_false (by omega)
          clear h1 h2
          go_enter Tryd.func54, Tryd.ntmps54
          go_wp2
          go_ret2
          exact ⟨ret_two (by rw [hV.out]; rfl) hI.out.symm, rfl⟩
      · have p1 : decide ((48 : Int) ≤ (r : Int)) = false := decide_eq_false (by omega)
        have p3 : decide ((97 : Int) ≤ (r : Int)) = false := decide_eq_false (by omega)
        clear h1 h2
        go_enter Tryd.func54, Tryd.ntmps54
        go_wp2
        go_ret2
        exact ⟨ret_two (by rw [hV.out]; rfl) hI.out.symm, rfl⟩

theorem nibble_any (c : Nat) (w : World) (hc : c < 256) :
    Calls Tryd.prog 50 #[.int .u8 c] w fun e w' => e = .returned (.tuple #[.int .i64 (nibV c : Nat), .bool (nibIs c)]) ∧ w' = w := by
  have hw := Lib.hid (fun w => worth_any c w (by omega))
  go_enter Tryd.func50, Tryd.ntmps50
  go_wp2_with fail
  with_reducible refine (hw.out _).mono ?_
  rintro e w' ⟨rfl, hww⟩
  rw [hww]
  clear hww
  go_wp2
  go_ret2
  exact ⟨rfl, rfl⟩

theorem rnibble_any (r : Nat) (w : World) (hr : r < 256) :
    Calls Tryd.prog 52 #[.int .u8 r] w fun e w' => e = .returned (.tuple #[.int .i64 (nibV r : Nat), .bool (nibIs r)]) ∧ w' = w := by
  by_cases h1 : 48 ≤ r ∧ r ≤ 57
  · have p1 : decide ((48 : Int) ≤ (r : Int)) = true := decide_eq_true (by omega)
    have p2 : decide ((r : Int) ≤ 57) = true := decide_eq_true (by omega)
    have hV := Lib.hid (show nibV r = r - 48 by unfold nibV; rw [if_pos h1])
    have hI := Lib.hid (show nibIs r = true from decide_eq_true (.inl h1))
    go_enter Tryd.func52, Tryd.ntmps52
    go_wp2
    go_ret2
    exact ⟨ret_two (by rw [hV.out]; go_num) hI.out.symm, rfl⟩
  · by_cases h2 : 97 ≤ r ∧ r ≤ 102
    · have p1 : decide ((48 : Int) ≤ (r : Int)) = true := decide_eq_true (by omega)
      have p2 : decide ((r : Int) ≤ 57) = false := decide_eq_false (by omega)
      have p3 : decide ((97 : Int) ≤ (r : Int)) = true := decide_eq_true (by omega)
      have p4 : decide ((r : Int) ≤ 102) = true := decide_eq_true (by omega)
      have hV := Lib.hid (show nibV r = r - 87 by unfold nibV; rw [if_neg h1, if_pos h2])
      have hI := Lib.hid (show nibIs r = true from decide_eq_true (.inr h2))
      go_enter Tryd.func52, Tryd.ntmps52
      go_wp2
      go_ret2
      exact ⟨ret_two (by rw [hV.out]; go_num) hI.out.symm, rfl⟩
    · have hV := Lib.hid (show nibV r = 0 by unfold nibV; rw [if_neg h1, if_neg h2])
      have hI := Lib.hid (show nibIs r = false from decide_eq_false (by omega))
      by_cases h3 : 48 ≤ r
      · have p1 : decide ((48 : Int) ≤ (r : Int)) = true := decide_eq_true (by omega)
        have p2 : decide ((r : Int) ≤ 57) = false := decide_eq_false (by omega)
        by_cases h4 : 97 ≤ r
        · have p3 : decide ((97 : Int) ≤ (r : Int)) = true := decide_eq_true (by omega)
          have p4 : decide ((r : Int) ≤ 102) = false := decide_eq_false (by omega)
          clear h1 h2
          go_enter Tryd.func52, Tryd.ntmps52
          go_wp2
          go_ret2
          exact ⟨ret_two (by rw [hV.out]; rfl) hI.out.symm, rfl⟩
        · have p3 : decide ((97 : Int) ≤ (r : Int)) = false := decide_eq_false (by omega)
          clear h1 h2
          go_enter Tryd.func52, Tryd.ntmps52
          go_wp2
          go_ret2
          exact ⟨ret_two (by rw [hV.out]; rfl) hI.out.symm, rfl⟩
      · have p1 : decide ((48 : Int) ≤ (r : Int)) = false := decide_eq_false (by omega)
        have p3 : decide ((97 : Int) ≤ (r : Int)) = false := decide_eq_false (by omega)
        clear h1 h2
        go_enter Tryd.func52, Tryd.ntmps52
        go_wp2
        go_ret2
        exact ⟨ret_two (by rw [hV.out]; rfl) hI.out.symm, rfl⟩
end Go.Proofs.YteakcfgjjlocjaaDoor
