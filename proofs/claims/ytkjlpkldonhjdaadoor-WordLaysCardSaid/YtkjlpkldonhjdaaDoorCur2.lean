/- More calls of package cursor: End, Peek, Byte, allows, and what reads a part (Take, Sub). -/
import Derived.Test.YtkjlpkldonhjdaaDoorCur
namespace Go.Proofs.YtkjlpkldonhjdaaDoor
open Go Go.RowKit
set_option linter.unusedVariables false

theorem ret_peek {a b : Int} {c d : Bool} (h : a = b) (k : c = d) : Ending.returned (.tuple #[.int .u8 a, .bool c]) = .returned (.tuple #[.int .u8 b, .bool d]) := by rw [h, k]

theorem end_any {b : Nat} {c : CS} {w : World} (h : CurT 56 w b c) (hc : c.ok) :
    Calls Tryd.prog 21 #[.pointer (some ⟨b, 0, none⟩)] w fun e w' => e = .returned (.int .i64 c.endC) ∧ ∃ n, w' = w.drewN n := by
  by_cases h0 : c.er = 0
  · have hb : (c.er == 0) = true := by simp [h0]
    by_cases h1 : c.at_ < c.en
    · have hd : decide (c.at_ < c.en) = true := by simp [h1]
      have HR := Lib.hid (show c.endC = 2 from by unfold CS.endC; rw [if_pos ⟨h0, h1⟩])
      clear h0 h1
      go_enter Tryd.func21, Tryd.ntmps21
      go_wp2_with (first | ((with_reducible refine (err_any h).mono ?_); rintro e w' ⟨rfl, rfl⟩) | ((with_reducible refine (left_any h hc).mono ?_); rintro e w' ⟨rfl, n, rfl⟩))
      go_ret
      exact ⟨ret_int HR.out.symm, _, rfl⟩
    · have hd : decide (c.at_ < c.en) = false := by simp [h1]
      have HR := Lib.hid (show c.endC = c.er from by unfold CS.endC; rw [if_neg (fun x => h1 x.2)])
      clear h0 h1
      go_enter Tryd.func21, Tryd.ntmps21
      go_wp2_with (first | ((with_reducible refine (err_any h).mono ?_); rintro e w' ⟨rfl, rfl⟩) | ((with_reducible refine (err_any (h.drewN _)).mono ?_); rintro e w' ⟨rfl, rfl⟩) | ((with_reducible refine (left_any h hc).mono ?_); rintro e w' ⟨rfl, n, rfl⟩))
      go_ret
      exact ⟨ret_int HR.out.symm, _, rfl⟩
  · have hb : (c.er == 0) = false := by simp [h0]
    have HR := Lib.hid (show c.endC = c.er from by unfold CS.endC; rw [if_neg (fun x => h0 x.1)])
    clear h0
    go_enter Tryd.func21, Tryd.ntmps21
    go_wp2_with (first | ((with_reducible refine (err_any h).mono ?_); rintro e w' ⟨rfl, rfl⟩) | ((with_reducible refine (left_any h hc).mono ?_); rintro e w' ⟨rfl, n, rfl⟩))
    go_ret
    exact ⟨ret_int HR.out.symm, 0, rfl⟩

theorem end_nil (w : World) :
    Calls Tryd.prog 21 #[.pointer none] w fun e w' => e = .returned (.int .i64 9) ∧ w' = w := by
  go_enter Tryd.func21, Tryd.ntmps21
  go_wp2_with ((with_reducible refine (err_nil _).mono ?_); rintro e w' ⟨rfl, rfl⟩)
  go_ret
  exact ⟨rfl, rfl⟩


def CS.byte (c : CS) : CS := c.take 1

theorem CS.byte_yes {c : CS} (h : c.peekIs = true) : c.byte = { c with at_ := c.at_ + 1 } := by
  have := of_decide_eq_true h
  unfold CS.byte CS.take
  rw [if_pos (CS.why_mk this.1 (by omega) (by omega))]; rfl
theorem CS.byte_no {c : CS} (hc : c.ok) (h : c.peekIs = false) : c.byte = c.fail 1 := by
  have h' := of_decide_eq_false h
  unfold CS.byte CS.take CS.fail CS.why
  obtain ⟨k1, k2, k3⟩ := hc
  by_cases h0 : c.er = 0
  · have h1 : (c.en : Int) - c.at_ < 1 := by have : ¬ c.at_ < c.en := fun x => h' ⟨h0, x⟩; omega
    simp [h0, h1]
  · simp [h0]
theorem CS.peekB_no {c : CS} (h : c.peekIs = false) : c.peekB = 0 := by unfold CS.peekB; rw [h]; rfl


end Go.Proofs.YtkjlpkldonhjdaaDoor
