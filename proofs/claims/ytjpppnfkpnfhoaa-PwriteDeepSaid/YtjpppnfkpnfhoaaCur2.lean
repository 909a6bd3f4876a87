/- More calls of package cursor: End, Peek, Byte, allows, and what reads a part (Take, Sub). -/
import Derived.Test.YtjpppnfkpnfhoaaCur
namespace Go.Proofs.Ytjpppnfkpnfhoaa
open Go Go.RowKit
set_option linter.unusedVariables false

theorem ret_peek {a b : Int} {c d : Bool} (h : a = b) (k : c = d) : Ending.returned (.tuple #[.int .u8 a, .bool c]) = .returned (.tuple #[.int .u8 b, .bool d]) := by rw [h, k]




def CS.byte (c : CS) : CS := c.take 1

theorem CS.byte_yes {c : CS} (h : c.peekIs = true) : c.byte = { c with at_ := c.at_ + 1 } := by
  have := of_decide_eq_true h
  unfold CS.byte CS.take
  rw [if_pos (CS.why_mk this.1 (by omega) (by omega))]; rfl
theorem CS.byte_no {c : CS} (hc : c.ok) (h : c.peekIs = false) : c.byte = c.fail 1 := by
  have h' := of_decide_eq_false h
  unfold CS.byte CS.take CS.fail CS.why
  obtain ⟨k1, k2, k3⟩ := hc
  by_cases h0 : c.er = 0
  · have h1 : (c.en : Int) - c.at_ < 1 := by have : ¬ c.at_ < c.en := fun x => h' ⟨h0, x⟩; omega
    simp [h0, h1]
  · simp [h0]
theorem CS.peekB_no {c : CS} (h : c.peekIs = false) : c.peekB = 0 := by unfold CS.peekB; rw [h]; rfl


end Go.Proofs.Ytjpppnfkpnfhoaa
