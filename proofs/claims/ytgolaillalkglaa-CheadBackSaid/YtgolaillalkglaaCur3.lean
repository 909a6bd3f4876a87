/- The calls of package cursor that read a part: allows, passText, passCursor, read, Take, Sub. -/
import Derived.Test.YtgolaillalkglaaCur2
namespace Go.Proofs.Ytgolaillalkglaa
open Go Go.RowKit
set_option linter.unusedVariables false

def CS.allow (c : CS) (n : Int) : CS := { c with er := c.why n }
theorem CS.allow_ok {c : CS} (h : c.ok) (n : Int) : (c.allow n).ok := h

theorem allow_neg {c : CS} {n : Int} (h : n < 0) : c.allow n = c.fail 13 := by
  unfold CS.allow CS.fail CS.why
  by_cases h0 : c.er = 0
  · simp [h0, h]
  · simp [h0]
theorem allow_cut {c : CS} {n : Int} (h : ¬ n < 0) (h1 : (c.en : Int) - c.at_ < n) : c.allow n = c.fail 1 := by
  unfold CS.allow CS.fail CS.why
  by_cases h0 : c.er = 0
  · simp [h0, h, h1]
  · simp [h0]
theorem allow_same {c : CS} {n : Int} (h : ¬ n < 0) (h1 : ¬ (c.en : Int) - c.at_ < n) : c.allow n = c := by
  unfold CS.allow CS.why
  by_cases h0 : c.er = 0
  · rw [if_neg (by simp [h0]), if_neg h, if_neg h1, ← h0]
  · rw [if_pos h0]
theorem ret_bool {a b : Bool} (h : a = b) : Ending.returned (.bool a) = .returned (.bool b) := by rw [h]
theorem subIs_eq {c d : CS} {n : Int} (h : c.allow n = d) : (d.er == 0) = c.subIs n := by
  rw [← h]; unfold CS.subIs CS.allow; rw [Bool.eq_iff_iff]; simp


/-- What is read where it may be: at behind it, the error as it was. -/
def CS.past (c : CS) (n : Nat) : CS := { c with at_ := c.at_ + n }


theorem CurT.allocOld {t : TypeId} {w : World} {b : Nat} {c : CS} (h : CurT t w b c) (o : Obj) : CurT t (w.alloc o) b c := (Below.heap_alloc _ _ _ h.lt).trans h
theorem CurT.drew {t : TypeId} {w : World} {b : Nat} {c : CS} (h : CurT t w b c) : CurT t w.drew b c := h


theorem allow_yes {c : CS} {n : Int} (h : c.why n = 0) : c.allow n = c := by
  have := (CS.why_zero h).1
  unfold CS.allow; rw [h, ← this]
theorem take_yes {c : CS} {n : Int} (h : c.why n = 0) : c.take n = c.past n.toNat := by unfold CS.take CS.past; rw [if_pos h]
theorem take_no {c : CS} {n : Int} (h : ¬ c.why n = 0) : c.take n = c.allow n := by unfold CS.take CS.allow; rw [if_neg h]
theorem takeS_yes {c : CS} {n : Int} (h : c.why n = 0) : c.takeS n = c.s.extract c.at_ (c.at_ + n.toNat) := by unfold CS.takeS; rw [if_pos h]
theorem takeS_no {c : CS} {n : Int} (h : ¬ c.why n = 0) : c.takeS n = ⟨#[]⟩ := by unfold CS.takeS; rw [if_neg h]
theorem sub_yes {c : CS} {n : Int} (h : c.why n = 0) : c.sub n = ⟨c.s, c.at_, c.at_ + n.toNat, 0⟩ := by
  have := (CS.why_zero h).1
  unfold CS.sub; rw [if_pos h, ← this]
theorem ret_string {a b : ByteArray} (h : a = b) : Ending.returned (.string a) = .returned (.string b) := by rw [h]


end Go.Proofs.Ytgolaillalkglaa
