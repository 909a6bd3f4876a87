/- A number's bytes are read as that number, whatever stands behind. Of no program. -/
import Derived.Test.YtmcklfndnjagiaaDoorVarNum
import Derived.Test.YtmcklfndnjagiaaDoorBts
namespace Go.Proofs.YtmcklfndnjagiaaDoor
open Go Go.RowKit
set_option linter.unusedVariables false

theorem new_rest (s : ByteArray) : (CS.new s).rest = s.data.toList := by
  show (s.data.toList.drop 0).take (s.size - 0) = _
  rw [List.drop_zero, List.take_of_length_le (by rw [toList_size]; omega)]
/-- A number's bytes are read as that number, whatever stands behind. -/
theorem back_read (u : Nat) (rest : ByteArray) (hu : u < 18446744073709551616) :
    (CS.new (bA (vB u) ++ rest)).vVal = u ∧ (CS.new (bA (vB u) ++ rest)).vTo = ⟨bA (vB u) ++ rest, (vB u).length, (vB u).length + rest.size, 0⟩ := by
  have hr : (CS.new (bA (vB u) ++ rest)).rest = vB u ++ rest.data.toList := by
    rw [new_rest]; simp [bA]
  have hsz : (bA (vB u) ++ rest).size = (vB u).length + rest.size := by rw [ByteArray.size_append, bA_size]
  have hl := vlead_VF (vB u) rest.data.toList (VF_vB u)
  have h10 := vB_le10 hu
  have hg : ¬ (9 ≤ vlead (CS.new (bA (vB u) ++ rest)).rest ∧ 1 < (((CS.new (bA (vB u) ++ rest)).rest[9]?).getD 0).toNat) := by
    rw [hr]
    rintro ⟨h1, h2⟩
    have h9 : 9 < (vB u).length := by omega
    rw [List.getElem?_append_left h9, List.getElem?_eq_getElem h9] at h2
    have := vB_tenth hu h9
    simp only [Option.getD_some] at h2
    omega
  have hc : ¬ (CS.new (bA (vB u) ++ rest)).rest.length ≤ vlead (CS.new (bA (vB u) ++ rest)).rest := by
    rw [hr, List.length_append]; omega
  have he : ¬ (CS.new (bA (vB u) ++ rest)).er ≠ 0 := fun h => h rfl
  have hcode : (CS.new (bA (vB u) ++ rest)).vCode = 0 := by unfold CS.vCode; rw [if_neg he, if_neg hg, if_neg hc]
  constructor
  · unfold CS.vVal
    rw [if_pos hcode, hr, hl, List.take_left, vvL_vB]
  · unfold CS.vTo
    rw [if_neg he, if_neg hg, if_neg hc, hr, hl]
    show (⟨bA (vB u) ++ rest, 0 + (vB u).length, (bA (vB u) ++ rest).size, 0⟩ : CS) = _
    rw [hsz, Nat.zero_add]
end Go.Proofs.YtmcklfndnjagiaaDoor
