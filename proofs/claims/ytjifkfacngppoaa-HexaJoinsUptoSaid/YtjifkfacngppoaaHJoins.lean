/- HexaJoins, walked: where the texts are of at most 1048576 bytes. -/
import Derived.Test.YtjifkfacngppoaaHWork
namespace Go.Proofs.Ytjifkfacngppoaa
open Go Go.RowKit
set_option linter.unusedVariables false

theorem join_text (a b : ByteArray) : bA (hx (a ++ b).data.toList) = bA (hx a.data.toList) ++ bA (hx b.data.toList) := by
  rw [bA_append, ← hx_append]; simp
theorem join_less (a b : ByteArray) : Op.bytesLess (bA (hx a.data.toList)).toList (bA (hx b.data.toList)).toList = Op.bytesLess a.toList b.toList := by
  rw [ByteArray.toList_eq, ByteArray.toList_eq, ByteArray.toList_eq, ByteArray.toList_eq]
  exact hx_less _ _
set_option maxRecDepth 100000 in
set_option maxHeartbeats 4000000 in
theorem hjoins_any (a b : ByteArray) (w : World) (ha : a.size ≤ 1048576) (hb : b.size ≤ 1048576) :
    Calls Try.prog 5 #[.string a, .string b] w fun e w' => e = .returned (.bool true) ∧ Below w.heap.size w w' := by
  have hA : (bA (hx a.data.toList)).size = 2 * a.size := by rw [bA_size, hx_length, toList_size]
  have hB : (bA (hx b.data.toList)).size = 2 * b.size := by rw [bA_size, hx_length, toList_size]
  have R1 := Lib.hid (fun w => htext_any (a ++ b) w (by rw [ByteArray.size_append]; omega))
  rw [join_text] at R1
  have R2 := Lib.hid (fun w => htext_any a w (by omega))
  have R3 := Lib.hid (fun w => htext_any b w (by omega))
  have HL := Lib.hid (join_less a b)
  generalize bA (hx a.data.toList) = X at *
  generalize bA (hx b.data.toList) = Y at *
  have l1 : ¬ 9223372036854775807 < a.size + b.size := by omega
  have l2 : ¬ 9223372036854775807 < X.size + Y.size := by omega
  go_enter Try.func5, Try.ntmps5
  go_wp2_with fail
  with_reducible refine (R1.out _).mono ?_
  rintro e w1 ⟨rfl, h1⟩
  go_wp2_with fail
  with_reducible refine (R2.out _).mono ?_
  rintro e w2 ⟨rfl, h2⟩
  have k2 := Lib.hid (grown_then h1 h2)
  clear h1 h2
  go_wp2_with fail
  with_reducible refine (R3.out _).mono ?_
  rintro e w3 ⟨rfl, h3⟩
  have k3 := Lib.hid (grown_then k2.out h3)
  clear h3 k2
  go_wp2_with fail
  with_reducible refine (R2.out _).mono ?_
  rintro e w4 ⟨rfl, h4⟩
  have k4 := Lib.hid (grown_then k3.out h4)
  clear h4 k3
  go_wp2_with fail
  with_reducible refine (R3.out _).mono ?_
  rintro e w5 ⟨rfl, h5⟩
  have k5 := Lib.hid (grown_then k4.out h5)
  clear h5 k4
  have HLo := HL.out
  go_wp2_with fail
  with_reducible refine (works4_any _).mono ?_
  rintro e w6 ⟨rfl, h6⟩
  have k6 := Lib.hid (grown_then k5.out h6)
  clear h6
  go_wp2
  go_ret
  exact ⟨rfl, k6.out⟩
end Go.Proofs.Ytjifkfacngppoaa
