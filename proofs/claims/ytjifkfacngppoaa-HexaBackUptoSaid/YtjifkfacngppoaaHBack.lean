/- HexaBack, walked: where the texts are of at most 1048576 bytes. -/
import Derived.Test.YtjifkfacngppoaaHWork
namespace Go.Proofs.Ytjifkfacngppoaa
open Go Go.RowKit
set_option linter.unusedVariables false

theorem back_bytes (s : ByteArray) : hT (bA (hx s.data.toList)) = s ∧ hC (bA (hx s.data.toList)) = 0 := by
  have h : hOK (bA (hx s.data.toList)).data.toList = true := hOK_hx _
  refine ⟨?_, hC_yes h⟩
  rw [hT_yes h]
  show bA (uh (hx s.data.toList)) = s
  rw [uh_hx, bA_of]
theorem hput_p (a : Option Addr) (cap : Nat) (p s : ByteArray) (w : World) (hl : p.size + 2 * s.size ≤ 140737488351232) (hin : BIn w a p.data.toList) :
    Calls Try.prog 13 #[.slice a p.size cap, .string s] w fun e w' => ∃ v, e = .returned v ∧ Bts 5 w' w.heap.size v (p.data.toList ++ hx s.data.toList) ∧ Below w.heap.size w w' := by
  have := hput_any a cap p.data.toList s w (by rw [toList_size]; exact hl) hin
  rw [toList_size] at this; exact this
set_option maxRecDepth 100000 in
set_option maxHeartbeats 4000000 in
theorem hback_any (p s : ByteArray) (w : World) (hp : p.size ≤ 1048576) (hs : s.size ≤ 1048576) :
    Calls Try.prog 4 #[.string p, .string s] w fun e w' => e = .returned (.bool true) ∧ Below w.heap.size w w' := by
  have hcv := Lib.hid (fun (w : World) => Lib.run_convert_string_bytes (P := Try.prog) w 9 30 5 p Try.underlying9 Try.underlying30 Try.underlying5)
  have hlen : (bA (hx s.data.toList)).size = 2 * s.size := by rw [bA_size, hx_length, toList_size]
  have R1 := Lib.hid (fun w => htext_any s w (by omega))
  have R2 := Lib.hid (fun w => hread_any (bA (hx s.data.toList)) w (by omega))
  rw [(back_bytes s).1, (back_bytes s).2] at R2
  have R3 := Lib.hid (fun w => rtext_any s w (by omega))
  have R4 := Lib.hid (fun a cap w hin => hput_p a cap p s w (by omega) hin)
  have HF := Lib.hid (fun (v : Value) (B : Nat) (w : World) (h : Bts 5 w B v (p.data.toList ++ hx s.data.toList)) => show (convert 30 9 v).run Try.prog w = .ok (.string (p ++ bA (hx s.data.toList))) w by
    have := h.text (P := Try.prog) (d := 9) Try.underlying30 Try.underlying5 Try.underlying9
    rw [bA_front] at this; exact this)
  have l2 : ((2 * (s.size : Int)) == 2 * (s.size : Int)) = true := by simp
  have l1 : ¬ 9223372036854775807 < p.size + 2 * s.size := by omega
  have l3 : IntKind.i64.wrap (2 * (s.size : Int)) = 2 * (s.size : Int) := IntWalk.i64_in _ (by omega)
  generalize bA (hx s.data.toList) = T at *
  go_enter Try.func4, Try.ntmps4
  go_wp2_with fail
  with_reducible refine (R1.out _).mono ?_
  rintro e w1 ⟨rfl, h1⟩
  go_wp2_with fail
  with_reducible refine (R2.out _).mono ?_
  rintro e w2 ⟨rfl, h2⟩
  have k2 := Lib.hid (grown_then h1 h2)
  clear h1 h2 R1 R2
  go_wp2_with fail
  with_reducible refine (R3.out _).mono ?_
  rintro e w3 ⟨rfl, h3⟩
  have k3 := Lib.hid (grown_then k2.out h3)
  clear h3 k2 R3
  go_wp2_with fail
  rw [hcv.out]
  go_wp2_with fail
  refine (R4.out _ _ _ (bytes_in _ _ _)).mono ?_
  rintro e w4 ⟨v, rfl, hb, hb4⟩
  have k4 := Lib.hid (grown_then k3.out ((bytes_below w3 5 p).trans (hb4.mono (bytes_below w3 5 p).size)))
  have hcv2 := Lib.hid (HF.out _ _ _ hb)
  clear hb4 hb HF R4 k3
  go_wp2_with fail
  rw [hcv2.out]
  go_wp2_with fail
  with_reducible refine (works4_any _).mono ?_
  rintro e w5 ⟨rfl, h5⟩
  have k5 := Lib.hid (grown_then k4.out h5)
  clear h5
  go_wp2
  go_ret
  exact ⟨rfl, k5.out⟩
end Go.Proofs.Ytjifkfacngppoaa
