/- Law 4's example. -/
import Derived.Test.YtjifkfacngppoaaHRef
import Derived.Lib.SlBytesConst
namespace Go.Proofs.Ytjifkfacngppoaa
open Go Go.RowKit
set_option linter.unusedVariables false

theorem wk_good (w : World) : Calls Try.prog 6 #[.string ⟨#[48, 48, 97, 98]⟩] w fun e w' => e = .returned (.tuple #[.string ⟨#[0, 171]⟩, .int .i64 0]) ∧ Below w.heap.size w w' := by
  have := hread_any ⟨#[48, 48, 97, 98]⟩ w (by decide +kernel)
  rw [show hT ⟨#[48, 48, 97, 98]⟩ = ⟨#[0, 171]⟩ by decide +kernel, show hC ⟨#[48, 48, 97, 98]⟩ = 0 by decide +kernel] at this; exact this
theorem wk_bad (w : World) : Calls Try.prog 6 #[.string ⟨#[48, 48, 65, 66]⟩] w fun e w' => e = .returned (.tuple #[.string ⟨#[]⟩, .int .i64 3]) ∧ Below w.heap.size w w' := by
  have := hread_any ⟨#[48, 48, 65, 66]⟩ w (by decide +kernel)
  rw [show hT ⟨#[48, 48, 65, 66]⟩ = ⟨#[]⟩ by decide +kernel, show hC ⟨#[48, 48, 65, 66]⟩ = 3 by decide +kernel] at this; exact this
theorem wk_text (w : World) : Calls Try.prog 11 #[.string ⟨#[0, 171]⟩] w fun e w' => e = .returned (.string ⟨#[48, 48, 97, 98]⟩) ∧ Below w.heap.size w w' := by
  have := htext_any ⟨#[0, 171]⟩ w (by decide +kernel)
  rw [show bA (hx (ByteArray.mk #[0, 171]).data.toList) = ⟨#[48, 48, 97, 98]⟩ by decide +kernel] at this; exact this
theorem wk_put (a : Option Addr) (cap : Nat) (w : World) (hin : BIn w a [112]) :
    Calls Try.prog 13 #[.slice a 1 cap, .string ⟨#[255]⟩] w fun e w' => ∃ v, e = .returned v ∧ Bts 5 w' w.heap.size v [112, 102, 102] ∧ Below w.heap.size w w' := by
  have := hput_any a cap [112] ⟨#[255]⟩ w (by decide +kernel) hin
  rw [show [112] ++ hx (ByteArray.mk #[255]).data.toList = [112, 102, 102] by decide +kernel] at this; exact this
theorem grown_then {w w1 w' : World} (h : Below w.heap.size w w1) (hbq : Below w1.heap.size w1 w') : Below w.heap.size w w' := h.trans (hbq.mono h.size)

set_option maxRecDepth 100000 in
set_option maxHeartbeats 4000000 in
theorem works4_any (w : World) : Calls Try.prog 10 #[] w fun e w' => e = .returned (.bool true) ∧ Below w.heap.size w w' := by
  have kc := fun (w : World) (C : Array Value) (n c : Nat) => Lib.run_convert_bytes_const (P := Try.prog) w 30 5 C n c Try.underlying30 Try.underlying5
  go_enter Try.func10, Try.ntmps10
  go_wp2_with fail
  with_reducible refine (wk_good _).mono ?_
  rintro e w1 ⟨rfl, h1⟩
  go_wp2_with fail
  with_reducible refine (wk_bad _).mono ?_
  rintro e w2 ⟨rfl, h2⟩
  have k2 := Lib.hid (grown_then h1 h2)
  clear h1 h2
  go_wp2_with fail
  with_reducible refine (wk_text _).mono ?_
  rintro e w3 ⟨rfl, h3⟩
  have k3 := Lib.hid (grown_then k2.out h3)
  clear h3 k2
  go_wp2_with fail
  refine (wk_put _ 1 _ ?_).mono ?_
  · intro j hj
    have h0 : j = 0 := by simpa using hj
    subst h0
    have h1 := heap_alloc_new w3 (.cells #[.int .u8 112] 5 (1, 2))
    refine ⟨w3.heap.size, 0, rfl, by simp, ?_⟩
    simp only [World.cell?]
    rw [h1]; rfl
  rintro e w5 ⟨v, rfl, hbt, hbel5⟩
  have hb5 := Lib.hid (show Below w.heap.size w w5 from grown_then k3.out (((Below.refl _ _).alloc (Nat.le_refl _) _).trans (hbel5.mono (by simp))))
  have hcv := Lib.hid (hbt.text (P := Try.prog) Try.underlying30 Try.underlying5 Try.underlying9)
  have heq : ((bA [112, 102, 102]).toList == [112, 102, 102]) = true := by decide +kernel
  clear hbel5 hbt
  go_wp2_with fail
  rw [hcv.out]
  go_wp2
  go_ret
  exact ⟨rfl, hb5.out⟩
end Go.Proofs.Ytjifkfacngppoaa
