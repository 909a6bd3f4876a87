/- Law 6's example. -/
import Derived.Test.YtbgbgmlpbjppdaaDoorDRefC
import Derived.Lib.SlBytesConst
namespace Go.Proofs.YtbgbgmlpbjppdaaDoor
open Go Go.RowKit
set_option linter.unusedVariables false

theorem w6_one (w : World) : Calls Tryd.prog 7 #[.string ⟨#[45, 52, 48]⟩] w fun e w' => e = .returned (.tuple #[.int .i64 (-40), .int .i64 0]) ∧ w' = w := by
  have := dRead ⟨#[45, 52, 48]⟩ w (by decide +kernel)
  rw [show sEnd (⟨#[45, 52, 48]⟩ : ByteArray).data.toList = (-40, 0) by decide +kernel] at this; exact this
theorem w6_two (w : World) : Calls Tryd.prog 7 #[.string ⟨#[45, 48]⟩] w fun e w' => e = .returned (.tuple #[.int .i64 0, .int .i64 3]) ∧ w' = w := by
  have := dRead ⟨#[45, 48]⟩ w (by decide +kernel)
  rw [show sEnd (⟨#[45, 48]⟩ : ByteArray).data.toList = (0, 3) by decide +kernel] at this; exact this
theorem w6_three (w : World) : Calls Tryd.prog 7 #[.string ⟨#[57, 50, 50, 51, 51, 55, 50, 48, 51, 54, 56, 53, 52, 55, 55, 53, 56, 48, 56]⟩] w fun e w' => e = .returned (.tuple #[.int .i64 0, .int .i64 4]) ∧ w' = w := by
  have := dRead ⟨#[57, 50, 50, 51, 51, 55, 50, 48, 51, 54, 56, 53, 52, 55, 55, 53, 56, 48, 56]⟩ w (by decide +kernel)
  rw [show sEnd (⟨#[57, 50, 50, 51, 51, 55, 50, 48, 51, 54, 56, 53, 52, 55, 55, 53, 56, 48, 56]⟩ : ByteArray).data.toList = (0, 4) by decide +kernel] at this; exact this
theorem w6_put (a : Option Addr) (cap : Nat) (w : World) (hin : BIn w a [112]) (ht : P10 w) :
    Calls Tryd.prog 11 #[.slice a 1 cap, .int .i64 (-40)] w fun e w' => ∃ v, e = .returned v ∧ Bts 5 w' w.heap.size v [112, 45, 52, 48] ∧ Below w.heap.size w w' := by
  have := dput_any a cap [112] (-40) w (by decide) (by decide) (by decide) hin ht
  rw [show [112] ++ Lib.itoa (-40) = [112, 45, 52, 48] by decide +kernel] at this; exact this
theorem w6_putU (w : World) (ht : P10 w) :
    Calls Tryd.prog 12 #[.slice none 0 0, .int .u64 0] w fun e w' => ∃ v, e = .returned v ∧ Bts 5 w' w.heap.size v [48] ∧ Below w.heap.size w w' := by
  have := dputU_any none 0 [] 0 w (by decide) (by decide) (fun j hj => absurd hj (Nat.not_lt_zero j)) ht
  rw [show [] ++ Lib.decDigits 0 = [48] by decide +kernel] at this; exact this

set_option maxRecDepth 100000 in
set_option maxHeartbeats 4000000 in
theorem works6_any (w : World) (ht : P10 w) : Calls Tryd.prog 6 #[] w fun e w' => e = .returned (.bool true) ∧ Below w.heap.size w w' := by
  have kc := fun (w : World) (C : Array Value) (n c : Nat) => Lib.run_convert_bytes_const (P := Tryd.prog) w 30 5 C n c Tryd.underlying30 Tryd.underlying5
  have HT := Lib.hid ht
  clear ht
  go_enter Tryd.func6, Tryd.ntmps6
  go_wp2_with fail
  with_reducible refine (w6_one _).mono ?_
  rintro e w1 ⟨rfl, hw⟩
  rw [hw]; clear hw
  go_wp2_with fail
  with_reducible refine (w6_two _).mono ?_
  rintro e w2 ⟨rfl, hw⟩
  rw [hw]; clear hw
  go_wp2_with fail
  with_reducible refine (w6_three _).mono ?_
  rintro e w3 ⟨rfl, hw⟩
  rw [hw]; clear hw
  go_wp2_with fail
  refine (w6_put _ 1 _ ?_ ?_).mono ?_
  · intro j hj
    have h0 : j = 0 := by simpa using hj
    subst h0
    have h1 := heap_alloc_new w (.cells #[.int .u8 112] 5 (1, 2))
    refine ⟨w.heap.size, 0, rfl, by simp, ?_⟩
    simp only [World.cell?]
    rw [h1]; rfl
  · exact HT.out.below ((Below.refl _ _).alloc (Nat.le_refl _) _)
  rintro e w5 ⟨v, rfl, hbt, hbel5⟩
  have b5 := Lib.hid (show Below w.heap.size w w5 from grown_then (Below.refl _ _) (((Below.refl _ _).alloc (Nat.le_refl _) _).trans (hbel5.mono (by simp))))
  have t5 := Lib.hid (HT.out.below b5.out)
  have hcv := Lib.hid (hbt.text (P := Tryd.prog) Tryd.underlying30 Tryd.underlying5 Tryd.underlying9)
  have heq : ((bA [112, 45, 52, 48]).toList == [112, 45, 52, 48]) = true := by decide +kernel
  clear hbel5 hbt
  go_wp2_with fail
  rw [hcv.out]
  go_wp2_with fail
  refine (w6_putU _ t5.out).mono ?_
  rintro e w6 ⟨v6, rfl, hbt6, hbel6⟩
  have b6 := Lib.hid (grown_then b5.out hbel6)
  have hcv6 := Lib.hid (hbt6.text (P := Tryd.prog) Tryd.underlying30 Tryd.underlying5 Tryd.underlying9)
  have heq6 : ((bA [48]).toList == [48]) = true := by decide +kernel
  clear hbel6 hbt6
  go_wp2_with fail
  rw [hcv6.out]
  go_wp2
  go_ret
  exact ⟨rfl, b6.out⟩
end Go.Proofs.YtbgbgmlpbjppdaaDoor
