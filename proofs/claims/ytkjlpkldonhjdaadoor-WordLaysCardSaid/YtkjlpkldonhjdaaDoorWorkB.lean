/- Layer 2's example ('works') returns true where the table of shifts is as it was laid, and turns nothing that was there. -/
import Derived.Test.YtkjlpkldonhjdaaDoorFoldB
import Derived.Test.YtkjlpkldonhjdaaDoorLayC
import Derived.Lib.SlBytesConst
namespace Go.Proofs.YtkjlpkldonhjdaaDoor
open Go Go.RowKit
set_option linter.unusedVariables false

theorem wk_fit (w : World) : Calls Tryd.prog 27 #[.int .i64 (-1), .int .i64 8] w fun e w' => e = .returned (.tuple #[.int .u64 255, .int .i64 0]) ∧ w' = w := by
  have := fit_any (-1) 8 w; rw [show fitU (-1) 8 = 255 by decide, show fitC (-1) 8 = 0 by decide] at this; exact this
theorem wk_zig (w : World) : Calls Tryd.prog 7 #[.int .i64 (-300)] w fun e w' => e = .returned (.int .u64 599) ∧ w' = w := by
  have := zig_any (-300) w (by omega) (by omega); rw [show zigI (-300) = 599 by decide] at this; exact this
theorem wk_zag (w : World) : Calls Tryd.prog 9 #[.int .u64 599] w fun e w' => e = .returned (.int .i64 (-300)) ∧ w' = w := by
  have := zag_any 599 w (by omega) (by omega); rw [show zagI 599 = -300 by decide] at this; exact this
theorem wk_signed (w : World) : Calls Tryd.prog 31 #[.int .u32 4294967295] w fun e w' => e = .returned (.int .i64 (-1)) ∧ w' = w := by
  have := signed_any 4294967295 w (by omega) (by omega); rw [show wideI 4294967295 32 = -1 by decide] at this; exact this

theorem wk_low (a : Option Addr) (cap : Nat) (w : World) (hin : BIn w a [112]) (ht : Tab w) :
    Calls Tryd.prog 12 #[.slice a 1 cap, .int .u32 258] w fun e w' => ∃ v, e = .returned v ∧ Bts 5 w' w.heap.size v [112, 2, 1, 0, 0] ∧ Below w.heap.size w w' :=
  low32_any a cap [112] 258 w (by simp) (by omega) hin ht

set_option maxRecDepth 100000 in
theorem works2_any (w : World) (ht : Tab w) : Calls Tryd.prog 11 #[] w fun e w' => e = .returned (.bool true) ∧ Below w.heap.size w w' := by
  have kc := fun (w : World) (C : Array Value) (n c : Nat) => Lib.run_convert_bytes_const (P := Tryd.prog) w 28 5 C n c Tryd.underlying28 Tryd.underlying5
  have HT := Lib.hid ht
  clear ht
  go_enter Tryd.func11, Tryd.ntmps11
  go_wp2_with (first | ((with_reducible refine (wk_fit _).mono ?_); rintro e w' ⟨rfl, rfl⟩) | ((with_reducible refine (wk_zig _).mono ?_); rintro e w' ⟨rfl, rfl⟩) | ((with_reducible refine (wk_zag _).mono ?_); rintro e w' ⟨rfl, rfl⟩))
  refine (wk_low _ 1 _ ?_ (Tab.below HT.out ((Below.refl _ _).alloc (Nat.le_refl _) _) HT.out.lt)).mono ?_
  · intro j hj
    have h0 : j = 0 := by simpa using hj
    subst h0
    have h1 := heap_alloc_new w' (.cells #[.int .u8 112] 5 (1, 2))
    refine ⟨w'.heap.size, 0, rfl, by simp, ?_⟩
    simp only [World.cell?]
    rw [h1]; rfl
  rintro e w2 ⟨v, rfl, hbt, hbel⟩
  have hcv := Lib.hid (hbt.text (P := Tryd.prog) Tryd.underlying28 Tryd.underlying5 Tryd.underlying9)
  have hend := Lib.hid (show Below w'.heap.size w' w2 from ((Below.refl _ _).alloc (Nat.le_refl _) _).trans (hbel.mono (by simp)))
  have heq : ((bA [112, 2, 1, 0, 0]).toList == [112, 2, 1, 0, 0]) = true := by decide +kernel
  go_wp2_with fail
  rw [hcv.out]
  go_wp2_with ((with_reducible refine (wk_signed _).mono ?_); rintro e w' ⟨rfl, rfl⟩)
  go_ret
  exact ⟨rfl, hend.out⟩
end Go.Proofs.YtkjlpkldonhjdaaDoor
