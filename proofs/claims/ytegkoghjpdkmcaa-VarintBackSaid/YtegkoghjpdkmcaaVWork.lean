/- Layer 3's example ('works') returns true in every world, and turns nothing that was there. -/
import Derived.Test.YtegkoghjpdkmcaaVarShort
import Derived.Lib.SlBytesConst
namespace Go.Proofs.Ytegkoghjpdkmcaa
open Go Go.RowKit
set_option linter.unusedVariables false

def kV : ByteArray := ⟨#[172, 2, 128, 0, 255]⟩
theorem kv1 : (CS.new kV).vTo = ⟨kV, 2, 5, 0⟩ ∧ (CS.new kV).vVal = 300 := ⟨rfl, by decide +kernel⟩
theorem kv2 : CS.vTo ⟨kV, 2, 5, 0⟩ = ⟨kV, 4, 5, 0⟩ ∧ CS.vVal ⟨kV, 2, 5, 0⟩ = 0 := ⟨rfl, by decide +kernel⟩
theorem kv3 : CS.vTo ⟨kV, 4, 5, 0⟩ = ⟨kV, 5, 5, 1⟩ ∧ CS.vVal ⟨kV, 4, 5, 0⟩ = 0 := ⟨rfl, by decide +kernel⟩
theorem kvo1 : CS.ok (CS.new kV) := by refine ⟨?_, ?_, ?_⟩ <;> decide +kernel
theorem kvo2 : CS.ok ⟨kV, 2, 5, 0⟩ := by refine ⟨?_, ?_, ?_⟩ <;> decide +kernel
theorem kvo3 : CS.ok ⟨kV, 4, 5, 0⟩ := by refine ⟨?_, ?_, ?_⟩ <;> decide +kernel

theorem wk_r1 {b : Nat} {w : World} (h : CurT 43 w b (CS.new kV)) :
    Calls Try.prog 9 #[.pointer (some ⟨b, 0, none⟩)] w fun e w' => e = .returned (.int .u64 300) ∧ CurT 43 w' b ⟨kV, 2, 5, 0⟩ ∧ Only b w w' := by
  have := vread_any h kvo1; rw [kv1.1, kv1.2] at this; exact this
theorem wk_r2 {b : Nat} {w : World} (h : CurT 43 w b ⟨kV, 2, 5, 0⟩) :
    Calls Try.prog 9 #[.pointer (some ⟨b, 0, none⟩)] w fun e w' => e = .returned (.int .u64 0) ∧ CurT 43 w' b ⟨kV, 4, 5, 0⟩ ∧ Only b w w' := by
  have := vread_any h kvo2; rw [kv2.1, kv2.2] at this; exact this
theorem wk_r3 {b : Nat} {w : World} (h : CurT 43 w b ⟨kV, 4, 5, 0⟩) :
    Calls Try.prog 9 #[.pointer (some ⟨b, 0, none⟩)] w fun e w' => e = .returned (.int .u64 0) ∧ CurT 43 w' b ⟨kV, 5, 5, 1⟩ ∧ Only b w w' := by
  have := vread_any h kvo3; rw [kv3.1, kv3.2] at this; exact this
theorem wk_er {b : Nat} {w : World} (h : CurT 43 w b ⟨kV, 5, 5, 1⟩) :
    Calls Try.prog 11 #[.pointer (some ⟨b, 0, none⟩)] w fun e w' => e = .returned (.int .i64 1) ∧ w' = w := err_any h
theorem vb300 : vB 300 = [172, 2] := by rw [vB_great (by decide), vB_small (by decide)]; rfl
theorem wk_put (a : Option Addr) (cap : Nat) (w : World) (hin : BIn w a [112]) :
    Calls Try.prog 13 #[.slice a 1 cap, .int .u64 300] w fun e w' => ∃ v, e = .returned v ∧ Bts 5 w' w.heap.size v [112, 172, 2] ∧ Below w.heap.size w w' := by
  have := vput_any a cap [112] 300 w (by simp) (by omega) hin; rw [vb300] at this; exact this
theorem wk_size (w : World) : Calls Try.prog 15 #[.int .u64 18446744073709551615] w fun e w' => e = .returned (.int .i64 10) ∧ w' = w := by
  have := vsize_any 18446744073709551615 w (by omega)
  rw [show (vB 18446744073709551615).length = 10 by rw [vB_size]; decide +kernel] at this; exact this
theorem wk_s0 (w : World) : Calls Try.prog 17 #[.string ⟨#[0]⟩] w fun e w' => e = .returned (.bool true) ∧ Below w.heap.size w w' := by
  have := vshort_any ⟨#[0]⟩ w (by decide +kernel)
  rw [show vShort ⟨#[0]⟩ = true by unfold vShort; rw [vB_size]; decide +kernel] at this; exact this
theorem wk_s1 (w : World) : Calls Try.prog 17 #[.string ⟨#[128, 0]⟩] w fun e w' => e = .returned (.bool false) ∧ Below w.heap.size w w' := by
  have := vshort_any ⟨#[128, 0]⟩ w (by decide +kernel)
  rw [show vShort ⟨#[128, 0]⟩ = false by unfold vShort; rw [vB_size]; decide +kernel] at this; exact this

set_option maxRecDepth 100000 in
set_option maxHeartbeats 4000000 in
theorem works3_any (w : World) : Calls Try.prog 6 #[] w fun e w' => e = .returned (.bool true) ∧ Below w.heap.size w w' := by
  have kc := fun (w : World) (C : Array Value) (n c : Nat) => Lib.run_convert_bytes_const (P := Try.prog) w 36 5 C n c Try.underlying36 Try.underlying5
  go_enter Try.func6, Try.ntmps6
  go_wp2_with fail
  refine (new_cur kV _ (by decide +kernel)).mono ?_
  rintro e w1 ⟨b, rfl, hb, hc1, hbel1⟩
  go_wp2_with fail
  with_reducible refine (wk_r1 hc1).mono ?_
  rintro e w2 ⟨rfl, hc2, ho2⟩
  go_wp2_with fail
  with_reducible refine (wk_r2 hc2).mono ?_
  rintro e w3 ⟨rfl, hc3, ho3⟩
  go_wp2_with fail
  with_reducible refine (wk_r3 hc3).mono ?_
  rintro e w4 ⟨rfl, hc4, ho4⟩
  have hb4 := Lib.hid ((((hbel1.trans (ho2.below hb hbel1.size)).trans (ho3.below hb (Nat.le_trans hbel1.size ho2.size))).trans (ho4.below hb (Nat.le_trans hbel1.size (Nat.le_trans ho2.size ho3.size)))))
  clear hbel1 ho2 ho3 ho4 hc1 hc2 hc3
  go_wp2_with fail
  refine (wk_put _ 1 _ ?_).mono ?_
  · intro j hj
    have h0 : j = 0 := by simpa using hj
    subst h0
    have h1 := heap_alloc_new w4 (.cells #[.int .u8 112] 5 (1, 2))
    refine ⟨w4.heap.size, 0, rfl, by simp, ?_⟩
    simp only [World.cell?]
    rw [h1]; rfl
  rintro e w5 ⟨v, rfl, hbt, hbel5⟩
  have hb5 := Lib.hid (show Below w4.heap.size w4 w5 from ((Below.refl _ _).alloc (Nat.le_refl _) _).trans (hbel5.mono (by simp)))
  have hcv := Lib.hid (hbt.text (P := Try.prog) Try.underlying36 Try.underlying5 Try.underlying9)
  have heq : ((bA [112, 172, 2]).toList == [112, 172, 2]) = true := by decide +kernel
  have hc5 := Below.cur hb5.out hc4 hc4.lt
  clear hbel5 hbt
  go_wp2_with fail
  rw [hcv.out]
  go_wp2_with (first | ((with_reducible refine (wk_er hc5).mono ?_); rintro e w' ⟨rfl, rfl⟩) | ((with_reducible refine (wk_size _).mono ?_); rintro e w' ⟨rfl, rfl⟩))
  with_reducible refine (wk_s0 _).mono ?_
  rintro e w6 ⟨rfl, hbel6⟩
  go_wp2_with fail
  with_reducible refine (wk_s1 _).mono ?_
  rintro e w7 ⟨rfl, hbel7⟩
  have hfin := Lib.hid (show Below w.heap.size w w7 from
    have z4 := hb4.out.size
    have z5 := hb5.out.size
    ((hb4.out.trans (hb5.out.mono z4)).trans (hbel6.mono (by omega))).trans (hbel7.mono (by have := hbel6.size; omega)))
  clear hbel6 hbel7
  go_wp2
  go_ret
  exact ⟨rfl, hfin.out⟩
end Go.Proofs.Ytegkoghjpdkmcaa
