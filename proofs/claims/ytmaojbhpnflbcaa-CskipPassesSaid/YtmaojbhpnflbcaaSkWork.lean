/- Layer 21's example ('works') returns true in every world, and turns nothing that was there. -/
import Derived.Test.YtmaojbhpnflbcaaSkD
namespace Go.Proofs.Ytmaojbhpnflbcaa
open Go Go.RowKit
set_option linter.unusedVariables false

theorem fuel_succ : fuelN = 9223372036854775807 + 1 := by decide +kernel
theorem fld_end (f : Nat → CS → CS) {c : CS} (h : c.hKd 0 = 0) : fldTo f fuelN 0 c = c.hTo 0 := by
  rw [fuel_succ, fldTo, if_pos h]
def kA : ByteArray := ⟨#[0, 120]⟩
def kB1 : ByteArray := ⟨#[33, 1, 2, 120]⟩
def kD : ByteArray := ⟨#[3]⟩
def kE : ByteArray := ⟨#[0]⟩
theorem kA_ok : (CS.new kA).ok := by refine ⟨?_, ?_, ?_⟩ <;> decide +kernel
theorem kB_ok : (CS.new kB1).ok := by refine ⟨?_, ?_, ?_⟩ <;> decide +kernel
theorem kD_ok : (CS.new kD).ok := by refine ⟨?_, ?_, ?_⟩ <;> decide +kernel
theorem kE_ok : (CS.new kE).ok := by refine ⟨?_, ?_, ?_⟩ <;> decide +kernel
theorem kA_to : valTo (inTo 32) 12 (CS.new kA) = ⟨kA, 1, 2, 0⟩ := by
  have e : valTo (inTo 32) 12 (CS.new kA) = fldTo (inTo 31) fuelN 0 (CS.new kA) := rfl
  exact e.trans ((fld_end _ (by decide +kernel)).trans (by kernel_rfl))
theorem kB_to : valTo (inTo 32) 9 (CS.new kB1) = ⟨kB1, 3, 4, 0⟩ := by
  have e : valTo (inTo 32) 9 (CS.new kB1) = eachTo (inTo 31) [(CS.new kB1).lKd] (CS.new kB1).lCt (CS.new kB1).lTo := rfl
  rw [e, show (CS.new kB1).lKd = 1 by decide +kernel, show (CS.new kB1).lCt = 2 by decide +kernel]
  show eachTo (inTo 31) [1] 2 (CS.new kB1).lTo = ⟨kB1, 3, 4, 0⟩
  kernel_rfl
theorem kD_to : inTo 32 1 (CS.new kD) = ⟨kD, 1, 1, 3⟩ := by
  rw [inTo_flat rfl]; kernel_rfl
theorem kE_to : valTo (inTo 0) 12 (CS.new kE) = ⟨kE, 0, 1, 33⟩ := by kernel_rfl
theorem wk_a {b : Nat} {w : World} (h : CurT 37 w b (CS.new kA)) :
    Calls Try.prog 8 #[.pointer (some ⟨b, 0, none⟩), .int .u8 12, .int .i64 0] w fun e w' => e = .returned (.tuple #[]) ∧ CurT 37 w' b ⟨kA, 1, 2, 0⟩ ∧ Only b w w' := by
  have := skip_value 12 0 (by decide) (by decide) h kA_ok
  rw [show (32 - (0 : Int)).toNat = 32 from rfl, kA_to] at this; exact this
theorem wk_b {b : Nat} {w : World} (h : CurT 37 w b (CS.new kB1)) :
    Calls Try.prog 8 #[.pointer (some ⟨b, 0, none⟩), .int .u8 9, .int .i64 0] w fun e w' => e = .returned (.tuple #[]) ∧ CurT 37 w' b ⟨kB1, 3, 4, 0⟩ ∧ Only b w w' := by
  have := skip_value 9 0 (by decide) (by decide) h kB_ok
  rw [show (32 - (0 : Int)).toNat = 32 from rfl, kB_to] at this; exact this
theorem wk_d {b : Nat} {w : World} (h : CurT 37 w b (CS.new kD)) :
    Calls Try.prog 9 #[.pointer (some ⟨b, 0, none⟩), .int .u8 1, .int .i64 0] w fun e w' => e = .returned (.tuple #[]) ∧ CurT 37 w' b ⟨kD, 1, 1, 3⟩ ∧ Only b w w' := by
  have := skip_inner 1 0 (by decide) (by decide) h kD_ok
  rw [show (32 - (0 : Int)).toNat = 32 from rfl, kD_to] at this; exact this
theorem wk_e {b : Nat} {w : World} (h : CurT 37 w b (CS.new kE)) :
    Calls Try.prog 8 #[.pointer (some ⟨b, 0, none⟩), .int .u8 12, .int .i64 32] w fun e w' => e = .returned (.tuple #[]) ∧ CurT 37 w' b ⟨kE, 0, 1, 33⟩ ∧ Only b w w' := by
  have := skip_value 12 32 (by decide) (by decide) h kE_ok
  rw [show (32 - (32 : Int)).toNat = 0 from rfl, kE_to] at this; exact this
theorem wk_la {b : Nat} {w : World} (h : CurT 37 w b ⟨kA, 1, 2, 0⟩) :
    Calls Try.prog 15 #[.pointer (some ⟨b, 0, none⟩)] w fun e w' => e = .returned (.int .i64 1) ∧ ∃ n, w' = w.drewN n :=
  left_any h (by refine ⟨?_, ?_, ?_⟩ <;> decide +kernel)
theorem wk_lb {b : Nat} {w : World} (h : CurT 37 w b ⟨kB1, 3, 4, 0⟩) :
    Calls Try.prog 15 #[.pointer (some ⟨b, 0, none⟩)] w fun e w' => e = .returned (.int .i64 1) ∧ ∃ n, w' = w.drewN n :=
  left_any h (by refine ⟨?_, ?_, ?_⟩ <;> decide +kernel)
theorem wk_er {b : Nat} {s : ByteArray} {i j : Nat} {k : Int} {w : World} (h : CurT 37 w b ⟨s, i, j, k⟩) :
    Calls Try.prog 13 #[.pointer (some ⟨b, 0, none⟩)] w fun e w' => e = .returned (.int .i64 k) ∧ w' = w := err_any h

set_option maxRecDepth 100000 in
set_option maxHeartbeats 1000000 in
theorem works21_any (w : World) : Calls Try.prog 6 #[] w fun e w' => e = .returned (.bool true) ∧ Below w.heap.size w w' := by
  go_enter Try.func6, Try.ntmps6
  go_wp2_with fail
  refine (new_cur kA _ (by decide +kernel)).mono ?_
  rintro e w1 ⟨a, rfl, ha, a1, B1⟩
  go_wp2_with fail
  refine (new_cur kB1 _ (by decide +kernel)).mono ?_
  rintro e w2 ⟨b, rfl, hb, b2, k2⟩
  have a2 := Below.cur k2 a1 a1.lt
  have B2 := grown_then B1 k2
  have hab : a ≠ b := by have := a1.lt; omega
  have hb2 : w.heap.size ≤ b := by have := B1.size; omega
  clear a1 k2 B1 hb
  go_wp2_with fail
  refine (new_cur kD _ (by decide +kernel)).mono ?_
  rintro e w3 ⟨d, rfl, hd, d3, k3⟩
  have a3 := Below.cur k3 a2 a2.lt
  have b3 := Below.cur k3 b2 b2.lt
  have B3 := grown_then B2 k3
  have had : a ≠ d := by have := a2.lt; omega
  have hbd : b ≠ d := by have := b2.lt; omega
  have hd2 : w.heap.size ≤ d := by have := B2.size; omega
  clear a2 b2 k3 B2 hd
  go_wp2_with fail
  with_reducible refine (wk_a a3).mono ?_
  rintro e w4 ⟨rfl, a4, o4⟩
  have b4 := o4.cur b3 hab.symm
  have d4 := o4.cur d3 had.symm
  have B4 := B3.trans (o4.below ha B3.size)
  clear a3 b3 d3 o4 B3
  go_wp2_with fail
  with_reducible refine (wk_b b4).mono ?_
  rintro e w5 ⟨rfl, b5, o5⟩
  have a5 := o5.cur a4 hab
  have d5 := o5.cur d4 hbd.symm
  have B5 := B4.trans (o5.below hb2 B4.size)
  clear a4 b4 d4 o5 B4
  go_wp2_with fail
  with_reducible refine (wk_d d5).mono ?_
  rintro e w6 ⟨rfl, d6, o6⟩
  have a6 := o6.cur a5 had
  have b6 := o6.cur b5 hbd
  have B6 := B5.trans (o6.below hd2 B5.size)
  clear a5 b5 d5 o6 B5
  go_wp2_with fail
  refine (new_cur kE _ (by decide +kernel)).mono ?_
  rintro e w7 ⟨g, rfl, hg, g7, k7⟩
  have a7 := Below.cur k7 a6 a6.lt
  have b7 := Below.cur k7 b6 b6.lt
  have d7 := Below.cur k7 d6 d6.lt
  have B7 := grown_then B6 k7
  have hag : a ≠ g := by have := a6.lt; omega
  have hbg : b ≠ g := by have := b6.lt; omega
  have hdg : d ≠ g := by have := d6.lt; omega
  have hg2 : w.heap.size ≤ g := by have := B6.size; omega
  clear a6 b6 d6 k7 B6 hg
  go_wp2_with fail
  with_reducible refine (wk_e g7).mono ?_
  rintro e w8 ⟨rfl, g8, o8⟩
  have a8 := o8.cur a7 hag
  have b8 := o8.cur b7 hbg
  have d8 := o8.cur d7 hdg
  have B8 := Lib.hid (B7.trans (o8.below hg2 B7.size))
  clear a7 b7 d7 g7 o8 B7 ha hb2 hd2 hg2 hag hbg hdg hab had hbd
  go_wp2_with fail
  with_reducible refine (wk_la a8).mono ?_
  rintro e w9 ⟨rfl, n1, rfl⟩
  go_wp2_with fail
  with_reducible refine (wk_lb (b8.drewN _)).mono ?_
  rintro e w9 ⟨rfl, n2, rfl⟩
  go_wp2_with fail
  with_reducible refine (wk_er (a8.drewN _)).mono ?_
  rintro e w9 ⟨rfl, rfl⟩
  go_wp2_with fail
  with_reducible refine (wk_er (b8.drewN _)).mono ?_
  rintro e w9 ⟨rfl, rfl⟩
  go_wp2_with fail
  with_reducible refine (wk_er (d8.drewN _)).mono ?_
  rintro e w9 ⟨rfl, rfl⟩
  go_wp2_with fail
  with_reducible refine (wk_er (g8.drewN _)).mono ?_
  rintro e w9 ⟨rfl, rfl⟩
  go_wp2
  go_ret
  exact ⟨rfl, Below.drewN B8.out _⟩
end Go.Proofs.Ytmaojbhpnflbcaa
