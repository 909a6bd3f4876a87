/- Layer 16's example ('works') returns true in every world, and turns nothing that was there. -/
import Derived.Test.YtghpindmbjjchaaPtB
import Derived.Lib.SlBytesConst
namespace Go.Proofs.Ytghpindmbjjchaa
open Go Go.RowKit
set_option linter.unusedVariables false

def kA : ByteArray := ⟨#[10]⟩
def kB : ByteArray := ⟨#[11]⟩
theorem kA1 : (CS.new kA).gTo = ⟨kA, 1, 1, 0⟩ ∧ mN (CS.new kA).vVal = 1 ∧ mW (CS.new kA).vVal = 2 := by
  have h : (CS.new kA).vVal = 10 := by decide +kernel
  have hm : mN 10 = 1 ∧ mW 10 = 2 := by decide +kernel
  have ht : (CS.new kA).vTo = ⟨kA, 1, 1, 0⟩ := rfl
  rw [CS.gTo_yes (by rw [h, hm.1]; decide), h, ht]; exact ⟨rfl, hm⟩
theorem kB1 : (CS.new kB).gTo = ⟨kB, 1, 1, 14⟩ ∧ mN (CS.new kB).vVal = 0 ∧ mW (CS.new kB).vVal = 0 := by
  have h : (CS.new kB).vVal = 11 := by decide +kernel
  have hm : mN 11 = 0 ∧ mW 11 = 0 := by decide +kernel
  have ht : (CS.new kB).vTo.fail 14 = ⟨kB, 1, 1, 14⟩ := rfl
  rw [CS.gTo_no (by rw [h, hm.1]), h, ht]; exact ⟨rfl, hm⟩
theorem kAok : CS.ok (CS.new kA) := by refine ⟨?_, ?_, ?_⟩ <;> decide +kernel
theorem kBok : CS.ok (CS.new kB) := by refine ⟨?_, ?_, ?_⟩ <;> decide +kernel
theorem wk_rA {b : Nat} {w : World} (h : CurT 44 w b (CS.new kA)) :
    Calls Try.prog 8 #[.pointer (some ⟨b, 0, none⟩)] w fun e w' => e = .returned (tgV 1 2) ∧ Only b w w' := by
  refine (tread_any h kAok).mono ?_
  rintro e w' ⟨rfl, _, ho⟩
  rw [kA1.2.1, kA1.2.2]; exact ⟨rfl, ho⟩
theorem wk_rB {b : Nat} {w : World} (h : CurT 44 w b (CS.new kB)) :
    Calls Try.prog 8 #[.pointer (some ⟨b, 0, none⟩)] w fun e w' => e = .returned (tgV 0 0) ∧ CurT 44 w' b ⟨kB, 1, 1, 14⟩ ∧ Only b w w' := by
  refine (tread_any h kBok).mono ?_
  rintro e w' ⟨rfl, hc, ho⟩
  rw [kB1.1] at hc
  rw [kB1.2.1, kB1.2.2]; exact ⟨rfl, hc, ho⟩
theorem wk_er {b : Nat} {w : World} (h : CurT 44 w b ⟨kB, 1, 1, 14⟩) :
    Calls Try.prog 10 #[.pointer (some ⟨b, 0, none⟩)] w fun e w' => e = .returned (.int .i64 14) ∧ w' = w := err_any h
theorem tagL12 : tagL 1 2 = [10] := by
  unfold tagL
  rw [if_pos (by decide), show tagU 1 2 = 10 from rfl, vB_small (by decide)]; rfl
theorem wk_put (a : Option Addr) (cap : Nat) (w : World) (hin : BIn w a [112]) :
    Calls Try.prog 12 #[.slice a 1 cap, tgV 1 2] w fun e w' => ∃ v, e = .returned v ∧ Bts 5 w' w.heap.size v [112, 10] ∧ Below w.heap.size w w' := by
  have := tput_any a cap [112] 1 2 w (by simp) hin; rw [tagL12] at this; exact this
theorem wk_size (w : World) : Calls Try.prog 16 #[tgV 1 2] w fun e w' => e = .returned (.int .i64 1) ∧ Below w.heap.size w w' := by
  have := tsize_any 1 2 w; rw [tagL12] at this; exact this
theorem wk_m20 (w : World) : Calls Try.prog 13 #[tgV 2 0] w fun e w' => e = .returned (.bool true) ∧ Below w.heap.size w w' := by
  have := may_any 2 0 w; rw [show tagB 2 0 = true by decide] at this; exact this
theorem wk_m21 (w : World) : Calls Try.prog 13 #[tgV 2 1] w fun e w' => e = .returned (.bool true) ∧ Below w.heap.size w w' := by
  have := may_any 2 1 w; rw [show tagB 2 1 = true by decide] at this; exact this
theorem wk_m25 (w : World) : Calls Try.prog 13 #[tgV 2 5] w fun e w' => e = .returned (.bool true) ∧ Below w.heap.size w w' := by
  have := may_any 2 5 w; rw [show tagB 2 5 = true by decide] at this; exact this
theorem wk_m13 (w : World) : Calls Try.prog 13 #[tgV 1 3] w fun e w' => e = .returned (.bool false) ∧ Below w.heap.size w w' := by
  have := may_any 1 3 w; rw [show tagB 1 3 = false by decide] at this; exact this
theorem tg_growN {N : Nat} {w W : World} (t : TypeId) (n v : Int) (h : Below N w W) (hN : N ≤ W.heap.size) : Below N w (W.alloc (.cells #[.int .i64 n, .int .i64 v] t)) := h.alloc hN _

set_option maxRecDepth 100000 in
set_option maxHeartbeats 4000000 in
theorem works16_any (w : World) : Calls Try.prog 5 #[] w fun e w' => e = .returned (.bool true) ∧ Below w.heap.size w w' := by
  have kc := fun (w : World) (C : Array Value) (n c : Nat) => Lib.run_convert_bytes_const (P := Try.prog) w 37 5 C n c Try.underlying37 Try.underlying5
  have qE := fun a b c d w => tg_eql a b c d w
  have qG := fun (x y : Operand) xs ys w => run_eqGuard_agg w .eql 30 x y xs ys tg_guard
  have T0 := tg_alloc 30 w 1 2
  have B0 := tg_grow 30 w 1 2
  go_enter Try.func5, Try.ntmps5
  go_wp2_with fail
  refine (new_cur kA _ (by decide +kernel)).mono ?_
  rintro e w1 ⟨b, rfl, hb, hc1, hbel1⟩
  have T1 := T0.below hbel1 (by simp)
  have B1 := below_on B0 hbel1 (by simp)
  have hb' : w.heap.size < b := by simp at hb; omega
  clear T0 B0 hb hbel1
  go_wp2_with fail
  refine (new_cur kB _ (by decide +kernel)).mono ?_
  rintro e w2 ⟨d, rfl, hd, hd2, hbel2⟩
  have T2 := T1.below hbel2 T1.lt
  have B2 := grown_then B1 hbel2
  have hc2 := Below.cur hbel2 hc1 hc1.lt
  have hbd : b < d := by have := hc1.lt; omega
  clear T1 B1 hc1 hbel2 hd
  go_wp2_with fail
  with_reducible refine (wk_rA hc2).mono ?_
  rintro e w3 ⟨rfl, ho3⟩
  have T3 := T2.only ho3 (by omega)
  have B3 := B2.trans (ho3.below (by omega) B2.size)
  have hd3 := ho3.cur hd2 (by omega)
  clear T2 B2 hc2 ho3 hd2
  go_wp2_with fail
  with_reducible refine (wk_rB hd3).mono ?_
  rintro e w4 ⟨rfl, hd4, ho4⟩
  have T4 := T3.only ho4 (by omega)
  have B4 := B3.trans (ho4.below (by omega) B3.size)
  clear T3 B3 hd3 ho4
  go_wp2_with fail
  with_reducible refine (wk_m20 _).mono ?_
  rintro e w5 ⟨rfl, b5⟩
  obtain ⟨X5, Y5, G5⟩ := tg_two b5
  have T5 := (T4.below G5 T4.lt)
  have hd5 := Below.cur G5 hd4 hd4.lt
  have B5 := grown_then B4 G5
  clear T4 B4 b5 G5 hd4
  go_wp2_with fail
  with_reducible refine (wk_m21 _).mono ?_
  rintro e w6 ⟨rfl, b6⟩
  have T6 := T5.below b6 T5.lt
  have X6 := X5.below b6 X5.lt
  have Y6 := Y5.below b6 Y5.lt
  have hd6 := Below.cur b6 hd5 hd5.lt
  have B6 := grown_then B5 b6
  clear T5 X5 Y5 hd5 B5 b6
  go_wp2_with fail
  with_reducible refine (wk_m25 _).mono ?_
  rintro e w7 ⟨rfl, b7⟩
  have T7 := T6.below b7 T6.lt
  have X7 := X6.below b7 X6.lt
  have Y7 := Y6.below b7 Y6.lt
  have hd7 := Below.cur b7 hd6 hd6.lt
  have B7 := grown_then B6 b7
  have T7a := T7.below ((Below.refl w7.heap.size w7).alloc (Nat.le_refl _) (.cells #[.int .u8 112] 5 (1, 2))) T7.lt
  have c0 := T7a.c0; have c1 := T7a.c1
  clear T6 X6 Y6 hd6 B6 b7 T7a
  go_wp2_with fail
  refine (wk_put _ 1 _ ?_).mono ?_
  · intro j hj
    have h0 : j = 0 := by simpa using hj
    subst h0
    have h1 := heap_alloc_new w7 (.cells #[.int .u8 112] 5 (1, 2))
    refine ⟨w7.heap.size, 0, rfl, by simp, ?_⟩
    simp only [World.cell?]
    rw [h1]; rfl
  rintro e w8 ⟨v, rfl, hbt, b8⟩
  have G8 : Below w7.heap.size w7 w8 := ((Below.refl _ _).alloc (Nat.le_refl _) _).trans (b8.mono (by simp))
  have hcv := Lib.hid (hbt.text (P := Try.prog) Try.underlying37 Try.underlying5 Try.underlying9)
  have heq : ((bA [112, 10]).toList == [112, 10]) = true := by decide +kernel
  have T8 := T7.below G8 T7.lt
  have X8 := X7.below G8 X7.lt
  have Y8 := Y7.below G8 Y7.lt
  have hd8 := Below.cur G8 hd7 hd7.lt
  have B8 := grown_then B7 G8
  clear T7 X7 Y7 hd7 B7 b8 G8 c0 c1 hbt
  have c0 := T8.c0; have c1 := T8.c1
  go_wp2_with fail
  rw [hcv.out]
  go_wp2_with fail
  with_reducible refine (wk_size _).mono ?_
  rintro e w9 ⟨rfl, b9⟩
  have T9 := T8.below b9 T8.lt
  have X9 := X8.below b9 X8.lt
  have Y9 := Y8.below b9 Y8.lt
  have hd9 := Below.cur b9 hd8 hd8.lt
  have B9 := grown_then B8 b9
  clear T8 X8 Y8 hd8 B8 b9 c0 c1
  have c0 := T9.c0; have c1 := T9.c1; have d0 := X9.c0; have d1 := X9.c1; have e0 := Y9.c0; have e1 := Y9.c1
  go_wp2_with ((with_reducible refine (wk_er hd9).mono ?_); rintro e w' ⟨rfl, rfl⟩)
  with_reducible refine (wk_m13 _).mono ?_
  rintro e w10 ⟨rfl, b10⟩
  have B10 := Lib.hid (grown_then B9 b10)
  clear b10 B9
  go_wp2
  go_ret
  exact ⟨rfl, B10.out⟩
end Go.Proofs.Ytghpindmbjjchaa
