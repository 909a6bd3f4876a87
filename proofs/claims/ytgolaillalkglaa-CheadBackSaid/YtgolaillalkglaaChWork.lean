/- Layer 20's example ('works') returns true in every world, and turns nothing that was there. -/
import Derived.Test.YtgolaillalkglaaChC
import Derived.Test.YtgolaillalkglaaChD
import Derived.Lib.SlBytesConst
namespace Go.Proofs.Ytgolaillalkglaa
open Go Go.RowKit
set_option linter.unusedVariables false

def kH : ByteArray := ⟨#[56, 8, 4, 0]⟩
def kH0 : CS := CS.new kH
def kH1 : CS := ⟨kH, 1, 4, 0⟩
def kH2 : CS := ⟨kH, 3, 4, 0⟩
def kH3 : CS := ⟨kH, 4, 4, 0⟩
theorem kH0ok : kH0.ok := by refine ⟨?_, ?_, ?_⟩ <;> decide +kernel
theorem kH1ok : kH1.ok := by refine ⟨?_, ?_, ?_⟩ <;> decide +kernel
theorem kH2ok : kH2.ok := by refine ⟨?_, ?_, ?_⟩ <;> decide +kernel
theorem kH_1 : kH0.hTo 2 = kH1 ∧ kH0.hId 2 = 5 ∧ kH0.hKd 2 = 8 := ⟨by kernel_rfl, by decide +kernel, by decide +kernel⟩
theorem kH_2 : kH1.hTo 5 = kH2 ∧ kH1.hId 5 = 2 ∧ kH1.hKd 5 = 8 := ⟨by kernel_rfl, by decide +kernel, by decide +kernel⟩
theorem kH_3 : kH2.hTo 2 = kH3 ∧ kH2.hId 2 = 0 ∧ kH2.hKd 2 = 0 := ⟨by kernel_rfl, by decide +kernel, by decide +kernel⟩
theorem wk_f1 {b : Nat} {w : World} (h : CurT 56 w b kH0) :
    Calls Try.prog 9 #[.pointer (some ⟨b, 0, none⟩), .int .i64 2] w fun e w' => e = .returned (.tuple #[.int .i64 5, .int .u8 8]) ∧ CurT 56 w' b kH1 ∧ Only b w w' := by
  have := field_any h kH0ok 2 rfl
  rw [kH_1.1, kH_1.2.1, kH_1.2.2] at this; exact this
theorem wk_f2 {b : Nat} {w : World} (h : CurT 56 w b kH1) :
    Calls Try.prog 9 #[.pointer (some ⟨b, 0, none⟩), .int .i64 5] w fun e w' => e = .returned (.tuple #[.int .i64 2, .int .u8 8]) ∧ CurT 56 w' b kH2 ∧ Only b w w' := by
  have := field_any h kH1ok 5 rfl
  rw [kH_2.1, kH_2.2.1, kH_2.2.2] at this; exact this
theorem wk_f3 {b : Nat} {w : World} (h : CurT 56 w b kH2) :
    Calls Try.prog 9 #[.pointer (some ⟨b, 0, none⟩), .int .i64 2] w fun e w' => e = .returned (.tuple #[.int .i64 0, .int .u8 0]) ∧ CurT 56 w' b kH3 ∧ Only b w w' := by
  have := field_any h kH2ok 2 rfl
  rw [kH_3.1, kH_3.2.1, kH_3.2.2] at this; exact this
theorem wk_pf (w : World) (v : Value) (h : SlB w v [112]) :
    Calls Try.prog 17 #[v, .int .i64 2, .int .i64 5, .int .u8 8] w fun e w' => ∃ x, e = .returned x ∧ Bts 5 w' w.heap.size x [112, 56] ∧ Below w.heap.size w w' := by
  have := putf_any h (by decide) 2 5 8 (by decide)
  rw [show ([112] : List UInt8) ++ hdB 2 5 8 = [112, 56] by decide +kernel] at this; exact this
theorem sl_nil (w : World) : SlB w (.slice none 0 0) [] := ⟨none, 0, rfl, Nat.le_refl _, fun j hj => absurd hj (by simp)⟩
theorem wk_pl (w : World) :
    Calls Try.prog 18 #[.slice none 0 0, .int .i64 3, .int .u8 12] w fun e w' => ∃ x, e = .returned x ∧ Bts 5 w' w.heap.size x [60] ∧ Below w.heap.size w w' := by
  have := putl_any (sl_nil w) (by decide) 3 12
  rw [show ([] : List UInt8) ++ lsB 3 12 = [60] by decide +kernel] at this; exact this
theorem wk_pm (w : World) :
    Calls Try.prog 19 #[.slice none 0 0, .int .i64 1, .int .u8 8, .int .u8 5] w fun e w' => ∃ x, e = .returned x ∧ Bts 5 w' w.heap.size x [1, 133] ∧ Below w.heap.size w w' := by
  have := putm_any (sl_nil w) (by decide) 1 8 5
  have e : ([] : List UInt8) ++ mpB 1 8 5 = [1, 133] := by
    unfold mpB; rw [if_neg (by decide), if_pos (by decide)]
    show vB 1 ++ _ = _
    rw [vB_small (by decide)]; rfl
  rw [e] at this; exact this
theorem wk_s1 (w : World) : Calls Try.prog 25 #[.int .u8 1, .int .u8 2] w fun e w' => e = .returned (.bool true) ∧ w' = w := same_any 1 2 w
theorem wk_s2 (w : World) : Calls Try.prog 25 #[.int .u8 1, .int .u8 9] w fun e w' => e = .returned (.bool false) ∧ w' = w := same_any 1 9 w

theorem kH3ok : kH3.ok := by refine ⟨?_, ?_, ?_⟩ <;> decide +kernel
theorem wk_end {b : Nat} {w : World} (h : CurT 56 w b kH3) :
    Calls Try.prog 26 #[.pointer (some ⟨b, 0, none⟩)] w fun e w' => e = .returned (.int .i64 0) ∧ Below w.heap.size w w' := by
  refine (end_any h kH3ok).mono ?_
  rintro e w' ⟨rfl, n, rfl⟩
  exact ⟨rfl, drew_below w n⟩
theorem bA_true (l : List UInt8) : ((bA l).toList == l) = true := by rw [bA_is]; simp

set_option maxRecDepth 100000 in
set_option maxHeartbeats 4000000 in
theorem works20_any (w : World) : Calls Try.prog 6 #[] w fun e w' => e = .returned (.bool true) ∧ Below w.heap.size w w' := by
  have kc := fun (w : World) (C : Array Value) (n c : Nat) => Lib.run_convert_bytes_const (P := Try.prog) w 45 5 C n c Try.underlying45 Try.underlying5
  go_enter Try.func6, Try.ntmps6
  go_wp2_with fail
  refine (new_cur kH _ (by decide +kernel)).mono ?_
  rintro e w1 ⟨b, rfl, hb, hc1, B1⟩
  go_wp2_with fail
  with_reducible refine (wk_f1 hc1).mono ?_
  rintro e w2 ⟨rfl, hc2, o2⟩
  have B2 := B1.trans (o2.below hb B1.size)
  clear B1 o2 hc1
  go_wp2_with fail
  with_reducible refine (wk_f2 hc2).mono ?_
  rintro e w3 ⟨rfl, hc3, o3⟩
  have B3 := B2.trans (o3.below hb B2.size)
  clear B2 o3 hc2
  go_wp2_with fail
  with_reducible refine (wk_f3 hc3).mono ?_
  rintro e w4 ⟨rfl, hc4, o4⟩
  have B4 := B3.trans (o4.below hb B3.size)
  clear B3 o4 hc3
  go_wp2_with fail
  with_reducible refine (wk_end hc4).mono ?_
  rintro e w5 ⟨rfl, b5⟩
  have B5 := grown_then B4 b5
  clear B4 b5 hc4
  go_wp2_with fail
  refine (wk_pf _ _ ⟨some ⟨w5.heap.size, 0, none⟩, 1, rfl, Nat.le_refl _, ?_⟩).mono ?_
  · intro j hj
    have h0 : j = 0 := by simpa using hj
    subst h0
    have h1 := heap_alloc_new w5 (.cells #[.int .u8 112] 5 (1, 2))
    refine ⟨w5.heap.size, 0, rfl, by simp, ?_⟩
    simp only [World.cell?]
    rw [h1]; rfl
  rintro e w6 ⟨x, rfl, hx, b6⟩
  have B6 := grown_then B5 (((Below.refl _ _).alloc (Nat.le_refl _) _).trans (b6.mono (by simp)))
  have hcv := Lib.hid (hx.text (P := Try.prog) Try.underlying45 Try.underlying5 Try.underlying9)
  have heq := bA_true [112, 56]
  clear B5 b6 hx
  go_wp2_with fail
  rw [hcv.out]
  clear hcv
  go_wp2_with fail
  with_reducible refine (wk_pl _).mono ?_
  rintro e w7 ⟨y, rfl, hy, b7⟩
  have B7 := grown_then B6 b7
  have hcv := Lib.hid (hy.text (P := Try.prog) Try.underlying45 Try.underlying5 Try.underlying9)
  have heq2 := bA_true [60]
  clear B6 b7 hy heq
  go_wp2_with fail
  rw [hcv.out]
  clear hcv
  go_wp2_with fail
  with_reducible refine (wk_pm _).mono ?_
  rintro e w8 ⟨z, rfl, hz, b8⟩
  have B8 := grown_then B7 b8
  have hcv := Lib.hid (hz.text (P := Try.prog) Try.underlying45 Try.underlying5 Try.underlying9)
  have heq3 := bA_true [1, 133]
  clear B7 b8 hz heq2
  go_wp2_with fail
  rw [hcv.out]
  clear hcv
  go_wp2_with fail
  with_reducible refine (wk_s1 _).mono ?_
  rintro e w9 ⟨rfl, rfl⟩
  go_wp2_with fail
  with_reducible refine (wk_s2 _).mono ?_
  rintro e w9 ⟨rfl, rfl⟩
  go_wp2
  go_ret
  exact ⟨rfl, B8⟩
end Go.Proofs.Ytgolaillalkglaa
