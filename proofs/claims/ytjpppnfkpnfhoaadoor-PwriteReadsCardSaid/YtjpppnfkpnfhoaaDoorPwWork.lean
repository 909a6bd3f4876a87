/- Law 19's example. -/
import Derived.Test.YtjpppnfkpnfhoaaDoorPwH
namespace Go.Proofs.YtjpppnfkpnfhoaaDoor
open Go Go.RowKit
set_option linter.unusedVariables false

def tA : ByteArray := ⟨#[97]⟩
def w1F : List FD := [] ++ if tA = ⟨#[]⟩ then [] else fTag (2, 2, 0, tA)
def w2F : List FD := [] ++ if (150 : Nat) = 0 then [] else if (0 : Int) = 2 then [] else fTag (1, 0, 150, ⟨#[]⟩)
def w3F : List FD := w2F ++ if (0 : Nat) = 0 then [] else if (0 : Int) = 2 then [] else fTag (1, 0, 0, ⟨#[]⟩)
def w4F : List FD := w3F ++ if pB w1F = [] then [] else fTag (3, 2, 0, bA (pB w1F))
def w5F : List FD := w4F ++ fTag (4, 2, 0, bA (pB []))
theorem w5_is : pB w5F = [8, 150, 1, 26, 3, 18, 1, 97, 34, 0] := by decide +kernel
theorem w1_len : (pB w1F).length ≤ 100 := by decide +kernel
theorem r1_len : (pB ([] ++ fTag (2, 2, 0, tA))).length ≤ 100 := by decide +kernel
theorem r2_len : (pB ([] ++ fTag (1, 0, 150, ⟨#[]⟩))).length ≤ 100 := by decide +kernel
theorem r3_len : (pB (w2F ++ fTag (1, 0, 0, ⟨#[]⟩))).length ≤ 100 ∧ w2F.length ≤ 100 := by decide +kernel
theorem r4_len : (pB (w3F ++ fTag (3, 2, 0, bA (pB w1F)))).length ≤ 100 ∧ w3F.length ≤ 100 := by decide +kernel
theorem r5_len : (pB (w4F ++ fTag (4, 2, 0, bA (pB [])))).length ≤ 100 ∧ w4F.length ≤ 100 := by decide +kernel
theorem tb_false (B : Nat) (w : World) : Tb False B w := fun h => h.elim
theorem f15 (q : Nat) : (0 : Int) = 1 ∨ (0 : Int) = 5 → False := fun h => by omega

theorem works19_any (w : World) :
    Calls Tryd.prog 4 #[] w fun e w' => e = .returned (.bool true) ∧ Below w.heap.size w w' := by
  have HN := Lib.hid (fun w => pnewT False w)
  go_enter Tryd.func4, Tryd.ntmps4
  go_wp2_with fail
  refine (HN.out _).mono ?_
  rintro e w1 ⟨rfl, m1, b1⟩
  have M1 := Lib.hid m1
  have B1 := Lib.hid b1
  clear m1 b1
  go_wp2_with fail
  refine (HN.out _).mono ?_
  rintro e w2 ⟨rfl, m2, b2⟩
  have S2 := Lib.hid (two_of M1.out m2 b2)
  have B2 := Lib.hid (B1.out.trans (b2.mono B1.out.size))
  have z1 := B1.out.size
  have z2 := b2.size
  clear m2 b2 M1 B1
  generalize w1.heap.size = c at *
  generalize hbw : w.heap.size = b at *
  go_wp2_with fail
  refine (ptext_any S2.out.m 2 tA (by decide) ⟨by omega, by have := r1_len; omega, by simp⟩).mono ?_
  intro e w3 hq
  obtain ⟨rfl, u3, s3, b3⟩ := S2.out.ad hq (N := b) (by omega) (by omega)
  have S3 := Lib.hid (show Two False w3 b b (.slice none 0 0) [] c c u3 w1F from s3.swap)
  have B3 := Lib.hid (B2.out.trans b3)
  have z3 := b3.size
  clear hq s3 b3 S2 B2
  go_wp2_with fail
  refine (pnum_any S3.out.m 1 0 150 (by decide) (f15 0) ⟨by omega, by have := r2_len; omega, by simp⟩).mono ?_
  intro e w4 hq
  obtain ⟨rfl, u4, s4, b4⟩ := S3.out.ad hq (N := b) (by omega) (by omega)
  have S4 := Lib.hid (show Two False w4 b b u4 w2F c c u3 w1F from s4)
  have B4 := Lib.hid (B3.out.trans b4)
  have z4 := b4.size
  clear hq s4 b4 S3 B3
  go_wp2_with fail
  refine (pnum_any S4.out.m 1 0 0 (by decide) (f15 0) ⟨by omega, by have := r3_len.1; omega, by have := r3_len.2; omega⟩).mono ?_
  intro e w5 hq
  obtain ⟨rfl, u5, s5, b5⟩ := S4.out.ad hq (N := b) (by omega) (by omega)
  have S5 := Lib.hid (show Two False w5 b b u5 w3F c c u3 w1F from s5)
  have B5 := Lib.hid (B4.out.trans b5)
  have z5 := b5.size
  clear hq s5 b5 S4 B4
  go_wp2_with fail
  refine (psub_any S5.out.m S5.out.x 3 (by have := w1_len; omega) ⟨by omega, by have := r4_len.1; omega, by have := r4_len.2; omega⟩).mono ?_
  intro e w6 hq
  obtain ⟨rfl, u6, m6, b6⟩ := hq.one S5.out.m (N := b) (by omega) (by omega)
  have M6 := Lib.hid (show MsgR False w6 b b u6 w4F from m6)
  have B6 := Lib.hid (B5.out.trans b6)
  have z6 := b6.size
  clear hq m6 b6 S5 B5
  go_wp2_with fail
  refine (HN.out _).mono ?_
  rintro e w7 ⟨rfl, m7, b7⟩
  have S7 := Lib.hid (two_of M6.out m7 b7).swap
  have B7 := Lib.hid (B6.out.trans (b7.mono (by omega)))
  have z7 := b7.size
  clear m7 b7 M6 B6
  go_wp2_with fail
  refine (pssub_any S7.out.m S7.out.x 4 (by decide) ⟨by omega, by have := r5_len.1; omega, by have := r5_len.2; omega⟩).mono ?_
  intro e w8 hq
  obtain ⟨rfl, u8, m8, b8⟩ := hq.one S7.out.m (N := b) (by omega) (by omega)
  have M8 := Lib.hid (show MsgR False w8 b b u8 w5F from m8)
  have B8 := Lib.hid (B7.out.trans b8)
  have z8 := b8.size
  clear hq m8 b8 S7 B7
  go_wp2_with fail
  refine (pssub_nil M8.out 5).mono ?_
  intro e w9 hq
  obtain ⟨rfl, u9, m9, b9⟩ := hq.one M8.out (N := b) (by omega) (by omega)
  have M9 := Lib.hid m9
  have B9 := Lib.hid (B8.out.trans b9)
  clear hq m9 b9 M8 B8
  have HT := Lib.hid (fun w => ptext_nil 1 tA w (by decide))
  go_wp2_with fail
  refine (HT.out _).mono ?_
  rintro e w10 ⟨rfl, rfl⟩
  have HB := Lib.hid (pbytes_any M9.out (tb_false _ _) (by rw [w5_is]; decide))
  rw [w5_is] at HB
  have HZ := Lib.hid (fun W (hW : Below w10.heap.size w10 W) => psize_any (M9.out.below hW))
  rw [w5_is] at HZ
  go_wp2_with fail
  refine HB.out.mono ?_
  rintro e w11 ⟨rfl, b11⟩
  have HZ2 := Lib.hid (HZ.out w11 b11)
  have B11 := Lib.hid (B9.out.trans (b11.mono (by have := B9.out.size; omega)))
  clear b11 HB HZ B9 M9
  have HE := Lib.hid (fun w => pbytes_nil w)
  have q1 : ((bA [8, 150, 1, 26, 3, 18, 1, 97, 34, 0]).toList == [8, 150, 1, 26, 3, 18, 1, 97, 34, 0]) = true := by rw [bA_is]; decide
  have HS := Lib.hid (fun w => psize_nil w)
  go_wp2_with fail
  refine HZ2.out.mono ?_
  rintro e w12 ⟨rfl, rfl⟩
  go_wp2_with fail
  refine (HE.out _).mono ?_
  rintro e w13 ⟨rfl, rfl⟩
  go_wp2_with fail
  refine (HS.out _).mono ?_
  rintro e w14 ⟨rfl, rfl⟩
  go_wp2
  go_ret
  exact ⟨rfl, by rw [hbw]; exact B11.out⟩
end Go.Proofs.YtjpppnfkpnfhoaaDoor
