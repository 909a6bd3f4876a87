/- Law 10's example. -/
import Derived.Test.YteakcfgjjlocjaaDoorJsPut
import Derived.Test.YteakcfgjjlocjaaDoorJsRefD
import Derived.Lib.SlBytesConst
namespace Go.Proofs.YteakcfgjjlocjaaDoor
open Go Go.RowKit
set_option linter.unusedVariables false

theorem JT.ext3 {a : JT} {t : List UInt8} {k : Nat} {e : Int} (h1 : a.t = t) (h2 : a.k = k) (h3 : a.e = e) : a = ⟨t, k, e⟩ := by
  cases a; simp only at h1 h2 h3; rw [h1, h2, h3]
def wkA : ByteArray := ⟨#[34, 92, 117, 50, 48, 97, 99, 92, 110, 92, 117, 100, 56, 51, 100, 92, 117, 68, 69, 48, 48, 34, 120]⟩
def wkB : ByteArray := ⟨#[34, 92, 117, 100, 56, 51, 100, 34]⟩
theorem wkA_res : (CS.new wkA).jRes = ⟨[226, 130, 172, 10, 240, 159, 152, 128], 22, 0⟩ := JT.ext3 (by decide +kernel) (by decide +kernel) (by decide +kernel)
theorem wkB_res : (CS.new wkB).jRes = ⟨[], 0, 6⟩ := JT.ext3 (by decide +kernel) (by decide +kernel) (by decide +kernel)
theorem w10_a {b : Nat} {w : World} (h : CurT 42 w b (CS.new wkA)) (ht : Hds w) (hg : 0 ≠ b) :
    Calls Tryd.prog 9 #[.pointer (some ⟨b, 0, none⟩)] w fun e w' => e = .returned (.string ⟨#[226, 130, 172, 10, 240, 159, 152, 128]⟩) ∧ CurT 42 w' b ⟨wkA, 22, 23, 0⟩ ∧ Only b w w' := by
  refine (jread_any h (CS.new_ok (by decide +kernel)) (by decide +kernel) ht hg).mono ?_
  rintro e w' ⟨he, ⟨c', hq, hA⟩, ho⟩
  rw [wkA_res] at he hA
  have := hA.2.2.2.2 rfl
  rw [this] at hq
  exact ⟨he, hq, ho⟩
theorem w10_b {b : Nat} {w : World} (h : CurT 42 w b (CS.new wkB)) (ht : Hds w) (hg : 0 ≠ b) :
    Calls Tryd.prog 9 #[.pointer (some ⟨b, 0, none⟩)] w fun e w' => e = .returned (.string ⟨#[]⟩) ∧ (∃ c', CurT 42 w' b c' ∧ c'.er = 6) ∧ Only b w w' := by
  refine (jread_any h (CS.new_ok (by decide +kernel)) (by decide +kernel) ht hg).mono ?_
  rintro e w' ⟨he, ⟨c', hq, hA⟩, ho⟩
  rw [wkB_res] at he hA
  exact ⟨he, ⟨c', hq, hA.2.2.2.1⟩, ho⟩
theorem w10_left {b : Nat} {w : World} (h : CurT 42 w b ⟨wkA, 22, 23, 0⟩) :
    Calls Tryd.prog 17 #[.pointer (some ⟨b, 0, none⟩)] w fun e w' => e = .returned (.int .i64 1) ∧ ∃ n, w' = w.drewN n := left_any h ⟨by decide, by decide +kernel, by decide +kernel⟩
theorem w10_err {b : Nat} {c : CS} {w : World} (h : CurT 42 w b c) (he : c.er = 6) :
    Calls Tryd.prog 11 #[.pointer (some ⟨b, 0, none⟩)] w fun e w' => e = .returned (.int .i64 6) ∧ w' = w := by
  have := err_any h
  rw [he] at this; exact this
theorem w10_put (a : Option Addr) (cap : Nat) (w : World) (hin : BIn w a [112]) :
    Calls Tryd.prog 13 #[.slice a 1 cap, .string ⟨#[97, 34, 10]⟩] w fun e w' => ∃ v, e = .returned v ∧ Bts 5 w' w.heap.size v [112, 34, 97, 92, 34, 92, 117, 48, 48, 48, 97, 34] ∧ Below w.heap.size w w' := by
  have := jput_any a cap [112] ⟨#[97, 34, 10]⟩ w (by decide) (by decide +kernel) hin
  rw [show [112] ++ jText (ByteArray.mk #[97, 34, 10]).data.toList = [112, 34, 97, 92, 34, 92, 117, 48, 48, 48, 97, 34] by decide +kernel] at this; exact this
theorem w10_size (w : World) : Calls Tryd.prog 15 #[.string ⟨#[97, 34, 10]⟩] w fun e w' => e = .returned (.int .i64 11) ∧ Below w.heap.size w w' := by
  have := jsize_any ⟨#[97, 34, 10]⟩ w (by decide +kernel)
  rw [show (jText (ByteArray.mk #[97, 34, 10]).data.toList).length = 11 by decide +kernel] at this; exact this

set_option maxRecDepth 100000 in
set_option maxHeartbeats 4000000 in
theorem works10_any (w : World) (ht : Hds w) : Calls Tryd.prog 6 #[] w fun e w' => e = .returned (.bool true) ∧ Below w.heap.size w w' := by
  have kc := fun (w : World) (C : Array Value) (n c : Nat) => Lib.run_convert_bytes_const (P := Tryd.prog) w 35 5 C n c Tryd.underlying35 Tryd.underlying5
  have HT := Lib.hid ht
  have hg := ht.lt
  have N1 := Lib.hid (fun w => new_cur wkA w (by decide +kernel))
  have N2 := Lib.hid (fun w => new_cur wkB w (by decide +kernel))
  unfold wkA at N1
  unfold wkB at N2
  clear ht
  go_enter Tryd.func6, Tryd.ntmps6
  go_wp2_with fail
  refine (N1.out _).mono ?_
  rintro e w1 ⟨b1, rfl, hb1, q1, be1⟩
  go_wp2_with fail
  refine (N2.out _).mono ?_
  rintro e w2 ⟨b2, rfl, hb2, q2, be2⟩
  have hl1 := q1.lt
  have q1' := Below.cur be2 q1 q1.lt
  have k2 := grown_then be1 be2
  have t2 := HT.out.below k2 hg
  clear be2 q1
  go_wp2_with fail
  refine (w10_a q1' t2 (by omega)).mono ?_
  rintro e w3 ⟨rfl, q3, ho3⟩
  have q2' := ho3.cur q2 (by omega)
  have k3 := k2.trans (ho3.below hb1 k2.size)
  have t3 := HT.out.below k3 hg
  clear q2 ho3 q1' t2 k2
  go_wp2_with fail
  refine (w10_b q2' t3 (by have := be1.size; omega)).mono ?_
  rintro e w4 ⟨rfl, ⟨c4, q4, e4⟩, ho4⟩
  have q3' := ho4.cur q3 (by omega)
  have k4 := Lib.hid (k3.trans (ho4.below (by have := be1.size; omega) k3.size))
  clear q3 q2' t3 k3 ho4 be1 N1 N2
  go_wp2_with fail
  refine (w10_left q3').mono ?_
  rintro e w5 ⟨rfl, n5, hw5⟩
  have q5 := show CurT 42 w5 b2 c4 by rw [hw5]; exact q4.drewN n5
  have k5 := Lib.hid (show Below w.heap.size w w5 by rw [hw5]; exact Below.drewN k4.out n5)
  clear hw5 q4 q3' k4
  go_wp2_with fail
  refine (w10_err q5 e4).mono ?_
  rintro e w6 ⟨rfl, hw⟩
  rw [hw]; clear hw
  go_wp2_with fail
  refine (w10_put _ 1 _ ?_).mono ?_
  · intro j hj
    have h0 : j = 0 := by simpa using hj
    subst h0
    have h1 := heap_alloc_new w5 (.cells #[.int .u8 112] 5 (1, 2))
    refine ⟨w5.heap.size, 0, rfl, by simp, ?_⟩
    simp only [World.cell?]
    rw [h1]; rfl
  rintro e w7 ⟨v, rfl, hbt, hbel7⟩
  have k7 := Lib.hid (show Below w.heap.size w w7 from grown_then k5.out (((Below.refl _ _).alloc (Nat.le_refl _) _).trans (hbel7.mono (by simp))))
  have hcv := Lib.hid (hbt.text (P := Tryd.prog) Tryd.underlying35 Tryd.underlying5 Tryd.underlying9)
  have heq : ((bA [112, 34, 97, 92, 34, 92, 117, 48, 48, 48, 97, 34]).toList == [112, 34, 97, 92, 34, 92, 117, 48, 48, 48, 97, 34]) = true := by decide +kernel
  clear hbel7 hbt q5 k5
  go_wp2_with fail
  rw [hcv.out]
  go_wp2_with fail
  refine (w10_size _).mono ?_
  rintro e w8 ⟨rfl, h8⟩
  have k8 := Lib.hid (grown_then k7.out h8)
  clear h8
  go_wp2
  go_ret
  exact ⟨rfl, k8.out⟩
end Go.Proofs.YteakcfgjjlocjaaDoor
