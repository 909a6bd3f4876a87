/- Law 5's example. -/
import Derived.Test.YtdnfclpfoagkeaaDoorURefB
import Derived.Lib.SlBytesConst
namespace Go.Proofs.YtdnfclpfoagkeaaDoor
open Go Go.RowKit
set_option linter.unusedVariables false

theorem drew_below (w : World) (m : Nat) : Below w.heap.size w (w.drewN m) := Below.drewN (Below.refl _ _) m
theorem w5_one (w : World) (ht : Hds w) : Calls Tryd.prog 7 #[.string ⟨#[97, 226, 130, 172]⟩, .int .i64 1] w fun e w' => e = .returned (.tuple #[.int .i32 8364, .int .i64 3]) ∧ ∃ m, w' = w.drewN m := by
  have := urune_any ⟨#[97, 226, 130, 172]⟩ 1 w (by decide +kernel) (by decide) (by decide) ht
  rw [show uR ⟨#[97, 226, 130, 172]⟩ 1 = (8364, 3) by decide +kernel] at this; exact this
theorem w5_two (w : World) (ht : Hds w) : Calls Tryd.prog 7 #[.string ⟨#[192, 128]⟩, .int .i64 0] w fun e w' => e = .returned (.tuple #[.int .i32 0, .int .i64 0]) ∧ ∃ m, w' = w.drewN m := by
  have := urune_any ⟨#[192, 128]⟩ 0 w (by decide +kernel) (by decide) (by decide) ht
  rw [show uR ⟨#[192, 128]⟩ 0 = (0, 0) by decide +kernel] at this; exact this
theorem w5_check (w : World) (ht : Hds w) : Calls Tryd.prog 9 #[.string ⟨#[97, 237, 160, 128]⟩] w fun e w' => e = .returned (.int .i64 1) ∧ ∃ m, w' = w.drewN m := by
  have := ucheck_any ⟨#[97, 237, 160, 128]⟩ w (by decide +kernel) ht
  rw [show uCheck ⟨#[97, 237, 160, 128]⟩ = 1 by decide +kernel] at this; exact this
theorem w5_count (w : World) (ht : Hds w) : Calls Tryd.prog 11 #[.string ⟨#[97, 226, 130, 172]⟩] w fun e w' => e = .returned (.int .i64 2) ∧ ∃ m, w' = w.drewN m := by
  have := ucount_any ⟨#[97, 226, 130, 172]⟩ w (by decide +kernel) ht
  rw [show uCount ⟨#[97, 226, 130, 172]⟩ = 2 by decide +kernel] at this; exact this
theorem w5_cut (w : World) (ht : Hds w) : Calls Tryd.prog 13 #[.string ⟨#[97, 226, 130, 172]⟩, .int .i64 3] w fun e w' => e = .returned (.string ⟨#[97]⟩) ∧ ∃ m, w' = w.drewN m := by
  have := ucut_any ⟨#[97, 226, 130, 172]⟩ 3 w (by decide +kernel) ht
  rw [show uCut ⟨#[97, 226, 130, 172]⟩ 3 = ⟨#[97]⟩ by decide +kernel] at this; exact this
theorem w5_is (w : World) : Calls Tryd.prog 16 #[.int .i32 57343] w fun e w' => e = .returned (.bool false) ∧ w' = w := by
  have := uis_any 57343 w
  rw [show uIs 57343 = false by decide +kernel] at this; exact this
theorem w5_put (a : Option Addr) (cap : Nat) (w : World) (hin : BIn w a [112]) (ht : Hds w) :
    Calls Tryd.prog 15 #[.slice a 1 cap, .int .i32 8364] w fun e w' => ∃ v, e = .returned v ∧ Bts 5 w' w.heap.size v [112, 226, 130, 172] ∧ Below w.heap.size w w' := by
  have := uput_any a cap [112] 8364 w (by decide +kernel) hin ht
  rw [show [112] ++ uBI 8364 = [112, 226, 130, 172] by decide +kernel] at this; exact this

set_option maxRecDepth 100000 in
set_option maxHeartbeats 4000000 in
theorem works5_any (w : World) (ht : Hds w) : Calls Tryd.prog 6 #[] w fun e w' => e = .returned (.bool true) ∧ Below w.heap.size w w' := by
  have kc := fun (w : World) (C : Array Value) (n c : Nat) => Lib.run_convert_bytes_const (P := Tryd.prog) w 28 5 C n c Tryd.underlying28 Tryd.underlying5
  have HT := Lib.hid ht
  have hg := ht.lt
  clear ht
  go_enter Tryd.func6, Tryd.ntmps6
  go_wp2_with fail
  with_reducible refine (w5_one _ HT.out).mono ?_
  rintro e w1 ⟨rfl, m1, h1⟩
  have t1 := Lib.hid (show Hds w1 by rw [h1]; exact HT.out.drewN m1)
  have b1 := Lib.hid (show Below w.heap.size w w1 by rw [h1]; exact drew_below w m1)
  clear h1
  go_wp2_with fail
  with_reducible refine (w5_two _ t1.out).mono ?_
  rintro e w2 ⟨rfl, m2, h2⟩
  have t2 := Lib.hid (show Hds w2 by rw [h2]; exact t1.out.drewN m2)
  have b2 := Lib.hid (show Below w.heap.size w w2 by rw [h2]; exact Below.drewN b1.out m2)
  clear h2 t1 b1
  go_wp2_with fail
  refine (w5_put _ 1 _ ?_ ?_).mono ?_
  · intro j hj
    have h0 : j = 0 := by simpa using hj
    subst h0
    have h1 := heap_alloc_new w2 (.cells #[.int .u8 112] 5 (1, 2))
    refine ⟨w2.heap.size, 0, rfl, by simp, ?_⟩
    simp only [World.cell?]
    rw [h1]; rfl
  · exact t2.out.below ((Below.refl _ _).alloc (Nat.le_refl _) _) t2.out.lt
  rintro e w5 ⟨v, rfl, hbt, hbel5⟩
  have b5 := Lib.hid (show Below w.heap.size w w5 from grown_then b2.out (((Below.refl _ _).alloc (Nat.le_refl _) _).trans (hbel5.mono (by simp))))
  have t5 := Lib.hid (HT.out.below b5.out hg)
  have hcv := Lib.hid (hbt.text (P := Tryd.prog) Tryd.underlying28 Tryd.underlying5 Tryd.underlying9)
  have heq : ((bA [112, 226, 130, 172]).toList == [112, 226, 130, 172]) = true := by decide +kernel
  clear hbel5 hbt t2 b2
  go_wp2_with fail
  rw [hcv.out]
  go_wp2_with fail
  with_reducible refine (w5_check _ t5.out).mono ?_
  rintro e w6 ⟨rfl, m6, h6⟩
  have t6 := Lib.hid (show Hds w6 by rw [h6]; exact t5.out.drewN m6)
  have b6 := Lib.hid (show Below w.heap.size w w6 by rw [h6]; exact Below.drewN b5.out m6)
  clear h6 t5 b5 hcv
  go_wp2_with fail
  with_reducible refine (w5_count _ t6.out).mono ?_
  rintro e w7 ⟨rfl, m7, h7⟩
  have t7 := Lib.hid (show Hds w7 by rw [h7]; exact t6.out.drewN m7)
  have b7 := Lib.hid (show Below w.heap.size w w7 by rw [h7]; exact Below.drewN b6.out m7)
  clear h7 t6 b6
  go_wp2_with fail
  with_reducible refine (w5_cut _ t7.out).mono ?_
  rintro e w8 ⟨rfl, m8, h8⟩
  have b8 := Lib.hid (show Below w.heap.size w w8 by rw [h8]; exact Below.drewN b7.out m8)
  clear h8 t7 b7
  go_wp2_with fail
  with_reducible refine (w5_is _).mono ?_
  rintro e w9 ⟨rfl, h9⟩
  rw [h9]; clear h9
  go_wp2
  go_ret
  exact ⟨rfl, b8.out⟩
end Go.Proofs.YtdnfclpfoagkeaaDoor
