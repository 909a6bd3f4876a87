/- The law's example, 'works', returns true in every world, and turns nothing that was there. -/
import Derived.Test.YtikjckdeciagiaaCur4
namespace Go.Proofs.Ytikjckdeciagiaa
open Go Go.RowKit
set_option linter.unusedVariables false

theorem new_cur (s : ByteArray) (w : World) (hs : s.size ≤ 9223372036854775807) :
    Calls Try.prog 7 #[.string s] w fun e w' => ∃ b, e = .returned (.pointer (some ⟨b, 0, none⟩)) ∧ w.heap.size ≤ b ∧ CurT 53 w' b (CS.new s) ∧ Below w.heap.size w w' := by
  refine (new_any s w hs).mono ?_
  rintro e w' ⟨rfl, rfl⟩
  exact ⟨_, rfl, Nat.le_refl _, cur_alloc (c := CS.new s) _, (Below.refl _ _).alloc (Nat.le_refl _) _⟩

def kAbc : ByteArray := ⟨#[97, 98, 99]⟩
def kAbcd : ByteArray := ⟨#[97, 98, 99, 100]⟩
theorem k1 : (CS.new kAbc).peekB = 97 := by decide +kernel
theorem k2 : (CS.new kAbc).byte = ⟨kAbc, 1, 3, 0⟩ := by rfl
theorem k3 : CS.takeS ⟨kAbc, 1, 3, 0⟩ 3 = ⟨#[]⟩ := by rfl
theorem k4 : CS.take ⟨kAbc, 1, 3, 0⟩ 3 = ⟨kAbc, 1, 3, 1⟩ := by rfl
theorem k5 : CS.why (CS.new kAbcd) 2 = 0 := by decide +kernel
theorem k6 : CS.sub (CS.new kAbcd) 2 = ⟨kAbcd, 0, 2, 0⟩ := by rfl
theorem k7 : CS.take (CS.new kAbcd) 2 = ⟨kAbcd, 2, 4, 0⟩ := by rfl
theorem k8 : CS.takeS ⟨kAbcd, 0, 2, 0⟩ 2 = ⟨#[97, 98]⟩ := by rfl
theorem k9 : CS.take ⟨kAbcd, 0, 2, 0⟩ 2 = ⟨kAbcd, 2, 2, 0⟩ := by rfl
theorem k10 : CS.endC ⟨kAbcd, 2, 2, 0⟩ = 0 := by decide +kernel
theorem k11 : CS.endC ⟨kAbcd, 2, 4, 0⟩ = 2 := by decide +kernel
theorem o1 : CS.ok (CS.new kAbc) := by refine ⟨?_, ?_, ?_⟩ <;> decide +kernel
theorem o2 : CS.ok ⟨kAbc, 1, 3, 0⟩ := by refine ⟨?_, ?_, ?_⟩ <;> decide +kernel
theorem o3 : CS.ok ⟨kAbc, 1, 3, 1⟩ := by refine ⟨?_, ?_, ?_⟩ <;> decide +kernel
theorem o4 : CS.ok (CS.new kAbcd) := by refine ⟨?_, ?_, ?_⟩ <;> decide +kernel
theorem o5 : CS.ok ⟨kAbcd, 0, 2, 0⟩ := by refine ⟨?_, ?_, ?_⟩ <;> decide +kernel
theorem o6 : CS.ok ⟨kAbcd, 2, 2, 0⟩ := by refine ⟨?_, ?_, ?_⟩ <;> decide +kernel
theorem o7 : CS.ok ⟨kAbcd, 2, 4, 0⟩ := by refine ⟨?_, ?_, ?_⟩ <;> decide +kernel

theorem works_byte {b : Nat} {w : World} (h : CurT 53 w b (CS.new kAbc)) :
    Calls Try.prog 11 #[.pointer (some ⟨b, 0, none⟩)] w fun e w' => e = .returned (.int .u8 97) ∧ CurT 53 w' b ⟨kAbc, 1, 3, 0⟩ ∧ Only b w w' := by
  have := byte_any h o1; rw [k1, k2] at this; exact this
theorem works_take1 {b : Nat} {w : World} (h : CurT 53 w b ⟨kAbc, 1, 3, 0⟩) :
    Calls Try.prog 13 #[.pointer (some ⟨b, 0, none⟩), .int .i64 3] w fun e w' => e = .returned (.string ⟨#[]⟩) ∧ CurT 53 w' b ⟨kAbc, 1, 3, 1⟩ ∧ Only b w w' := by
  have := take_any h o2 3; rw [k3, k4] at this; exact this
theorem works_sub {b : Nat} {w : World} (h : CurT 53 w b (CS.new kAbcd)) :
    Calls Try.prog 17 #[.pointer (some ⟨b, 0, none⟩), .int .i64 2] w fun e w' => ∃ b', e = .returned (.pointer (some ⟨b', 0, none⟩)) ∧ w.heap.size ≤ b' ∧ CurT 53 w' b' ⟨kAbcd, 0, 2, 0⟩ ∧ CurT 53 w' b ⟨kAbcd, 2, 4, 0⟩ ∧ Only b w w' := by
  have := sub_any h o4 2 k5; rw [k6, k7] at this; exact this
theorem works_take2 {b : Nat} {w : World} (h : CurT 53 w b ⟨kAbcd, 0, 2, 0⟩) :
    Calls Try.prog 13 #[.pointer (some ⟨b, 0, none⟩), .int .i64 2] w fun e w' => e = .returned (.string ⟨#[97, 98]⟩) ∧ CurT 53 w' b ⟨kAbcd, 2, 2, 0⟩ ∧ Only b w w' := by
  have := take_any h o5 2; rw [k8, k9] at this; exact this
theorem works_end1 {b : Nat} {w : World} (h : CurT 53 w b ⟨kAbcd, 2, 2, 0⟩) :
    Calls Try.prog 19 #[.pointer (some ⟨b, 0, none⟩)] w fun e w' => e = .returned (.int .i64 0) ∧ ∃ n, w' = w.drewN n := by
  have := end_any h o6; rw [k10] at this; exact this
theorem works_end2 {b : Nat} {w : World} (h : CurT 53 w b ⟨kAbcd, 2, 4, 0⟩) :
    Calls Try.prog 19 #[.pointer (some ⟨b, 0, none⟩)] w fun e w' => e = .returned (.int .i64 2) ∧ ∃ n, w' = w.drewN n := by
  have := end_any h o7; rw [k11] at this; exact this
theorem works_left {b : Nat} {w : World} (h : CurT 53 w b ⟨kAbc, 1, 3, 1⟩) :
    Calls Try.prog 18 #[.pointer (some ⟨b, 0, none⟩)] w fun e w' => e = .returned (.int .i64 2) ∧ ∃ n, w' = w.drewN n := left_any h o3
theorem works_at1 {b : Nat} {w : World} (h : CurT 53 w b ⟨kAbc, 1, 3, 1⟩) :
    Calls Try.prog 21 #[.pointer (some ⟨b, 0, none⟩)] w fun e w' => e = .returned (.int .i64 1) ∧ w' = w := at_any h o3
theorem works_at2 {b : Nat} {w : World} (h : CurT 53 w b ⟨kAbcd, 2, 4, 0⟩) :
    Calls Try.prog 21 #[.pointer (some ⟨b, 0, none⟩)] w fun e w' => e = .returned (.int .i64 2) ∧ w' = w := at_any h o7
theorem works_err {b : Nat} {w : World} (h : CurT 53 w b ⟨kAbc, 1, 3, 1⟩) :
    Calls Try.prog 22 #[.pointer (some ⟨b, 0, none⟩)] w fun e w' => e = .returned (.int .i64 1) ∧ w' = w := err_any h

set_option maxRecDepth 100000 in
set_option maxHeartbeats 1000000 in
theorem works_any (w : World) : Calls Try.prog 6 #[] w fun e w' => e = .returned (.bool true) ∧ Below w.heap.size w w' := by
  go_enter Try.func6, Try.ntmps6
  go_wp2_with fail
  refine (new_cur kAbc _ (by decide +kernel)).mono ?_
  rintro e w1 ⟨b, rfl, hb, hc1, hbel1⟩
  go_wp2_with fail
  refine (works_byte hc1).mono ?_
  rintro e w2 ⟨rfl, hc2, ho2⟩
  go_wp2_with fail
  refine (works_take1 hc2).mono ?_
  rintro e w3 ⟨rfl, hc3, ho3⟩
  go_wp2_with fail
  refine (new_cur kAbcd _ (by decide +kernel)).mono ?_
  rintro e w4 ⟨d, rfl, hd, hd4, hbel4⟩
  have hbd : b ≠ d := by have := hc3.lt; omega
  have hc4 := Below.cur hbel4 hc3 hc3.lt
  go_wp2_with fail
  refine (works_sub hd4).mono ?_
  rintro e w5 ⟨x, rfl, hx, hx5, hd5, ho5⟩
  have hc5 := ho5.cur hc4 hbd
  have hbx : b ≠ x := by have := hc4.lt; omega
  have hdx : d ≠ x := by have := hd4.lt; omega
  go_wp2_with fail
  refine (works_take2 hx5).mono ?_
  rintro e w6 ⟨rfl, hx6, ho6⟩
  have hc6 := ho6.cur hc5 hbx
  have hd6 := ho6.cur hd5 hdx
  have hfin := Lib.hid (show Below w.heap.size w w6 from by
    have z1 := hbel1.size
    have z2 := ho2.size
    have z3 := ho3.size
    have z4 := hbel4.size
    have z5 := ho5.size
    exact ((((hbel1.trans (ho2.below hb z1)).trans (ho3.below hb (by omega))).trans (hbel4.mono (by omega))).trans (ho5.below (by omega) (by omega))).trans (ho6.below (by omega) (by omega)))
  clear hbel1 ho2 ho3 hbel4 ho5 ho6 hc1 hc2 hc3 hc4 hc5 hd4 hd5 hx5 hb hd hx hbd hbx hdx
  go_wp2_with (first | ((with_reducible refine (fail_nil _ _).mono ?_); rintro e w' ⟨rfl, rfl⟩) | ((with_reducible refine (works_err hc6).mono ?_); rintro e w' ⟨rfl, rfl⟩) | ((with_reducible refine (works_at1 hc6).mono ?_); rintro e w' ⟨rfl, rfl⟩) | ((with_reducible refine (works_left hc6).mono ?_); rintro e w' ⟨rfl, n, rfl⟩) | ((with_reducible refine (works_end1 (hx6.drewN _)).mono ?_); rintro e w' ⟨rfl, n2, rfl⟩) | ((with_reducible refine (works_at2 (hd6.drewN _)).mono ?_); rintro e w' ⟨rfl, rfl⟩) | ((with_reducible refine (works_end2 (hd6.drewN _)).mono ?_); rintro e w' ⟨rfl, n3, rfl⟩) | ((with_reducible refine (end_nil _).mono ?_); rintro e w' ⟨rfl, rfl⟩) | ((with_reducible refine (sub_nil _).mono ?_); rintro e w' ⟨rfl, rfl⟩) | ((with_reducible refine (take_nil _).mono ?_); rintro e w' ⟨rfl, rfl⟩))
  go_ret
  exact ⟨rfl, Below.drewN hfin.out _⟩

end Go.Proofs.Ytikjckdeciagiaa
