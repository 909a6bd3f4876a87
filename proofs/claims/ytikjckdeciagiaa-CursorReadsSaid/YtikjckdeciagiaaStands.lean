/- 'stands': a cursor stands as the document's does. -/
import Derived.Test.YtikjckdeciagiaaRef3
import Derived.Deep.RegionHeld3
import Derived.Deep.DrawnRows
namespace Go.Proofs.Ytikjckdeciagiaa
open Go Go.RowKit
set_option linter.unusedVariables false
theorem curT_drew {t : TypeId} {w : World} {b : Nat} {c : CS} : CurT t w.drew b c ↔ CurT t w b c := Iff.rfl
theorem curT_drewN {t : TypeId} {w : World} {b n : Nat} {c : CS} : CurT t (w.drewN n) b c ↔ CurT t w b c := Iff.rfl
theorem below_drew {B : Nat} {a w : World} : Below B a w.drew ↔ Below B a w := ⟨fun h => ⟨h.os, h.tape, h.output, h.size, h.block⟩, fun h => h.drew⟩
theorem below_drewN {B n : Nat} {a w : World} : Below B a (w.drewN n) ↔ Below B a w := ⟨fun h => ⟨h.os, h.tape, h.output, h.size, h.block⟩, fun h => Below.drewN h n⟩
attribute [local go_sem ↓] Go.wp_at_zero Go.wp_at_succ
attribute [local simp] curT_drew curT_drewN below_drew below_drewN

theorem CS.peekB_yes {c : CS} (h : c.peekIs = true) (hlt : c.at_ < c.s.size) : c.peekB = c.s[c.at_].toNat := by
  unfold CS.peekB
  rw [if_pos h]
  have : c.s.data[c.at_]? = some c.s[c.at_] := by rw [Array.getElem?_eq_getElem (by simpa using hlt)]; rfl
  rw [this]; rfl

theorem held_below {b : Nat} {c : CS} {w u v : World} (h : u.cell? ⟨w.heap.size, 0, none⟩ = some (.string c.s) ∧ u.cell? ⟨w.heap.size, 1, none⟩ = some (.int .i64 c.at_) ∧ u.cell? ⟨w.heap.size, 2, none⟩ = some (.int .i64 c.en) ∧ u.cell? ⟨w.heap.size, 3, none⟩ = some (.int .i64 c.er) ∧ CurT 28 u w.heap.size c ∧ CurT 53 u b c ∧ Below w.heap.size w u) (k : Below u.heap.size u v) :
    v.cell? ⟨w.heap.size, 0, none⟩ = some (.string c.s) ∧ v.cell? ⟨w.heap.size, 1, none⟩ = some (.int .i64 c.at_) ∧ v.cell? ⟨w.heap.size, 2, none⟩ = some (.int .i64 c.en) ∧ v.cell? ⟨w.heap.size, 3, none⟩ = some (.int .i64 c.er) ∧ CurT 28 v w.heap.size c ∧ CurT 53 v b c ∧ Below w.heap.size w v := by
  obtain ⟨_, _, _, _, h5, h6, h7⟩ := h
  have g5 := Below.cur k h5 h5.lt
  exact ⟨g5.c0, g5.c1, g5.c2, g5.c3, g5, Below.cur k h6 h6.lt, h7.trans (k.mono h7.size)⟩

theorem held_last {b : Nat} {c : CS} {w u : World} (h : u.cell? ⟨w.heap.size, 0, none⟩ = some (.string c.s) ∧ u.cell? ⟨w.heap.size, 1, none⟩ = some (.int .i64 c.at_) ∧ u.cell? ⟨w.heap.size, 2, none⟩ = some (.int .i64 c.en) ∧ u.cell? ⟨w.heap.size, 3, none⟩ = some (.int .i64 c.er) ∧ CurT 28 u w.heap.size c ∧ CurT 53 u b c ∧ Below w.heap.size w u) : Below w.heap.size w u := h.2.2.2.2.2.2

set_option maxHeartbeats 4000000 in
theorem stands_any {b : Nat} {c : CS} {w : World} (h : CurT 53 w b c) (hc : c.ok) :
    Calls Try.prog 9 #[.pointer (some ⟨b, 0, none⟩), .agg #[.string c.s, .int .i64 c.at_, .int .i64 c.en, .int .i64 c.er]] w fun e w' => e = .returned (.bool true) ∧ Below w.heap.size w w' := by
  have k1 := hc.1
  have k2 := hc.2.1
  have k3 := hc.2.2
  have hw : IntKind.i64.wrap ((c.en : Int) - c.at_) = (c.en : Int) - c.at_ := IntWalk.i64_in _ (by omega)
  have HC := Lib.hid hc
  have HP := fun w (h : CurT 53 w b c) => peek_any h hc
  by_cases h0 : c.er = 0
  · by_cases h1 : c.at_ < c.en
    · have hp : c.peekIs = true := by unfold CS.peekIs; simp [h0, h1]
      have hlt : c.at_ < c.s.size := by omega
      have hB := CS.peekB_yes hp hlt
      have hb : (c.er == 0) = true := by simp [h0]
      have hd : decide (c.at_ < c.en) = true := by simp [h1]
      rw [hp, hB] at HP
      have H := Lib.hid HP
      clear HP hp hB h0 h1 hc
      go_enter Try.func9, Try.ntmps9
      go_wp2_with fail
      refine (H.out _ (h.allocOld _)).mono ?_
      rintro e w' ⟨rfl, n, rfl⟩
      obtain ⟨w1, hw1⟩ : ∃ w1, w1 = (w.alloc (.cells #[.string c.s, .int .i64 c.at_, .int .i64 c.en, .int .i64 c.er] 28)).drewN n := ⟨_, rfl⟩
      have q1 : CurT 28 w1 w.heap.size c := by rw [hw1]; exact (cur_alloc _).drewN n
      have q2 : CurT 53 w1 b c := by rw [hw1]; exact (h.allocOld _).drewN n
      have hbel : Below w.heap.size w w1 := by rw [hw1]; exact Below.drewN ((Below.refl _ _).alloc (Nat.le_refl _) _) n
      rw [← hw1]
      clear hw1
      have a0 := q1.c0; have a1 := q1.c1; have a2 := q1.c2; have a3 := q1.c3
      go_wp2
      go_region_held3 (fun w' => w'.cell? ⟨w.heap.size, 0, none⟩ = some (.string c.s) ∧ w'.cell? ⟨w.heap.size, 1, none⟩ = some (.int .i64 c.at_) ∧ w'.cell? ⟨w.heap.size, 2, none⟩ = some (.int .i64 c.en) ∧ w'.cell? ⟨w.heap.size, 3, none⟩ = some (.int .i64 c.er) ∧ CurT 28 w' w.heap.size c ∧ CurT 53 w' b c ∧ Below w.heap.size w w') (first | go_keep | exact held_below (by assumption) hb3)
        (first | (go_at_call 21; refine (at_any (by assumption) HC.out).mono ?_; rintro e w' ⟨rfl, rfl⟩) | (go_at_call 18; refine (left_any (by assumption) HC.out).mono ?_; rintro e w' ⟨rfl, n2, rfl⟩) | (go_at_call 22; refine (err_any (by assumption)).mono ?_; rintro e w' ⟨rfl, rfl⟩) | (go_at_call 19; refine (end_any (by assumption) HC.out).mono ?_; rintro e w' ⟨rfl, n2, rfl⟩) | (go_at_call 23; refine (ref_end c _).mono ?_; rintro e w' ⟨rfl, hb3⟩))
      all_goals go_wp2
      all_goals go_ret
      all_goals exact ⟨rfl, held_last (by assumption)⟩
    · have hp : c.peekIs = false := by unfold CS.peekIs; simp [h1]
      have hB := CS.peekB_no hp
      have hb : (c.er == 0) = true := by simp [h0]
      have hd : decide (c.at_ < c.en) = false := by simp [h1]
      rw [hp, hB] at HP
      have H := Lib.hid HP
      clear HP hp hB h0 h1 hc
      go_enter Try.func9, Try.ntmps9
      go_wp2_with fail
      refine (H.out _ (h.allocOld _)).mono ?_
      rintro e w' ⟨rfl, n, rfl⟩
      obtain ⟨w1, hw1⟩ : ∃ w1, w1 = (w.alloc (.cells #[.string c.s, .int .i64 c.at_, .int .i64 c.en, .int .i64 c.er] 28)).drewN n := ⟨_, rfl⟩
      have q1 : CurT 28 w1 w.heap.size c := by rw [hw1]; exact (cur_alloc _).drewN n
      have q2 : CurT 53 w1 b c := by rw [hw1]; exact (h.allocOld _).drewN n
      have hbel : Below w.heap.size w w1 := by rw [hw1]; exact Below.drewN ((Below.refl _ _).alloc (Nat.le_refl _) _) n
      rw [← hw1]
      clear hw1
      have a0 := q1.c0; have a1 := q1.c1; have a2 := q1.c2; have a3 := q1.c3
      go_wp2
      go_region_held3 (fun w' => w'.cell? ⟨w.heap.size, 0, none⟩ = some (.string c.s) ∧ w'.cell? ⟨w.heap.size, 1, none⟩ = some (.int .i64 c.at_) ∧ w'.cell? ⟨w.heap.size, 2, none⟩ = some (.int .i64 c.en) ∧ w'.cell? ⟨w.heap.size, 3, none⟩ = some (.int .i64 c.er) ∧ CurT 28 w' w.heap.size c ∧ CurT 53 w' b c ∧ Below w.heap.size w w') (first | go_keep | exact held_below (by assumption) hb3)
        (first | (go_at_call 21; refine (at_any (by assumption) HC.out).mono ?_; rintro e w' ⟨rfl, rfl⟩) | (go_at_call 18; refine (left_any (by assumption) HC.out).mono ?_; rintro e w' ⟨rfl, n2, rfl⟩) | (go_at_call 22; refine (err_any (by assumption)).mono ?_; rintro e w' ⟨rfl, rfl⟩) | (go_at_call 19; refine (end_any (by assumption) HC.out).mono ?_; rintro e w' ⟨rfl, n2, rfl⟩) | (go_at_call 23; refine (ref_end c _).mono ?_; rintro e w' ⟨rfl, hb3⟩))
      all_goals go_wp2
      all_goals go_ret
      all_goals exact ⟨rfl, held_last (by assumption)⟩
  · have hp : c.peekIs = false := by unfold CS.peekIs; simp [h0]
    have hB := CS.peekB_no hp
    have hb : (c.er == 0) = false := by simp [h0]
    rw [hp, hB] at HP
    have H := Lib.hid HP
    clear HP hp hB h0 hc
    go_enter Try.func9, Try.ntmps9
    go_wp2_with fail
    refine (H.out _ (h.allocOld _)).mono ?_
    rintro e w' ⟨rfl, n, rfl⟩
    obtain ⟨w1, hw1⟩ : ∃ w1, w1 = (w.alloc (.cells #[.string c.s, .int .i64 c.at_, .int .i64 c.en, .int .i64 c.er] 28)).drewN n := ⟨_, rfl⟩
    have q1 : CurT 28 w1 w.heap.size c := by rw [hw1]; exact (cur_alloc _).drewN n
    have q2 : CurT 53 w1 b c := by rw [hw1]; exact (h.allocOld _).drewN n
    have hbel : Below w.heap.size w w1 := by rw [hw1]; exact Below.drewN ((Below.refl _ _).alloc (Nat.le_refl _) _) n
    rw [← hw1]
    clear hw1
    have a0 := q1.c0; have a1 := q1.c1; have a2 := q1.c2; have a3 := q1.c3
    go_wp2
    go_region_held3 (fun w' => w'.cell? ⟨w.heap.size, 0, none⟩ = some (.string c.s) ∧ w'.cell? ⟨w.heap.size, 1, none⟩ = some (.int .i64 c.at_) ∧ w'.cell? ⟨w.heap.size, 2, none⟩ = some (.int .i64 c.en) ∧ w'.cell? ⟨w.heap.size, 3, none⟩ = some (.int .i64 c.er) ∧ CurT 28 w' w.heap.size c ∧ CurT 53 w' b c ∧ Below w.heap.size w w') (first | go_keep | exact held_below (by assumption) hb3)
      (first | (go_at_call 21; refine (at_any (by assumption) HC.out).mono ?_; rintro e w' ⟨rfl, rfl⟩) | (go_at_call 18; refine (left_any (by assumption) HC.out).mono ?_; rintro e w' ⟨rfl, n2, rfl⟩) | (go_at_call 22; refine (err_any (by assumption)).mono ?_; rintro e w' ⟨rfl, rfl⟩) | (go_at_call 19; refine (end_any (by assumption) HC.out).mono ?_; rintro e w' ⟨rfl, n2, rfl⟩) | (go_at_call 23; refine (ref_end c _).mono ?_; rintro e w' ⟨rfl, hb3⟩))
    all_goals go_wp2
    all_goals go_ret
    all_goals exact ⟨rfl, held_last (by assumption)⟩

end Go.Proofs.Ytikjckdeciagiaa
