/- Package moment: Whole; the document's Whole. -/
import Derived.Test.YtgljkoffanphkaaMoC
import Derived.Deep.Cut
import Derived.Deep.RegionHeld3
namespace Go.Proofs.Ytgljkoffanphkaa
open Go Go.RowKit
set_option linter.unusedVariables false

/-- What is left of a range in whole microseconds. -/
def whS (s e : Int) : Int := if fineB s e then s / 1000 * 1000 else 0
def whE (s e : Int) : Int := if fineB s e then s / 1000 * 1000 + (e - s) / 1000 * 1000 else 0
theorem of_whole (s e : Int) (h0 : 0 ≤ s) (h1 : s ≤ 18446744073709551615) : ofS (begI s e) (lasI s e) = whS s e ∧ ofE (begI s e) (lasI s e) = whE s e ∧ ofC (begI s e) (lasI s e) = 0 ∧
    (0 ≤ begI s e ∧ begI s e ≤ 9223372036854775807) ∧ (0 ≤ lasI s e ∧ lasI s e ≤ 9223372036854775807) := by
  rcases Bool.eq_false_or_eq_true (fineB s e) with hf | hf
  · have ho := fineB_yes hf
    obtain ⟨k1, k2⟩ := beg_yes hf
    rw [k1, k2]
    obtain ⟨q1, q2, q3⟩ := of_yes (b := s / 1000) (l := (e - s) / 1000) (by unfold ofB nanoB; simp only [decide_eq_true_eq]; omega)
    rw [q1, q2, q3]
    unfold whS whE
    rw [if_pos hf, if_pos hf]
    exact ⟨rfl, rfl, rfl, by omega, by omega⟩
  · obtain ⟨k1, k2⟩ := beg_no hf
    rw [k1, k2]
    obtain ⟨q1, q2, q3⟩ := of_yes (b := 0) (l := 0) (by decide +kernel)
    rw [q1, q2, q3]
    unfold whS whE
    rw [if_neg (by simp [hf]), if_neg (by simp [hf])]
    exact ⟨rfl, rfl, rfl, by omega, by omega⟩

theorem rwhole_any (s e : Int) (w : World) (h0 : 0 ≤ s) (h1 : s ≤ 18446744073709551615) :
    Calls Try.prog 6 #[.int .u64 s, .int .u64 e] w fun r w' => r = .returned (.tuple #[.int .u64 (whS s e), .int .u64 (whE s e)]) ∧ w' = w := by
  obtain ⟨q1, q2, q3, q4, q5⟩ := of_whole s e h0 h1
  have hO := Lib.hid (fun w => rof_any (begI s e) (lasI s e) w (by omega) (by omega) (by omega) (by omega))
  have hBg := Lib.hid (fun w => rbegun_any s e w h0 h1)
  have hLs := Lib.hid (fun w => rlasts_any s e w h0 h1)
  rw [q1, q2, q3] at hO
  clear q1 q2 q3
  generalize begI s e = B at *
  generalize lasI s e = L at *
  generalize whS s e = S at *
  generalize whE s e = E at *
  go_enter Try.func6, Try.ntmps6
  go_wp2_with fail
  with_reducible refine (hBg.out _).mono ?_
  rintro r w1 ⟨rfl, b1⟩
  rw [b1]; clear b1
  go_wp2_with fail
  with_reducible refine (hLs.out _).mono ?_
  rintro r w1 ⟨rfl, b1⟩
  rw [b1]; clear b1
  go_wp2_with fail
  with_reducible refine (hO.out _).mono ?_
  rintro r w1 ⟨rfl, b1⟩
  rw [b1]; clear b1
  go_wp2
  go_ret2
  exact ⟨rfl, rfl⟩

/-- The worlds within Whole: the range's block, the result's, nothing else turned. -/
structure WS (w wx : World) (s e : Int) : Prop where
  r : RBlk 24 wx w.heap.size s e
  z : RBlk 24 wx (w.heap.size + 1) 0 0
  b : Below w.heap.size w wx
theorem WS.next {w wx w' : World} {s e : Int} (h : WS w wx s e) (hb : Below wx.heap.size wx w') : WS w w' s e := ⟨h.r.below hb h.r.lt, h.z.below hb h.z.lt, grown_then h.b hb⟩
theorem WS.all {w wx : World} {s e : Int} (h : WS w wx s e) : wx.cell? ⟨w.heap.size, 0, none⟩ = some (.int .u64 s) ∧ wx.cell? ⟨w.heap.size, 1, none⟩ = some (.int .u64 e) := ⟨h.r.c0, h.r.c1⟩
theorem WS.alloc {w wx : World} {s e : Int} (h : WS w wx s e) (o : Obj) : WS w (wx.alloc o) s e := h.next (below_alloc wx o)
theorem WS.drew {w wx : World} {s e : Int} (h : WS w wx s e) : WS w wx.drew s e := ⟨h.r, h.z, h.b.drew⟩
theorem WS.first (w : World) (s e : Int) : WS w ((w.alloc (.cells #[.int .u64 s, .int .u64 e] 24)).alloc (.cells #[.int .u64 0, .int .u64 0] 24)) s e :=
  have h := two_rblk 24 24 w s e 0 0
  ⟨h.1, h.2.1, h.2.2.1⟩

/-- Block g is the new one, behind both. -/
structure WG (w wx : World) (g : Nat) : Prop where
  blk : RBlk 24 wx g 0 0
  far : w.heap.size + 1 < g
theorem WS.new {w wx : World} {s e : Int} (h : WS w wx s e) : WG w (wx.alloc (.cells #[.int .u64 0, .int .u64 0] 24)) wx.heap.size := ⟨rblk_alloc _ _ _ _, h.z.lt⟩
theorem WG.next {w wx w' : World} {g : Nat} (h : WG w wx g) (hb : Below wx.heap.size wx w') : WG w w' g := ⟨h.blk.below hb h.blk.lt, h.far⟩
theorem WG.drew {w wx : World} {g : Nat} (h : WG w wx g) : WG w wx.drew g := ⟨h.blk, h.far⟩
theorem ws_stored {w wx : World} {s e : Int} {g : Nat} (h : WS w wx s e) (k : WG w wx g) (S E : Int) :
    RBlk 24 ((wx.setCell ⟨g, 0, none⟩ (.int .u64 S)).setCell ⟨g, 1, none⟩ (.int .u64 E)) g S E ∧ WS w ((wx.setCell ⟨g, 0, none⟩ (.int .u64 S)).setCell ⟨g, 1, none⟩ (.int .u64 E)) s e ∧ w.heap.size + 1 < g := by
  have hb : Below (w.heap.size + 2) wx ((wx.setCell ⟨g, 0, none⟩ (.int .u64 S)).setCell ⟨g, 1, none⟩ (.int .u64 E)) := below_set (below_set (Below.refl _ _) k.far) k.far
  exact ⟨k.blk.set S E, ⟨h.r.below hb (by omega), h.z.below hb (by omega), below_set (below_set h.b (by have := k.far; omega)) (by have := k.far; omega)⟩, k.far⟩
theorem ws_laid {w wx : World} {s e : Int} (h : WS w wx s e) (S E : Int) :
    RBlk 24 (wx.alloc (.cells #[.int .u64 S, .int .u64 E] 24)) wx.heap.size S E ∧ WS w (wx.alloc (.cells #[.int .u64 S, .int .u64 E] 24)) s e ∧ w.heap.size + 1 < wx.heap.size :=
  ⟨rblk_alloc _ _ _ _, h.alloc _, h.z.lt⟩

set_option maxRecDepth 10000 in
set_option maxHeartbeats 4000000 in
theorem whole_any (s e : Int) (w : World) (h0 : 0 ≤ s) (h1 : s ≤ 18446744073709551615) :
    Calls Try.prog 7 #[rV s e] w fun r w' => r = .returned (rV (whS s e) (whE s e)) ∧ Below w.heap.size w w' := by
  obtain ⟨q1, q2, q3, q4, q5⟩ := of_whole s e h0 h1
  have hO := Lib.hid (fun w => of_any (begI s e) (lasI s e) w (by omega) (by omega) (by omega) (by omega))
  have hBg := Lib.hid (fun w => begun_any s e w h0 h1)
  have hLs := Lib.hid (fun w => lasts_any s e w h0 h1)
  rw [q1, q2, q3] at hO
  have hW := WS.first w s e
  clear q1 q2 q3
  generalize begI s e = B at *
  generalize lasI s e = L at *
  generalize whS s e = S at *
  generalize whE s e = E at *
  go_enter Try.func7, Try.ntmps7
  go_wp2_with fail
  go_cut [2, 3] from 4 (fun q2 q3 wx => q2 = .pointer (some ⟨w.heap.size + 1, 0, none⟩) ∧ ∃ g, q3 = .pointer (some ⟨g, 0, none⟩) ∧ RBlk 24 wx g S E ∧ WS w wx s e ∧ w.heap.size + 1 < g)
  case first =>
    generalize ((w.alloc (.cells #[.int .u64 s, .int .u64 e] 24)).alloc (.cells #[.int .u64 0, .int .u64 0] 24)) = w0 at *
    have hW' := hW.all
    have HW := Lib.hid hW
    clear hW
    go_region_held3 (fun wx => wx.cell? ⟨w.heap.size, 0, none⟩ = some (.int .u64 s) ∧ wx.cell? ⟨w.heap.size, 1, none⟩ = some (.int .u64 e))
      (first | with_reducible exact HW.out.drew.all | with_reducible exact HW1.out.all | with_reducible exact HW2.out.all | with_reducible exact HW3.out.all | with_reducible exact (HW3.out.alloc _).all | with_reducible exact (HW2.out.alloc _).all | with_reducible exact (HW1.out.alloc _).all | with_reducible exact (HW.out.alloc _).drew.all | with_reducible exact (ws_stored HW3.out HG3.out S E).2.1.all | with_reducible exact (ws_laid HW3.out S E).2.1.all)
      (first
      | (go_at_call 10; go_loud (with_reducible refine (hBg.out _).mono ?_; rintro r w1 ⟨rfl, b1⟩); (first | have HW1 := Lib.hid (HW.out.drew.next b1) | (have HW1 := Lib.hid ((HW.out.alloc _).drew.next b1); have HG1 := Lib.hid (show WG w w1 w0.heap.size from HW.out.new.drew.next b1))); clear b1)
      | (go_at_call 12; go_loud (with_reducible refine (hLs.out _).mono ?_; rintro r w2 ⟨rfl, b2⟩); (first | (have HW2 := Lib.hid (HW1.out.next b2); (first | have HG2 := Lib.hid (HG1.out.next b2) | skip)) | (have HW2 := Lib.hid ((HW1.out.alloc _).next b2); have HG2 := Lib.hid (HW1.out.new.next b2))); clear b2)
      | (go_at_call 15; go_loud (with_reducible refine (hO.out _).mono ?_; rintro r w3 ⟨rfl, b3⟩); (first | (have HW3 := Lib.hid (HW2.out.next b3); (first | (have HG3 := Lib.hid (HG2.out.next b3); have g0 := HG3.out.blk.c0; have g1 := HG3.out.blk.c1; have gf := HG3.out.blk.fr) | skip)) | (have HW3 := Lib.hid ((HW2.out.alloc _).next b3); have HG3 := Lib.hid (HW2.out.new.next b3); have g0 := HG3.out.blk.c0; have g1 := HG3.out.blk.c1; have gf := HG3.out.blk.fr)); clear b3))
    all_goals go_wp2_with fail
    all_goals go_meet
    all_goals (case rel => first | exact ⟨rfl, _, rfl, ws_stored HW3.out HG3.out S E⟩ | exact ⟨rfl, _, rfl, ws_laid HW3.out S E⟩)
  case rest =>
    obtain ⟨rfl, g, rfl, hg, hW3, hfar⟩ := hcut
    have g0 := hg.c0
    have g1 := hg.c1
    have z0 := hW3.z.c0
    have z1 := hW3.z.c1
    have zf := hW3.z.fr
    have K := Lib.hid (hW3.z.set S E)
    have KB := Lib.hid hW3.b
    clear hg hW3 hfar hW
    go_wp2
    exact bodyPost_ret (range_result Try.underlying24 rfl (by kernel_rfl) Try.results7 K.out rfl) rfl ⟨rfl, below_set (below_set KB.out (Nat.le_succ _)) (Nat.le_succ _)⟩
end Go.Proofs.Ytgljkoffanphkaa
