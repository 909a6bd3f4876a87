/- The document's own fields (package truchmanref17): All. -/
import Derived.Test.YtipnaonagepolaaDoorPrS
import Derived.Test.YtipnaonagepolaaDoorZI
namespace Go.Proofs.YtipnaonagepolaaDoor
open Go Go.RowKit
set_option linter.unusedVariables false

theorem ret_vi2 {v : Value} {a b : Int} (h : a = b) : Ending.returned (.tuple #[v, .int .i64 a]) = .returned (.tuple #[v, .int .i64 b]) := by rw [h]
def RfRel (s : ByteArray) (G B : Nat) (W : World) (v : Value) (wr : World) : Prop :=
  ∃ (k : Nat) (pre : List FD), FRow 45 wr B v pre ∧ B ≤ wr.heap.size ∧ CurT 69 wr G ((CS.new s).past k) ∧ Below W.heap.size W wr ∧ FPre s.data.toList k pre
set_option maxRecDepth 20000 in
set_option maxHeartbeats 4000000 in
theorem rfall_any (s : ByteArray) (w : World) (hs : s.size ≤ 1099511627776) :
    Calls Tryd.prog 8 #[.string s] w fun e w' => ∃ v, e = .returned (.tuple #[v, .int .i64 (fAll s.data.toList).2]) ∧ FRow 45 w' w.heap.size v (fAll s.data.toList).1 ∧ Below w.heap.size w w' := by
  have HN := Lib.hid (ref_new s w (by omega))
  have HLn := Lib.hid (toList_size s)
  go_enter Tryd.func8, Tryd.ntmps8
  go_wp2_with fail
  with_reducible refine HN.out.mono ?_
  rintro e w1 ⟨rfl, hbel1⟩
  go_wp2_with fail
  have hq1 := cur_alloc (w := w1) (c := CS.new s) 69
  have hbel2 := hbel1.trans (((Below.refl _ w1).alloc (Nat.le_refl _) (.cells #[.string s, .int .i64 0, .int .i64 s.size, .int .i64 0] 69)).mono hbel1.size)
  have hGw := hbel1.size
  have HR := Lib.hid (show RfRel s w1.heap.size (w1.alloc (.cells #[.string s, .int .i64 0, .int .i64 s.size, .int .i64 0] 69)).heap.size w (.slice none 0 0) (w1.alloc (.cells #[.string s, .int .i64 0, .int .i64 s.size, .int .i64 0] 69)) from
    ⟨0, [], frow_nil _ _ _, Nat.le_refl _, hq1, hbel2, FPre.first _⟩)
  have hGB : w1.heap.size < (w1.alloc (.cells #[.string s, .int .i64 0, .int .i64 s.size, .int .i64 0] 69)).heap.size := hq1.lt
  clear hq1 hbel1 HN
  have hBw := hbel2.size
  clear hbel2
  generalize w1.alloc (.cells #[.string s, .int .i64 0, .int .i64 s.size, .int .i64 0] 69) = w2 at *
  generalize w2.heap.size = B at *
  generalize w1.heap.size = G at *
  go_loopw [2, 3, 5] (fun _ _ v wr => RfRel s G B w v wr) (fun _ _ _ wr => s.size + 1 - atOf G wr)
  case atStart => exact HR.out
  case round =>
    clear HR
    obtain ⟨k, pre, hrow, hBr, hq, hbel, hpre⟩ := hrel
    have hk : k ≤ s.size := by have := hpre.1; rw [HLn.out] at this; exact this
    have hok : ((CS.new s).past k).ok := ⟨by show 0 + k ≤ s.size; omega, Nat.le_refl _, by show s.size ≤ _; omega⟩
    have hat := Lib.hid (show atOf G wr = 0 + k from atOf_cur hq)
    by_cases hlt : k < s.size
    · have p0 : decide (k < s.size) = true := decide_eq_true hlt
      have p0' : decide ((k : Int) < (s.size : Int)) = true := decide_eq_true (by omega)
      have p0z : decide ((0 : Int) + (k : Int) < (s.size : Int)) = true := decide_eq_true (by omega)
      have HNx := Lib.hid (fun w => rfnext_any ((CS.new s).past k) w hok (show s.size ≤ 140737488351232 by omega))
      unfold NxR at HNx
      obtain ⟨f1, f2, f3⟩ := past_fTo s k hk (by omega)
      have hm := Lib.hid (fun h => hpre.more (by rw [HLn.out]; exact hlt) h)
      have hx := Lib.hid (fun h => hpre.stop (by rw [HLn.out]; exact hlt) h)
      have hpl : pre.length ≤ 1099511627776 := by have := hpre.2.1; omega
      have f1 := Lib.hid f1
      have f2 := Lib.hid f2
      clear hpre hok
      rw [f3] at HNx
      generalize fRd (s.data.toList.drop k) = R at *
      generalize ((CS.new s).past k).fTo = D at *
      obtain ⟨x, hxx⟩ : ∃ x, x = R.2.2 := ⟨_, rfl⟩
      rw [← hxx] at HNx hm
      clear hxx f3 hlt
      obtain ⟨x0, x1, x2, x3⟩ := x
      have a0 : wr.cell? ⟨G, 0, none⟩ = some (.string s) := hq.c0
      have a1 : wr.cell? ⟨G, 1, none⟩ = some (.int .i64 (k : Nat)) := by have := hq.c1; simpa [CS.past, CS.new] using this
      have a2 : wr.cell? ⟨G, 2, none⟩ = some (.int .i64 (s.size : Nat)) := hq.c2
      have a3 : wr.cell? ⟨G, 3, none⟩ = some (.int .i64 0) := hq.c3
      have HNx := Lib.hid (show ∀ w, Calls Tryd.prog 27 #[.agg #[.string s, .int .i64 (k : Nat), .int .i64 (s.size : Nat), .int .i64 0]] w fun e w' => ∃ d, e = .returned (.tuple #[d.val, pfV (x0, x1, x2, x3)]) ∧ Alike D d ∧ Below w.heap.size w w' from fun w => by
        have h := HNx.out w
        have e1 : ((CS.new s).past k).at_ = k := Nat.zero_add k
        rw [e1] at h
        exact h.mono fun e w' ⟨d, h1, h2, _, h3⟩ => ⟨d, h1, h2, h3⟩)
      go_wp2_with fail
      refine (HNx.out _).mono ?_
      rintro e w3 ⟨d, rfl, hal0, hb3⟩
      clear a0 a1 a2 a3
      have hal := Lib.hid hal0
      have her := Lib.hid (hal0.2.2.1)
      have q3 := Below.cur hb3 hq hq.lt
      have hGl := hq.lt
      have row3 := hrow.below hb3 (Nat.le_refl _)
      have bel3 := hbel.trans (hb3.mono hbel.size)
      have hB3 := Nat.le_trans hBr hb3.size
      clear hq hrow hbel hBr HNx hal0
      have x4 := cur_alloc (w := w3) (c := d) 69
      have b4 := (Below.refl w3.heap.size w3).alloc (Nat.le_refl _) (.cells #[.string d.s, .int .i64 d.at_, .int .i64 d.en, .int .i64 d.er] 69)
      have s4 : (w3.alloc (.cells #[.string d.s, .int .i64 d.at_, .int .i64 d.en, .int .i64 d.er] 69)).heap.size = w3.heap.size + 1 := World.size_alloc _ _
      have hst : ∃ w5, w5 = ((w3.alloc (.cells #[.string d.s, .int .i64 d.at_, .int .i64 d.en, .int .i64 d.er] 69)).alloc (.cells #[.int .i64 x0, .int .i64 x1, .int .u64 (x2 : Nat), .string x3] 45)) ∧ CurT 69 w5 w3.heap.size d ∧ PfT 45 w5 (w3.heap.size + 1) (x0, x1, x2, x3) ∧ Below w3.heap.size w3 w5 := by
        refine ⟨_, rfl, x4.allocOld _, ?_, b4.trans (((Below.refl _ _).alloc (Nat.le_refl _) _).mono b4.size)⟩
        have := fd_alloc (w3.alloc (.cells #[.string d.s, .int .i64 d.at_, .int .i64 d.en, .int .i64 d.er] 69)) (x0, x1, x2, x3) 45
        rw [s4] at this
        exact this
      obtain ⟨w5, hw5, x5, y5, b5⟩ := hst
      clear x4 b4 s4
      have q5 := Below.cur b5 q3 q3.lt
      have row5 := row3.below b5 (Nat.le_refl _)
      have bel5 := bel3.trans (b5.mono bel3.size)
      have hB5 := Nat.le_trans hB3 b5.size
      have hGne : G ≠ w3.heap.size := by have := q3.lt; omega
      clear q3 row3 bel3 b5 hb3
      unfold CS.val pfV
      dsimp only
      by_cases he : R.1 = 0
      · have hd0 : d.er = 0 := by rw [← her.out, f1.out]; exact he
        have p1 : (d.er != 0) = false := by rw [hd0]; rfl
        have hc3 := Lib.hid (show d = (CS.new s).past (k + R.2.1) by rw [← f2.out he]; exact (hal.out.2.2.2.1 (by rw [f1.out]; exact he)).symm)
        obtain ⟨m1, m2⟩ := hm.out he
        have M1 := Lib.hid m1
        have M2 := Lib.hid m2
        clear he hd0 hm hx f1 f2 m1 m2 her hal
        go_upto_region 5 with fail
        rw [← hw5]
        clear hw5
        generalize w3.heap.size = G3 at *
        have a0 := x5.c0; have a1 := x5.c1; have a2 := x5.c2; have a3 := x5.c3
        have e0 := q5.c0; have e1 := q5.c1; have e2 := q5.c2; have e3 := q5.c3; have ef := q5.fr
        have hGl5 := y5.lt
        go_upto_region 8 with fail
        obtain ⟨w6, hw6⟩ : ∃ w6, w6 = ((((w5.setCell ⟨G, 0, none⟩ (.string d.s)).setCell ⟨G, 1, none⟩ (.int .i64 d.at_)).setCell ⟨G, 2, none⟩ (.int .i64 d.en)).setCell ⟨G, 3, none⟩ (.int .i64 d.er)) := ⟨_, rfl⟩
        have q6 := q5.setAll d
        have o6 := Only.setAll w5 G d
        rw [← hw6] at q6 o6 ⊢
        have y6 := y5.only o6 (by omega)
        have row6 := row5.only o6 hGB
        have bel6 := bel5.trans (o6.below hGw bel5.size)
        have hB6 := Nat.le_trans hB5 o6.size
        clear hw6 a0 a1 a2 a3 e0 e1 e2 e3 ef x5 y5 q5 row5 bel5 hB5 o6 p1
        have d0 := y6.c0; have d1 := y6.c1; have d2 := y6.c2; have d3 := y6.c3
        go_wp2_with (at_builtin; go_loud (refine wpList_append_fd rfl (.tmp 26) (.tmp 28) 27 rfl 45 Tryd.underlying27 infoRf _ w6 B pre row6 hB6 rfl _ _ _ _ (x0, x1, x2, x3) rfl rfl rfl rfl rfl hpl ?_; intro v7 w7 hv7 hb7))
        have q7 := Below.cur hb7 q6 hGB
        have bel7 := bel6.trans (hb7.mono hBw)
        have hB7 := Nat.le_trans hB6 hb7.size
        rw [hc3.out] at q7
        go_roundw
        case rel => exact ⟨_, _, hv7, hB7, q7, bel7, M1.out⟩
        case measure =>
          rw [hat.out, atOf_cur q7]
          show s.size + 1 - (0 + (k + R.2.1)) < s.size + 1 - (0 + k)
          have := M1.out.1
          rw [HLn.out] at this
          have := M2.out
          omega
      · have hd0 : ¬ d.er = 0 := by rw [← her.out, f1.out]; exact he
        have p1 : (d.er != 0) = true := bne_iff_ne.mpr hd0
        have HX := Lib.hid (hx.out he)
        rw [← f1.out, her.out] at HX
        clear he hd0 hm hx f1 f2 hal her
        go_upto_region 5 with fail
        rw [← hw5]
        clear hw5
        generalize w3.heap.size = G3 at *
        have a3 := x5.c3
        go_wp2_with fail
        go_quiet (fail)
        go_wp2
        go_ret2
        exact ⟨_, ret_vi2 (by rw [HX.out]), by rw [HX.out]; exact frow_nil _ _ _, Below.drewN bel5 _⟩
    · have p0 : decide (k < s.size) = false := decide_eq_false hlt
      have p0' : decide ((k : Int) < (s.size : Int)) = false := decide_eq_false (by omega)
      have hks : k = s.size := by omega
      subst hks
      have HA := Lib.hid (by have := hpre; rw [← HLn.out] at this; exact this.last)
      have a1 : wr.cell? ⟨G, 1, none⟩ = some (.int .i64 (s.size : Nat)) := by have := hq.c1; simpa [CS.past, CS.new] using this
      clear hpre hok hlt hq
      have HROW := Lib.hid hrow
      clear hrow
      go_wp2
      go_ret2
      exact ⟨_, ret_vi2 (by rw [HA.out]), by rw [HA.out]; exact HROW.out.base hBw, hbel⟩
end Go.Proofs.YtipnaonagepolaaDoor
