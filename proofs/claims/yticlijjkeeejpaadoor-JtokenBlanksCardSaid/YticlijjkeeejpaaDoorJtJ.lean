/- The document's own All (package truchmanref12). -/
import Derived.Test.YticlijjkeeejpaaDoorJtI
namespace Go.Proofs.YticlijjkeeejpaaDoor
open Go Go.RowKit
set_option linter.unusedVariables false

def RAlRel (s : ByteArray) (G B : Nat) (W : World) (v i : Value) (wr : World) : Prop :=
  ∃ (k n : Nat) (pre : List TK), n ≤ k ∧ k ≤ s.size ∧ pre.length = n ∧ i = .int .i64 (n : Nat) ∧ TRow 37 wr B v pre ∧ B ≤ wr.heap.size ∧ CurT 36 wr G ((CS.new s).past k) ∧ Below W.heap.size W wr ∧
    Hid (tAll s.data.toList = if (tAll (s.data.toList.drop k)).2 = 0 then (pre ++ (tAll (s.data.toList.drop k)).1, 0) else ([], (tAll (s.data.toList.drop k)).2))
set_option maxRecDepth 20000 in
set_option maxHeartbeats 4000000 in
theorem rall_any (s : ByteArray) (w : World) (hs : s.size ≤ 1099511627776) :
    Calls Tryd.prog 8 #[.string s] w fun e w' => ∃ v, e = .returned (.tuple #[v, .int .i64 (tAll s.data.toList).2]) ∧ TRow 37 w' w.heap.size v (tAll s.data.toList).1 ∧ Below w.heap.size w w' := by
  have HN := Lib.hid (ref_new s w (by omega))
  go_enter Tryd.func8, Tryd.ntmps8
  go_wp2_with fail
  with_reducible refine HN.out.mono ?_
  rintro e w1 ⟨rfl, hbel1⟩
  go_wp2_with fail
  have hq1 := cur_alloc (w := w1) (c := CS.new s) 36
  have hbel2 := hbel1.trans ((alloc_below w1 (.cells #[.string s, .int .i64 0, .int .i64 s.size, .int .i64 0] 36)).mono hbel1.size)
  have hGw := hbel1.size
  have HR := Lib.hid (show RAlRel s w1.heap.size (w1.alloc (.cells #[.string s, .int .i64 0, .int .i64 s.size, .int .i64 0] 36)).heap.size w (.slice none 0 0) (.int .i64 0) (w1.alloc (.cells #[.string s, .int .i64 0, .int .i64 s.size, .int .i64 0] 36)) from
    ⟨0, 0, [], Nat.le_refl _, Nat.zero_le _, rfl, rfl, trow_nil _ _ _, Nat.le_refl _, hq1, hbel2, Lib.hid (by
    rw [List.drop_zero]
    by_cases h : (tAll s.data.toList).2 = 0
    · rw [if_pos h, List.nil_append, ← h]
    · rw [if_neg h, ← (tAll_fine _ s.data.toList rfl).1 h])⟩)
  have hGB : w1.heap.size < (w1.alloc (.cells #[.string s, .int .i64 0, .int .i64 s.size, .int .i64 0] 36)).heap.size := hq1.lt
  clear hq1 hbel1 HN
  have hBw := hbel2.size
  clear hbel2
  generalize w1.alloc (.cells #[.string s, .int .i64 0, .int .i64 s.size, .int .i64 0] 36) = w2 at *
  generalize w2.heap.size = B at *
  generalize w1.heap.size = G at *
  go_loopw [2, 3, 5, 6] (fun _ _ v i wr => RAlRel s G B w v i wr) (fun _ _ _ i _ => s.size + 1 - (intOf i).toNat)
  case atStart => exact HR.out
  case round =>
    clear HR
    obtain ⟨k, n, pre, hnk, hk, hpn, rfl, hrow, hBr, hq, hbel, hall⟩ := hrel
    have hok0 : (CS.new s).ok := CS.new_ok (by omega)
    have hlen : (CS.new s).bs.length = s.size := by rw [new_bytes, toList_size]
    have hok := CS.past_fine hok0 (k := k) (by omega)
    have hres : ((CS.new s).past k).tRes = tNx (s.data.toList.drop k) := by
      show (if (0 : Int) = 0 then tNx ((CS.new s).past k).bs else _) = _
      rw [if_pos rfl, CS.bs_past, new_bytes]
    have HNx := Lib.hid (fun w => rnext_any ((CS.new s).past k) w hok (show s.size ≤ 140737488351232 by omega))
    unfold RNx at HNx
    rw [hres] at HNx
    have hdl : (s.data.toList.drop k).length = s.size - k := by rw [List.length_drop, toList_size]
    have hF := Lib.hid (fun h h0 => tNx_fine (l := s.data.toList.drop k) h h0)
    have hE := Lib.hid (fun h => tAll_err (l := s.data.toList.drop k) h)
    have hZ := Lib.hid (fun h h0 => tAll_end (l := s.data.toList.drop k) h h0)
    have hS := Lib.hid (fun h h0 => tAll_step (l := s.data.toList.drop k) h h0)
    have HPP := Lib.hid (show ∀ j, ((CS.new s).past k).past j = (CS.new s).past (k + j) from fun j => CS.past_past _ _ _)
    have hpl : pre.length ≤ 1099511627776 := by omega
    have hns : n ≤ s.size := by omega
    have hnS : decide ((n : Int) ≤ (s.size : Int)) = true := decide_eq_true (by omega)
    have hnw : IntKind.i64.wrap ((n : Int) + 1) = (n : Int) + 1 := i64_small (by omega) (by omega)
    have HPN := Lib.hid hpn
    clear hlen hok0 hres hok hpn
    generalize tNx (s.data.toList.drop k) = r at *
    generalize (CS.new s).past k = d at *
    have a0 := hq.c0; have a1 := hq.c1; have a2 := hq.c2; have a3 := hq.c3
    go_wp2_with fail
    refine (HNx.out _).mono ?_
    rintro e w3 ⟨c3, rfl, hA3, hb3⟩
    clear a0 a1 a2 a3
    have HA3 := Lib.hid hA3
    have her := hA3.2.2.2.1
    have q3 := Below.cur hb3 hq hq.lt
    have hGl := hq.lt
    have row3 := hrow.below hb3 (Nat.le_refl _)
    have bel3 := hbel.trans (hb3.mono hbel.size)
    have hB3 := Nat.le_trans hBr hb3.size
    clear hq hrow hbel hBr hA3 HNx
    have l4 := two_laid (w := w3) (w1 := (w3.alloc (.cells #[.string c3.s, .int .i64 c3.at_, .int .i64 c3.en, .int .i64 c3.er] 36))) c3
    clear l4
    have x4 := cur_alloc (w := w3) (c := c3) 36
    have b4 := alloc_below w3 (.cells #[.string c3.s, .int .i64 c3.at_, .int .i64 c3.en, .int .i64 c3.er] 36)
    have s4 : (w3.alloc (.cells #[.string c3.s, .int .i64 c3.at_, .int .i64 c3.en, .int .i64 c3.er] 36)).heap.size = w3.heap.size + 1 := by simp
    have hst : ∃ w5, w5 = ((w3.alloc (.cells #[.string c3.s, .int .i64 c3.at_, .int .i64 c3.en, .int .i64 c3.er] 36)).alloc (.cells #[.int .u8 (r.tok.1.toNat : Int), .string (bA r.tok.2)] 37)) ∧ CurT 36 w5 w3.heap.size c3 ∧ TkT 37 w5 (w3.heap.size + 1) r.tok ∧ Below w3.heap.size w3 w5 := by
      refine ⟨_, rfl, x4.allocOld _, ?_, b4.trans ((alloc_below _ _).mono b4.size)⟩
      have := tk_alloc (w := (w3.alloc (.cells #[.string c3.s, .int .i64 c3.at_, .int .i64 c3.en, .int .i64 c3.er] 36))) r.tok 37
      rw [s4] at this
      exact this
    obtain ⟨w5, hw5, x5, y5, b5⟩ := hst
    clear x4 b4 s4
    have q5 := Below.cur b5 q3 q3.lt
    have row5 := row3.below b5 (Nat.le_refl _)
    have bel5 := bel3.trans (b5.mono bel3.size)
    have hB5 := Nat.le_trans hB3 b5.size
    have hGne : G ≠ w3.heap.size := by have := q3.lt; omega
    clear q3 row3 bel3 b5 hb3
    unfold CS.val tkV
    by_cases he : r.e = 0
    · have p1 : (c3.er != 0) = false := by rw [her, he]; rfl
      by_cases hz : r.tok.1 = 0
      · have p2 : ((r.tok.1.toNat : Int) == 0) = true := by rw [hz]; rfl
        have HQ := Lib.hid (hZ.out he hz)
        clear he hz hF hE hZ hS her
        go_upto_region 7 with fail
        rw [← hw5]
        clear hw5
        generalize w3.heap.size = G3 at *
        have c0 := x5.c3
        have d0 := y5.c0
        go_wp2
        go_ret2
        have hall2 := hall.out
        rw [HQ.out] at hall2
        simp at hall2
        exact ⟨_, ret_vi (by rw [hall2]), by rw [hall2]; exact row5.base hBw, bel5⟩
      · have p2 : ((r.tok.1.toNat : Int) == 0) = false := (eq8 r.tok.1 0).trans (decide_eq_false hz)
        have HQ := Lib.hid (hS.out he hz)
        obtain ⟨f1, f2, _, _⟩ := hF.out he hz
        have hc3 := Lib.hid ((HA3.out.2.2.2.2 he).trans (HPP.out _))
        clear he hz hF hE hZ hS her
        go_upto_region 7 with fail
        rw [← hw5]
        clear hw5
        generalize w3.heap.size = G3 at *
        have a0 := x5.c0; have a1 := x5.c1; have a2 := x5.c2; have a3 := x5.c3
        have d0 := y5.c0
        have e0 := q5.c0; have e1 := q5.c1; have e2 := q5.c2; have e3 := q5.c3; have ef := q5.fr
        have HA := Lib.hid hall
        have hGl5 := y5.lt
        clear hall
        go_upto_region 12 with fail
        obtain ⟨w6, hw6⟩ : ∃ w6, w6 = ((((w5.setCell ⟨G, 0, none⟩ (.string c3.s)).setCell ⟨G, 1, none⟩ (.int .i64 c3.at_)).setCell ⟨G, 2, none⟩ (.int .i64 c3.en)).setCell ⟨G, 3, none⟩ (.int .i64 c3.er)) := ⟨_, rfl⟩
        have q6 := q5.setAll c3
        have o6 := Only.setAll w5 G c3
        rw [← hw6] at q6 o6 ⊢
        have y6 := y5.only o6 (by omega)
        have row6 := row5.only o6 hGB
        have bel6 := bel5.trans (o6.below hGw bel5.size)
        have hB6 := Nat.le_trans hB5 o6.size
        clear hw6 a0 a1 a2 a3 d0 e0 e1 e2 e3 ef x5 y5 q5 row5 bel5 hB5 o6
        have d0 := y6.c0; have d1 := y6.c1
        go_wp2_with (at_builtin; go_loud (refine wpList_append_tok rfl (.tmp 32) (.tmp 34) 27 rfl 37 Tryd.underlying27 infoR _ w6 B pre row6 hB6 rfl _ _ r.tok rfl rfl rfl hpl ?_; intro v7 w7 hv7 hb7))
        have q7 := Below.cur hb7 q6 hGB
        have bel7 := bel6.trans (hb7.mono hBw)
        have hB7 := Nat.le_trans hB6 hb7.size
        rw [hc3.out] at q7
        go_roundw
        case rel =>
          refine ⟨k + r.k, n + 1, pre ++ [r.tok], by omega, by omega, by rw [List.length_append, List.length_singleton, HPN.out], by go_num, hv7, hB7, q7, bel7, Lib.hid ?_⟩
          have h1 := HA.out.out
          rw [HQ.out, List.drop_drop] at h1
          rw [h1]
          by_cases h : (tAll (s.data.toList.drop (k + r.k))).2 = 0
          · rw [if_pos h, if_pos h]; simp
          · rw [if_neg h, if_neg h]; simp [h]
        case measure => simp [intOf]; omega
    · have p1 : (c3.er != 0) = true := bne_iff_ne.mpr (by rw [her]; exact he)
      have HQ := Lib.hid (hE.out he)
      have HX := Lib.hid he
      have HER := Lib.hid her
      clear he hF hE hZ hS her
      go_upto_region 7 with fail
      rw [← hw5]
      clear hw5
      generalize w3.heap.size = G3 at *
      have a3 := x5.c3
      go_wp2_with fail
      go_quiet (fail)
      go_wp2
      go_ret2
      have hall2 := hall.out
      rw [HQ.out] at hall2
      simp only [if_neg HX.out] at hall2
      exact ⟨_, ret_vi (by rw [hall2]; exact HER.out), by rw [hall2]; exact trow_nil _ _ _, Below.drewN bel5 _⟩
end Go.Proofs.YticlijjkeeejpaaDoor
