/- The document's inner (package truchmanref13): the parts of an object: its end, no tokens. -/
import Derived.Test.YtmkcfilgiehjaaaGreatDoorZT
import Derived.Deep.Cut
import Derived.Deep.CutRange
namespace Go.Proofs.YtmkcfilgiehjaaaGreatDoor
open Go Go.RowKit
set_option linter.unusedVariables false

set_option maxRecDepth 20000 in
set_option maxHeartbeats 4000000 in
theorem inner_closeO (x : TK) (ts : List TK) (a : Option Addr) (cap : Nat) (la : Int) (d : Nat) (w : World) (R : TRs) (hR : R = ⟨[], ts, 0⟩) (hx : x.1 = cls true) (hin : TInO w a (x :: ts)) (hcap : ts.length + 1 ≤ cap) (hl : ts.length + 1 ≤ 1099511627775) :
    Calls Tryz.prog 43 #[.agg #[.slice a (ts.length + 1) cap, .int .i64 la], .int .u8 125, .int .i64 (d : Nat)] w (RVp a (x :: ts) la R w) := by
  have q1 : ((x.1.toNat : Int) == 125) = true := (eq8 x.1 125).trans (decide_eq_true hx)
  obtain ⟨n, hn⟩ : ∃ n, n = ts.length + 1 := ⟨_, rfl⟩
  have HN := Lib.hid (fun w hw => rn_some a cap x ts la w hw hcap (by omega))
  have HNn := Lib.hid hn
  have HIN := Lib.hid hin
  have HE := Lib.hid hR
  rw [← hn]
  have hnc : ts.length ≤ cap - 1 := by omega
  have V0 := vlb_first w a n cap la
  clear hx hR hn hin hcap hl
  go_enter Tryz.func43, Tryz.ntmps43
  go_upto_region 1 with fail
  generalize (w.alloc (.cells #[.slice a n cap, .int .i64 la] 58)).alloc (.cells #[.slice none 0 0, .int .i64 0] 58) = w0 at *
  have a0 := V0.s.c0; have a1 := V0.s.c1
  have VV0 := Lib.hid V0
  clear V0
  go_wp2_with fail
  have HC := HN.out w0 (HIN.out.below VV0.out.b (Nat.le_refl _))
  rw [← HNn.out] at HC
  with_reducible refine HC.mono ?_
  clear HC HN
  rintro e w1 ⟨A, rfl, hin1, b1⟩
  have V1 := Lib.hid (VV0.out.next b1)
  have HI1 := Lib.hid hin1
  clear b1 a0 a1 hin1 VV0
  unfold tkV
  go_upto_region 4 with fail
  have V2 := Lib.hid (V1.out.next (two_below w1 (.cells #[.int .u8 (x.1.toNat : Int), .string (bA x.2)] 85) (.cells #[.slice A ts.length (cap - 1), .int .i64 la] 58)))
  have t0 := (tk_laid (w := w1) x 85).below (alloc_below _ (.cells #[.slice A ts.length (cap - 1), .int .i64 la] 58)) (by simp)
  have s0 := st_alloc (w1.alloc (.cells #[.int .u8 (x.1.toNat : Int), .string (bA x.2)] 85)) A ts.length (cap - 1) la
  rw [show (w1.alloc (.cells #[.int .u8 (x.1.toNat : Int), .string (bA x.2)] 85)).heap.size = w1.heap.size + 1 by simp] at s0
  have hT : w.heap.size + 2 ≤ w1.heap.size := V1.out.r.lt
  clear V1
  generalize (w1.alloc (.cells #[.int .u8 (x.1.toNat : Int), .string (bA x.2)] 85)).alloc (.cells #[.slice A ts.length (cap - 1), .int .i64 la] 58) = W at *
  generalize w1.heap.size = T at *
  have k0 := t0.c0
  have s1 := s0.c1; have s0 := s0.c0
  have r0 := V2.out.r.c0; have r1 := V2.out.r.c1; have rf := V2.out.r.fr
  have m1 : ¬ w.heap.size + 1 = T + 1 := by omega
  have m2 : ¬ T + 1 = w.heap.size + 1 := by omega
  have m3 : ¬ T = w.heap.size := by omega
  have m4 : ¬ w.heap.size = T := by omega
  clear t0
  go_wp2_with fail
  go_region_held3 (fun wx => wx.cell? ⟨T + 1, 0, none⟩ = some (.slice A ts.length (cap - 1)) ∧ wx.cell? ⟨T + 1, 1, none⟩ = some (.int .i64 la)) (go_keep) (first | fail)
  all_goals (repeat go_step)
  all_goals
    have HF := V2.out.fin A ts.length (cap - 1) la rfl
    refine bodyPost_ret (vsc_result Tryz.results43 HF.1 rfl rfl rfl) rfl ?_
    exact ⟨.slice none 0 0, A, ts.length, cap - 1, [], by rw [HE.out]; rfl, fun _ => by rw [HE.out]; exact ⟨rfl, rfl, hnc, HI1.out⟩, nrow_nil _ _ _, Nat.zero_le _, HF.2⟩
set_option maxRecDepth 20000 in
set_option maxHeartbeats 8000000 in
theorem inner_cutO  (a : Option Addr) (cap : Nat) (la : Int) (d : Nat) (w : World) {f : Nat} (hV : ∀ g, g + 2 ≤ f → ValR la g) (hin : TInO w a ([] : List TK)) (hcap : ([] : List TK).length ≤ cap) (hs : SgE ([] : List TK)) (hd : d ≤ 32) (hf : 4 * ([] : List TK).length ≤ f) (hf2 : 2 ≤ f) (hl : ([] : List TK).length ≤ 1099511627775) :
    Calls Tryz.prog 43 #[.agg #[.slice a ([] : List TK).length cap, .int .i64 la], .int .u8 125, .int .i64 (d : Nat)] w (RVp a ([] : List TK) la (mR (eE (some la)) f true d [] ([] : List TK)) w) := by
  obtain ⟨R, hR⟩ : ∃ R, R = mR (eE (some la)) f true d [] ([] : List TK) := ⟨_, rfl⟩
  rw [← hR]
  have HR := Lib.hid hR
  have HNX := Lib.hid (fun w hw => nx_any a cap ([] : List TK) la w hw hcap (by omega))
  have HIN := Lib.hid hin
  have HV := Lib.hid hV
  have HD := Lib.hid hd
  have HS := Lib.hid hs
  have HCAP := Lib.hid hcap
  have HF0 := Lib.hid (And.intro hf hf2)

  obtain ⟨TS, hTS⟩ : ∃ TS, TS = ([] : List TK) := ⟨_, rfl⟩
  rw [← hTS] at HR HNX HIN HS HCAP HF0 hl hcap ⊢
  have HTSS := Lib.hid hTS
  obtain ⟨n, hn⟩ : ∃ n, n = TS.length := ⟨_, rfl⟩
  rw [← hn] at hl hcap ⊢
  have HNn := Lib.hid hn
  have V0 := vlb_first w a n cap la
  clear hR hn hin hV hf hf2 hs hTS hcap 
  go_enter Tryz.func43, Tryz.ntmps43
  go_upto_region 1 with fail
  generalize (w.alloc (.cells #[.slice a n cap, .int .i64 la] 58)).alloc (.cells #[.slice none 0 0, .int .i64 0] 58) = w0 at *
  have a0 := V0.s.c0; have a1 := V0.s.c1
  have VV0 := Lib.hid V0
  clear V0
  go_wp2_with fail
  have HC := HNX.out w0 (HIN.out.below VV0.out.b (Nat.le_refl _))
  rw [← HNn.out] at HC
  with_reducible refine HC.mono ?_
  clear HC HNX
  rintro e w1 ⟨A, c1, rfl, hc1, hin1, b1⟩
  have V1 := Lib.hid (VV0.out.next b1)
  clear b1 a0 a1 hin1 VV0
  obtain ⟨y, hy⟩ : ∃ y, y = hdT TS := ⟨_, rfl⟩
  obtain ⟨q, hq⟩ : ∃ q, q = TS.tail.length := ⟨_, rfl⟩
  rw [← hy, ← hq]
  have p1 : (cdT (eE (some la)) TS == 0) = false := by rw [HTSS.out]; exact beq_eq_false_iff_ne.mpr (cdT_ne _)
  obtain ⟨cd, hcd⟩ : ∃ cd, cd = cdT (eE (some la)) TS := ⟨_, rfl⟩
  rw [← hcd] at p1 ⊢
  clear hcd
  clear hy hq
  unfold tkV
  go_upto_region 4 with fail
  have V2 := Lib.hid (V1.out.next (two_below w1 (.cells #[.int .u8 (y.1.toNat : Int), .string (bA y.2)] 85) (.cells #[.slice A q c1, .int .i64 la] 58)))
  have t0 := (tk_laid (w := w1) y 85).below (alloc_below _ (.cells #[.slice A q c1, .int .i64 la] 58)) (by simp)
  have s0 := st_alloc (w1.alloc (.cells #[.int .u8 (y.1.toNat : Int), .string (bA y.2)] 85)) A q c1 la
  rw [show (w1.alloc (.cells #[.int .u8 (y.1.toNat : Int), .string (bA y.2)] 85)).heap.size = w1.heap.size + 1 by simp] at s0
  have hT : w.heap.size + 2 ≤ w1.heap.size := V1.out.r.lt
  clear V1
  generalize (w1.alloc (.cells #[.int .u8 (y.1.toNat : Int), .string (bA y.2)] 85)).alloc (.cells #[.slice A q c1, .int .i64 la] 58) = W at *
  generalize w1.heap.size = T at *
  have IB0 := Lib.hid (show InB w W T a n cap la y A q c1 from ⟨V2.out.s, V2.out.r, t0, s0, hT, V2.out.b⟩)
  clear V2 s0 t0 hc1
  have a0 := IB0.out.s.c0; have a1 := IB0.out.s.c1
  have k0 := IB0.out.t.c0
  have R0 := Lib.hid (show InRel f w T true la d R a TS (.slice none 0 0) (.slice none 0 0) (.int .i64 0) W from by
    obtain ⟨h1, h2⟩ := HF0.out
    have e : f - 2 + 2 = f := by omega
    refine ⟨f - 2, [], [], TS, a, cap, y, A, q, c1, 0, ?_, nrow_nil _ _ _, sbts_nil _ _, rfl, by omega, by simp, Nat.le_refl _, by omega, by omega, HCAP.out, HS.out, fun _ h => h, ?_, fun _ => rfl⟩
    · rw [← HNn.out]; exact IB0.out
    · rw [e, ← HR.out]; exact Fits.refl _)
  clear IB0
  go_wp2_with fail
  go_loopw [6, 8, 9, 10, 13, 15] (fun v6 v8 nv kv cd i wr => InRel f w T true la d R a TS nv kv i wr) (fun _ _ _ _ _ i _ => n + 1 - (intOf i).toNat)
  case atStart => exact R0.out
  case round =>
    clear R0 a0 a1 k0
    obtain ⟨g, acc, K, tv, av, cv, xt, a2, n2, c2, j, IB1, ROW1, KEY1, rfl, hj, hacc, hKj, hgf, hf2, hcv, hsg, hin2, hfit, hK⟩ := hrel
    rw [← HNn.out] at hj hacc
    have IB := Lib.hid IB1; have ROW := Lib.hid ROW1; have KEY := Lib.hid KEY1
    clear IB1 ROW1 KEY1
    have hTT := IB.out.hT
    have hjn : j ≤ n := by omega
    have p1 : decide (j ≤ n) = true := decide_eq_true hjn
    have p1' : decide ((j : Int) ≤ (n : Int)) = true := decide_eq_true (by omega)
    have hjw : IntKind.i64.wrap ((j : Int) + 1) = (j : Int) + 1 := i64_small (by omega) (by omega)
    have a0 := IB.out.s.c0; have a1 := IB.out.s.c1
    obtain ⟨ka, kc, ek, _⟩ := KEY.out.inn
    subst ek
    have NX0 := Lib.hid (nx_any av cv tv la wr (hin2 wr (HIN.out.below IB.out.b (Nat.le_refl _))) hcv (by omega))
    have IN1 := Lib.hid hin2
    have HFT := Lib.hid hfit
    have HSG := Lib.hid hsg
    have OWN0 := Lib.hid (show ∀ k, u9.ownBlock = some k → T + 2 ≤ k from fun k hk => (ROW.out.own hk).1)
    clear hK hfit hsg hin2
    go_wp2_with fail
    refine NX0.out.mono ?_
    rintro e wa ⟨Aq, cq, rfl, hcq, hinq, ba⟩
    have IBa := Lib.hid (IB.out.next ba)
    have ROWa := Lib.hid (ROW.out.below ba (Nat.le_refl _))
    have KEYa := Lib.hid (KEY.out.below ba (Nat.le_refl _))
    have INq := Lib.hid (show ∀ wx, TInO wx a TS → TInO wx Aq tv.tail from fun wx hx => hinq wx (IN1.out wx hx))
    clear a0 a1 NX0 hinq ba IB ROW KEY
    obtain ⟨y, hy⟩ : ∃ y, y = hdT tv := ⟨_, rfl⟩
    obtain ⟨cd, hcd⟩ : ∃ cd, cd = cdT (eE (some la)) tv := ⟨_, rfl⟩
    obtain ⟨nq, hnq⟩ : ∃ nq, nq = tv.tail.length := ⟨_, rfl⟩
    rw [← hy, ← hcd, ← hnq]
    rw [← hnq] at hcq
    have HY := Lib.hid hy
    have HCD := Lib.hid hcd
    have HNQ := Lib.hid hnq
    clear hy hcd hnq
    unfold tkV
    have k0 := IBa.out.t.c0; have k1 := IBa.out.t.c1; have kf := IBa.out.t.fr
    have q0 := IBa.out.q.c0; have q1 := IBa.out.q.c1; have qf := IBa.out.q.fr
    have hTT1 : ¬ T + 1 = T := by omega
    have hTT2 : ¬ T = T + 1 := by omega
    go_upto_region 13 with fail
    have IBb := Lib.hid (IBa.out.setQ y Aq nq cq)
    have ROWb := Lib.hid ((ROWa.out.set2 (b := T) (by omega) (.int .u8 (y.1.toNat : Int)) (.string (bA y.2))).set2 (b := T + 1) (by omega) (.slice Aq nq cq) (.int .i64 la))
    have KEYb := Lib.hid ((KEYa.out.set2 (b := T) (by omega) (.int .u8 (y.1.toNat : Int)) (.string (bA y.2))).set2 (b := T + 1) (by omega) (.slice Aq nq cq) (.int .i64 la))
    generalize (((wa.setCell ⟨T, 0, none⟩ (.int .u8 (y.1.toNat : Int))).setCell ⟨T, 1, none⟩ (.string (bA y.2))).setCell ⟨T + 1, 0, none⟩ (.slice Aq nq cq)).setCell ⟨T + 1, 1, none⟩ (.int .i64 la) = wb at *
    clear k0 k1 kf q0 q1 qf IBa ROWa KEYa hTT1 hTT2
    obtain ⟨nv0, hnv0⟩ : ∃ nv0, nv0 = tv.length := ⟨_, rfl⟩
    rw [← hnv0] at hj hacc hf2 hcv
    have HNV := Lib.hid hnv0
    have IBc := Lib.hid (show InB w wb T av nv0 cv la y Aq nq cq from by rw [hnv0]; exact IBb.out)
    clear hnv0 IBb
    match tv, HY, HCD, HNQ, HNV, HFT, HSG, INq with
    | [], HY, HCD, HNQ, HNV, HFT, HSG, INq =>
      have HE := Lib.hid (show R.e = cd by rw [ob_cut HFT.out, HCD.out]; rfl)
      have NZ := Lib.hid (show R.e ≠ 0 by rw [HE.out, HCD.out]; exact cdT_ne _)
      have p3 : (cd == 0) = false := by rw [HCD.out]; exact beq_eq_false_iff_ne.mpr (cdT_ne _)
      have p4 : (cd != 0) = true := by rw [bne, p3]; rfl
      have a0 := IBc.out.s.c0; have a1 := IBc.out.s.c1
      have rc0 := IBc.out.r.c0; have rc1 := IBc.out.r.c1; have rcf := IBc.out.r.fr
      have m1 : ¬ w.heap.size + 1 = w.heap.size := by omega
      go_wp2_with fail
      go_region_held3 (fun wx => wx.cell? ⟨w.heap.size, 0, none⟩ = some (.slice av nv0 cv) ∧ wx.cell? ⟨w.heap.size, 1, none⟩ = some (.int .i64 la)) (go_keep) (first | fail)
      all_goals (repeat go_step)
      all_goals
        have HF := IBc.out.vl.fin av nv0 cv la rfl
        refine bodyPost_ret (vsc_result (nv := .slice none 0 0) (k := cd) Tryz.results43 HF.1 (by kernel_rfl) (by kernel_rfl) (by kernel_rfl)) rfl ?_
        have HP := rvp_no (a := a) (ts := TS) (la := la) (R := R) (A := av) (n := nv0) (c := cv) NZ.out HF.2
        rw [HE.out] at HP
        exact HP
    | u :: t1, HY, HCD, HNQ, HNV, HFT, HSG, INq =>
      have h1 := HNV.out
      have h2 := HNn.out
      rw [HTSS.out] at h2
      rw [List.length_cons] at h1
      rw [List.length_nil] at h2
      exfalso; omega
end Go.Proofs.YtmkcfilgiehjaaaGreatDoor
