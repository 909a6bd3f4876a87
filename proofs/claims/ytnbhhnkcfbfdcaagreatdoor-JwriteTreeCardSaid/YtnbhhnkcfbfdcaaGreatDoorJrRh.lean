/- The document's inner (package truchmanref13): the parts of an object. -/
import Derived.Test.YtnbhhnkcfbfdcaaGreatDoorZO
import Derived.Deep.Cut
import Derived.Deep.CutRange
namespace Go.Proofs.YtnbhhnkcfbfdcaaGreatDoor
open Go Go.RowKit
set_option linter.unusedVariables false

set_option maxRecDepth 20000 in
set_option maxHeartbeats 8000000 in
theorem inner_someO (x : TK) (ts : List TK) (hx : ¬ x.1 = cls true) (a : Option Addr) (cap : Nat) (la : Int) (d : Nat) (w : World) {f : Nat} (hV : ∀ g, g + 2 ≤ f → ValR la g) (hin : TInO w a (x :: ts)) (hcap : (x :: ts).length ≤ cap) (hs : SgE (x :: ts)) (hd : d ≤ 32) (hf : 4 * (x :: ts).length ≤ f) (hf2 : 2 ≤ f) (hl : (x :: ts).length ≤ 1099511627775) :
    Calls Tryz.prog 45 #[.agg #[.slice a (x :: ts).length cap, .int .i64 la], .int .u8 125, .int .i64 (d : Nat)] w (RVp a (x :: ts) la (mR (eE (some la)) f true d [] (x :: ts)) w) := by
  obtain ⟨R, hR⟩ : ∃ R, R = mR (eE (some la)) f true d [] (x :: ts) := ⟨_, rfl⟩
  rw [← hR]
  have HR := Lib.hid hR
  have HNX := Lib.hid (fun w hw => nx_any a cap (x :: ts) la w hw hcap (by omega))
  have HIN := Lib.hid hin
  have HV := Lib.hid hV
  have HD := Lib.hid hd
  have HS := Lib.hid hs
  have HCAP := Lib.hid hcap
  have HF0 := Lib.hid (And.intro hf hf2)
  have q1 := Lib.hid (show ((x.1.toNat : Int) == 125) = false from (eq8 x.1 125).trans (decide_eq_false hx))
  obtain ⟨TS, hTS⟩ : ∃ TS, TS = (x :: ts) := ⟨_, rfl⟩
  rw [← hTS] at HR HNX HIN HS HCAP HF0 hl hcap ⊢
  have HTSS := Lib.hid hTS
  obtain ⟨n, hn⟩ : ∃ n, n = TS.length := ⟨_, rfl⟩
  rw [← hn] at hl hcap ⊢
  have HNn := Lib.hid hn
  have V0 := vlb_first w a n cap la
  clear hR hn hin hV hf hf2 hs hTS hcap hx
  go_enter Tryz.func45, Tryz.ntmps45
  go_upto_region 1 with fail
  generalize (w.alloc (.cells #[.slice a n cap, .int .i64 la] 51)).alloc (.cells #[.slice none 0 0, .int .i64 0] 51) = w0 at *
  have a0 := V0.s.c0; have a1 := V0.s.c1
  have VV0 := Lib.hid V0
  clear V0
  go_wp2_with fail
  have HC := HNX.out w0 (HIN.out.below VV0.out.b (Nat.le_refl _))
  rw [← HNn.out] at HC
  with_reducible refine HC.mono ?_
  clear HC HNX
  rintro e w1 ⟨A, c1, rfl, hc1, hin1, b1⟩
  have V1 := Lib.hid (VV0.out.next b1)
  clear b1 a0 a1 hin1 VV0
  obtain ⟨y, hy⟩ : ∃ y, y = hdT TS := ⟨_, rfl⟩
  obtain ⟨q, hq⟩ : ∃ q, q = TS.tail.length := ⟨_, rfl⟩
  rw [← hy, ← hq]
  rw [show cdT (eE (some la)) TS = 0 by rw [HTSS.out]; rfl]
  have p1 : ((y.1.toNat : Int) == 125) = false := by rw [show y = x by rw [hy, HTSS.out]; rfl]; exact q1.out
  clear hy hq
  unfold tkV
  go_upto_region 4 with fail
  have V2 := Lib.hid (V1.out.next (two_below w1 (.cells #[.int .u8 (y.1.toNat : Int), .string (bA y.2)] 78) (.cells #[.slice A q c1, .int .i64 la] 51)))
  have t0 := (tk_laid (w := w1) y 78).below (alloc_below _ (.cells #[.slice A q c1, .int .i64 la] 51)) (by simp)
  have s0 := st_alloc (w1.alloc (.cells #[.int .u8 (y.1.toNat : Int), .string (bA y.2)] 78)) A q c1 la
  rw [show (w1.alloc (.cells #[.int .u8 (y.1.toNat : Int), .string (bA y.2)] 78)).heap.size = w1.heap.size + 1 by simp] at s0
  have hT : w.heap.size + 2 ≤ w1.heap.size := V1.out.r.lt
  clear V1
  generalize (w1.alloc (.cells #[.int .u8 (y.1.toNat : Int), .string (bA y.2)] 78)).alloc (.cells #[.slice A q c1, .int .i64 la] 51) = W at *
  generalize w1.heap.size = T at *
  have IB0 := Lib.hid (show InB w W T a n cap la y A q c1 from ⟨V2.out.s, V2.out.r, t0, s0, hT, V2.out.b⟩)
  clear V2 s0 t0 hc1
  have a0 := IB0.out.s.c0; have a1 := IB0.out.s.c1
  have k0 := IB0.out.t.c0
  have R0 := Lib.hid (show InRel f w T true la d R a TS (.slice none 0 0) (.slice none 0 0) (.int .i64 0) W from by
    obtain ⟨h1, h2⟩ := HF0.out
    have e : f - 2 + 2 = f := by omega
    refine ⟨f - 2, [], [], TS, a, cap, y, A, q, c1, 0, ?_, nrow_nil _ _ _, sbts_nil _ _, rfl, by omega, by simp, Nat.le_refl _, by omega, by omega, HCAP.out, HS.out, fun _ h => h, ?_, fun _ => rfl⟩
    · rw [← HNn.out]; exact IB0.out
    · rw [e, ← HR.out]; exact Fits.refl _)
  clear IB0
  go_wp2_with fail
  go_loopw [6, 8, 9, 10, 13, 15] (fun v6 v8 nv kv cd i wr => InRel f w T true la d R a TS nv kv i wr) (fun _ _ _ _ _ i _ => n + 1 - (intOf i).toNat)
  case atStart => exact R0.out
  case round =>
    clear R0 a0 a1 k0
    obtain ⟨g, acc, K, tv, av, cv, xt, a2, n2, c2, j, IB1, ROW1, KEY1, rfl, hj, hacc, hKj, hgf, hf2, hcv, hsg, hin2, hfit, hK⟩ := hrel
    rw [← HNn.out] at hj hacc
    have IB := Lib.hid IB1; have ROW := Lib.hid ROW1; have KEY := Lib.hid KEY1
    clear IB1 ROW1 KEY1
    have hTT := IB.out.hT
    have hjn : j ≤ n := by omega
    have p1 : decide (j ≤ n) = true := decide_eq_true hjn
    have p1' : decide ((j : Int) ≤ (n : Int)) = true := decide_eq_true (by omega)
    have hjw : IntKind.i64.wrap ((j : Int) + 1) = (j : Int) + 1 := i64_small (by omega) (by omega)
    have a0 := IB.out.s.c0; have a1 := IB.out.s.c1
    obtain ⟨ka, kc, ek, _⟩ := KEY.out.inn
    subst ek
    have NX0 := Lib.hid (nx_any av cv tv la wr (hin2 wr (HIN.out.below IB.out.b (Nat.le_refl _))) hcv (by omega))
    have IN1 := Lib.hid hin2
    have HFT := Lib.hid hfit
    have HSG := Lib.hid hsg
    have OWN0 := Lib.hid (show ∀ k, u9.ownBlock = some k → T + 2 ≤ k from fun k hk => (ROW.out.own hk).1)
    clear hK hfit hsg hin2
    go_wp2_with fail
    refine NX0.out.mono ?_
    rintro e wa ⟨Aq, cq, rfl, hcq, hinq, ba⟩
    have IBa := Lib.hid (IB.out.next ba)
    have ROWa := Lib.hid (ROW.out.below ba (Nat.le_refl _))
    have KEYa := Lib.hid (KEY.out.below ba (Nat.le_refl _))
    have INq := Lib.hid (show ∀ wx, TInO wx a TS → TInO wx Aq tv.tail from fun wx hx => hinq wx (IN1.out wx hx))
    clear a0 a1 NX0 hinq ba IB ROW KEY
    obtain ⟨y, hy⟩ : ∃ y, y = hdT tv := ⟨_, rfl⟩
    obtain ⟨cd, hcd⟩ : ∃ cd, cd = cdT (eE (some la)) tv := ⟨_, rfl⟩
    obtain ⟨nq, hnq⟩ : ∃ nq, nq = tv.tail.length := ⟨_, rfl⟩
    rw [← hy, ← hcd, ← hnq]
    rw [← hnq] at hcq
    have HY := Lib.hid hy
    have HCD := Lib.hid hcd
    have HNQ := Lib.hid hnq
    clear hy hcd hnq
    unfold tkV
    have k0 := IBa.out.t.c0; have k1 := IBa.out.t.c1; have kf := IBa.out.t.fr
    have q0 := IBa.out.q.c0; have q1 := IBa.out.q.c1; have qf := IBa.out.q.fr
    have hTT1 : ¬ T + 1 = T := by omega
    have hTT2 : ¬ T = T + 1 := by omega
    go_upto_region 13 with fail
    have IBb := Lib.hid (IBa.out.setQ y Aq nq cq)
    have ROWb := Lib.hid ((ROWa.out.set2 (b := T) (by omega) (.int .u8 (y.1.toNat : Int)) (.string (bA y.2))).set2 (b := T + 1) (by omega) (.slice Aq nq cq) (.int .i64 la))
    have KEYb := Lib.hid ((KEYa.out.set2 (b := T) (by omega) (.int .u8 (y.1.toNat : Int)) (.string (bA y.2))).set2 (b := T + 1) (by omega) (.slice Aq nq cq) (.int .i64 la))
    generalize (((wa.setCell ⟨T, 0, none⟩ (.int .u8 (y.1.toNat : Int))).setCell ⟨T, 1, none⟩ (.string (bA y.2))).setCell ⟨T + 1, 0, none⟩ (.slice Aq nq cq)).setCell ⟨T + 1, 1, none⟩ (.int .i64 la) = wb at *
    clear k0 k1 kf q0 q1 qf IBa ROWa KEYa hTT1 hTT2
    obtain ⟨nv0, hnv0⟩ : ∃ nv0, nv0 = tv.length := ⟨_, rfl⟩
    rw [← hnv0] at hj hacc hf2 hcv
    have HNV := Lib.hid hnv0
    have IBc := Lib.hid (show InB w wb T av nv0 cv la y Aq nq cq from by rw [hnv0]; exact IBb.out)
    clear hnv0 IBb
    match tv, HY, HCD, HNQ, HNV, HFT, HSG, INq with
    | [], HY, HCD, HNQ, HNV, HFT, HSG, INq =>
      have HE := Lib.hid (show R.e = cd by rw [ob_cut HFT.out, HCD.out]; rfl)
      have NZ := Lib.hid (show R.e ≠ 0 by rw [HE.out, HCD.out]; exact cdT_ne _)
      have p3 : (cd == 0) = false := by rw [HCD.out]; exact beq_eq_false_iff_ne.mpr (cdT_ne _)
      have p4 : (cd != 0) = true := by rw [bne, p3]; rfl
      have a0 := IBc.out.s.c0; have a1 := IBc.out.s.c1
      have rc0 := IBc.out.r.c0; have rc1 := IBc.out.r.c1; have rcf := IBc.out.r.fr
      have m1 : ¬ w.heap.size + 1 = w.heap.size := by omega
      go_wp2_with fail
      go_region_held3 (fun wx => wx.cell? ⟨w.heap.size, 0, none⟩ = some (.slice av nv0 cv) ∧ wx.cell? ⟨w.heap.size, 1, none⟩ = some (.int .i64 la)) (go_keep) (first | fail)
      all_goals (repeat go_step)
      all_goals
        have HF := IBc.out.vl.fin av nv0 cv la rfl
        refine bodyPost_ret (vsc_result (nv := .slice none 0 0) (k := cd) Tryz.results45 HF.1 (by kernel_rfl) (by kernel_rfl) (by kernel_rfl)) rfl ?_
        have HP := rvp_no (a := a) (ts := TS) (la := la) (R := R) (A := av) (n := nv0) (c := cv) NZ.out HF.2
        rw [HE.out] at HP
        exact HP
    | u :: t1, HY, HCD, HNQ, HNV, HFT, HSG, INq =>
      obtain rfl : cd = 0 := HCD.out
      obtain rfl : y = u := HY.out
      obtain rfl : nq = t1.length := HNQ.out
      have hnv1 : nv0 ≤ t1.length + 1 := Nat.le_of_eq HNV.out
      have hnv2 : t1.length + 1 ≤ nv0 := Nat.le_of_eq (HNV.out).symm
      have k0 := IBc.out.t.c0; have k1 := IBc.out.t.c1
      clear HCD HY HNQ HNV
      by_cases z1 : y.1 = 115
      · have p3 : ((y.1.toNat : Int) != 115) = false := by rw [bne, show ((y.1.toNat : Int) == 115) = true from (eq8 y.1 115).trans (decide_eq_true z1)]; rfl
        have HZ1 := Lib.hid z1
        clear z1
        obtain ⟨KB, hKB⟩ : ∃ KB, KB = K.map bA := ⟨_, rfl⟩
        have hKl : KB.length ≤ 1099511627776 := by rw [hKB, List.length_map]; omega
        have KEYc := Lib.hid (show SBts wb (T + 2) (.slice ka KB.length kc) KB from by rw [hKB]; exact KEYb.out)
        rw [show K.length = KB.length by rw [hKB, List.length_map]]
        have HKB := Lib.hid hKB
        clear hKB KEYb
        by_cases z2 : y.2 ∈ K
        · have HAS := Lib.hid (show Calls Tryz.prog 68 #[.slice ka KB.length kc, .string (bA y.2)] wb fun e w' => e = .returned (.bool true) ∧ w' = wb from (rhas_any ka kc KB (bA y.2) wb hKl KEYc.out.sin).mono fun e w' ⟨r, e1, e2, e3⟩ => ⟨by rw [e1, e2.mpr (by rw [HKB.out]; exact keys_mem.mpr z2)], e3⟩)
          have HE := Lib.hid (ob_twice (eE_ne (some la)) HFT.out HZ1.out z2)
          have NZ := Lib.hid (show R.e ≠ 0 by rw [HE.out]; decide)
          clear z2
          go_wp2_with fail
          with_reducible refine HAS.out.mono ?_
          rintro e wk ⟨rfl, rfl⟩
          have a0 := IBc.out.s.c0; have a1 := IBc.out.s.c1
          have rc0 := IBc.out.r.c0; have rc1 := IBc.out.r.c1; have rcf := IBc.out.r.fr
          have m1 : ¬ w.heap.size + 1 = w.heap.size := by omega
          go_wp2_with fail
          go_region_held3 (fun wx => wx.cell? ⟨w.heap.size, 0, none⟩ = some (.slice av nv0 cv) ∧ wx.cell? ⟨w.heap.size, 1, none⟩ = some (.int .i64 la)) (go_keep) (first | fail)
          all_goals (repeat go_step)
          all_goals
            have HF := IBc.out.vl.fin av nv0 cv la rfl
            refine bodyPost_ret (vsc_result (nv := .slice none 0 0) (k := 8) Tryz.results45 HF.1 (by kernel_rfl) (by kernel_rfl) (by kernel_rfl)) rfl ?_
            have HP := rvp_no (a := a) (ts := TS) (la := la) (R := R) (A := av) (n := nv0) (c := cv) NZ.out HF.2
            rw [HE.out] at HP
            exact HP
        · have HAS := Lib.hid (show Calls Tryz.prog 68 #[.slice ka KB.length kc, .string (bA y.2)] wb fun e w' => e = .returned (.bool false) ∧ w' = wb from (rhas_any ka kc KB (bA y.2) wb hKl KEYc.out.sin).mono fun e w' ⟨r, e1, e2, e3⟩ => ⟨by
            cases r with
            | false => exact e1
            | true => exact absurd (keys_mem.mp (by rw [← HKB.out]; exact e2.mp rfl)) z2, e3⟩)
          have HZ2 := Lib.hid z2
          clear z2
          go_wp2_with fail
          with_reducible refine HAS.out.mono ?_
          rintro e wk ⟨rfl, rfl⟩
          clear HAS
          go_upto_if 67 with fail
          go_cut [] from 38 to 127 (fun wx => wx = wk)
          case first =>
            go_wp2_with fail
            go_meet
            case rel => exact (rfl : wk = wk)
          case rest =>
            rw [hcut]
            clear hcut
            have hTc : T + 2 ≤ wk.heap.size := by have := IBc.out.q.lt; omega
            go_upto_region 21 with (at_builtin; go_loud (refine wpList_append_keyg rfl (.tmp 72) (.tmp 74) rfl _ wk (T + 2) KB KEYc.out hTc rfl (bA y.2) rfl hKl ?_; intro v4 wd hv4 gbd; have HV4 := Lib.hid hv4; have GBD := Lib.hid gbd; clear hv4 gbd))
            have IBd := Lib.hid (IBc.out.gb GBD.out (fun k hk => (KEYc.out.own hk).1))
            have ROWd := Lib.hid (ROWb.out.gbk KEYc.out GBD.out)
            have KEYd := Lib.hid (show SBts wd (T + 2) v4 ((K ++ [y.2]).map bA) from by rw [List.map_append, ← HKB.out]; exact HV4.out)
            have q0 := IBd.out.q.c0; have q1 := IBd.out.q.c1
            have INt := Lib.hid (show ∀ wx, TInO wx a TS → TInO wx Aq t1 from fun wx hx => INq.out wx hx)
            have NX1 := Lib.hid (nx_any Aq cq t1 la wd (INt.out wd (HIN.out.below IBd.out.b (Nat.le_refl _))) hcq (by omega))
            clear k0 k1 IBc ROWb KEYc HV4 GBD HKB hKl INq hTc
            go_wp2_with fail
            with_reducible refine NX1.out.mono ?_
            rintro e we ⟨Ar, cr, rfl, hcr, hinr, be⟩
            have IBe := Lib.hid (IBd.out.next be)
            have ROWe := Lib.hid (ROWd.out.below be (Nat.le_refl _))
            have KEYe := Lib.hid (KEYd.out.below be (Nat.le_refl _))
            have INr := Lib.hid (show ∀ wx, TInO wx a TS → TInO wx Ar t1.tail from fun wx hx => hinr wx (INt.out wx hx))
            clear q0 q1 NX1 hinr be IBd ROWd KEYd INt
            obtain ⟨z, hz⟩ : ∃ z, z = hdT t1 := ⟨_, rfl⟩
            obtain ⟨cd, hcd⟩ : ∃ cd, cd = cdT (eE (some la)) t1 := ⟨_, rfl⟩
            obtain ⟨nr, hnr⟩ : ∃ nr, nr = t1.tail.length := ⟨_, rfl⟩
            rw [← hz, ← hcd, ← hnr]
            rw [← hnr] at hcr
            have HY := Lib.hid hz
            have HCD := Lib.hid hcd
            have HNR := Lib.hid hnr
            clear hz hcd hnr
            unfold tkV
            have k0 := IBe.out.t.c0; have k1 := IBe.out.t.c1; have kf := IBe.out.t.fr
            have a0 := IBe.out.s.c0; have a1 := IBe.out.s.c1; have af := IBe.out.s.fr
            have hTS : ¬ T = w.heap.size := by omega
            have hST : ¬ w.heap.size = T := by omega
            go_upto_region 22 with fail
            have IBf := Lib.hid (IBe.out.setS z Ar nr cr)
            have ROWf := Lib.hid ((ROWe.out.set2 (b := T) (by omega) (.int .u8 (z.1.toNat : Int)) (.string (bA z.2))).set2 (b := w.heap.size) (by omega) (.slice Ar nr cr) (.int .i64 la))
            have KEYf := Lib.hid ((KEYe.out.set2 (b := T) (by omega) (.int .u8 (z.1.toNat : Int)) (.string (bA z.2))).set2 (b := w.heap.size) (by omega) (.slice Ar nr cr) (.int .i64 la))
            generalize (((we.setCell ⟨T, 0, none⟩ (.int .u8 (z.1.toNat : Int))).setCell ⟨T, 1, none⟩ (.string (bA z.2))).setCell ⟨w.heap.size, 0, none⟩ (.slice Ar nr cr)).setCell ⟨w.heap.size, 1, none⟩ (.int .i64 la) = wf at *
            clear k0 k1 kf a0 a1 af IBe ROWe KEYe hTS hST
            match t1, HY, HCD, HNR, HFT, HSG, INr with
            | [], HY, HCD, HNR, HFT, HSG, INr =>
              have HE := Lib.hid (show R.e = cd by rw [ob_cut2 (eE_ne _) HFT.out HZ1.out HZ2.out, HCD.out]; rfl)
              have NZ := Lib.hid (show R.e ≠ 0 by rw [HE.out, HCD.out]; exact cdT_ne _)
              have p5 : (cd == 0) = false := by rw [HCD.out]; exact beq_eq_false_iff_ne.mpr (cdT_ne _)
              have p6 : (cd != 0) = true := by rw [bne, p5]; rfl
              have a0 := IBf.out.s.c0; have a1 := IBf.out.s.c1
              have rc0 := IBf.out.r.c0; have rc1 := IBf.out.r.c1; have rcf := IBf.out.r.fr
              have m1 : ¬ w.heap.size + 1 = w.heap.size := by omega
              go_wp2_with fail
              go_region_held3 (fun wx => wx.cell? ⟨w.heap.size, 0, none⟩ = some (.slice Ar nr cr) ∧ wx.cell? ⟨w.heap.size, 1, none⟩ = some (.int .i64 la)) (go_keep) (first | fail)
              all_goals (repeat go_step)
              all_goals
                have HF := IBf.out.vl.fin Ar nr cr la rfl
                refine bodyPost_ret (vsc_result (nv := .slice none 0 0) (k := cd) Tryz.results45 HF.1 (by kernel_rfl) (by kernel_rfl) (by kernel_rfl)) rfl ?_
                have HP := rvp_no (a := a) (ts := TS) (la := la) (R := R) (A := Ar) (n := nr) (c := cr) NZ.out HF.2
                rw [HE.out] at HP
                exact HP
            | c :: tv2, HY, HCD, HNR, HFT, HSG, INr =>
              obtain rfl : cd = 0 := HCD.out
              obtain rfl : z = c := HY.out
              obtain rfl : nr = tv2.length := HNR.out
              have k0 := IBf.out.t.c0
              rw [List.length_cons] at hnv1 hnv2
              clear HCD HY HNR
              by_cases z3 : z.1 = 58
              · have p5 : ((z.1.toNat : Int) != 58) = false := by rw [bne, show ((z.1.toNat : Int) == 58) = true from (eq8 z.1 58).trans (decide_eq_true z3)]; rfl
                have TL := Lib.hid (tl_obj (eE_ne (some la)) HFT.out HZ1.out HZ2.out z3)
                have HSV := Lib.hid HSG.out.tail.tail
                have RL := Lib.hid (fun h => rv_len (eE_ne (some la)) (g := g) (d := d) (key := y.2) HSV.out h)
                have HVX := Lib.hid (show Calls Tryz.prog 23 #[.agg #[.slice Ar tv2.length cr, .int .i64 la], .string (bA y.2), .int .i64 (d : Nat)] wf (RVp Ar tv2 la (rvT (eE (some la)) g d y.2 tv2) wf) from HV.out g hgf Ar cr tv2 y.2 d wf (INr.out wf (HIN.out.below IBf.out.b (Nat.le_refl _))) hcr HSV.out HD.out (by omega) (by omega))
                have IN2 := Lib.hid (show ∀ wx, TInO wx a TS → TInO wx Ar tv2 from fun wx hx => INr.out wx hx)
                have IB := IBf; have ROW := ROWf; have KEY := KEYf
                have a0 := IB.out.s.c0; have a1 := IB.out.s.c1
                clear z3 HFT HSG HZ1 HZ2 INr IBf ROWf KEYf
                generalize rvT (eE (some la)) g d y.2 tv2 = R1 at *
                obtain ⟨key, hkey⟩ : ∃ key, key = y.2 := ⟨_, rfl⟩
                go_upto_if 90 with fail
                go_cut [] from 38 to 127 (fun wx => wx = wf)
                case first =>
                  go_wp2_with fail
                  go_meet
                  case rel => exact (rfl : wf = wf)
                case rest =>
                  rw [hcut]
                  clear hcut
                  go_wp2_with fail
                  refine HVX.out.mono ?_
                  rintro e w2 ⟨nv2, A2, m2, cc2, m, rfl, hg, hrow2, hml, b2⟩
                  have IB2 := Lib.hid (IB.out.next b2)
                  have ROW2 := Lib.hid (ROW.out.below b2 (Nat.le_refl _))
                  have KEY2 := Lib.hid (KEY.out.below b2 (Nat.le_refl _))
                  have HR2 := Lib.hid hrow2
                  have hz2 : wf.heap.size ≤ w2.heap.size := b2.size
                  have OWN := Lib.hid (show ∀ k, u9.ownBlock = some k → T + 2 ≤ k ∧ k < w2.heap.size from fun k hk => ⟨(ROW.out.own hk).1, Nat.lt_of_lt_of_le (ROW.out.own hk).2.1 hz2⟩)
                  clear hrow2 a0 a1 IB ROW KEY HVX
                  by_cases he : R1.e = 0
                  · have p2 : (R1.e != 0) = false := by rw [he]; rfl
                    obtain ⟨g1, g2, g3, g4⟩ := hg he
                    obtain ⟨l1, l2, l3⟩ := RL.out he
                    subst g1; subst g2
                    have TLC := Lib.hid (TL.out.cut he)
                    have TLF := Lib.hid (fun c r1 h => TL.out.fin c r1 he h)
                    have TLO := Lib.hid (fun c r1 h => TL.out.form c r1 he h)
                    have TLM := Lib.hid (fun c r1 h => TL.out.more c r1 he h)
                    have IN3 := Lib.hid (show ∀ wx, TInO wx a TS → TInO wx A2 R1.r from fun wx hx => g4 wx (IN2.out wx hx))
                    have HSG := Lib.hid l3
                    clear he hg g4 hml TL RL l3
                    generalize R1.r = tr at *
                    generalize R1.l = lv at *
                    generalize R1.e = er at *
                    obtain ⟨q, hq⟩ : ∃ q, q = tr.length := ⟨_, rfl⟩
                    rw [← hq] at g3 l1 l2
                    have HQ := Lib.hid hq
                    have S3 := Lib.hid (st_alloc w2 A2 q cc2 la)
                    have ALB := Lib.hid (alloc_below w2 (.cells #[.slice A2 q cc2, .int .i64 la] 51))
                    have hz3 : (w2.alloc (.cells #[.slice A2 q cc2, .int .i64 la] 51)).heap.size = w2.heap.size + 1 := by simp
                    rw [← hq]
                    clear hq
                    go_upto_region 27 with fail
                    generalize w2.alloc (.cells #[.slice A2 q cc2, .int .i64 la] 51) = w3 at *
                    have IB3 := Lib.hid (IB2.out.next ALB.out)
                    have ROW3 := Lib.hid (ROW2.out.below ALB.out (Nat.le_refl _))
                    have KEY3 := Lib.hid (KEY2.out.below ALB.out (Nat.le_refl _))
                    have HR3 := Lib.hid (HR2.out.below ALB.out (Nat.le_refl _))
                    have hT3 : T + 2 ≤ w3.heap.size := by have := IB2.out.q.lt; omega
                    have hlen : acc.length + lv.length ≤ 1099511627776 := by omega
                    clear IB2 ROW2 KEY2 HR2 ALB
                    go_upto_region 30 with (at_builtin; go_loud (refine wpList_append_ndg rfl (.tmp 105) (.tmp 106) 23 rfl 28 Tryz.underlying23 infoM u9 (T + 2) acc ROW3.out hT3 rfl nv2 _ lv HR3.out rfl hlen ?_; intro v4 w4 hv4 gb4; have HV4 := Lib.hid hv4; have GB4 := Lib.hid gb4; clear hv4 gb4))
                    have IB4 := Lib.hid (IB3.out.gb GB4.out (fun k hk => (OWN.out k hk).1))
                    have KEY4 := Lib.hid (KEY3.out.gbn ROW3.out GB4.out)
                    have hz4 : w3.heap.size ≤ w4.heap.size := GB4.out.size
                    have s4 : StT w4 w2.heap.size A2 q cc2 la := (GB4.out.block w2.heap.size (by omega) (fun e => by have := (OWN.out _ e.symm).2; omega)).trans S3.out
                    have b0 := s4.c0; have b1 := s4.c1
                    have NX := Lib.hid (show Calls Tryz.prog 44 #[.agg #[.slice A2 q cc2, .int .i64 la]] w4 _ from HQ.out ▸ nx_any A2 cc2 tr la w4 (IN3.out w4 (HIN.out.below IB4.out.b (Nat.le_refl _))) (HQ.out ▸ g3) (by rw [← HQ.out]; omega))
                    clear IB3 ROW3 KEY3 HR3 s4 S3
                    go_wp2_with fail
                    with_reducible refine NX.out.mono ?_
                    rintro e w5 ⟨A5, c5, rfl, hc5, hin5, b5⟩
                    have IB5 := Lib.hid (IB4.out.next b5)
                    have ROW5 := Lib.hid (HV4.out.below b5 (Nat.le_refl _))
                    have KEY5 := Lib.hid (KEY4.out.below b5 (Nat.le_refl _))
                    have IN5 := Lib.hid (fun wx hx => hin5 wx (IN3.out wx hx))
                    clear hin5 b5 b0 b1 IB4 HV4 KEY4 NX GB4
                    obtain ⟨yv, hy⟩ : ∃ yv, yv = hdT tr := ⟨_, rfl⟩
                    obtain ⟨cd, hcd⟩ : ∃ cd, cd = cdT (eE (some la)) tr := ⟨_, rfl⟩
                    obtain ⟨q5, hq5⟩ : ∃ q5, q5 = tr.tail.length := ⟨_, rfl⟩
                    rw [← hy, ← hcd, ← hq5]
                    rw [← hq5] at hc5
                    have HY := Lib.hid hy
                    have HCD := Lib.hid hcd
                    have HQ5 := Lib.hid hq5
                    clear hy hcd hq5
                    unfold tkV
                    have k0 := IB5.out.t.c0; have k1 := IB5.out.t.c1; have kf := IB5.out.t.fr
                    have a0 := IB5.out.s.c0; have a1 := IB5.out.s.c1; have af := IB5.out.s.fr
                    have hTS : ¬ T = w.heap.size := by have := IB5.out.hT; omega
                    have hST : ¬ w.heap.size = T := by have := IB5.out.hT; omega
                    have HTT := Lib.hid IB5.out.hT
                    go_upto_region 31 with fail
                    have IB6 := Lib.hid (IB5.out.setS yv A5 q5 c5)
                    have ROW6 := Lib.hid ((ROW5.out.set2 (b := T) (by omega) (.int .u8 (yv.1.toNat : Int)) (.string (bA yv.2))).set2 (b := w.heap.size) (by have := HTT.out; omega) (.slice A5 q5 c5) (.int .i64 la))
                    have KEY6 := Lib.hid ((KEY5.out.set2 (b := T) (by omega) (.int .u8 (yv.1.toNat : Int)) (.string (bA yv.2))).set2 (b := w.heap.size) (by have := HTT.out; omega) (.slice A5 q5 c5) (.int .i64 la))
                    generalize (((w5.setCell ⟨T, 0, none⟩ (.int .u8 (yv.1.toNat : Int))).setCell ⟨T, 1, none⟩ (.string (bA yv.2))).setCell ⟨w.heap.size, 0, none⟩ (.slice A5 q5 c5)).setCell ⟨w.heap.size, 1, none⟩ (.int .i64 la) = w6 at *
                    clear k0 k1 kf a0 a1 af IB5 ROW5 KEY5
                    match tr, HY, HCD, HQ5, HQ, TLC, TLF, TLO, TLM, HSG, IN5 with
                    | [], HY, HCD, HQ5, HQ, TLC, TLF, TLO, TLM, HSG, IN5 =>
                      have p3 : (cd != 0) = true := by rw [HCD.out]; exact bne_iff_ne.mpr (cdT_ne _)
                      have HE := Lib.hid (show R.e = cd by rw [TLC.out rfl, HCD.out]; rfl)
                      have NZ := Lib.hid (show R.e ≠ 0 by rw [HE.out]; exact bne_iff_ne.mp p3)
                      have a0 := IB6.out.s.c0; have a1 := IB6.out.s.c1
                      have rc0 := IB6.out.r.c0; have rc1 := IB6.out.r.c1; have rcf := IB6.out.r.fr
                      have m1 : ¬ w.heap.size + 1 = w.heap.size := by omega
                      go_wp2_with fail
                      go_region_held3 (fun wx => wx.cell? ⟨w.heap.size, 0, none⟩ = some (.slice A5 q5 c5) ∧ wx.cell? ⟨w.heap.size, 1, none⟩ = some (.int .i64 la)) (go_keep) (first | fail)
                      all_goals (repeat go_step)
                      all_goals
                        have HF := IB6.out.vl.fin A5 q5 c5 la rfl
                        refine bodyPost_ret (vsc_result (nv := .slice none 0 0) (k := cd) Tryz.results45 HF.1 (by kernel_rfl) (by kernel_rfl) (by kernel_rfl)) rfl ?_
                        have HP := rvp_no (a := a) (ts := TS) (la := la) (R := R) (A := A5) (n := q5) (c := c5) NZ.out HF.2
                        rw [HE.out] at HP
                        exact HP
                    | c :: r1, HY, HCD, HQ5, HQ, TLC, TLF, TLO, TLM, HSG, IN5 =>
                      obtain rfl : cd = 0 := HCD.out
                      obtain rfl : yv = c := HY.out
                      obtain rfl : q5 = r1.length := HQ5.out
                      have hqr : q = r1.length + 1 := HQ.out
                      have k0 := IB6.out.t.c0
                      clear HCD HY HQ5 HQ TLC
                      by_cases c1 : yv.1 = cls true
                      · have p4 : ((yv.1.toNat : Int) == 125) = true := (eq8 yv.1 125).trans (decide_eq_true c1)
                        have HE := Lib.hid (TLF.out yv r1 rfl c1)
                        clear c1 TLF TLO TLM
                        have a0 := IB6.out.s.c0; have a1 := IB6.out.s.c1
                        have r0 := IB6.out.r.c0; have r1' := IB6.out.r.c1; have rf := IB6.out.r.fr
                        have m1 : ¬ w.heap.size + 1 = w.heap.size := by omega
                        go_wp2_with fail
                        go_region_held3 (fun wx => wx.cell? ⟨w.heap.size, 0, none⟩ = some (.slice A5 r1.length c5) ∧ wx.cell? ⟨w.heap.size, 1, none⟩ = some (.int .i64 la)) (go_keep) (first | fail)
                        all_goals (repeat go_step)
                        all_goals
                          have HF := IB6.out.vl.fin A5 r1.length c5 la rfl
                          refine bodyPost_ret (vsc_result (nv := v4) (k := 0) Tryz.results45 HF.1 (by kernel_rfl) (by kernel_rfl) (by kernel_rfl)) rfl ?_
                          obtain ⟨e1, e2, e3⟩ := HE.out
                          have hT1 := HTT.out
                          have hnT := HNn.out
                          refine ⟨v4, A5, r1.length, c5, acc ++ lv, by rw [e1], fun _ => ⟨e2.symm, by rw [e3], hc5, fun wx hx => by rw [e3]; exact IN5.out wx hx⟩, ?_, by rw [List.length_append]; omega, HF.2⟩
                          exact ((ROW6.out.set2 (b := w.heap.size + 1) (by omega) (.slice A5 r1.length c5) (.int .i64 la)).drew).base (by omega)
                      · have p4 : ((yv.1.toNat : Int) == 125) = false := (eq8 yv.1 125).trans (decide_eq_false c1)
                        by_cases c2 : yv.1 = 44
                        · have p5 : ((yv.1.toNat : Int) != 44) = false := by rw [bne, show ((yv.1.toNat : Int) == 44) = true from (eq8 yv.1 44).trans (decide_eq_true c2)]; rfl
                          have HFT := Lib.hid (TLM.out yv r1 rfl c1 c2)
                          clear c1 c2 TLF TLO TLM
                          go_wp2_with fail
                          go_roundw
                          case rel =>
                            have hnT := HNn.out
                            refine ⟨g - 1, acc ++ lv, K ++ [y.2], r1, A5, c5, yv, _, _, _, j + 1, IB6.out, ROW6.out, KEY6.out, by go_num, by omega, by rw [List.length_append]; omega, by rw [List.length_append, List.length_singleton]; omega, by omega, by omega, hc5, HSG.out.tail, IN5.out, ?_, fun e => by cases e⟩
                            have e : g - 1 + 2 = g + 1 := by omega
                            rw [e]; exact HFT.out
                          case measure => simp [intOf]; omega
                        · have p5 : ((yv.1.toNat : Int) != 44) = true := by rw [bne, show ((yv.1.toNat : Int) == 44) = false from (eq8 yv.1 44).trans (decide_eq_false c2)]; rfl
                          have HE := Lib.hid (TLO.out yv r1 rfl c1 c2)
                          have NZ := Lib.hid (show R.e ≠ 0 by rw [HE.out]; decide)
                          clear c1 c2 TLF TLO TLM
                          have a0 := IB6.out.s.c0; have a1 := IB6.out.s.c1
                          have rc0 := IB6.out.r.c0; have rc1 := IB6.out.r.c1; have rcf := IB6.out.r.fr
                          have m1 : ¬ w.heap.size + 1 = w.heap.size := by omega
                          go_wp2_with fail
                          go_region_held3 (fun wx => wx.cell? ⟨w.heap.size, 0, none⟩ = some (.slice A5 r1.length c5) ∧ wx.cell? ⟨w.heap.size, 1, none⟩ = some (.int .i64 la)) (go_keep) (first | fail)
                          all_goals (repeat go_step)
                          all_goals
                            have HF := IB6.out.vl.fin A5 r1.length c5 la rfl
                            refine bodyPost_ret (vsc_result (nv := .slice none 0 0) (k := 3) Tryz.results45 HF.1 (by kernel_rfl) (by kernel_rfl) (by kernel_rfl)) rfl ?_
                            have HP := rvp_no (a := a) (ts := TS) (la := la) (R := R) (A := A5) (n := r1.length) (c := c5) NZ.out HF.2
                            rw [HE.out] at HP
                            exact HP
                  · have p2 : (R1.e != 0) = true := bne_iff_ne.mpr he
                    have HE := Lib.hid (TL.out.bad he)
                    have NZ := Lib.hid (show R.e ≠ 0 by rw [HE.out]; exact he)
                    have ALB := Lib.hid (alloc_below w2 (.cells #[.slice A2 m2 cc2, .int .i64 la] 51))
                    clear he hg hml TL RL
                    generalize R1.e = er at *
                    go_upto_region 27 with fail
                    generalize w2.alloc (.cells #[.slice A2 m2 cc2, .int .i64 la] 51) = w3 at *
                    have IB3 := Lib.hid (IB2.out.next ALB.out)
                    clear IB2
                    have a0 := IB3.out.s.c0; have a1 := IB3.out.s.c1
                    have rc0 := IB3.out.r.c0; have rc1 := IB3.out.r.c1; have rcf := IB3.out.r.fr
                    have m1 : ¬ w.heap.size + 1 = w.heap.size := by omega
                    go_wp2_with fail
                    go_region_held3 (fun wx => wx.cell? ⟨w.heap.size, 0, none⟩ = some (.slice Ar tv2.length cr) ∧ wx.cell? ⟨w.heap.size, 1, none⟩ = some (.int .i64 la)) (go_keep) (first | fail)
                    all_goals (repeat go_step)
                    all_goals
                      have HF := IB3.out.vl.fin Ar tv2.length cr la rfl
                      refine bodyPost_ret (vsc_result (nv := .slice none 0 0) (k := er) Tryz.results45 HF.1 (by kernel_rfl) (by kernel_rfl) (by kernel_rfl)) rfl ?_
                      have HP := rvp_no (a := a) (ts := TS) (la := la) (R := R) (A := Ar) (n := tv2.length) (c := cr) NZ.out HF.2
                      rw [HE.out] at HP
                      exact HP
              · have p5 : ((z.1.toNat : Int) != 58) = true := by rw [bne, show ((z.1.toNat : Int) == 58) = false from (eq8 z.1 58).trans (decide_eq_false z3)]; rfl
                have HE := Lib.hid (ob_form (eE_ne (some la)) HFT.out HZ1.out HZ2.out z3)
                have NZ := Lib.hid (show R.e ≠ 0 by rw [HE.out]; decide)
                clear z3
                have a0 := IBf.out.s.c0; have a1 := IBf.out.s.c1
                have rc0 := IBf.out.r.c0; have rc1 := IBf.out.r.c1; have rcf := IBf.out.r.fr
                have m1 : ¬ w.heap.size + 1 = w.heap.size := by omega
                go_wp2_with fail
                go_region_held3 (fun wx => wx.cell? ⟨w.heap.size, 0, none⟩ = some (.slice Ar tv2.length cr) ∧ wx.cell? ⟨w.heap.size, 1, none⟩ = some (.int .i64 la)) (go_keep) (first | fail)
                all_goals (repeat go_step)
                all_goals
                  have HF := IBf.out.vl.fin Ar tv2.length cr la rfl
                  refine bodyPost_ret (vsc_result (nv := .slice none 0 0) (k := 3) Tryz.results45 HF.1 (by kernel_rfl) (by kernel_rfl) (by kernel_rfl)) rfl ?_
                  have HP := rvp_no (a := a) (ts := TS) (la := la) (R := R) (A := Ar) (n := tv2.length) (c := cr) NZ.out HF.2
                  rw [HE.out] at HP
                  exact HP
      · have p3 : ((y.1.toNat : Int) != 115) = true := by rw [bne, show ((y.1.toNat : Int) == 115) = false from (eq8 y.1 115).trans (decide_eq_false z1)]; rfl
        have HE := Lib.hid (ob_kind (eE_ne (some la)) HFT.out z1)
        have NZ := Lib.hid (show R.e ≠ 0 by rw [HE.out]; decide)
        clear z1
        have a0 := IBc.out.s.c0; have a1 := IBc.out.s.c1
        have rc0 := IBc.out.r.c0; have rc1 := IBc.out.r.c1; have rcf := IBc.out.r.fr
        have m1 : ¬ w.heap.size + 1 = w.heap.size := by omega
        go_wp2_with fail
        go_region_held3 (fun wx => wx.cell? ⟨w.heap.size, 0, none⟩ = some (.slice av nv0 cv) ∧ wx.cell? ⟨w.heap.size, 1, none⟩ = some (.int .i64 la)) (go_keep) (first | fail)
        all_goals (repeat go_step)
        all_goals
          have HF := IBc.out.vl.fin av nv0 cv la rfl
          refine bodyPost_ret (vsc_result (nv := .slice none 0 0) (k := 3) Tryz.results45 HF.1 (by kernel_rfl) (by kernel_rfl) (by kernel_rfl)) rfl ?_
          have HP := rvp_no (a := a) (ts := TS) (la := la) (R := R) (A := av) (n := nv0) (c := cv) NZ.out HF.2
          rw [HE.out] at HP
          exact HP
end Go.Proofs.YtnbhhnkcfbfdcaaGreatDoor
