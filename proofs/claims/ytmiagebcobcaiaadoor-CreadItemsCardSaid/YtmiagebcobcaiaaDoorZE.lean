/- Several texts in one (CrD, CrE): each begins with its own words. -/
import Derived.Test.YtmiagebcobcaiaaDoorZD
/- Package cread: Struct. -/
namespace Go.Proofs.YtmiagebcobcaiaaDoor
open Go Go.RowKit
set_option linter.unusedVariables false

theorem Tab.onlyb {w w' : World} {b : Nat} (h : Tab w) (ho : Only b w w') (hg : 0 ≠ b) : Tab w' := fun k hk => by
  have := ho.block 0 h.lt hg
  rw [World.cell?_of_block (w := w) this]; exact h k hk
theorem ret_st {v : Value} {a b c d : Int} (h : a = b) (k : c = d) : Ending.returned (.tuple #[v, .int .i64 a, .int .i64 c]) = .returned (.tuple #[v, .int .i64 b, .int .i64 d]) := by rw [h, k]
/-- A round's reading, once for all: what is behind a field. -/
theorem st_step {d m : Nat} {last : Int} {c R : CS} {pre L : List GD} (hok : c.ok) (hm : 0 < m) (hx : ¬ c.hKd last = 0) (hR : fldTo (rdTo d) m last c = R) (hL : R.er = 0 → pre ++ stL (rdTo d) m last c = L) {y : GD}
    (hy : (valTo (rdTo d) (c.hKd last) (c.hTo last)).er = 0 → y = gAt (rdTo d) (c.hId last) (c.hKd last) (c.hTo last)) :
    fldTo (rdTo d) (m - 1) (c.hId last) (valTo (rdTo d) (c.hKd last) (c.hTo last)) = R ∧ (R.er = 0 → (pre ++ [y]) ++ stL (rdTo d) (m - 1) (c.hId last) (valTo (rdTo d) (c.hKd last) (c.hTo last)) = L) := by
  rw [fld_next _ hm, if_neg hx] at hR
  refine ⟨hR, fun he => ?_⟩
  have hv := vrd_std d (c.hKd last) (c.hTo last) (CS.hTo_ok hok last)
  have h0 : (valTo (rdTo d) (c.hKd last) (c.hTo last)).er = 0 := by
    by_cases h0 : (valTo (rdTo d) (c.hKd last) (c.hTo last)).er = 0
    · exact h0
    · rw [fldg_bad _ hv.1 h0] at hR
      rw [← hR] at he; exact absurd he h0
  have := hL he
  rw [stL_next _ hm, if_neg hx] at this
  rw [hy h0, List.append_assoc]
  exact this
def StRel (s : ByteArray) (d E : Nat) (R : CS) (L : List GD) (b Q B : Nat) (deep : Int) (w : World) (v u : Value) (wr : World) : Prop :=
  ∃ (m : Nat) (last : Int) (c : CS) (pre : List GD), u = .int .i64 last ∧ numB last = true ∧ c.ok ∧ c.s = s ∧ c.en = E ∧ c.lf < m ∧ fldTo (rdTo d) m last c = R ∧ (R.er = 0 → pre ++ stL (rdTo d) m last c = L) ∧ pre.length ≤ c.at_ ∧
    CurT 83 wr b c ∧ RdT wr Q s (some ⟨b, 0, none⟩) deep ∧ Tab wr ∧ GRow 39 wr B v pre ∧ B ≤ wr.heap.size ∧ Below w.heap.size w wr
set_option maxHeartbeats 2000000 in
theorem struct_any (s : ByteArray) (deep : Int) (w : World) (hs : s.size ≤ 1099511627776) (hd : 0 ≤ deep ∧ deep ≤ 1000) (ht : Tab w) :
    Calls Tryd.prog 7 #[.string s, .int .i64 deep] w fun e w' => ∃ v, e = .returned (.tuple #[v, .int .i64 (stN s deep : Nat), .int .i64 (stR s deep).er]) ∧ GRow 39 w' w.heap.size v (stF s deep) ∧ Below w.heap.size w w' := by
  have HE := Lib.hid (enter_any s deep w (by omega) hd)
  have hok0 := cAt_ok (s := s) (by omega) deep
  obtain ⟨a1, a2, a3⟩ := cAt_s s deep
  obtain ⟨R, hR⟩ : ∃ R, R = stR s deep := ⟨_, rfl⟩
  obtain ⟨L, hL⟩ : ∃ L, L = stL (rdTo (dAt deep)) fuelN 0 (cAt s deep) := ⟨_, rfl⟩
  obtain ⟨N, hN⟩ : ∃ N, N = stN s deep := ⟨_, rfl⟩
  obtain ⟨F, hF⟩ : ∃ F, F = stF s deep := ⟨_, rfl⟩
  have HN := Lib.hid (show N = if R.er = 0 then R.at_ else 0 by rw [hR, hN]; rfl)
  have HF := Lib.hid (show F = if R.er = 0 then L else [] by rw [hF, hR, hL]; rfl)
  rw [← hN, ← hF, ← hR]
  have hR' : fldTo (rdTo (dAt deep)) fuelN 0 (cAt s deep) = R := hR.symm
  have gl := ht.lt
  have hdp : 0 ≤ deep + 1 := by omega
  obtain ⟨dd, hdd⟩ : ∃ dd, dd = dAt deep := ⟨_, rfl⟩
  have hdd' : (32 - (deep + 1)).toNat = dd := by rw [hdd]; rfl
  rw [← hdd] at hR' hL
  have H0 := Lib.hid (show (cAt s deep).lf < fuelN ∧ fldTo (rdTo dd) fuelN 0 (cAt s deep) = R ∧ (R.er = 0 → [] ++ stL (rdTo dd) fuelN 0 (cAt s deep) = L) from ⟨lf_fuel hok0, hR', fun _ => hL.symm⟩)
  obtain ⟨c0, hc0⟩ : ∃ c0, c0 = cAt s deep := ⟨_, rfl⟩
  rw [← hc0] at H0 HE hok0 a1 a2 a3
  obtain ⟨deep', hdeep⟩ : ∃ x, x = deep + 1 := ⟨_, rfl⟩
  rw [← hdeep] at hdp hdd' HE
  clear hR hL hN hF hR' hdd hc0 hdeep
  unfold rdV at HE
  go_enter Tryd.func7, Tryd.ntmps7
  go_wp2_with fail
  with_reducible refine HE.out.mono ?_
  rintro e w1 ⟨b, rfl, hb, h1, b1⟩
  obtain ⟨Q, hQ⟩ : ∃ Q, Q = w1.heap.size := ⟨_, rfl⟩
  obtain ⟨w2, hw2⟩ : ∃ w2, w2 = w1.alloc (.cells #[.string s, .pointer (some ⟨b, 0, none⟩), .int .i64 deep'] 48) := ⟨_, rfl⟩
  have h2 : CurT 83 w2 b c0 := by rw [hw2]; exact h1.allocOld _
  have r2 : RdT w2 Q s (some ⟨b, 0, none⟩) deep' := by rw [hw2, hQ]; exact RdT.new w1 _ _ _
  have b2 : Below w.heap.size w w2 := by rw [hw2]; exact b1.trans (((Below.refl _ w1).alloc (Nat.le_refl _) _).mono b1.size)
  have t2 : Tab w2 := ht.below b2 gl
  have hgb : 0 ≠ b := by omega
  have hbQ : b ≠ Q := by rw [hQ]; have := h1.lt; omega
  have hBw := b2.size
  have hbl := h2.lt
  have hQl := r2.lt
  obtain ⟨B, hB⟩ : ∃ B, B = w2.heap.size := ⟨_, rfl⟩
  have HR0 := Lib.hid (show StRel s dd s.size R L b Q B deep' w (.slice none 0 0) (.int .i64 0) w2 from
    ⟨fuelN, 0, c0, [], rfl, rfl, hok0, a1, a2, H0.out.1, H0.out.2.1, H0.out.2.2, by simp, h2, r2, t2, grow_nil _ _ _, by rw [hB]; exact Nat.le_refl _, b2⟩)
  rw [← hB] at hBw hbl hQl
  have h2 := Lib.hid hs
  clear h1 b1 r2 b2 t2 hok0 a1 a2 a3 H0 HE ht hs hB
  go_wp2_with fail
  rw [← hQ, ← hw2]
  clear hQ hw2
  go_loopw [4, 8] (fun v u wr => StRel s dd s.size R L b Q B deep' w v u wr) (fun _ _ wr => s.size - atOf b wr)
  case atStart => exact HR0.out
  case round =>
    clear HR0
    obtain ⟨m, last, c, pre, rfl, hnl, hok, hcs, hen, hlf, hT, hL, hpl, q1, r1, t1, row1, hB1, bel1⟩ := hrel
    have HX := Lib.hid (fun w (h : CurT 83 w b c) => field_any h hok last hnl)
    have hat := atOf_cur q1
    have hm : 0 < m := by omega
    have hokh := CS.hTo_ok hok last
    have hsh : (c.hTo last).s = s := (head_std last c hok).2.1.trans hcs
    have henh : (c.hTo last).en = s.size := (head_std last c hok).2.2.1.trans hen
    have hkl := CS.hKd_le c last
    have hnum := CS.hId_numb c last
    have g0 := r1.c0; have g1 := r1.c1; have g2 := r1.c2
    by_cases h0 : c.hKd last = 0
    · rw [fld_next _ hm, if_pos h0] at hT
      have hL' : R.er = 0 → pre = L := fun he => by have := hL he; rw [stL_next _ hm, if_pos h0, List.append_nil] at this; exact this
      rw [h0, hT] at HX
      rw [hT] at hokh
      have HL := Lib.hid hL'
      have BEL := Lib.hid bel1
      have TOK := Lib.hid hokh
      clear hL hL' hnum hkl henh hsh hokh hm hat hT h0 hpl hlf hen hcs hnl t1 hok bel1 hd hdd' hdp
      generalize c.hId last = i at *
      go_wp2_with fail
      with_reducible refine (HX.out _ q1).mono ?_
      rintro e w4 ⟨rfl, q4, o4⟩
      have r4 := r1.only o4 hbQ.symm
      have row4 := row1.only o4 hbl
      have bel4 := BEL.out.trans (o4.below hb BEL.out.size)
      clear g0 g1 g2 q1 r1 o4 BEL row1
      have g0 := r4.c0; have g1 := r4.c1; have g2 := r4.c2
      go_wp2_with fail
      with_reducible refine (err_any q4).mono ?_
      rintro e w5 ⟨rfl, hww⟩
      rw [hww]; clear hww
      by_cases he : R.er = 0
      · have p1 : (R.er != 0) = false := by rw [he]; rfl
        have ROW := Lib.hid (row4.base hBw)
        rw [HL.out he, show L = F by rw [HF.out, if_pos he]] at ROW
        have HN := Lib.hid (show N = R.at_ by rw [HN.out, if_pos he])
        have HE := Lib.hid he
        clear he HL row4
        go_wp2_with fail
        with_reducible refine (at_any q4 TOK.out).mono ?_
        rintro e w5 ⟨rfl, hww⟩
        rw [hww]; clear hww
        go_wp2
        go_ret3
        exact ⟨_, ret_st (by rw [HN.out]) HE.out.symm, ROW.out, bel4⟩
      · have p1 : (R.er != 0) = true := bne_iff_ne.mpr he
        have HN := Lib.hid (show N = 0 by rw [HN.out, if_neg he])
        have HF := Lib.hid (show F = [] by rw [HF.out, if_neg he])
        clear he HL row4
        go_wp2
        go_ret3
        exact ⟨_, ret_st (by rw [HN.out]; rfl) rfl, by rw [HF.out]; exact grow_nil _ _ _, bel4⟩
    · obtain ⟨hm1, hm2, hm3⟩ := head_more hok h0
      have hst := fun y hy => st_step (y := y) hok hm h0 hT hL hy
      have hv := vrd_std dd (c.hKd last) (c.hTo last) hokh
      have HV0 := fun w (h : CurT 83 w b (c.hTo last)) (ht : Tab w) => value_all h hokh deep' (c.hId last) hdp (c.hKd last) hkl ht hgb
      rw [hdd', hsh] at HV0
      unfold rdV at HV0
      obtain ⟨x, hx⟩ : ∃ x, x = c.hKd last := ⟨_, rfl⟩
      obtain ⟨i, hi⟩ : ∃ i, i = c.hId last := ⟨_, rfl⟩
      obtain ⟨h, hh⟩ : ∃ h, h = c.hTo last := ⟨_, rfl⟩
      rw [← hx, ← hi, ← hh] at hst HV0
      rw [← hx, ← hi, ← hh] at HX
      rw [← hx, ← hh] at hv
      rw [← hh] at hm1 hm2 henh hsh
      rw [← hi] at hnum
      rw [← hx] at h0
      have p1 : ((x : Int) == 0) = false := beq_eq_false_iff_ne.mpr (by omega)
      have p1' : (x == 0) = false := beq_eq_false_iff_ne.mpr h0
      obtain ⟨D, hD⟩ : ∃ D, D = valTo (rdTo dd) x h := ⟨_, rfl⟩
      rw [← hD] at hst HV0 hv
      obtain ⟨v1, v2, v3, v4, v5⟩ := hv
      have HV := Lib.hid HV0
      have HST := Lib.hid hst
      have HD := Lib.hid (show D.ok ∧ D.s = s ∧ D.en = s.size ∧ D.lf < m - 1 from ⟨v1, v2.trans hsh, v3.trans henh, by have := lf_less hok v1 (by omega) (show c.at_ + 1 ≤ D.at_ by omega); omega⟩)
      have hme : D.at_ ≤ s.size ∧ c.at_ + 1 ≤ D.at_ := ⟨by have := v1.1; omega, by omega⟩
      have HNUM := Lib.hid hnum
      have hpl2 : pre.length ≤ 1099511627776 := by have := h2.out; omega
      have BEL := Lib.hid bel1
      clear hD hi hx hh hst HV0 h0 hnum v1 v2 v3 v4 v5 hm1 hm2 hm3 henh hsh hkl hokh hm hT hL hlf hen hcs hnl hok bel1 hd hdd' hdp
      go_wp2_with fail
      with_reducible refine (HX.out _ q1).mono ?_
      rintro e w4 ⟨rfl, q4, o4⟩
      have r4 := r1.only o4 hbQ.symm
      have t4 := t1.onlyb o4 hgb
      have row4 := row1.only o4 hbl
      have hB4 := Nat.le_trans hB1 o4.size
      have bel4 := BEL.out.trans (o4.below hb BEL.out.size)
      clear g0 g1 g2 q1 r1 t1 o4 BEL row1 hB1
      have g0 := r4.c0; have g1 := r4.c1; have g2 := r4.c2
      go_wp2_with fail
      refine (HV.out _ q4 t4).mono ?_
      rintro e w5 ⟨y, rfl, q5, o5, hy⟩
      have HS := Lib.hid (HST.out y hy)
      have r5 := r4.only o5 hbQ.symm
      have t5 := t4.onlyb o5 hgb
      have row5 := row4.only o5 hbl
      have hB5 := Nat.le_trans hB4 o5.size
      have bel5 := bel4.trans (o5.below hb bel4.size)
      clear g0 g1 g2 q4 r4 t4 o5 bel4 row4 hB4 hy HST
      obtain ⟨y0, y1, y2, y3, y4, y5⟩ := y
      unfold gfV
      dsimp only
      go_wp2_with (at_builtin; go_loud (refine wpList_append_gd rfl (.tmp 23) (.tmp 28) 23 rfl 39 Tryd.underlying23 infoCf _ w5 B pre row5 hB5 rfl _ _ _ _ _ _ (y0, y1, y2, y3, y4, y5) rfl rfl rfl rfl rfl rfl rfl hpl2 ?_; intro v7 w7 hv7 hb7 _))
      have q7 := Below.cur hb7 q5 hbl
      have r7 := r5.below hb7 hQl
      have t7 := t5.below hb7 (by omega)
      have bel7 := bel5.trans (hb7.mono hBw)
      have hB7 := Nat.le_trans hB5 hb7.size
      go_roundw
      case rel => exact ⟨m - 1, i, D, pre ++ [(y0, y1, y2, y3, y4, y5)], rfl, HNUM.out, HD.out.1, HD.out.2.1, HD.out.2.2.1, HD.out.2.2.2, HS.out.1, HS.out.2, by rw [List.length_append]; simp; omega, q7, r7, t7, hv7, hB7, bel7⟩
      case measure =>
        rw [hat, atOf_cur q7]
        omega
end Go.Proofs.YtmiagebcobcaiaaDoor
/- Package cread: Items. -/
namespace Go.Proofs.YtmiagebcobcaiaaDoor
open Go Go.RowKit
set_option linter.unusedVariables false

theorem ret_it {v : Value} {c d : Int} (k : c = d) : Ending.returned (.tuple #[v, .int .i64 c]) = .returned (.tuple #[v, .int .i64 d]) := by rw [k]
theorem endC_zero {c : CS} (h : c.endC = 0) : c.er = 0 := by
  unfold CS.endC at h
  split at h
  · exact absurd h (by decide)
  · exact h
theorem it_step {d k m j : Nat} {c R : CS} {pre L : List GD} (hok : c.ok) (hR : eachTo (rdTo d) [k] (m + 1) c = R) (hL : R.er = 0 → pre ++ itL (rdTo d) k (m + 1) j c = L) {y : GD}
    (hy : (rdTo d k c).er = 0 → y = iAt (rdTo d) j k c) :
    eachTo (rdTo d) [k] m (rdTo d k c) = R ∧ (R.er = 0 → (pre ++ [y]) ++ itL (rdTo d) k m (j + 1) (rdTo d k c) = L) := by
  rw [eachTo_one] at hR
  refine ⟨hR, fun he => ?_⟩
  have hv := rd_std d k c hok
  have h0 : (rdTo d k c).er = 0 := by
    by_cases h0 : (rdTo d k c).er = 0
    · exact h0
    · rw [each_bad (rd_std d) hv.1 h0] at hR
      rw [← hR] at he; exact absurd he h0
  have := hL he
  rw [hy h0, List.append_assoc]
  exact this
def ItRel (s : ByteArray) (d E k n : Nat) (R : CS) (L : List GD) (b Q B : Nat) (deep : Int) (w : World) (v u : Value) (wr : World) : Prop :=
  ∃ (j : Nat) (c : CS) (pre : List GD), j ≤ n ∧ u = .int .i64 (j : Nat) ∧ c.ok ∧ c.s = s ∧ eachTo (rdTo d) [k] (n - j) c = R ∧ (R.er = 0 → pre ++ itL (rdTo d) k (n - j) j c = L) ∧ pre.length = j ∧
    CurT 83 wr b c ∧ RdT wr Q s (some ⟨b, 0, none⟩) deep ∧ Tab wr ∧ GRow 39 wr B v pre ∧ B ≤ wr.heap.size ∧ Below w.heap.size w wr
set_option maxHeartbeats 2000000 in
theorem items_any (s : ByteArray) (deep : Int) (w : World) (hs : s.size ≤ 1099511627776) (hd : 0 ≤ deep ∧ deep ≤ 1000) (ht : Tab w) :
    Calls Tryd.prog 11 #[.string s, .int .i64 deep] w fun e w' => ∃ v, e = .returned (.tuple #[v, .int .i64 (itR s deep).endC]) ∧ GRow 39 w' w.heap.size v (itF s deep) ∧ Below w.heap.size w w' := by
  have HE := Lib.hid (enter_any s deep w (by omega) hd)
  have hok0 := cAt_ok (s := s) (by omega) deep
  obtain ⟨a1, a2, a3⟩ := cAt_s s deep
  have HLs := Lib.hid (fun b w (h : CurT 83 w b (cAt s deep)) => list_any h hok0)
  have hokl : (cAt s deep).lTo.ok := CS.lTo_ok hok0
  have hsl : (cAt s deep).lTo.s = s := (CS.lTo_s _).trans a1
  obtain ⟨R, hR⟩ : ∃ R, R = itR s deep := ⟨_, rfl⟩
  obtain ⟨L, hL⟩ : ∃ L, L = itL (rdTo (dAt deep)) (cAt s deep).lKd (cAt s deep).lCt 0 (cAt s deep).lTo := ⟨_, rfl⟩
  obtain ⟨F, hF⟩ : ∃ F, F = itF s deep := ⟨_, rfl⟩
  have HF := Lib.hid (show F = if R.endC = 0 then L else [] by rw [hF, hR, hL]; rfl)
  rw [← hF, ← hR]
  have hR' : eachTo (rdTo (dAt deep)) [(cAt s deep).lKd] (cAt s deep).lCt (cAt s deep).lTo = R := hR.symm
  have hn := CS.lCt_le (cAt s deep)
  have hkl := CS.lKd_le (cAt s deep)
  have gl := ht.lt
  have hdp : 0 ≤ deep + 1 := by omega
  obtain ⟨dd, hdd⟩ : ∃ dd, dd = dAt deep := ⟨_, rfl⟩
  have hdd' : (32 - (deep + 1)).toNat = dd := by rw [hdd]; rfl
  rw [← hdd] at hR' hL
  obtain ⟨k, hk⟩ : ∃ k, k = (cAt s deep).lKd := ⟨_, rfl⟩
  obtain ⟨n, hnn⟩ : ∃ n, n = (cAt s deep).lCt := ⟨_, rfl⟩
  obtain ⟨c1, hc1⟩ : ∃ c1, c1 = (cAt s deep).lTo := ⟨_, rfl⟩
  rw [← hk, ← hnn, ← hc1] at hR' hL HLs
  rw [← hk] at hkl
  rw [← hnn] at hn
  rw [← hc1] at hokl hsl
  have H0 := Lib.hid (show eachTo (rdTo dd) [k] (n - 0) c1 = R ∧ (R.er = 0 → [] ++ itL (rdTo dd) k (n - 0) 0 c1 = L) from ⟨hR', fun _ => hL.symm⟩)
  obtain ⟨c0, hc0⟩ : ∃ c0, c0 = cAt s deep := ⟨_, rfl⟩
  rw [← hc0] at HE HLs
  obtain ⟨deep', hdeep⟩ : ∃ x, x = deep + 1 := ⟨_, rfl⟩
  rw [← hdeep] at hdp hdd' HE
  clear hR hL hF hR' hdd hc0 hdeep hk hnn hc1 hok0 a1 a2 a3
  unfold rdV at HE
  go_enter Tryd.func11, Tryd.ntmps11
  go_wp2_with fail
  with_reducible refine HE.out.mono ?_
  rintro e w1 ⟨b, rfl, hb, h1, b1⟩
  obtain ⟨Q, hQ⟩ : ∃ Q, Q = w1.heap.size := ⟨_, rfl⟩
  obtain ⟨w2, hw2⟩ : ∃ w2, w2 = w1.alloc (.cells #[.string s, .pointer (some ⟨b, 0, none⟩), .int .i64 deep'] 48) := ⟨_, rfl⟩
  have h2 : CurT 83 w2 b c0 := by rw [hw2]; exact h1.allocOld _
  have r2 : RdT w2 Q s (some ⟨b, 0, none⟩) deep' := by rw [hw2, hQ]; exact RdT.new w1 _ _ _
  have b2 : Below w.heap.size w w2 := by rw [hw2]; exact b1.trans (((Below.refl _ w1).alloc (Nat.le_refl _) _).mono b1.size)
  have t2 : Tab w2 := ht.below b2 gl
  have hgb : 0 ≠ b := by omega
  have hbQ : b ≠ Q := by rw [hQ]; have := h1.lt; omega
  clear h1 b1 ht
  have g0 := r2.c0; have g1 := r2.c1; have g2 := r2.c2
  go_wp2_with fail
  rw [← hQ, ← hw2]
  clear hQ hw2
  with_reducible refine (HLs.out _ _ h2).mono ?_
  rintro e w3 ⟨rfl, h3, o3⟩
  have r3 := r2.only o3 hbQ.symm
  have t3 := t2.onlyb o3 hgb
  have b3 := b2.trans (o3.below hb b2.size)
  have hBw := b3.size
  have hbl := h3.lt
  have hQl := r3.lt
  obtain ⟨B, hB⟩ : ∃ B, B = w3.heap.size := ⟨_, rfl⟩
  have HR0 := Lib.hid (show ItRel s dd s.size k n R L b Q B deep' w (.slice none 0 0) (.int .i64 0) w3 from
    ⟨0, c1, [], Nat.zero_le _, rfl, hokl, hsl, H0.out.1, H0.out.2, rfl, h3, r3, t3, grow_nil _ _ _, by rw [hB]; exact Nat.le_refl _, b3⟩)
  rw [← hB] at hBw hbl hQl
  clear h2 b2 r2 t2 H0 HE hs hB h3 r3 t3 b3 o3 g0 g1 g2 HLs hokl hsl
  go_wp2_with fail
  go_loopw [9, 22] (fun v u wr => ItRel s dd s.size k n R L b Q B deep' w v u wr) (fun _ u _ => n - (intOf u).toNat)
  case atStart => exact HR0.out
  case round =>
    clear HR0
    obtain ⟨j, c, pre, hj, rfl, hok, hcs, hT, hL, hpl, q1, r1, t1, row1, hB1, bel1⟩ := hrel
    have g0 := r1.c0; have g1 := r1.c1; have g2 := r1.c2
    by_cases hlt : j < n
    · have p1 : decide ((j : Int) < (n : Int)) = true := decide_eq_true (by omega)
      have p1' : decide (j < n) = true := decide_eq_true hlt
      obtain ⟨m, hm⟩ : ∃ m, n - j = m + 1 := ⟨n - j - 1, by omega⟩
      rw [hm] at hT hL
      have hst := fun y hy => it_step (y := y) hok hT hL hy
      have hv := rd_std dd k c hok
      have HV0 := fun w (h : CurT 83 w b c) (ht : Tab w) => item_all h hok deep' j hdp k hkl ht hgb
      rw [hdd', hcs] at HV0
      unfold rdV at HV0
      have hbad := fun (h : ¬ (rdTo dd k c).er = 0) => each_bad (rd_std dd) hv.1 h [k] m
      obtain ⟨D, hD⟩ : ∃ D, D = rdTo dd k c := ⟨_, rfl⟩
      rw [← hD] at hst HV0 hv hbad
      obtain ⟨v1, v2, v3, v4, v5⟩ := hv
      have HV := Lib.hid HV0
      have HST := Lib.hid hst
      have HBAD := Lib.hid hbad
      have HD := Lib.hid (show D.ok ∧ D.s = s from ⟨v1, v2.trans hcs⟩)
      have hpl2 : pre.length ≤ 1099511627776 := by omega
      have HM := Lib.hid (show n - (j + 1) = m by omega)
      clear hD hst HV0 v1 v2 v3 v4 v5 hT hL hcs hok hm hbad
      go_wp2_with fail
      refine (HV.out _ q1 t1).mono ?_
      rintro e w5 ⟨y, rfl, q5, o5, hy⟩
      have HS := Lib.hid (HST.out y hy)
      have r5 := r1.only o5 hbQ.symm
      have t5 := t1.onlyb o5 hgb
      have row5 := row1.only o5 hbl
      have hB5 := Nat.le_trans hB1 o5.size
      have bel5 := bel1.trans (o5.below hb bel1.size)
      clear g0 g1 g2 q1 r1 t1 o5 bel1 row1 hB1 hy HST HV
      obtain ⟨y0, y1, y2, y3, y4, y5⟩ := y
      unfold gfV
      dsimp only
      go_wp2_with (at_builtin; go_loud (refine wpList_append_gd rfl (.tmp 25) (.tmp 30) 23 rfl 39 Tryd.underlying23 infoCf _ w5 B pre row5 hB5 rfl _ _ _ _ _ _ (y0, y1, y2, y3, y4, y5) rfl rfl rfl rfl rfl rfl rfl hpl2 ?_; intro v7 w7 hv7 hb7 _; have q7 := Below.cur hb7 q5 hbl; have r7 := r5.below hb7 hQl; have g0 := r7.c0; have g1 := r7.c1; have g2 := r7.c2))
      have t7 := t5.below hb7 (by omega)
      have bel7 := bel5.trans (hb7.mono hBw)
      have hB7 := Nat.le_trans hB5 hb7.size
      clear row5 hB5 q5 r5 t5 bel5 hb7
      with_reducible refine (err_any q7).mono ?_
      rintro e w8 ⟨rfl, hww⟩
      rw [hww]; clear hww
      by_cases he : D.er = 0
      · have p2 : (D.er != 0) = false := by rw [he]; rfl
        clear he
        go_wp2
        go_roundw
        case rel => exact ⟨j + 1, D, pre ++ [(y0, y1, y2, y3, y4, y5)], by omega, by go_num, HD.out.1, HD.out.2, by rw [HM.out]; exact HS.out.1, by rw [HM.out]; exact HS.out.2, by rw [List.length_append, hpl]; rfl, q7, r7, t7, hv7, hB7, bel7⟩
        case measure => simp [intOf]; omega
      · have p2 : (D.er != 0) = true := bne_iff_ne.mpr he
        have hRD : R = D := HS.out.1.symm.trans (HBAD.out he)
        have hec : D.endC = D.er := by unfold CS.endC; rw [if_neg (fun x => he x.1)]
        have hne : ¬ R.endC = 0 := by rw [hRD, hec]; exact he
        have HF' := Lib.hid (show F = [] by rw [HF.out, if_neg hne])
        have HC := Lib.hid (show R.endC = D.er by rw [hRD, hec])
        have HEn := Lib.hid (fun w (h : CurT 83 w b D) => show Calls Tryd.prog 27 #[.pointer (some ⟨b, 0, none⟩)] w fun e w' => e = .returned (.int .i64 D.er) ∧ ∃ n, w' = w.drewN n from by
          have := end_any h HD.out.1
          rw [hec] at this; exact this)
        clear hRD hec hne HBAD HS he hv7
        go_wp2_with fail
        with_reducible refine (HEn.out _ q7).mono ?_
        rintro e w9 ⟨rfl, nd, hww⟩
        rw [hww]; clear hww
        go_wp2
        go_ret2
        exact ⟨_, ret_it HC.out.symm, by rw [HF'.out]; exact grow_nil _ _ _, Below.drewN bel7 _⟩
    · have p1 : decide ((j : Int) < (n : Int)) = false := decide_eq_false (by omega)
      have p1' : decide (j < n) = false := decide_eq_false hlt
      have e0 : n - j = 0 := by omega
      rw [e0] at hT hL
      have hRD : c = R := hT
      subst hRD
      have HL := Lib.hid (fun he => show pre = L from by have := hL he; rwa [show itL (rdTo dd) k 0 j c = [] from rfl, List.append_nil] at this)
      have HEn := Lib.hid (fun w (h : CurT 83 w b c) => end_any h hok)
      clear hT hL e0 hj hlt hcs hok t1 hpl
      go_wp2_with fail
      with_reducible refine (HEn.out _ q1).mono ?_
      rintro e w9 ⟨rfl, nd, hww⟩
      rw [hww]; clear hww
      by_cases he : c.endC = 0
      · have p2 : (c.endC != 0) = false := by rw [he]; rfl
        have ROW := Lib.hid (row1.base hBw)
        rw [HL.out (endC_zero he), show L = F by rw [HF.out, if_pos he]] at ROW
        have HC := Lib.hid he
        clear he row1 HL HF
        go_wp2
        go_ret2
        exact ⟨_, ret_it HC.out.symm, ROW.out, Below.drewN bel1 _⟩
      · have p2 : (c.endC != 0) = true := bne_iff_ne.mpr he
        have HF' := Lib.hid (show F = [] by rw [HF.out, if_neg he])
        clear he row1 HL HF
        go_wp2
        go_ret2
        exact ⟨_, rfl, by rw [HF'.out]; exact grow_nil _ _ _, Below.drewN bel1 _⟩
end Go.Proofs.YtmiagebcobcaiaaDoor
