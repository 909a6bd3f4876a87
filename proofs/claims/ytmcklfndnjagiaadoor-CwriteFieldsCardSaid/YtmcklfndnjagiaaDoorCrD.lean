/- Package cread: Struct. -/
import Derived.Test.YtmcklfndnjagiaaDoorCrC
namespace Go.Proofs.YtmcklfndnjagiaaDoor
open Go Go.RowKit
set_option linter.unusedVariables false

theorem Tab.onlyb {w w' : World} {b : Nat} (h : Tab w) (ho : Only b w w') (hg : 0 ≠ b) : Tab w' := fun k hk => by
  have := ho.block 0 h.lt hg
  rw [World.cell?_of_block (w := w) this]; exact h k hk
theorem ret_st {v : Value} {a b c d : Int} (h : a = b) (k : c = d) : Ending.returned (.tuple #[v, .int .i64 a, .int .i64 c]) = .returned (.tuple #[v, .int .i64 b, .int .i64 d]) := by rw [h, k]
/-- A round's reading, once for all: what is behind a field. -/
theorem st_step {d m : Nat} {last : Int} {c R : CS} {pre L : List GD} (hok : c.ok) (hm : 0 < m) (hx : ¬ c.hKd last = 0) (hR : fldTo (rdTo d) m last c = R) (hL : R.er = 0 → pre ++ stL (rdTo d) m last c = L) {y : GD}
    (hy : (valTo (rdTo d) (c.hKd last) (c.hTo last)).er = 0 → y = gAt (rdTo d) (c.hId last) (c.hKd last) (c.hTo last)) :
    fldTo (rdTo d) (m - 1) (c.hId last) (valTo (rdTo d) (c.hKd last) (c.hTo last)) = R ∧ (R.er = 0 → (pre ++ [y]) ++ stL (rdTo d) (m - 1) (c.hId last) (valTo (rdTo d) (c.hKd last) (c.hTo last)) = L) := by
  rw [fld_next _ hm, if_neg hx] at hR
  refine ⟨hR, fun he => ?_⟩
  have hv := vrd_std d (c.hKd last) (c.hTo last) (CS.hTo_ok hok last)
  have h0 : (valTo (rdTo d) (c.hKd last) (c.hTo last)).er = 0 := by
    by_cases h0 : (valTo (rdTo d) (c.hKd last) (c.hTo last)).er = 0
    · exact h0
    · rw [fldg_bad _ hv.1 h0] at hR
      rw [← hR] at he; exact absurd he h0
  have := hL he
  rw [stL_next _ hm, if_neg hx] at this
  rw [hy h0, List.append_assoc]
  exact this
def StRel (s : ByteArray) (d E : Nat) (R : CS) (L : List GD) (b Q B : Nat) (deep : Int) (w : World) (v u : Value) (wr : World) : Prop :=
  ∃ (m : Nat) (last : Int) (c : CS) (pre : List GD), u = .int .i64 last ∧ numB last = true ∧ c.ok ∧ c.s = s ∧ c.en = E ∧ c.lf < m ∧ fldTo (rdTo d) m last c = R ∧ (R.er = 0 → pre ++ stL (rdTo d) m last c = L) ∧ pre.length ≤ c.at_ ∧
    CurT 105 wr b c ∧ RdT wr Q s (some ⟨b, 0, none⟩) deep ∧ Tab wr ∧ GRow 49 wr B v pre ∧ B ≤ wr.heap.size ∧ Below w.heap.size w wr
set_option maxHeartbeats 2000000 in
theorem struct_wide (s : ByteArray) (deep : Int) (w : World) (hsz : s.size ≤ 9223372036854775807) (hs : s.size ≤ 1099511627776 ∨ (stR s deep).er = 0 ∧ (stF s deep).length ≤ 1099511627776) (hd : 0 ≤ deep ∧ deep ≤ 1000) (ht : Tab w) :
    Calls Tryd.prog 12 #[.string s, .int .i64 deep] w fun e w' => ∃ v, e = .returned (.tuple #[v, .int .i64 (stN s deep : Nat), .int .i64 (stR s deep).er]) ∧ GRow 49 w' w.heap.size v (stF s deep) ∧ Below w.heap.size w w' := by
  have HE := Lib.hid (enter_any s deep w (by omega) hd)
  have hok0 := cAt_ok (s := s) (by omega) deep
  obtain ⟨a1, a2, a3⟩ := cAt_s s deep
  obtain ⟨R, hR⟩ : ∃ R, R = stR s deep := ⟨_, rfl⟩
  obtain ⟨L, hL⟩ : ∃ L, L = stL (rdTo (dAt deep)) fuelN 0 (cAt s deep) := ⟨_, rfl⟩
  obtain ⟨N, hN⟩ : ∃ N, N = stN s deep := ⟨_, rfl⟩
  obtain ⟨F, hF⟩ : ∃ F, F = stF s deep := ⟨_, rfl⟩
  have HN := Lib.hid (show N = if R.er = 0 then R.at_ else 0 by rw [hR, hN]; rfl)
  have HF := Lib.hid (show F = if R.er = 0 then L else [] by rw [hF, hR, hL]; rfl)
  rw [← hN, ← hF, ← hR]
  have hs : s.size ≤ 1099511627776 ∨ R.er = 0 ∧ L.length ≤ 1099511627776 := by
    rcases hs with e | ⟨e1, e2⟩
    · exact .inl e
    · rw [← hR] at e1
      rw [← hF, HF.out, if_pos e1] at e2
      exact .inr ⟨e1, e2⟩
  have hR' : fldTo (rdTo (dAt deep)) fuelN 0 (cAt s deep) = R := hR.symm
  have gl := ht.lt
  have hdp : 0 ≤ deep + 1 := by omega
  obtain ⟨dd, hdd⟩ : ∃ dd, dd = dAt deep := ⟨_, rfl⟩
  have hdd' : (32 - (deep + 1)).toNat = dd := by rw [hdd]; rfl
  rw [← hdd] at hR' hL
  have H0 := Lib.hid (show (cAt s deep).lf < fuelN ∧ fldTo (rdTo dd) fuelN 0 (cAt s deep) = R ∧ (R.er = 0 → [] ++ stL (rdTo dd) fuelN 0 (cAt s deep) = L) from ⟨lf_fuel hok0, hR', fun _ => hL.symm⟩)
  obtain ⟨c0, hc0⟩ : ∃ c0, c0 = cAt s deep := ⟨_, rfl⟩
  rw [← hc0] at H0 HE hok0 a1 a2 a3
  obtain ⟨deep', hdeep⟩ : ∃ x, x = deep + 1 := ⟨_, rfl⟩
  rw [← hdeep] at hdp hdd' HE
  clear hR hL hN hF hR' hdd hc0 hdeep
  unfold rdV at HE
  go_enter Tryd.func12, Tryd.ntmps12
  go_wp2_with fail
  with_reducible refine HE.out.mono ?_
  rintro e w1 ⟨b, rfl, hb, h1, b1⟩
  obtain ⟨Q, hQ⟩ : ∃ Q, Q = w1.heap.size := ⟨_, rfl⟩
  obtain ⟨w2, hw2⟩ : ∃ w2, w2 = w1.alloc (.cells #[.string s, .pointer (some ⟨b, 0, none⟩), .int .i64 deep'] 68) := ⟨_, rfl⟩
  have h2 : CurT 105 w2 b c0 := by rw [hw2]; exact h1.allocOld _
  have r2 : RdT w2 Q s (some ⟨b, 0, none⟩) deep' := by rw [hw2, hQ]; exact RdT.new w1 _ _ _
  have b2 : Below w.heap.size w w2 := by rw [hw2]; exact b1.trans (((Below.refl _ w1).alloc (Nat.le_refl _) _).mono b1.size)
  have t2 : Tab w2 := ht.below b2 gl
  have hgb : 0 ≠ b := by omega
  have hbQ : b ≠ Q := by rw [hQ]; have := h1.lt; omega
  have hBw := b2.size
  have hbl := h2.lt
  have hQl := r2.lt
  obtain ⟨B, hB⟩ : ∃ B, B = w2.heap.size := ⟨_, rfl⟩
  have HR0 := Lib.hid (show StRel s dd s.size R L b Q B deep' w (.slice none 0 0) (.int .i64 0) w2 from
    ⟨fuelN, 0, c0, [], rfl, rfl, hok0, a1, a2, H0.out.1, H0.out.2.1, H0.out.2.2, by simp, h2, r2, t2, grow_nil _ _ _, by rw [hB]; exact Nat.le_refl _, b2⟩)
  rw [← hB] at hBw hbl hQl
  have h2 := Lib.hid hs
  clear h1 b1 r2 b2 t2 hok0 a1 a2 a3 H0 HE ht hs hB
  go_wp2_with fail
  rw [← hQ, ← hw2]
  clear hQ hw2
  go_loopw [4, 8] (fun v u wr => StRel s dd s.size R L b Q B deep' w v u wr) (fun _ _ wr => s.size - atOf b wr)
  case atStart => exact HR0.out
  case round =>
    clear HR0
    obtain ⟨m, last, c, pre, rfl, hnl, hok, hcs, hen, hlf, hT, hL, hpl, q1, r1, t1, row1, hB1, bel1⟩ := hrel
    have HX := Lib.hid (fun w (h : CurT 105 w b c) => field_any h hok last hnl)
    have hat := atOf_cur q1
    have hm : 0 < m := by omega
    have hokh := CS.hTo_ok hok last
    have hsh : (c.hTo last).s = s := (head_std last c hok).2.1.trans hcs
    have henh : (c.hTo last).en = s.size := (head_std last c hok).2.2.1.trans hen
    have hkl := CS.hKd_le c last
    have hnum := CS.hId_numb c last
    have g0 := r1.c0; have g1 := r1.c1; have g2 := r1.c2
    by_cases h0 : c.hKd last = 0
    · rw [fld_next _ hm, if_pos h0] at hT
      have hL' : R.er = 0 → pre = L := fun he => by have := hL he; rw [stL_next _ hm, if_pos h0, List.append_nil] at this; exact this
      rw [h0, hT] at HX
      rw [hT] at hokh
      have HL := Lib.hid hL'
      have BEL := Lib.hid bel1
      have TOK := Lib.hid hokh
      clear hL hL' hnum hkl henh hsh hokh hm hat hT h0 hpl hlf hen hcs hnl t1 hok bel1 hd hdd' hdp
      generalize c.hId last = i at *
      go_wp2_with fail
      with_reducible refine (HX.out _ q1).mono ?_
      rintro e w4 ⟨rfl, q4, o4⟩
      have r4 := r1.only o4 hbQ.symm
      have row4 := row1.only o4 hbl
      have bel4 := BEL.out.trans (o4.below hb BEL.out.size)
      clear g0 g1 g2 q1 r1 o4 BEL row1
      have g0 := r4.c0; have g1 := r4.c1; have g2 := r4.c2
      go_wp2_with fail
      with_reducible refine (err_any q4).mono ?_
      rintro e w5 ⟨rfl, hww⟩
      rw [hww]; clear hww
      by_cases he : R.er = 0
      · have p1 : (R.er != 0) = false := by rw [he]; rfl
        have ROW := Lib.hid (row4.base hBw)
        rw [HL.out he, show L = F by rw [HF.out, if_pos he]] at ROW
        have HN := Lib.hid (show N = R.at_ by rw [HN.out, if_pos he])
        have HE := Lib.hid he
        clear he HL row4
        go_wp2_with fail
        with_reducible refine (at_any q4 TOK.out).mono ?_
        rintro e w5 ⟨rfl, hww⟩
        rw [hww]; clear hww
        go_wp2
        go_ret3
        exact ⟨_, ret_st (by rw [HN.out]) HE.out.symm, ROW.out, bel4⟩
      · have p1 : (R.er != 0) = true := bne_iff_ne.mpr he
        have HN := Lib.hid (show N = 0 by rw [HN.out, if_neg he])
        have HF := Lib.hid (show F = [] by rw [HF.out, if_neg he])
        clear he HL row4
        go_wp2
        go_ret3
        exact ⟨_, ret_st (by rw [HN.out]; rfl) rfl, by rw [HF.out]; exact grow_nil _ _ _, bel4⟩
    · obtain ⟨hm1, hm2, hm3⟩ := head_more hok h0
      have hst := fun y hy => st_step (y := y) hok hm h0 hT hL hy
      have hv := vrd_std dd (c.hKd last) (c.hTo last) hokh
      have HV0 := fun w (h : CurT 105 w b (c.hTo last)) (ht : Tab w) => value_all h hokh deep' (c.hId last) hdp (c.hKd last) hkl ht hgb
      rw [hdd', hsh] at HV0
      unfold rdV at HV0
      obtain ⟨x, hx⟩ : ∃ x, x = c.hKd last := ⟨_, rfl⟩
      obtain ⟨i, hi⟩ : ∃ i, i = c.hId last := ⟨_, rfl⟩
      obtain ⟨h, hh⟩ : ∃ h, h = c.hTo last := ⟨_, rfl⟩
      rw [← hx, ← hi, ← hh] at hst HV0
      rw [← hx, ← hi, ← hh] at HX
      rw [← hx, ← hh] at hv
      rw [← hh] at hm1 hm2 henh hsh
      rw [← hi] at hnum
      rw [← hx] at h0
      have p1 : ((x : Int) == 0) = false := beq_eq_false_iff_ne.mpr (by omega)
      have p1' : (x == 0) = false := beq_eq_false_iff_ne.mpr h0
      obtain ⟨D, hD⟩ : ∃ D, D = valTo (rdTo dd) x h := ⟨_, rfl⟩
      rw [← hD] at hst HV0 hv
      obtain ⟨v1, v2, v3, v4, v5⟩ := hv
      have HV := Lib.hid HV0
      have HST := Lib.hid hst
      have HD := Lib.hid (show D.ok ∧ D.s = s ∧ D.en = s.size ∧ D.lf < m - 1 from ⟨v1, v2.trans hsh, v3.trans henh, by have := lf_less hok v1 (by omega) (show c.at_ + 1 ≤ D.at_ by omega); omega⟩)
      have hme : D.at_ ≤ s.size ∧ c.at_ + 1 ≤ D.at_ := ⟨by have := v1.1; omega, by omega⟩
      have HNUM := Lib.hid hnum
      have hpl2 : pre.length ≤ 1099511627776 := by
        have := hok.1
        rcases h2.out with e | ⟨e1, e2⟩
        · omega
        · rw [← hL e1, List.length_append] at e2; omega
      have BEL := Lib.hid bel1
      clear hD hi hx hh hst HV0 h0 hnum v1 v2 v3 v4 v5 hm1 hm2 hm3 henh hsh hkl hokh hm hT hL hlf hen hcs hnl hok bel1 hd hdd' hdp
      go_wp2_with fail
      with_reducible refine (HX.out _ q1).mono ?_
      rintro e w4 ⟨rfl, q4, o4⟩
      have r4 := r1.only o4 hbQ.symm
      have t4 := t1.onlyb o4 hgb
      have row4 := row1.only o4 hbl
      have hB4 := Nat.le_trans hB1 o4.size
      have bel4 := BEL.out.trans (o4.below hb BEL.out.size)
      clear g0 g1 g2 q1 r1 t1 o4 BEL row1 hB1
      have g0 := r4.c0; have g1 := r4.c1; have g2 := r4.c2
      go_wp2_with fail
      refine (HV.out _ q4 t4).mono ?_
      rintro e w5 ⟨y, rfl, q5, o5, hy⟩
      have HS := Lib.hid (HST.out y hy)
      have r5 := r4.only o5 hbQ.symm
      have t5 := t4.onlyb o5 hgb
      have row5 := row4.only o5 hbl
      have hB5 := Nat.le_trans hB4 o5.size
      have bel5 := bel4.trans (o5.below hb bel4.size)
      clear g0 g1 g2 q4 r4 t4 o5 bel4 row4 hB4 hy HST
      obtain ⟨y0, y1, y2, y3, y4, y5⟩ := y
      unfold gfV
      dsimp only
      go_wp2_with (at_builtin; go_loud (refine wpList_append_gd rfl (.tmp 23) (.tmp 28) 39 rfl 49 Tryd.underlying39 infoCf _ w5 B pre row5 hB5 rfl _ _ _ _ _ _ (y0, y1, y2, y3, y4, y5) rfl rfl rfl rfl rfl rfl rfl hpl2 ?_; intro v7 w7 hv7 hb7 _))
      have q7 := Below.cur hb7 q5 hbl
      have r7 := r5.below hb7 hQl
      have t7 := t5.below hb7 (by omega)
      have bel7 := bel5.trans (hb7.mono hBw)
      have hB7 := Nat.le_trans hB5 hb7.size
      go_roundw
      case rel => exact ⟨m - 1, i, D, pre ++ [(y0, y1, y2, y3, y4, y5)], rfl, HNUM.out, HD.out.1, HD.out.2.1, HD.out.2.2.1, HD.out.2.2.2, HS.out.1, HS.out.2, by rw [List.length_append]; simp; omega, q7, r7, t7, hv7, hB7, bel7⟩
      case measure =>
        rw [hat, atOf_cur q7]
        omega
theorem struct_any (s : ByteArray) (deep : Int) (w : World) (hs : s.size ≤ 1099511627776) (hd : 0 ≤ deep ∧ deep ≤ 1000) (ht : Tab w) :
    Calls Tryd.prog 12 #[.string s, .int .i64 deep] w fun e w' => ∃ v, e = .returned (.tuple #[v, .int .i64 (stN s deep : Nat), .int .i64 (stR s deep).er]) ∧ GRow 49 w' w.heap.size v (stF s deep) ∧ Below w.heap.size w w' :=
  struct_wide s deep w (by omega) (.inl hs) hd ht
end Go.Proofs.YtmcklfndnjagiaaDoor
