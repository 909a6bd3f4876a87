/- The document's own layer 22: Items. -/
import Derived.Test.YtmiagebcobcaiaaDoorZH
import Derived.Test.YtmiagebcobcaiaaDoorZE
import Derived.Test.YtmiagebcobcaiaaDoorChT
namespace Go.Proofs.YtmiagebcobcaiaaDoor
open Go Go.RowKit
set_option linter.unusedVariables false

theorem ref_endc (c : CS) (w : World) :
    Calls Tryd.prog 30 #[.agg #[.string c.s, .int .i64 c.at_, .int .i64 c.en, .int .i64 c.er]] w fun e w' => e = .returned (.int .i64 c.endC) ∧ Below w.heap.size w w' := by
  by_cases h0 : c.er = 0
  · have hb : (c.er == 0) = true := by simp [h0]
    by_cases h1 : c.at_ < c.en
    · have hd : decide (c.at_ < c.en) = true := by simp [h1]
      have HR := Lib.hid (show c.endC = 2 from by unfold CS.endC; rw [if_pos ⟨h0, h1⟩])
      clear h0 h1
      go_enter Tryd.func30, Tryd.ntmps30
      go_wp2
      go_ret
      exact ⟨ret_int HR.out.symm, by go_grown⟩
    · have hd : decide (c.at_ < c.en) = false := by simp [h1]
      have HR := Lib.hid (show c.endC = c.er from by unfold CS.endC; rw [if_neg (fun x => h1 x.2)])
      clear h0 h1
      go_enter Tryd.func30, Tryd.ntmps30
      go_wp2
      go_ret
      exact ⟨ret_int HR.out.symm, by go_grown⟩
  · have hb : (c.er == 0) = false := by simp [h0]
    have HR := Lib.hid (show c.endC = c.er from by unfold CS.endC; rw [if_neg (fun x => h0 x.1)])
    clear h0
    go_enter Tryd.func30, Tryd.ntmps30
    go_wp2
    go_ret
    exact ⟨ret_int HR.out.symm, by go_grown⟩
theorem lKd_kB {c : CS} (h : ¬ c.lCt = 0) : c.lTo.er = 0 ∧ 1 ≤ c.lKd ∧ c.lKd ≤ 12 := by
  have h0 : c.lTo.er = 0 := by
    by_cases h0 : c.lTo.er = 0
    · exact h0
    · exact absurd (by unfold CS.lCt; rw [if_neg h0]) h
  have hk : c.lKd = c.pB % 16 := by unfold CS.lKd; rw [if_pos h0]
  have h1 : c.lC.er = 0 := (Std.want (decide (c.lN ≤ 2147483647)) 4 |>.er (c := c.lC)) |> fun f => by
    by_cases e : c.lC.er = 0
    · exact e
    · have : c.lTo = c.lC := CS.want_bad e _ 4
      rw [this] at h0; exact h0
  have h2 : c.hK.er = 0 := by
    by_cases e : c.hK.er = 0
    · exact e
    · unfold CS.lC at h1
      split at h1
      · rw [(CS.vread_err e).1] at h1; exact h1
      · exact h1
  have := (want_both (by decide) h2).1
  rw [hk]
  exact ⟨h0, kB_yes this⟩
/-- A value within a list: what its bytes say, and whether it fits. -/
theorem iof_all (d k : Nat) {c : CS} (hc : c.ok) (hs : c.s.size ≤ 1099511627776) (h1 : 1 ≤ k) (he : (inTo d k c).er = 0) (id : Int) (w : World) :
    Calls Tryd.prog 23 #[.int .i64 id, .int .u8 (kOf k c : Nat), .string (c.s.extract c.at_ (inTo d k c).at_)] w fun e w' => e = .returned (gfV (gOf id (kOf k c) (c.s.extract c.at_ (inTo d k c).at_))) ∧ Below w.heap.size w w' := by
  have hz : ∀ a b, (c.s.extract a b).size ≤ 1099511627776 := fun a b => by rw [ByteArray.size_extract]; omega
  rcases Bool.eq_false_or_eq_true (trB k) with ht | ht
  · have hko : kOf k c = 1 ∨ kOf k c = 2 := by unfold kOf; rw [if_pos ht]; split; exact .inl rfl; exact .inr rfl
    rcases hko with e | e
    · rw [e, gOf_one]; exact rof_1 _ id w (hz _ _)
    · rw [e, gOf_two]; exact rof_2 _ id w (hz _ _)
  · have hko : kOf k c = k := by unfold kOf; rw [if_neg (by rw [ht]; decide)]
    have hv := val_no (f := inTo d) ht c
    rw [hko, ← hv]
    exact rof_all d k hc hs h1 (by rw [hv]; exact he) id w
theorem ifit_all (d k : Nat) {c : CS} (hc : c.ok) (he : (inTo d k c).er = 0) (id : Int) :
    fitE (gOf id (kOf k c) (c.s.extract c.at_ (inTo d k c).at_)) = (if fitB k c.vVal = true then 0 else 4) ∧
    (¬ bitsK (gOf id (kOf k c) (c.s.extract c.at_ (inTo d k c).at_)).2.1 = 0 → -9223372036854775808 ≤ (gOf id (kOf k c) (c.s.extract c.at_ (inTo d k c).at_)).2.2.1 ∧ (gOf id (kOf k c) (c.s.extract c.at_ (inTo d k c).at_)).2.2.1 ≤ 9223372036854775807) := by
  rcases Bool.eq_false_or_eq_true (trB k) with ht | ht
  · have hko : kOf k c = 1 ∨ kOf k c = 2 := by unfold kOf; rw [if_pos ht]; split; exact .inl rfl; exact .inr rfl
    have hb : bitsK k = 0 := by
      unfold trB at ht; simp at ht
      rcases ht with rfl | rfl <;> rfl
    rw [fitB_no hb, if_pos rfl]
    rcases hko with e | e
    · rw [e, gOf_one]; exact ⟨rfl, fun h => absurd rfl h⟩
    · rw [e, gOf_two]; exact ⟨rfl, fun h => absurd rfl h⟩
  · have hko : kOf k c = k := by unfold kOf; rw [if_neg (by rw [ht]; decide)]
    have hv := val_no (f := inTo d) ht c
    rw [hko, ← hv]
    exact fit_all d k hc (by rw [hv]; exact he) id
/-- A truth's byte is there. -/
theorem tru_byte {d k : Nat} {c : CS} (hc : c.ok) (ht : trB k = true) (he : (inTo d k c).er = 0) : ∃ h : c.at_ < c.s.size, c.s[c.at_].toNat = c.pB := by
  have h9 : hdK k = false := by
    unfold trB at ht; simp at ht
    rcases ht with rfl | rfl <;> rfl
  rw [inTo_flat h9] at he
  unfold flatTo at he
  rw [if_pos ht] at he
  have hb : c.byte.er = 0 := (want_both (by decide) he).2
  have hp : c.peekIs = true := by
    cases hp : c.peekIs with
    | true => rfl
    | false =>
      exfalso
      rw [CS.byte_no hc hp] at hb
      by_cases e0 : c.er = 0
      · exact CS.bad_er e0 (by decide) hb
      · rw [CS.fail_fail e0] at hb; exact e0 hb
  have hlt : c.at_ < c.en := (of_decide_eq_true hp).2
  have hs : c.at_ < c.s.size := Nat.lt_of_lt_of_le hlt hc.2.1
  refine ⟨hs, ?_⟩
  unfold CS.pB CS.peekB
  rw [if_pos hp]
  have : c.s.data[c.at_]? = some c.s[c.at_] := by rw [Array.getElem?_eq_getElem (by simpa using hs)]; rfl
  rw [this]; simp
theorem deep_it (s : ByteArray) (deep : Int) (h : 32 ≤ deep) : (itR s deep).endC = 33 ∧ itF s deep = [] := by
  have hc : cAt s deep = ⟨s, 0, s.size, 33⟩ := by unfold cAt; rw [if_pos h]; rfl
  have hok : ¬ (⟨s, 0, s.size, 33⟩ : CS).er = 0 := (by decide : ¬ (33 : Int) = 0)
  have hw : (⟨s, 0, s.size, 33⟩ : CS).why 1 = 33 := by unfold CS.why; rw [if_pos (show ¬ (33 : Int) = 0 by decide)]
  have hB : (⟨s, 0, s.size, 33⟩ : CS).byte = ⟨s, 0, s.size, 33⟩ := by
    unfold CS.byte CS.take
    rw [hw, if_neg (by decide)]
  have hT : (⟨s, 0, s.size, 33⟩ : CS).lTo = ⟨s, 0, s.size, 33⟩ ∧ (⟨s, 0, s.size, 33⟩ : CS).lCt = 0 := by
    have := CS.l_end (c := ⟨s, 0, s.size, 33⟩) (by rw [hB]; exact hok)
    exact ⟨this.1.trans hB, this.2.1⟩
  have hR : itR s deep = ⟨s, 0, s.size, 33⟩ := by
    unfold itR
    rw [hc, hT.1, hT.2]; rfl
  have he : (itR s deep).endC = 33 := by rw [hR]; unfold CS.endC; rw [if_neg (fun x => hok x.1)]
  exact ⟨he, by unfold itF; rw [if_neg (by rw [he]; decide)]⟩
theorem rit_deep (s : ByteArray) (deep : Int) (w : World) (h : 32 ≤ deep) :
    Calls Tryd.prog 12 #[.string s, .int .i64 deep] w fun e w' => ∃ v, e = .returned (.tuple #[v, .int .i64 (itR s deep).endC]) ∧ GRow 40 w' w.heap.size v (itF s deep) ∧ Below w.heap.size w w' := by
  obtain ⟨h1, h2⟩ := deep_it s deep h
  rw [h1, h2]
  have p1 : decide ((32 : Int) ≤ deep) = true := decide_eq_true h
  clear h h1 h2
  go_enter Tryd.func12, Tryd.ntmps12
  go_wp2
  go_ret2
  exact ⟨_, rfl, grow_nil _ _ _, Below.refl _ _⟩
def RiRel2 (s : ByteArray) (d k n : Nat) (R : CS) (L : List GD) (C B : Nat) (w : World) (v i : Value) (wr : World) : Prop :=
  ∃ (j : Nat) (c r : CS) (pre : List GD), j ≤ n ∧ i = .int .i64 (j : Nat) ∧ Alike c r ∧ c.s = s ∧ c.en ≤ s.size ∧ (j < n → c.er = 0) ∧ eachTo (rdTo d) [k] (n - j) c = R ∧ (R.er = 0 → pre ++ itL (rdTo d) k (n - j) j c = L) ∧ pre.length = j ∧
    CurT 56 wr C r ∧ GRow 40 wr B v pre ∧ B ≤ wr.heap.size ∧ Below w.heap.size w wr
set_option maxRecDepth 20000 in
set_option maxHeartbeats 4000000 in
theorem rit_in (s : ByteArray) (deep : Int) (w : World) (hs : s.size ≤ 1099511627776) (hd : 0 ≤ deep ∧ deep < 32) :
    Calls Tryd.prog 12 #[.string s, .int .i64 deep] w fun e w' => ∃ v, e = .returned (.tuple #[v, .int .i64 (itR s deep).endC]) ∧ GRow 40 w' w.heap.size v (itF s deep) ∧ Below w.heap.size w w' := by
  have p0 : decide ((32 : Int) ≤ deep) = false := decide_eq_false (by omega)
  have hcA : cAt s deep = CS.new s := by unfold cAt; rw [if_neg (by omega)]
  obtain ⟨R, hR⟩ : ∃ R, R = itR s deep := ⟨_, rfl⟩
  obtain ⟨L, hL⟩ : ∃ L, L = itL (rdTo (dAt deep)) (cAt s deep).lKd (cAt s deep).lCt 0 (cAt s deep).lTo := ⟨_, rfl⟩
  obtain ⟨F, hF⟩ : ∃ F, F = itF s deep := ⟨_, rfl⟩
  have HF := Lib.hid (show F = if R.endC = 0 then L else [] by rw [hF, hR, hL]; rfl)
  rw [← hF, ← hR]
  have hR' : eachTo (rdTo (dAt deep)) [(cAt s deep).lKd] (cAt s deep).lCt (cAt s deep).lTo = R := hR.symm
  obtain ⟨dd, hdd⟩ : ∃ dd, dd = dAt deep := ⟨_, rfl⟩
  rw [← hdd, hcA] at hL hR'
  have hok0 : (CS.new s).ok := CS.new_ok (by omega)
  have m1 : IntKind.i64.wrap (deep + 1) = deep + 1 := IntWalk.i64_in _ (by omega)
  have HVal := Lib.hid (fun (k : Nat) (c : CS) (w : World) hk (ha : Alike c c) (hs : c.s.size ≤ 140737488351232) => rinner_of (rvalue_any dd (deep + 1) (by omega) (by rw [hdd]; rfl)) k c c w hk ha hs)
  have HLs := Lib.hid (fun w => rlist_any (Alike.refl hok0) (by show s.size ≤ _; omega) w)
  have hn := CS.lCt_le (CS.new s)
  have hkl := CS.lKd_le (CS.new s)
  have hkb := lKd_kB (c := CS.new s)
  have hokl := CS.lTo_ok hok0
  have hsl : (CS.new s).lTo.s = s := CS.lTo_s _
  have henl : (CS.new s).lTo.en ≤ s.size := by have := hokl.2.1; rw [hsl] at this; exact this
  obtain ⟨k, hk⟩ : ∃ k, k = (CS.new s).lKd := ⟨_, rfl⟩
  obtain ⟨n, hnn⟩ : ∃ n, n = (CS.new s).lCt := ⟨_, rfl⟩
  obtain ⟨c1, hc1⟩ : ∃ c1, c1 = (CS.new s).lTo := ⟨_, rfl⟩
  rw [← hk, ← hnn, ← hc1] at hR' hL HLs hkb
  rw [← hk] at hkl
  rw [← hnn] at hn
  rw [← hc1] at hokl hsl henl
  have H0 := Lib.hid (show eachTo (rdTo dd) [k] (n - 0) c1 = R ∧ (R.er = 0 → [] ++ itL (rdTo dd) k (n - 0) 0 c1 = L) from ⟨hR', fun _ => hL.symm⟩)
  have HKB := Lib.hid (fun h : 0 < n => hkb (by omega))
  have HNew := Lib.hid (fun w => ref_new s w (by omega))
  have HSZ := Lib.hid hs
  unfold CS.new at HLs
  dsimp only at HLs
  clear hR hL hF hR' hdd hcA hs hd hk hnn hc1 hok0 hkb
  go_enter Tryd.func12, Tryd.ntmps12
  go_wp2_with fail
  with_reducible refine (HNew.out _).mono ?_
  rintro e w1 ⟨rfl, b1⟩
  go_wp2_with fail
  refine (HLs.out _).mono ?_
  rintro e w2 ⟨r, rfl, hal, -, b2⟩
  have b2 := grown_then b1 b2
  obtain ⟨C, hC⟩ : ∃ C, C = w2.heap.size := ⟨_, rfl⟩
  obtain ⟨w3, hw3⟩ : ∃ w3, w3 = w2.alloc (.cells #[.string r.s, .int .i64 r.at_, .int .i64 r.en, .int .i64 r.er] 56) := ⟨_, rfl⟩
  have q3 : CurT 56 w3 C r := by rw [hw3, hC]; exact cur_alloc _
  have b3 : Below w.heap.size w w3 := by rw [hw3]; exact b2.trans (((Below.refl _ w2).alloc (Nat.le_refl _) _).mono b2.size)
  have hCw : w.heap.size ≤ C := by rw [hC]; exact b2.size
  obtain ⟨B, hB⟩ : ∃ B, B = w3.heap.size := ⟨_, rfl⟩
  have hCB : C < B := by rw [hB]; exact q3.lt
  have hBw : w.heap.size ≤ B := by rw [hB]; exact b3.size
  have HR0 := Lib.hid (show RiRel2 s dd k n R L C B w (.slice none 0 0) (.int .i64 0) w3 from
    ⟨0, c1, r, [], Nat.zero_le _, rfl, hal, hsl, henl, fun h => (HKB.out h).1, H0.out.1, H0.out.2, rfl, q3, grow_nil _ _ _, by rw [hB]; exact Nat.le_refl _, b3⟩)
  have HKB := Lib.hid (fun h : 0 < n => (HKB.out h).2)
  clear b1 q3 b2 b3 H0 hB HNew HLs hal hsl henl hokl
  go_wp2_with fail
  rw [← hC, ← hw3]
  clear hC hw3
  go_loopw [9, 10] (fun v i wr => RiRel2 s dd k n R L C B w v i wr) (fun _ i _ => n - (intOf i).toNat)
  case atStart => exact HR0.out
  case round =>
    clear HR0
    obtain ⟨j, c, r, pre, hj, rfl, hal, hcs, hen, he0, hT, hL, hpl, q1, row1, hB1, bel1⟩ := hrel
    by_cases hlt : j < n
    · have p1 : decide ((j : Int) < (n : Int)) = true := decide_eq_true (by omega)
      have p1' : decide (j < n) = true := decide_eq_true hlt
      have he0 := he0 hlt
      have hcr : c = r := hal.2.2.2.1 he0
      subst hcr
      have hok := hal.1
      obtain ⟨hk1, hk12⟩ := HKB.out (by omega)
      obtain ⟨m, hm⟩ : ∃ m, n - j = m + 1 := ⟨n - j - 1, by omega⟩
      rw [hm] at hT hL
      have hsz := HSZ.out
      have hst := fun y hy => it_step (y := y) hok hT hL hy
      have hstd := in_std dd k c hok
      have hrok := (rd_std dd k c hok).1
      have hwant : rdTo dd k c = (inTo dd k c).want (fitB k c.vVal) 4 := rfl
      have hbad := fun (h : ¬ (rdTo dd k c).er = 0) => each_bad (rd_std dd) hrok h [k] m
      have hReq : R = eachTo (rdTo dd) [k] m (rdTo dd k c) := by rw [← hT]; rfl
      have HV0 := fun w => HVal.out k c w hkl (Alike.refl hok) (by rw [hcs]; omega)
      have hOf := fun (he : (inTo dd k c).er = 0) w => iof_all dd k hok (by rw [hcs]; exact HSZ.out) hk1 he (j : Nat) w
      have hFi := fun (he : (inTo dd k c).er = 0) => ifit_all dd k hok he (j : Nat)
      have hTr := fun (ht : trB k = true) (he : (inTo dd k c).er = 0) => tru_byte hok ht he
      have hKO : kOf k c = if trB k = true then (if c.pB = 1 then 1 else 2) else k := rfl
      unfold iAt at hst
      generalize kOf k c = K at *
      generalize rdTo dd k c = Dr at *
      generalize inTo dd k c = D at *
      generalize fitB k c.vVal = fb at *
      obtain ⟨v1, v2, v3, v4, v5⟩ := hstd
      rw [hcs] at hOf hFi hst
      have q1s : (c.at_ : Int) ≤ (D.at_ : Int) := by omega
      have q2s : (D.at_ : Int) ≤ (s.size : Int) := by have := v1.1; omega
      have hTr2 : trB k = true → D.er = 0 → ∃ h : c.at_ < s.size, s[c.at_].toNat = c.pB := fun a b => by
        have := hTr a b
        subst hcs; exact this
      have HV := Lib.hid HV0
      have HBad := Lib.hid hbad
      have HOf := Lib.hid hOf
      have HFi := Lib.hid hFi
      have HST := Lib.hid hst
      have HW := Lib.hid hwant
      have HRe := Lib.hid hReq
      have HTr := Lib.hid hTr2
      have HKO := Lib.hid hKO
      have HM := Lib.hid (show n - (j + 1) = m by omega)
      have HD := Lib.hid (show D.ok ∧ D.s = s ∧ D.en ≤ s.size from ⟨v1, v2.trans hcs, by omega⟩)
      have hpl2 : pre.length ≤ 1099511627776 := by omega
      have HPL := Lib.hid hpl
      rw [he0] at HV
      have a0 := q1.c0; have a1 := q1.c1; have a2 := q1.c2; have a3 := q1.c3
      rw [he0] at a3
      clear HV0 hbad hOf hFi hst hwant hReq hTr hTr2 hKO hm v1 v2 v3 v4 v5 hrok hT hL hpl hal hcs hen hok he0 hj
      go_wp2_with fail
      with_reducible refine (HV.out _).mono ?_
      rintro e w5 ⟨y, rfl, hal, -, b5⟩
      have q5 := Below.cur b5 q1 q1.lt
      have row5 := row1.below b5 (Nat.le_refl _)
      have hB5 := Nat.le_trans hB1 b5.size
      have bel5 := grown_then bel1 b5
      clear a0 a1 a2 a3 q1 row1 hB1 bel1 b5 HV
      obtain ⟨w6, hw6, x6, y6, row6, hB6, bel6, -⟩ := crow_alloc (N := 0) q5 row5 hB5 bel5 y
      obtain ⟨Y, hY⟩ : ∃ Y, Y = w5.heap.size := ⟨_, rfl⟩
      rw [← hY] at y6
      clear q5 row5 hB5 bel5
      go_upto_region 9 with fail
      rw [← hY, ← hw6]
      clear hY hw6
      by_cases hD0 : D.er = 0
      · have hdy : D = y := hal.2.2.2.1 hD0
        subst hdy
        have HD0 := Lib.hid hD0
        have hOf := HOf.out hD0
        obtain ⟨hF1, hF2⟩ := HFi.out hD0
        have HT3 := Lib.hid (fun ht => HTr.out ht hD0)
        have a1 := x6.c1; have a3 := y6.c3; have b1 := y6.c1
        rw [hD0] at a3
        clear HOf HFi hal hD0 HTr
        obtain ⟨X, hX⟩ : ∃ X, X = gOf (j : Nat) K (s.extract c.at_ D.at_) := ⟨_, rfl⟩
        have hXr := fun (hf : fb = true) => HST.out X (fun _ => by rw [HW.out, hf]; exact hX)
        rw [← hX] at hOf hF1 hF2
        have HF1 := Lib.hid (fun w => rfits_any X w hF2)
        rw [hF1] at HF1
        have HXR := Lib.hid hXr
        obtain ⟨KI, hKI⟩ : ∃ KI : Int, KI = (K : Nat) := ⟨_, rfl⟩
        rw [← hKI] at hOf
        have HOf := Lib.hid hOf
        clear hOf hF1 hF2 hX hXr HST
        obtain ⟨X0, X1, X2, X3, X4, X5⟩ := X
        unfold gfV at HOf HF1
        dsimp only at HOf HF1
        have HK3 : (decide ((k : Int) < 3) = false ∧ KI = (k : Nat)) ∨ (decide ((k : Int) < 3) = true ∧ ∃ h : c.at_ < s.size, (((s[c.at_].toNat : Int) == 1) = true ∧ KI = 1 ∨ ((s[c.at_].toNat : Int) == 1) = false ∧ KI = 2)) := by
          rcases Bool.eq_false_or_eq_true (trB k) with ht | ht
          · have hk3 : k < 3 := by unfold trB at ht; simp at ht; omega
            obtain ⟨h, hp⟩ := HT3.out ht
            refine .inr ⟨decide_eq_true (by omega), h, ?_⟩
            have e := HKO.out
            rw [if_pos ht] at e
            rw [hp]
            by_cases hp1 : c.pB = 1
            · rw [if_pos hp1] at e
              exact .inl ⟨by rw [hp1]; rfl, by rw [hKI, e]; rfl⟩
            · rw [if_neg hp1] at e
              exact .inr ⟨beq_eq_false_iff_ne.mpr (by omega), by rw [hKI, e]; rfl⟩
          · have hk3 : ¬ k < 3 := by unfold trB at ht; simp at ht; omega
            have e := HKO.out
            rw [if_neg (by rw [ht]; decide)] at e
            exact .inl ⟨decide_eq_false (by omega), by rw [hKI, e]⟩
        clear HT3 HKO hKI hk1 hk12
        rcases HK3 with ⟨t1, rfl⟩ | ⟨t1, hA, ⟨t2, rfl⟩ | ⟨t2, rfl⟩⟩ <;>
          (go_wp2_with fail
           with_reducible refine (HOf.out _).mono ?_
           rintro e w7 ⟨rfl, b7⟩
           obtain ⟨q7, y7, row7, hB7, bel7⟩ := crow_next x6 y6 row6 hB6 bel6 b7
           clear a1 a3 b1 x6 y6 row6 hB6 bel6 b7 HOf q1s q2s
           obtain ⟨w8, hw8, g8, b8⟩ := gfd_alloc w7 X0 X2 X1 X3 X4 X5
           obtain ⟨q8, y8, row8, hB8, bel8⟩ := crow_next q7 y7 row7 hB7 bel7 b8
           obtain ⟨G, hG⟩ : ∃ G, G = w7.heap.size := ⟨_, rfl⟩
           rw [← hG] at g8
           clear q7 y7 row7 hB7 bel7 b8
           go_upto_region 17 with fail
           rw [← hG, ← hw8]
           clear hG hw8
           have e0 := g8.c0; have e1 := g8.c1; have e2 := g8.c2; have e3 := g8.c3; have e4 := g8.c4; have e5 := g8.c5
           dsimp only at e0 e1 e2 e3 e4 e5
           cases fb with
           | false =>
             have hDr : Dr = D.fail 4 := HW.out
             have hDe : Dr.er = 4 := by rw [hDr, CS.fail_er HD0.out]
             have hRD : R = Dr := HRe.out.trans (HBad.out (by rw [hDe]; decide))
             have hec : R.endC = 4 := by
               unfold CS.endC
               rw [if_neg (fun x => by rw [hRD, hDe] at x; exact absurd x.1 (by decide)), hRD, hDe]
             have HRE := Lib.hid hec
             have HF2 := Lib.hid (show F = [] by rw [HF.out, if_neg (by rw [hec]; decide)])
             clear hDr hDe hRD hec HF HXR HBad HRe HW q8 y8 row8 g8
             simp only [Bool.false_eq_true, if_false] at HF1
             go_wp2_with fail
             with_reducible refine (HF1.out _).mono ?_
             rintro e w9 ⟨rfl, b9⟩
             have bel9 := grown_then bel8 b9
             go_wp2
             go_ret2
             exact ⟨_, ret_it HRE.out.symm, by rw [HF2.out]; exact grow_nil _ _ _, bel9⟩
           | true =>
             have HDr := Lib.hid (show Dr = D from HW.out)
             have HS := Lib.hid (HXR.out (by first | exact rfl | trivial))
             rw [HDr.out] at HS
             simp only [if_true] at HF1
             clear HXR HBad HRe HW HDr
             go_wp2_with fail
             with_reducible refine (HF1.out _).mono ?_
             rintro e w9 ⟨rfl, b9⟩
             obtain ⟨q9, y9, row9, hB9, bel9⟩ := crow_next q8 y8 row8 hB8 bel8 b9
             have g9 := g8.below b9 g8.lt
             clear e0 e1 e2 e3 e4 e5 q8 y8 row8 hB8 bel8 b9 g8 HF1
             have e0 := g9.c0; have e1 := g9.c1; have e2 := g9.c2; have e3 := g9.c3; have e4 := g9.c4; have e5 := g9.c5
             dsimp only at e0 e1 e2 e3 e4 e5
             go_wp2_with (at_builtin; go_loud (refine wpList_append_gd rfl (.tmp 62) (.tmp 64) 27 rfl 40 Tryd.underlying27 infoRg _ w9 B pre row9 hB9 rfl _ _ _ _ _ _ (X0, X1, X2, X3, X4, X5) rfl rfl rfl rfl rfl rfl rfl hpl2 ?_; intro v10 w10 hv10 hb10 hg10; have q10 := Below.cur hb10 q9 hCB; have y10 := cur_grown y9 row9 hg10; have c0' := q10.c0; have c1' := q10.c1; have c2' := q10.c2; have c3' := q10.c3; have cf' := q10.fr; have d0 := y10.c0; have d1 := y10.c1; have d2 := y10.c2; have d3 := y10.c3))
             have o11 := Only.setAll w10 C D
             have q11 := q10.setAll D
             have row11 := hv10.only o11 hCB
             have bel10 := bel9.trans (hb10.mono hBw)
             have bel11 := bel10.trans (o11.below hCw bel10.size)
             have hB11 := Nat.le_trans hB9 (Nat.le_trans hb10.size o11.size)
             go_roundw
             case rel => exact ⟨j + 1, D, D, pre ++ [(X0, X1, X2, X3, X4, X5)], by omega, by go_num, Alike.refl HD.out.1, HD.out.2.1, HD.out.2.2, fun _ => HD0.out, by rw [HM.out]; exact HS.out.1, by rw [HM.out]; exact HS.out.2, by rw [List.length_append, HPL.out]; rfl, q11, row11, hB11, bel11⟩
             case measure => simp [intOf]; omega)
      · have hDr : Dr = D := HW.out.trans (CS.want_bad hD0 fb 4)
        have hRD : R = D := HRe.out.trans ((HBad.out (by rw [hDr]; exact hD0)).trans hDr)
        have hec : R.endC = D.er := by rw [hRD]; unfold CS.endC; rw [if_neg (fun x => hD0 x.1)]
        have hye : D.er = y.er := hal.2.2.1
        have p4 : (y.er != 0) = true := bne_iff_ne.mpr (by rw [← hye]; exact hD0)
        have HRE := Lib.hid (show R.endC = y.er by rw [hec]; exact hye)
        have HF2 := Lib.hid (show F = [] by rw [HF.out, if_neg (by rw [hec]; exact hD0)])
        clear hDr hRD hec hye hal HF HBad HRe HW HOf HFi HST HTr HKO hD0 row6 x6 hB6
        have a3 := y6.c3
        go_wp2_with fail
        go_quiet (fail)
        go_wp2
        go_ret2
        exact ⟨_, ret_it HRE.out.symm, by rw [HF2.out]; exact grow_nil _ _ _, Below.drewN bel6 _⟩
    · have p1 : decide ((j : Int) < (n : Int)) = false := decide_eq_false (by omega)
      have p1' : decide (j < n) = false := decide_eq_false hlt
      have e0 : n - j = 0 := by omega
      rw [e0] at hT hL
      have hRD : c = R := hT
      subst hRD
      have HL := Lib.hid (fun he => show pre = L from by have := hL he; rwa [show itL (rdTo dd) k 0 j c = [] from rfl, List.append_nil] at this)
      have hec : c.endC = r.endC := by
        by_cases hz : c.er = 0
        · rw [hal.2.2.2.1 hz]
        · have hz2 : ¬ r.er = 0 := by rw [← hal.2.2.1]; exact hz
          unfold CS.endC
          rw [if_neg (fun x => hz x.1), if_neg (fun x => hz2 x.1), hal.2.2.1]
      have HEC := Lib.hid hec
      have HEn := Lib.hid (fun w => ref_endc r w)
      have a0 := q1.c0; have a1 := q1.c1; have a2 := q1.c2; have a3 := q1.c3
      clear hT hL e0 hj hlt hcs hal hpl hec
      go_wp2_with fail
      with_reducible refine (HEn.out _).mono ?_
      rintro e w9 ⟨rfl, b9⟩
      have row9 := row1.below b9 (Nat.le_refl _)
      have bel9 := grown_then bel1 b9
      by_cases he : r.endC = 0
      · have p2 : (r.endC != 0) = false := by rw [he]; rfl
        have he2 : c.endC = 0 := by rw [HEC.out]; exact he
        have ROW := Lib.hid (row9.base hBw)
        rw [HL.out (endC_zero he2), show L = F by rw [HF.out, if_pos he2]] at ROW
        have HC := Lib.hid he2
        clear he he2 row1 row9 HL HF HEC
        go_wp2
        go_ret2
        exact ⟨_, ret_it HC.out.symm, ROW.out, bel9⟩
      · have p2 : (r.endC != 0) = true := bne_iff_ne.mpr he
        have HF' := Lib.hid (show F = [] by rw [HF.out, if_neg (by rw [HEC.out]; exact he)])
        clear he row1 row9 HL HF
        go_wp2
        go_ret2
        exact ⟨_, ret_it HEC.out.symm, by rw [HF'.out]; exact grow_nil _ _ _, bel9⟩
theorem rit_any (s : ByteArray) (deep : Int) (w : World) (hs : s.size ≤ 1099511627776) (hd : 0 ≤ deep) :
    Calls Tryd.prog 12 #[.string s, .int .i64 deep] w fun e w' => ∃ v, e = .returned (.tuple #[v, .int .i64 (itR s deep).endC]) ∧ GRow 40 w' w.heap.size v (itF s deep) ∧ Below w.heap.size w w' := by
  by_cases h : 32 ≤ deep
  · exact rit_deep s deep w h
  · exact rit_in s deep w hs ⟨hd, by omega⟩
end Go.Proofs.YtmiagebcobcaiaaDoor
