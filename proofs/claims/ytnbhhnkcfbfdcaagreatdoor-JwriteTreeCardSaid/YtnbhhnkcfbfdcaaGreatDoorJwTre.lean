/- JwriteTree, walked. -/
import Derived.Test.YtnbhhnkcfbfdcaaGreatDoorJwOps
import Derived.Test.YtnbhhnkcfbfdcaaGreatDoorJrTx
import Derived.Test.YtnbhhnkcfbfdcaaGreatDoorZU
namespace Go.Proofs.YtnbhhnkcfbfdcaaGreatDoor
open Go Go.RowKit
set_option linter.unusedVariables false

theorem tsz_app (a b : List TK) : tsz (a ++ b) = tsz a + tsz b := by
  induction a with
  | nil => simp [tsz]
  | cons o a ih => simp only [List.cons_append, tsz, ih]; omega
theorem wg_opz {n : Nat} {o : Option (Bool × Bool)} {key : List UInt8} {l : List ND} {tk : List TK} {O : List OP} (h : Wg n o key l tk O) : opz O ≤ 6 * tsz tk + 25 * O.length ∧ ∀ x ∈ O, OpOk x := by
  have ok0 : ∀ (k : UInt8) (t : List UInt8), OpOk ⟨k, t, 0⟩ := fun k t => ⟨by show (-9223372036854775808 : Int) ≤ 0; decide, by show (0 : Int) ≤ 9223372036854775807; decide⟩
  induction h with
  | leaf n key t ht => exact ⟨by simp only [opz, tsz, List.length_cons, List.length_nil]; omega, fun x hx => by rw [List.mem_singleton.mp hx]; exact ok0 _ _⟩
  | node n ob key l tk O _ ih =>
    refine ⟨?_, fun x hx => ?_⟩
    · have := ih.1
      simp only [opz, opz_app, tsz, tsz_app, List.length_cons, List.length_append, List.length_nil]; omega
    · simp only [List.mem_cons, List.mem_append, List.not_mem_nil, or_false] at hx
      rcases hx with rfl | hx | rfl
      · exact ok0 _ _
      · exact ih.2 x hx
      · exact ok0 _ _
  | none => exact ⟨Nat.zero_le _, fun x hx => by simp at hx⟩
  | cons n ob fst key l1 l2 k1 k2 O1 O2 _ _ _ i1 i2 =>
    refine ⟨?_, fun x hx => ?_⟩
    · have h1 := i1.1
      have h2 := i2.1
      cases ob <;> cases fst <;> simp only [opz, opz_app, tsz, tsz_app, List.length_cons, List.length_append, List.length_nil, if_true, if_false, Bool.false_eq_true] <;> omega
    · rcases List.mem_append.mp hx with hx | hx
      · cases ob
        · simp at hx
        · rw [if_pos rfl] at hx; rw [List.mem_singleton.mp hx]; exact ok0 _ _
      · rcases List.mem_append.mp hx with hx | hx
        · exact i1.2 x hx
        · exact i2.2 x hx
/-- All that the law asks of a text's tree. -/
theorem tre_facts (s : ByteArray) (h : s.size ≤ 300) : ∃ (ts : List TK) (la : Int) (M : List ND) (C : Int), SfL ts (some la) s.data.toList ∧ SgE ts ∧ (rdT ts (some la)).1 = M ∧ (rdT ts (some la)).2 = C ∧ M.length ≤ 300 ∧
    (C = 0 → (∀ x ∈ M, x.1 ≠ 110) → SzOk M ∧ ∃ O, Wg 32 none [] M ts O ∧ opz O ≤ 100000 ∧ (∀ o ∈ O, OpOk o) ∧ wRun WS.nw O = ⟨0, tksB ts, [], true, false⟩ ∧ SfL ts (some 0) (tksB ts) ∧ rdT ts (some 0) = (M, 0) ∧ Wf none [] M ts ∧ (∀ x ∈ ts, TOk x ∧ x.2.length ≤ 1099511627776) ∧ (tksB ts).length ≤ 10000) := by
  obtain ⟨ts, la, hsf, hsg, hok, hl, hz⟩ := text_toks s (by omega)
  have hLl := rdT_len (la := some la) hsg
  refine ⟨ts, la, _, _, hsf, hsg, rfl, rfl, by omega, fun hc hx => ?_⟩
  obtain ⟨h1, h2⟩ := rdT_good hsg hc
  have hla : la = 0 := by simpa using h1
  subst hla
  obtain ⟨O, hO⟩ := rdT_wg hsg hc
  have ho := wg_opz hO
  have hol := (wg_olen hO).2
  exact ⟨wf_sz h2, O, hO, by omega, ho.2, run_tree hO (fun x hx' => ⟨hok x hx', no_num hO hx x hx'⟩), rdT_again hok (by omega) hc, Prod.ext rfl hc, h2, fun x hx' => ⟨hok x hx', (hsg x hx').2⟩, by have := tksB_len ts; omega⟩
theorem tre_long (s : ByteArray) (w : World) (h : 300 < s.size) (ht : P10 w) :
    Calls Tryz.prog 3 #[.string s] w fun e w' => e = .returned (.bool true) ∧ Below w.heap.size w w' := by
  have p1 : decide (300 < (s.size : Int)) = true := decide_eq_true (by omega)
  have HX := Lib.hid (works15_any w ht)
  clear ht
  go_enter Tryz.func3, Tryz.ntmps3
  go_wp2_with fail
  refine HX.out.mono ?_
  rintro e w2 ⟨rfl, hb⟩
  go_wp2
  go_ret
  exact ⟨rfl, hb⟩
def TnRel (W : World) (M : List ND) (i : Value) (wr : World) : Prop := ∃ j : Nat, j ≤ M.length ∧ i = .int .i64 (j : Nat) ∧ (∀ k (h : k < M.length), k < j → M[k].1 ≠ 110) ∧ Below W.heap.size W wr
/-- What was made behind a writer is none of its own. -/
theorem WrX.past {Z : Nat → Prop} {B b : Nat} {w w1 : World} {s : WS} (h : WrX Z B b w s) (hb : Below w.heap.size w w1) : WrX (fun k => Z k ∨ (w.heap.size ≤ k ∧ k < w1.heap.size)) B b w1 s := by
  obtain ⟨vl, ve, h⟩ := h
  have h2 := h.next hb
  exact ⟨vl, ve, h2.blk, h2.l, h2.e, h.hb, fun e => e.elim h.nb (fun e => by have := h.lt; omega), fun k hk => hk.elim (h2.zl k) (fun e => e.2), fun g hg => ⟨(h.nl g hg).1, fun e => e.elim (h.nl g hg).2 (fun e => by have := (h.l.own hg).2; omega)⟩, fun g hg => ⟨(h.ne g hg).1, fun e => e.elim (h.ne g hg).2 (fun e => by have := (h.e.own hg).2; omega)⟩, h.nn⟩
theorem tre_mem : ∀ {L : List OP} {o : OP}, o ∈ L → 6 * o.t.length + 25 ≤ opz L
  | x :: L, o, h => by
    rcases List.mem_cons.mp h with rfl | h
    · simp only [opz]; omega
    · have := tre_mem h; simp only [opz]; omega
theorem tre_run (L : List OP) (hn : ∀ o ∈ L, OpOk o) (hz : opz L ≤ 100000) (k : Nat) : WOk (wRun WS.nw (L.take k)) ∧ (wRun WS.nw (L.take k)).out.length ≤ 100000 := by
  obtain ⟨a, b, c, d, e⟩ := run_all (L.take k) WS.nw RfS.nw .nw .nw (by simp [RfS.nw]) (fun o ho => hn o (List.mem_of_mem_take ho))
  have := opz_take L k
  have h1 : WS.nw.out.length = 0 := rfl
  exact ⟨a, by omega⟩
def TwRel (Z : Nat → Prop) (z : Nat) (O : List OP) (w3 : World) (i : Value) (wr : World) : Prop := ∃ j : Nat, j ≤ O.length ∧ i = .int .i64 (j : Nat) ∧ WrX Z z z wr (wRun WS.nw (O.take j)) ∧ Kz Z z w3 wr
set_option maxRecDepth 100000 in
set_option maxHeartbeats 8000000 in
theorem tre_short (s : ByteArray) (w : World) (h : s.size ≤ 300) (ht : P10 w) (hh : Hds w) :
    Calls Tryz.prog 3 #[.string s] w fun e w' => e = .returned (.bool true) ∧ Below w.heap.size w w' := by
  have p1 : decide (300 < (s.size : Int)) = false := decide_eq_false (by omega)
  have HT := Lib.hid (show ∀ w', Below w.heap.size w w' → P10 w' from fun w' hb => ht.below hb)
  have HH := Lib.hid (show ∀ w', Below w.heap.size w w' → Hds w' from fun w' hb => hh.below hb hh.lt)
  have HX := Lib.hid (fun w1 (hb : Below w.heap.size w w1) => works15_any w1 (HT.out w1 hb))
  obtain ⟨ts, la, M, C, hsf, hsg, eM, eC, hM, hag⟩ := tre_facts s h
  have HA := Lib.hid (kread_ref s w ts la (by omega) hsf hsg)
  rw [eM, eC] at HA
  have HAG := Lib.hid hag
  have HSG := Lib.hid hsg
  clear h ht hh hsf hsg eM eC hag
  go_enter Tryz.func3, Tryz.ntmps3
  go_wp2_with fail
  refine HA.out.mono ?_
  rintro e w1 ⟨a1, k1, rfl, hin1, hb1⟩
  have HUP := Lib.hid (show ∀ wx, Below w1.heap.size w1 wx → NIn wx a1 M from fun wx hb => hin1.below hb (Nat.le_refl _))
  have HB1 := Lib.hid hb1
  clear hin1 hb1 HA
  go_wp2_with fail
  go_loopw [5] (fun i wr => TnRel w M i wr ∧ Below w1.heap.size w1 wr) (fun i _ => M.length - (intOf i).toNat)
  case atStart => exact ⟨⟨0, Nat.zero_le _, rfl, fun k _ h => absurd h (by omega), HB1.out⟩, Below.refl _ _⟩
  case round =>
    obtain ⟨⟨j, hj, rfl, hno, hbel⟩, hbe1⟩ := hrel
    by_cases hlt : j < M.length
    · have q1 : decide (j < M.length) = true := decide_eq_true hlt
      have q2 : (j : Int) < (M.length : Int) := by omega
      have q3 : (0 : Int) ≤ (j : Int) := by omega
      obtain ⟨g, rfl, hg, c0, c1, c2, c3⟩ := HUP.out wr hbe1 j hlt
      have HB := Lib.hid hbel
      have HE := Lib.hid hbe1
      have HNO := Lib.hid hno
      clear c1 c2 c3 hbel hbe1 hno
      by_cases hk : M[j].1 = 110
      · have q4 : ((M[j].1.toNat : Int) == 110) = true := u8eq_t (k := 110) 110 rfl hk
        clear hk
        generalize (M[j].1.toNat : Int) = kx at *
        go_wp2_with fail
        refine (HX.out wr HB.out).mono ?_
        rintro e w5 ⟨rfl, hb5⟩
        have B5 := Lib.hid (HB.out.trans (hb5.mono HB.out.size))
        clear hb5
        go_wp2
        go_ret
        exact ⟨rfl, B5.out⟩
      · have q4 : ((M[j].1.toNat : Int) == 110) = false := u8eq_f (k := 110) 110 rfl hk
        have HK := Lib.hid hk
        clear hk
        generalize (M[j].1.toNat : Int) = kx at *
        go_wp2_with fail
        go_roundw
        case rel =>
          refine ⟨⟨j + 1, hlt, by go_num, fun k hk hk2 => ?_, HB.out⟩, HE.out⟩
          rcases Nat.lt_or_ge k j with h | h
          · exact HNO.out k hk h
          · have : k = j := by omega
            subst this
            exact HK.out
        case measure => simp [intOf]; omega
    · have q1 : decide (j < M.length) = false := decide_eq_false hlt
      have q2 : ¬ (j : Int) < (M.length : Int) := by omega
      have HB := Lib.hid hbel
      have HE := Lib.hid hbe1
      have hxs : ∀ x ∈ M, x.1 ≠ 110 := fun x hx => by
        obtain ⟨k, hk, rfl⟩ := List.mem_iff_getElem.mp hx
        exact hno k hk (by omega)
      clear hbel hbe1 hno
      by_cases hc : C = 0
      · obtain ⟨hsz, O, hO, hoz, hok, hrun, hsf, hrd, hwf, htk, htz⟩ := HAG.out hc hxs
        subst hc
        have q3 : ((0 : Int) != 0) = false := rfl
        have HNW := Lib.hid (jwnew_any wr)
        have HOP := Lib.hid (show ∀ wx, Below w1.heap.size w1 wx → Calls Tryz.prog 8 #[.slice a1 M.length k1, .int .i64 0] wx fun e w' => ∃ v, e = .returned v ∧ ORow w' wx.heap.size v O ∧ Below wx.heap.size wx w' from fun wx hx =>
          ops_any (a := a1) (cap := k1) (by omega) hsz M.length 32 M [] [] ts O [] wx (Nat.le_refl _) hO (by simp) (HUP.out wx hx))
        have HRD := Lib.hid (fun wx (hx : Below w.heap.size w wx) => kread_prog (bA (tksB ts)) wx ts 0 (by rw [bA_size]; omega) (by rw [show (bA (tksB ts)).data.toList = tksB ts by simp [bA]]; exact hsf) HSG.out (HH.out wx hx))
        rw [hrd] at HRD
        have HTX := Lib.hid (fun wx (hx : Below w1.heap.size w1 wx) => rttext_any a1 k1 M ts wx (by omega) (HUP.out wx hx) (.inr hwf) htk (by omega))
        have HRUN := Lib.hid hrun
        have HOZ := Lib.hid hoz
        have HOK := Lib.hid hok
        have hol : O.length ≤ 4000 := by
          have : ∀ L : List OP, 25 * L.length ≤ opz L := fun L => by
            induction L with
            | nil => simp [opz]
            | cons o L ih => simp only [opz, List.length_cons]; omega
          have := this O; omega
        clear hsz hO hoz hok hrun hsf hrd hwf htk htz HAG hxs HSG
        generalize tksB ts = U at *
        go_wp2_with fail
        refine HNW.out.mono ?_
        rintro e w2 ⟨rfl, hw2, hb2⟩
        have hz2 := HB.out.size
        have hz1 := HE.out.size
        have B2 := Lib.hid (HB.out.trans (hb2.mono HB.out.size))
        have E2 := Lib.hid (HE.out.trans (hb2.mono HE.out.size))
        have W2 := Lib.hid hw2
        clear hw2 hb2 HNW
        generalize wr.heap.size = z at *
        go_wp2_with fail
        refine (HOP.out w2 E2.out).mono ?_
        rintro e w3 ⟨v3, rfl, hr3, hb3⟩
        have W3 := Lib.hid (W2.out.past hb3)
        have B3 := Lib.hid (B2.out.trans (hb3.mono B2.out.size))
        have E3 := Lib.hid (E2.out.trans (hb3.mono E2.out.size))
        obtain ⟨a3, k3, rfl, _⟩ := hr3.inn
        have hz3 := W3.out.kz
        have HOI := Lib.hid (show ∀ wx, Kz (fun k => False ∨ (w2.heap.size ≤ k ∧ k < w3.heap.size)) z w3 wx → OOwn wx a3 O from fun wx hk => by
          obtain ⟨a4, k4, e4, h4⟩ := (hr3.keep (w1 := wx) fun g hg => by
            obtain ⟨o1, o2, _⟩ := hr3.own hg
            exact hk.block g o2 (.inr (.inr ⟨o1, o2⟩))).inn
          simp only [Value.slice.injEq, true_and] at e4
          rw [e4.1]; exact h4)
        clear hr3 hb3 W2 HOP E2 B2
        generalize (fun k => False ∨ (w2.heap.size ≤ k ∧ k < w3.heap.size)) = Zp at *
        have R0 := Lib.hid (show TwRel Zp z O w3 (.int .i64 0) w3 from ⟨0, Nat.zero_le _, rfl, W3.out, Kz.refl _⟩)
        clear W3
        go_wp2_with fail
        go_loopw [8] (fun i wx => TwRel Zp z O w3 i wx) (fun i _ => O.length - (intOf i).toNat)
        case atStart => exact R0.out
        case round =>
          clear R0
          obtain ⟨j, hj, rfl, hW, hK⟩ := hrel
          by_cases hlt : j < O.length
          · have r1 : decide (j < O.length) = true := decide_eq_true hlt
            have r2 : (j : Int) < (O.length : Int) := by omega
            have r3 : (0 : Int) ≤ (j : Int) := by omega
            obtain ⟨g, rfl, hg, m0, m1, m2⟩ := HOI.out wr hK j hlt
            obtain ⟨f1, f2⟩ := tre_run O HOK.out HOZ.out j
            have ho := HOK.out _ (List.getElem_mem hlt)
            have hot := tre_mem (List.getElem_mem hlt)
            have hzz := HOZ.out
            obtain ⟨vl, ve, hw⟩ := hW
            have HD := Lib.hid (do_any hw f1 (by omega) O[j] ho (by omega) (fun w' hb => HT.out w' (B3.out.trans (((hK.below hz3).trans hb).mono (by omega)))))
            rw [← wRun_take _ _ _ hlt] at HD
            unfold opV at HD
            have HKZ := Lib.hid hK
            generalize (O[j].k.toNat : Int) = ok at *
            generalize bA O[j].t = ot at *
            generalize O[j].n = on at *
            clear f1 f2 ho hot hzz hw hK vl ve
            go_wp2_with fail
            refine HD.out.mono ?_
            rintro e w5 ⟨rfl, hw5, hk5⟩
            have R5 := Lib.hid (show TwRel Zp z O w3 (.int .i64 ((j + 1 : Nat) : Int)) w5 from ⟨j + 1, hlt, rfl, hw5, HKZ.out.trans hk5⟩)
            clear hw5 hk5 HD HKZ m0 m1 m2
            go_wp2_with fail
            go_roundw
            case rel =>
              obtain ⟨j1, h1, h2, h3⟩ := R5.out
              exact ⟨j1, h1, by rw [← h2]; go_num, h3⟩
            case measure => simp [intOf]; omega
          · have r1 : decide (j < O.length) = false := decide_eq_false hlt
            have r2 : ¬ (j : Int) < (O.length : Int) := by omega
            obtain rfl : j = O.length := by omega
            obtain ⟨f1, f2⟩ := tre_run O HOK.out HOZ.out O.length
            rw [List.take_length] at f1 f2 hW
            have B4 := Lib.hid (B3.out.trans ((hK.below hz3).mono hz2))
            have E4 := Lib.hid (E3.out.trans ((hK.below hz3).mono hz1))
            rw [HRUN.out] at hW f1
            obtain ⟨vl, ve, hw⟩ := hW
            have hdn : wDone ⟨0, U, [], true, false⟩ = (U, 0) := by unfold wDone; rw [if_pos rfl, if_neg (by simp [WS.lst])]
            have HDN := Lib.hid (jwdone_any hw f1)
            rw [hdn] at HDN
            clear hw f1 f2 hK HOI HOK HOZ HRUN vl ve hdn B3 E3
            go_wp2_with fail
            refine HDN.out.mono ?_
            rintro e w5 ⟨rfl, hb5⟩
            have B5 := Lib.hid (B4.out.trans (hb5.mono B4.out.size))
            have E5 := Lib.hid (E4.out.trans (hb5.mono E4.out.size))
            clear hb5 HDN B4 E4
            go_wp2_with fail
            refine (HRD.out w5 B5.out).mono ?_
            rintro e w6 ⟨a6, k6, rfl, hin6, hb6⟩
            have B6 := Lib.hid (B5.out.trans (hb6.mono B5.out.size))
            have E6 := Lib.hid (E5.out.trans (hb6.mono E5.out.size))
            have r4 : ((bA U).toList == (bA U).toList) = true := by simp
            clear hb6 hin6 HRD B5 E5
            go_wp2_with fail
            refine (HTX.out w6 E6.out).mono ?_
            rintro e w7 ⟨rfl, hb7⟩
            have B7 := Lib.hid (B6.out.trans (hb7.mono B6.out.size))
            clear hb7 HTX B6 E6
            go_wp2_with fail
            refine (HX.out w7 B7.out).mono ?_
            rintro e w8 ⟨rfl, hb8⟩
            have B8 := Lib.hid (B7.out.trans (hb8.mono B7.out.size))
            clear hb8
            go_wp2
            go_ret
            exact ⟨rfl, B8.out⟩
      · have q3 : (C != 0) = true := bne_iff_ne.mpr hc
        clear HAG hc hxs
        go_wp2_with fail
        refine (HX.out wr HB.out).mono ?_
        rintro e w5 ⟨rfl, hb5⟩
        have B5 := Lib.hid (HB.out.trans (hb5.mono HB.out.size))
        clear hb5
        go_wp2
        go_ret
        exact ⟨rfl, B5.out⟩
theorem tre_any (s : ByteArray) (w : World) (hs : s.size ≤ 140737488351232) (ht : P10 w) (hh : Hds w) :
    Calls Tryz.prog 3 #[.string s] w fun e w' => e = .returned (.bool true) ∧ Below w.heap.size w w' := by
  by_cases h : 300 < s.size
  · exact tre_long s w h ht
  · exact tre_short s w (by omega) ht hh
end Go.Proofs.YtnbhhnkcfbfdcaaGreatDoor
