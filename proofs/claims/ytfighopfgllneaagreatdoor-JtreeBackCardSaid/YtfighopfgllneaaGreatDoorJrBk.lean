/- JtreeBack, walked. -/
import Derived.Test.YtfighopfgllneaaGreatDoorJrReads
import Derived.Test.YtfighopfgllneaaGreatDoorZP
namespace Go.Proofs.YtfighopfgllneaaGreatDoor
open Go Go.RowKit
set_option linter.unusedVariables false

theorem kbk_long (s : ByteArray) (x : Int) (w : World) (h : 300 < s.size) (hh : Hds w) :
    Calls Tryz.prog 3 #[.string s, .int .i64 x] w fun e w' => e = .returned (.bool true) ∧ Below w.heap.size w w' := by
  have p1 : decide (300 < (s.size : Int)) = true := decide_eq_true (by omega)
  have HT := Lib.hid hh
  clear hh
  go_enter Tryz.func3, Tryz.ntmps3
  go_wp2_with ((with_reducible refine (works13_any _ HT.out).mono ?_); rintro e w2 ⟨rfl, hbel2⟩)
  go_ret
  exact ⟨rfl, hbel2⟩
/-- All that the law asks of a text's tree, when it was read. -/
theorem back_facts (s : ByteArray) (h : s.size ≤ 300) : ∃ (ts : List TK) (la : Int) (L : List ND) (C : Int) (tk : List TK), SfL ts (some la) s.data.toList ∧ SgE ts ∧ (rdT ts (some la)).1 = L ∧ (rdT ts (some la)).2 = C ∧
    (L = [] ∧ tk = [] ∨ Wf none [] L tk) ∧ (∀ x ∈ tk, TOk x ∧ x.2.length ≤ 1099511627776) ∧ (tksB tk).length ≤ 10000 ∧ L.length ≤ 1000 ∧ SzOk L ∧ (C = 0 → SfL tk (some 0) (tksB tk) ∧ SgE tk ∧ rdT tk (some 0) = (L, 0)) := by
  obtain ⟨ts, la, hsf, hsg, hok, hl, hz⟩ := text_toks s (by omega)
  have hLl := rdT_len (la := some la) hsg
  by_cases hc : (rdT ts (some la)).2 = 0
  · obtain ⟨h1, h2⟩ := rdT_good hsg hc
    have hla : la = 0 := by simpa using h1
    subst hla
    refine ⟨ts, 0, _, _, ts, hsf, hsg, rfl, rfl, .inr h2, fun x hx => ⟨hok x hx, (hsg x hx).2⟩, by have := tksB_len ts; omega, by omega, wf_sz h2, fun _ => ⟨rdT_again hok (by omega) hc, hsg, Prod.ext rfl hc⟩⟩
  · have hb := rdT_bad hc
    refine ⟨ts, la, _, _, [], hsf, hsg, rfl, rfl, .inl ⟨hb, rfl⟩, fun x hx => by simp at hx, by simp [tksB], by omega, by rw [hb]; intro i hi; simp at hi, fun e => absurd e hc⟩
def KbRel (W : World) (n : Nat) (i : Value) (wr : World) : Prop := ∃ j : Nat, j ≤ n ∧ i = .int .i64 (j : Nat) ∧ Below W.heap.size W wr
set_option maxRecDepth 100000 in
set_option maxHeartbeats 8000000 in
theorem kbk_short (s : ByteArray) (x : Int) (w : World) (h : s.size ≤ 300) (h0 : -9223372036854775808 ≤ x) (h1 : x ≤ 9223372036854775807) (hh : Hds w) :
    Calls Tryz.prog 3 #[.string s, .int .i64 x] w fun e w' => e = .returned (.bool true) ∧ Below w.heap.size w w' := by
  have p1 : decide (300 < (s.size : Int)) = false := decide_eq_false (by omega)
  have HT := Lib.hid (show ∀ w', Below w.heap.size w w' → Hds w' from fun w' hb => hh.below hb hh.lt)
  obtain ⟨ts, la, L, C, tk, hsf, hsg, eL, eC, hwf, htk, hlen, hLl, hsz, hag⟩ := back_facts s h
  have HA := Lib.hid (fun w => kread_ref s w ts la (by omega) hsf hsg)
  have HB := Lib.hid (fun w ht => kread_prog s w ts la (by omega) hsf hsg ht)
  rw [eL, eC] at HA HB
  have HP := Lib.hid (fun a cap w hin => jrput_any none 0 [] a cap L tk w (by omega) (by simp) (fun j hj => by simp at hj) (fun _ => rfl) hin hwf htk (by rw [List.nil_append]; omega))
  have HX := Lib.hid (fun a cap w hin => rttext_any a cap L tk w (by omega) hin hwf htk (by omega))
  have HK := Lib.hid (fun a cap w hin => kids_any a cap L x w (by omega) hin hsz h0 h1)
  have HRK := Lib.hid (fun a cap w hin => rkids_any a cap L x w (by omega) hin hsz h0 h1)
  have HAG := Lib.hid (show C = 0 → ∀ w, Hds w → Calls Tryz.prog 6 #[.string (bA (tksB tk))] w fun e w' => ∃ a k, e = .returned (.tuple #[.slice a L.length k, .int .i64 0]) ∧ NIn w' a L ∧ Below w.heap.size w w' from fun hc w ht => by
    obtain ⟨a1, a2, a3⟩ := hag hc
    have := kread_prog (bA (tksB tk)) w tk 0 (by rw [bA_size]; omega) a1 a2 ht
    rw [a3] at this
    exact this)
  have hKl : (kidsL L x).length ≤ 1000 := by
    unfold kidsL
    split
    · simp
    · exact Nat.le_trans (kdL_len _ _ _ _) hLl
  have hLl2 : L.length ≤ 1099511627775 := by omega
  clear hh hsf hsg eL eC hwf htk hsz hag
  generalize kidsL L x = KL at *
  obtain ⟨T, hT⟩ : ∃ T, T = bA (tksB tk) := ⟨_, rfl⟩
  have hTz : T.size ≤ 10000 := by rw [hT, bA_size]; exact hlen
  have HTT := Lib.hid hT
  rw [← hT] at HX HAG
  clear hT hlen
  have pC : (C != C) = false := by simp
  have pT : (!(T.toList == T.toList)) = false := by simp
  go_enter Tryz.func3, Tryz.ntmps3
  go_wp2_with fail
  refine (HA.out _).mono ?_
  rintro e w1 ⟨a1, k1, rfl, i1, b1⟩
  have B1 := Lib.hid b1
  go_wp2_with fail
  refine (HB.out _ (HT.out _ b1)).mono ?_
  rintro e w2 ⟨a2, k2, rfl, i2, b2⟩
  have M2 := Lib.hid (i1.below b2 (Nat.le_refl _))
  have P2 := Lib.hid i2
  have B2 := Lib.hid (grown_then B1.out b2)
  clear i1 i2 b1 b2 B1 HA HB
  go_wp2_with fail
  with_reducible refine (knback a2 k2 L hLl2 P2.out).mono ?_
  rintro e w3 ⟨a3, k3, rfl, i3, b3⟩
  have I3 := Lib.hid i3
  have M3 := Lib.hid (M2.out.below b3 (Nat.le_refl _))
  have P3 := Lib.hid (P2.out.below b3 (Nat.le_refl _))
  have B3 := Lib.hid (grown_then B2.out b3)
  clear i3 b3 M2 P2 B2
  go_wp2_with fail
  with_reducible refine (nodes_same a3 a1 k3 k1 L L _ (by omega) I3.out M3.out).mono ?_
  rintro e w4 ⟨rfl, b4⟩
  have M4 := Lib.hid (M3.out.below b4 (Nat.le_refl _))
  have P4 := Lib.hid (P3.out.below b4 (Nat.le_refl _))
  have B4 := Lib.hid (grown_then B3.out b4)
  clear b4 B3 I3 M3 P3
  go_wp2_with fail
  refine (HP.out a2 k2 w4 P4.out).mono ?_
  rintro e w5 ⟨v5, rfl, hv5, b5⟩
  rw [List.nil_append] at hv5
  have HV := Lib.hid (show (convert 32 9 v5).run Tryz.prog w5 = .ok (.string T) w5 from by rw [HTT.out]; exact hv5.text Tryz.underlying32 Tryz.underlying5 Tryz.underlying9)
  have M5 := Lib.hid (M4.out.below b5 (Nat.le_refl _))
  have P5 := Lib.hid (P4.out.below b5 (Nat.le_refl _))
  have B5 := Lib.hid (grown_then B4.out b5)
  clear hv5 b5 B4 M4 P4 HP
  go_wp2_with fail
  rw [HV.out]
  go_wp2_with fail
  with_reducible refine (HX.out a1 k1 w5 M5.out).mono ?_
  rintro e w6 ⟨rfl, b6⟩
  have M6 := Lib.hid (M5.out.below b6 (Nat.le_refl _))
  have P6 := Lib.hid (P5.out.below b6 (Nat.le_refl _))
  have B6 := Lib.hid (grown_then B5.out b6)
  clear b6 B5 M5 P5 HX HV
  go_wp2_with fail
  with_reducible refine (HK.out a2 k2 w6 P6.out).mono ?_
  rintro e w7 ⟨v7, rfl, hv7, b7⟩
  have M7 := Lib.hid (M6.out.below b7 (Nat.le_refl _))
  have B7 := Lib.hid (grown_then B6.out b7)
  have R7 := Lib.hid hv7
  clear b7 hv7 B6 M6 P6 HK
  go_wp2_with fail
  with_reducible refine (HRK.out a1 k1 w7 M7.out).mono ?_
  rintro e w8 ⟨v8, rfl, hv8, b8⟩
  have M8 := Lib.hid (M7.out.below b8 (Nat.le_refl _))
  have B8 := Lib.hid (grown_then B7.out b8)
  obtain ⟨a7, c7, rfl, i7⟩ := (R7.out.below b8 (Nat.le_refl _)).inn
  obtain ⟨a8, c8, rfl, i8⟩ := hv8.inn
  have I7 := Lib.hid i7
  have I8 := Lib.hid i8
  clear b8 hv8 B7 M7 R7 HRK i7 i8
  have pk : ((KL.length : Int) != (KL.length : Int)) = false := by simp
  go_wp2_with fail
  go_loopw [4, 12] (fun _ i wr => KbRel w8 KL.length i wr) (fun _ i _ => KL.length - (intOf i).toNat)
  case atStart => exact ⟨0, Nat.zero_le _, rfl, Below.refl _ _⟩
  case round =>
    obtain ⟨j, hj, rfl, hbel⟩ := hrel
    by_cases hlt : j < KL.length
    · have q1 : decide (j < KL.length) = true := decide_eq_true hlt
      have q2 : (j : Int) < (KL.length : Int) := by omega
      obtain ⟨g7, rfl, hg7, hc7⟩ := I7.out j hlt
      obtain ⟨g8, rfl, hg8, hc8⟩ := I8.out j hlt
      have d7 := (hbel.cell (p := ⟨g7, j, none⟩) hg7).trans hc7
      have d8 := (hbel.cell (p := ⟨g8, j, none⟩) hg8).trans hc8
      generalize KL[j] = y at *
      have q3 : ((y : Int) != (y : Int)) = false := by simp
      clear hc7 hc8
      go_wp2_with fail
      go_quiet (fail)
      go_wp2
      go_roundw
      case rel => exact ⟨j + 1, by omega, by go_num, Below.drewN hbel _⟩
      case measure => simp [intOf]; omega
    · have q1 : decide (j < KL.length) = false := decide_eq_false hlt
      have q2 : ¬ j < KL.length := hlt
      have M9 := Lib.hid (M8.out.below hbel (Nat.le_refl _))
      have B9 := Lib.hid (grown_then B8.out hbel)
      clear hbel M8 B8 I7 I8 hlt
      by_cases hc : C = 0
      · have q3 : (C != 0) = false := by rw [hc]; rfl
        have HR := Lib.hid (HAG.out hc)
        clear hc HAG
        go_wp2_with fail
        refine (HR.out _ (HT.out _ B9.out)).mono ?_
        rintro e wa ⟨aa, ka, rfl, ia, ba⟩
        have Ma := Lib.hid (M9.out.below ba (Nat.le_refl _))
        have Pa := Lib.hid ia
        have Ba := Lib.hid (grown_then B9.out ba)
        clear ia ba M9 B9 HR
        go_wp2_with fail
        with_reducible refine (knback aa ka L hLl2 Pa.out).mono ?_
        rintro e wb ⟨ab, kb, rfl, ib, bb⟩
        have Ib := Lib.hid ib
        have Mb := Lib.hid (Ma.out.below bb (Nat.le_refl _))
        have Bb := Lib.hid (grown_then Ba.out bb)
        clear ib bb Ma Pa Ba
        go_wp2_with fail
        with_reducible refine (nodes_same ab a1 kb k1 L L _ (by omega) Ib.out Mb.out).mono ?_
        rintro e wc ⟨rfl, bc⟩
        have Bc := Lib.hid (grown_then Bb.out bc)
        clear bc Bb Ib Mb
        go_wp2_with fail
        with_reducible refine (works13_any _ (HT.out _ Bc.out)).mono ?_
        rintro e wd ⟨rfl, bd⟩
        have Bd := Lib.hid (grown_then Bc.out bd)
        clear bd
        go_wp2
        go_ret
        exact ⟨rfl, Bd.out⟩
      · have q3 : (C != 0) = true := bne_iff_ne.mpr hc
        clear hc HAG
        go_wp2_with fail
        with_reducible refine (works13_any _ (HT.out _ B9.out)).mono ?_
        rintro e wd ⟨rfl, bd⟩
        have Bd := Lib.hid (grown_then B9.out bd)
        clear bd
        go_wp2
        go_ret
        exact ⟨rfl, Bd.out⟩
theorem jback_any13 (s : ByteArray) (x : Int) (w : World) (hs : s.size ≤ 140737488351232) (h0 : -9223372036854775808 ≤ x) (h1 : x ≤ 9223372036854775807) (hh : Hds w) :
    Calls Tryz.prog 3 #[.string s, .int .i64 x] w fun e w' => e = .returned (.bool true) ∧ Below w.heap.size w w' := by
  by_cases h : 300 < s.size
  · exact kbk_long s x w h hh
  · exact kbk_short s x w (by omega) h0 h1 hh
end Go.Proofs.YtfighopfgllneaaGreatDoor
