/- JstringOne, walked: where the texts are of at most 1048576 bytes. -/
import Derived.Test.YteakcfgjjlocjaaDoorJsBack
import Derived.Deep.RegionHeld3
import Derived.Deep.Cut
import Derived.Deep.DrawnRows
namespace Go.Proofs.YteakcfgjjlocjaaDoor
open Go Go.RowKit
set_option linter.unusedVariables false

/-- From now on the slice v is read as the text T. -/
def JUp (w' : World) (v : Value) (T : ByteArray) : Prop := ∀ wx, Below w'.heap.size w' wx → (convert 35 9 v).run Tryd.prog wx = .ok (.string T) wx
theorem jput_q (s : ByteArray) (W wx : World) (hs : s.size ≤ 1099511627776) (hc : Below W.heap.size W wx) :
    Calls Tryd.prog 13 #[.slice none 0 0, .string s] wx fun e w' => ∃ v, e = .returned v ∧ JUp w' v (bA (jText s.data.toList)) ∧ Below wx.heap.size wx w' ∧ Below W.heap.size W w' := by
  refine (jput_any none 0 [] s wx (by simp) hs (bin_none wx)).mono ?_
  rintro e w' ⟨v, rfl, hb, hbe⟩
  refine ⟨v, rfl, fun wy hb2 => ?_, hbe, grown_then hc hbe⟩
  rw [List.nil_append] at hb
  exact (hb.below hb2 (Nat.le_refl _)).text Tryd.underlying35 Tryd.underlying5 Tryd.underlying9
theorem jRes_fine {s : ByteArray} (h : (CS.new s).jRes.e = 0) : UOk (CS.new s).jRes.t ∧ (CS.new s).jRes.t.length ≤ s.size := by
  have hb := new_bs s
  match hd : s.data.toList with
  | [] =>
    rw [CS.jRes_nil rfl (hb.trans hd)] at h
    exact absurd h (by decide)
  | x :: t =>
    have hl : t.length + 1 = s.size := by rw [← toList_size, hd]; rfl
    by_cases hx : x.toNat = 34
    · rw [CS.jRes_in rfl (hb.trans hd) hx] at h ⊢
      by_cases he : (jIn t).e = 0
      · rw [if_pos he]
        obtain ⟨f1, f2, f3⟩ := jIn_fine _ t rfl he
        exact ⟨f3, by simp only; omega⟩
      · rw [if_neg he] at h; exact absurd h he
    · rw [CS.jRes_other rfl (hb.trans hd) hx] at h
      exact absurd h (by decide)
theorem bA_none (T : ByteArray) : T ++ ⟨#[]⟩ = T := by
  apply ByteArray.ext; simp
theorem text_b (s t : ByteArray) : ((bA (jText s.data.toList)).toList == (bA (jText t.data.toList)).toList) = decide (s = t) := by
  rw [text_eq]
  by_cases h : s = t
  · rw [decide_eq_true h, h, decide_eq_true rfl]
  · rw [decide_eq_false h, decide_eq_false]
    intro e
    have e1 := congrArg (fun x : ByteArray => x.data.toList) e
    have e2 := (jText_one _ _).mp (show jText s.data.toList = jText t.data.toList from e1)
    apply h
    rw [← bA_of s, ← bA_of t, e2]
attribute [local go_sem ↓] Go.wp_at_zero Go.wp_at_succ
set_option maxRecDepth 100000 in
set_option maxHeartbeats 8000000 in
theorem jone_yes (s t : ByteArray) (w : World) (hs : s.size ≤ 1048576) (ht : t.size ≤ 1048576) (hh : Hds w) (he : (CS.new s).jRes.e = 0) :
    Calls Tryd.prog 5 #[.string s, .string t] w fun e w' => e = .returned (.bool true) ∧ Below w.heap.size w w' := by
  have HT := Lib.hid (show ∀ w', Below w.heap.size w w' → Hds w' from fun w' hb => hh.below hb hh.lt)
  have hgl := hh.lt
  obtain ⟨fu, fl⟩ := jRes_fine he
  have HR0 := Lib.hid (fun b w h ht hg => (jread_any (b := b) (w := w) (c := CS.new s) h (CS.new_ok (by omega)) (by show s.size ≤ _; omega) ht hg))
  have hXs : (bA (CS.new s).jRes.t).size ≤ 1048576 := by rw [bA_size]; omega
  have hXl : (bA (CS.new s).jRes.t).data.toList = (CS.new s).jRes.t := rfl
  obtain ⟨X, hX⟩ : ∃ X, X = bA (CS.new s).jRes.t := ⟨_, rfl⟩
  rw [← hX] at HR0 hXs hXl
  rw [← hXl] at fu
  have HRA := Lib.hid (show ∀ b w', CurT 42 w' b (CS.new s) → Hds w' → 0 ≠ b → Calls Tryd.prog 9 #[.pointer (some ⟨b, 0, none⟩)] w' fun e w'' => e = .returned (.string X) ∧ (∃ c', CurT 42 w'' b c' ∧ c'.er = 0) ∧ Only b w' w'' from fun b w' h ht hg => by
    refine (HR0.out b w' h ht hg).mono ?_
    rintro e w'' ⟨h1, ⟨c', hq, hA⟩, ho⟩
    exact ⟨h1, ⟨c', hq, by rw [hA.2.2.2.1]; exact he⟩, ho⟩)
  have HU := Lib.hid fu
  have HXP := Lib.hid (fun wx hc => jput_q X w wx (by omega) hc)
  have HCH := Lib.hid (fun w => rcheck_any X w (by omega))
  rw [uCheck_ok.mpr ((uOk_iff X).mpr fu)] at HCH
  have hjx : (jText X.data.toList).length ≤ 6291458 := by
    have := (jT_len X.data.toList).2
    rw [toList_size] at this
    rw [jText_len]; omega
  have HN1 := Lib.hid (fun w => new_cur s w (by omega))
  have HN2 := Lib.hid (fun w => new_cur (bA (jText X.data.toList)) w (by rw [bA_size]; omega))
  have HRB := Lib.hid (fun b w' h ht hg => jread_back (b := b) (s := X) (rest := ⟨#[]⟩) (w := w') h fu (by rw [bA_none, bA_size]; omega) ht hg)
  rw [bA_none] at HRB
  have HEN := Lib.hid (show (⟨bA (jText X.data.toList), (jText X.data.toList).length, (jText X.data.toList).length + (ByteArray.mk #[]).size, 0⟩ : CS).endC = 0 by
    unfold CS.endC
    rw [if_neg]
    rintro ⟨_, h⟩
    exact absurd h (Nat.lt_irrefl _))
  have HOK := Lib.hid (show (⟨bA (jText X.data.toList), (jText X.data.toList).length, (jText X.data.toList).length + (ByteArray.mk #[]).size, 0⟩ : CS).ok from ⟨Nat.le_refl _, by show (jText X.data.toList).length + 0 ≤ (bA (jText X.data.toList)).size; rw [bA_size]; exact Nat.le_refl _, by show (bA (jText X.data.toList)).size ≤ _; rw [bA_size]; omega⟩)
  have HEQ := Lib.hid (text_b s t)
  have HE2 := Lib.hid (text_eq s t)
  have PS := Lib.hid (fun wx hc => jput_q s w wx (by omega) hc)
  have PT := Lib.hid (fun wx hc => jput_q t w wx (by omega) hc)
  generalize (jText X.data.toList).length = N at *
  generalize bA (jText X.data.toList) = TX at *
  generalize bA (jText s.data.toList) = TS at *
  generalize bA (jText t.data.toList) = TT at *
  clear hh he fu fl hX hXl HR0 hjx
  go_enter Tryd.func5, Tryd.ntmps5
  go_wp2_with fail
  refine (HN1.out _).mono ?_
  rintro e w1 ⟨b, rfl, hb1, q1, h1⟩
  go_wp2_with fail
  refine (HRA.out _ _ q1 (HT.out _ h1) (by omega)).mono ?_
  rintro e w2 ⟨rfl, ⟨c2, q2, e2⟩, ho2⟩
  have k2 := Lib.hid (h1.trans (ho2.below hb1 h1.size))
  have HER := Lib.hid (show Calls Tryd.prog 11 #[.pointer (some ⟨b, 0, none⟩)] w2 fun e w' => e = .returned (.int .i64 0) ∧ w' = w2 from by
    have := err_any q2
    rw [e2] at this; exact this)
  clear q1 h1 ho2 hb1 HN1 HRA q2 e2
  go_wp2_with fail
  with_reducible refine HER.out.mono ?_
  rintro e w3 ⟨rfl, hw⟩
  rw [hw]; clear hw
  go_wp2_with fail
  with_reducible refine (HXP.out _ k2.out).mono ?_
  rintro e w4 ⟨v4, rfl, hup, hbe4, hg4⟩
  have hcv4 := Lib.hid (hup _ (Below.refl _ _))
  have k4 := Lib.hid hg4
  clear hup hbe4 hg4 k2 HXP
  go_wp2_with fail
  rw [hcv4.out]
  go_wp2_with fail
  refine (HN2.out _).mono ?_
  rintro e w5 ⟨d, rfl, hd5, q5, h5⟩
  have k5 := Lib.hid (grown_then k4.out h5)
  have hdw := Lib.hid (show w.heap.size ≤ d by have := k4.out.size; omega)
  clear h5 k4 HN2 hd5
  go_wp2_with fail
  with_reducible refine (HCH.out _).mono ?_
  rintro e w6 ⟨rfl, h6⟩
  have q6 := Below.cur h6 q5 q5.lt
  have k6 := Lib.hid (grown_then k5.out h6)
  clear h6 k5 q5
  go_wp2_with fail
  refine (HRB.out _ _ q6 (HT.out _ k6.out) (by have := hdw.out; omega)).mono ?_
  rintro e w7 ⟨rfl, q7, ho7⟩
  have k7 := Lib.hid (k6.out.trans (ho7.below hdw.out k6.out.size))
  have xx : (X.toList != X.toList) = false := by simp
  have HEE := Lib.hid (show Calls Tryd.prog 18 #[.pointer (some ⟨d, 0, none⟩)] w7 fun e w' => e = .returned (.int .i64 0) ∧ ∃ n, w' = w7.drewN n from by
    have := end_any q7 HOK.out
    rw [HEN.out] at this; exact this)
  clear q6 ho7 k6 HRB q7
  go_wp2_with fail
  with_reducible refine HEE.out.mono ?_
  rintro e w8 ⟨rfl, n8, hw⟩
  have k8 := show Below w.heap.size w w8 by rw [hw]; exact Below.drewN k7.out n8
  clear hw k7 HEE hdw HER hcv4 HCH
  have kD := Below.drew k8
  by_cases hst : s = t
  · have r1 : (TS.toList == TT.toList) = true := by rw [HEQ.out]; exact decide_eq_true hst
    have r2 : (s.toList == t.toList) = true := by rw [HE2.out]; exact decide_eq_true hst
    clear hst
    go_wp2_with fail
    go_region_with (first | (go_at_call 13; (with_reducible refine (PS.out _ (by first | with_reducible exact kD | with_reducible exact k8 | with_reducible exact hgB)).mono ?_; rintro e wA ⟨vA, rfl, hupA, hbeA, hgA⟩); have kA1 := hupA _ (Below.refl _ _); first | (have kB3 := hupB _ hbeA) | skip) | (go_at_call 13; (with_reducible refine (PT.out _ (by first | with_reducible exact kD | with_reducible exact k8 | with_reducible exact hgA)).mono ?_; rintro e wB ⟨vB, rfl, hupB, hbeB, hgB⟩); have kB1 := hupB _ (Below.refl _ _); first | (have kA3 := hupA _ hbeB) | skip) | (go_at_call 6; (with_reducible refine (works10_any _ (HT.out _ (by first | with_reducible exact hgA | with_reducible exact hgB))).mono ?_; rintro e wC ⟨rfl, hC⟩)))
    all_goals go_wp2
    all_goals go_ret
    all_goals exact ⟨rfl, by first | exact grown_then hgA hC | exact grown_then hgB hC⟩
  · have r1 : (TS.toList == TT.toList) = false := by rw [HEQ.out]; exact decide_eq_false hst
    have r2 : (s.toList == t.toList) = false := by rw [HE2.out]; exact decide_eq_false hst
    clear hst
    go_wp2_with fail
    go_region_with (first | (go_at_call 13; (with_reducible refine (PS.out _ (by first | with_reducible exact kD | with_reducible exact k8 | with_reducible exact hgB)).mono ?_; rintro e wA ⟨vA, rfl, hupA, hbeA, hgA⟩); have kA1 := hupA _ (Below.refl _ _); first | (have kB3 := hupB _ hbeA) | skip) | (go_at_call 13; (with_reducible refine (PT.out _ (by first | with_reducible exact kD | with_reducible exact k8 | with_reducible exact hgA)).mono ?_; rintro e wB ⟨vB, rfl, hupB, hbeB, hgB⟩); have kB1 := hupB _ (Below.refl _ _); first | (have kA3 := hupA _ hbeB) | skip) | (go_at_call 6; (with_reducible refine (works10_any _ (HT.out _ (by first | with_reducible exact hgA | with_reducible exact hgB))).mono ?_; rintro e wC ⟨rfl, hC⟩)))
    all_goals go_wp2
    all_goals go_ret
    all_goals exact ⟨rfl, by first | exact grown_then hgA hC | exact grown_then hgB hC⟩
set_option maxRecDepth 100000 in
set_option maxHeartbeats 8000000 in
theorem jone_no (s t : ByteArray) (w : World) (hs : s.size ≤ 1048576) (ht : t.size ≤ 1048576) (hh : Hds w) (he : ¬ (CS.new s).jRes.e = 0) :
    Calls Tryd.prog 5 #[.string s, .string t] w fun e w' => e = .returned (.bool true) ∧ Below w.heap.size w w' := by
  have HT := Lib.hid (show ∀ w', Below w.heap.size w w' → Hds w' from fun w' hb => hh.below hb hh.lt)
  have hgl := hh.lt
  have HRA := Lib.hid (fun b w h ht hg => (jread_any (b := b) (w := w) (c := CS.new s) h (CS.new_ok (by omega)) (by show s.size ≤ _; omega) ht hg))
  have HN1 := Lib.hid (fun w => new_cur s w (by omega))
  have HEQ := Lib.hid (text_b s t)
  have HE2 := Lib.hid (text_eq s t)
  have PS := Lib.hid (fun wx hc => jput_q s w wx (by omega) hc)
  have PT := Lib.hid (fun wx hc => jput_q t w wx (by omega) hc)
  have p1 : ((CS.new s).jRes.e == 0) = false := beq_eq_false_iff_ne.mpr he
  generalize (CS.new s).jRes.e = E at *
  generalize bA (CS.new s).jRes.t = X at *
  generalize bA (jText s.data.toList) = TS at *
  generalize bA (jText t.data.toList) = TT at *
  clear hh he
  go_enter Tryd.func5, Tryd.ntmps5
  go_wp2_with fail
  refine (HN1.out _).mono ?_
  rintro e w1 ⟨b, rfl, hb1, q1, h1⟩
  go_wp2_with fail
  refine (HRA.out _ _ q1 (HT.out _ h1) (by omega)).mono ?_
  rintro e w2 ⟨rfl, ⟨c2, q2, e2⟩, ho2⟩
  have k8 := h1.trans (ho2.below hb1 h1.size)
  have HER := Lib.hid (show Calls Tryd.prog 11 #[.pointer (some ⟨b, 0, none⟩)] w2 fun e w' => e = .returned (.int .i64 E) ∧ w' = w2 from by
    have := err_any q2
    rw [e2.2.2.2.1] at this; exact this)
  clear q1 h1 ho2 hb1 HN1 HRA q2 e2
  go_wp2_with fail
  with_reducible refine HER.out.mono ?_
  rintro e w3 ⟨rfl, hw⟩
  rw [hw]; clear hw HER
  have kD := Below.drew k8
  by_cases hst : s = t
  · have r1 : (TS.toList == TT.toList) = true := by rw [HEQ.out]; exact decide_eq_true hst
    have r2 : (s.toList == t.toList) = true := by rw [HE2.out]; exact decide_eq_true hst
    clear hst
    go_wp2_with fail
    go_region_with (first | (go_at_call 13; (with_reducible refine (PS.out _ (by first | with_reducible exact kD | with_reducible exact k8 | with_reducible exact hgB)).mono ?_; rintro e wA ⟨vA, rfl, hupA, hbeA, hgA⟩); have kA1 := hupA _ (Below.refl _ _); first | (have kB3 := hupB _ hbeA) | skip) | (go_at_call 13; (with_reducible refine (PT.out _ (by first | with_reducible exact kD | with_reducible exact k8 | with_reducible exact hgA)).mono ?_; rintro e wB ⟨vB, rfl, hupB, hbeB, hgB⟩); have kB1 := hupB _ (Below.refl _ _); first | (have kA3 := hupA _ hbeB) | skip) | (go_at_call 6; (with_reducible refine (works10_any _ (HT.out _ (by first | with_reducible exact hgA | with_reducible exact hgB))).mono ?_; rintro e wC ⟨rfl, hC⟩)))
    all_goals go_wp2
    all_goals go_ret
    all_goals exact ⟨rfl, by first | exact grown_then hgA hC | exact grown_then hgB hC⟩
  · have r1 : (TS.toList == TT.toList) = false := by rw [HEQ.out]; exact decide_eq_false hst
    have r2 : (s.toList == t.toList) = false := by rw [HE2.out]; exact decide_eq_false hst
    clear hst
    go_wp2_with fail
    go_region_with (first | (go_at_call 13; (with_reducible refine (PS.out _ (by first | with_reducible exact kD | with_reducible exact k8 | with_reducible exact hgB)).mono ?_; rintro e wA ⟨vA, rfl, hupA, hbeA, hgA⟩); have kA1 := hupA _ (Below.refl _ _); first | (have kB3 := hupB _ hbeA) | skip) | (go_at_call 13; (with_reducible refine (PT.out _ (by first | with_reducible exact kD | with_reducible exact k8 | with_reducible exact hgA)).mono ?_; rintro e wB ⟨vB, rfl, hupB, hbeB, hgB⟩); have kB1 := hupB _ (Below.refl _ _); first | (have kA3 := hupA _ hbeB) | skip) | (go_at_call 6; (with_reducible refine (works10_any _ (HT.out _ (by first | with_reducible exact hgA | with_reducible exact hgB))).mono ?_; rintro e wC ⟨rfl, hC⟩)))
    all_goals go_wp2
    all_goals go_ret
    all_goals exact ⟨rfl, by first | exact grown_then hgA hC | exact grown_then hgB hC⟩
theorem jone_any (s t : ByteArray) (w : World) (hs : s.size ≤ 1048576) (ht : t.size ≤ 1048576) (hh : Hds w) :
    Calls Tryd.prog 5 #[.string s, .string t] w fun e w' => e = .returned (.bool true) ∧ Below w.heap.size w w' := by
  by_cases he : (CS.new s).jRes.e = 0
  · exact jone_yes s t w hs ht hh he
  · exact jone_no s t w hs ht hh he
end Go.Proofs.YteakcfgjjlocjaaDoor
