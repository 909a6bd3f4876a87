/- Package jwrite: End, Done, New; a writer that is nil. -/
import Derived.Test.YtnbhhnkcfbfdcaaGreatDoorZY
namespace Go.Proofs.YtnbhhnkcfbfdcaaGreatDoor
open Go Go.RowKit
set_option linter.unusedVariables false

section
variable {Z : Nat → Prop} {B b : Nat} {w : World} {vl ve : Value} {s : WS}
set_option maxRecDepth 20000 in
theorem jwfin_err (h : Wr Z B b w vl ve s) (hc : ¬ s.c = 0) :
    Calls Tryz.prog 19 #[.pointer (some ⟨b, 0, none⟩)] w fun e w' => e = .returned (.tuple #[]) ∧ WrX Z B b w' s.fin ∧ Kz Z B w w' := by
  have HW := Lib.hid (jwworks_any h)
  rw [decide_eq_false hc] at HW
  have HK := Lib.hid (fin_err hc)
  have H := Lib.hid h
  clear h hc
  go_enter Tryz.func19, Tryz.ntmps19
  go_wp2_with fail
  refine HW.out.mono ?_
  rintro e w1 ⟨rfl, hw⟩
  rw [hw]; clear hw
  go_wp2
  refine bodyPost_ret (results_none rfl _ _ _) rfl ?_
  exact ⟨rfl, by rw [HK.out]; exact ⟨_, _, H.out⟩, Kz.refl _⟩
set_option maxRecDepth 20000 in
theorem jwfin_bad (h : Wr Z B b w vl ve s) (hk : WOk s) (hc : s.c = 0) (hf : s.lst = 0 ∨ s.kd = true) :
    Calls Tryz.prog 19 #[.pointer (some ⟨b, 0, none⟩)] w fun e w' => e = .returned (.tuple #[]) ∧ WrX Z B b w' s.fin ∧ Kz Z B w w' := by
  have HW := Lib.hid (jwworks_any h)
  rw [decide_eq_true hc] at HW
  have HE := Lib.hid (jwend_any h hk)
  have HK := Lib.hid (fin_bad hc hf)
  have HF := Lib.hid (fun w1 (hb : Below w.heap.size w w1) => jwfail_any (h.next hb) 12)
  have HC := Lib.hid (fun w1 (hb : Below w.heap.size w w1) => (h.next hb).c5)
  clear h hk hc
  by_cases h1 : s.lst = 0
  · have p1 := u8eq_t (k := 0) 0 rfl h1
    generalize s.lst = x at *
    clear hf h1
    go_enter Tryz.func19, Tryz.ntmps19
    go_wp2_with fail
    refine HW.out.mono ?_
    rintro e w1 ⟨rfl, hw⟩
    rw [hw]; clear hw
    go_wp2_with fail
    refine HE.out.mono ?_
    rintro e w2 ⟨rfl, hb⟩
    go_wp2_with fail
    refine (HF.out w2 hb).mono ?_
    rintro e w3 ⟨rfl, h3, k3⟩
    have H3 := Lib.hid h3
    have K3 := Lib.hid ((Kz.of_below (Z := Z) (B := B) hb).trans k3)
    clear h3 k3 hb
    go_wp2
    refine bodyPost_ret (results_none rfl _ _ _) rfl ?_
    exact ⟨rfl, by rw [HK.out]; exact H3.out, K3.out⟩
  · have hkd := hf.resolve_left h1
    have p1 := u8eq_f (k := 0) 0 rfl h1
    rw [hkd] at HC
    generalize s.lst = x at *
    clear hf h1 hkd
    go_enter Tryz.func19, Tryz.ntmps19
    go_wp2_with fail
    refine HW.out.mono ?_
    rintro e w1 ⟨rfl, hw⟩
    rw [hw]; clear hw
    go_wp2_with fail
    refine HE.out.mono ?_
    rintro e w2 ⟨rfl, hb⟩
    have c5 := HC.out w2 hb
    go_wp2_with fail
    refine (HF.out w2 hb).mono ?_
    rintro e w3 ⟨rfl, h3, k3⟩
    have H3 := Lib.hid h3
    have K3 := Lib.hid ((Kz.of_below (Z := Z) (B := B) hb).trans k3)
    clear h3 k3 hb
    go_wp2
    refine bodyPost_ret (results_none rfl _ _ _) rfl ?_
    exact ⟨rfl, by rw [HK.out]; exact H3.out, K3.out⟩
set_option maxRecDepth 20000 in
set_option maxHeartbeats 4000000 in
theorem jwfin_ok (h : Wr Z B b w vl ve s) (hk : WOk s) (hs : s.out.length ≤ 35184372088832) (hc : s.c = 0) (hf : ¬ (s.lst = 0 ∨ s.kd = true)) :
    Calls Tryz.prog 19 #[.pointer (some ⟨b, 0, none⟩)] w fun e w' => e = .returned (.tuple #[]) ∧ WrX Z B b w' s.fin ∧ Kz Z B w w' := by
  obtain ⟨i0, hi, hz0, hz1, hz2⟩ := info_parts info8
  have HW := Lib.hid (jwworks_any h)
  rw [decide_eq_true hc] at HW
  have HE := Lib.hid (fun w1 (hb : Below w.heap.size w w1) => jwend_any (h.next hb) hk)
  have hkd : s.kd = false := (Bool.not_eq_true _).mp (fun e => hf (.inr e))
  have he : s.en ≠ [] := fun e => hf (.inl (lst_none s e))
  have p1 := u8eq_f (x := s.lst) (k := 0) 0 rfl (fun e => hf (.inl e))
  have HK := Lib.hid (show s.fin = ⟨s.c, s.out ++ [s.lst], s.en.dropLast, true, s.kd⟩ by rw [fin_ok hc hf, hc, hkd])
  have H := Lib.hid h
  have HEN := Lib.hid he
  have hpos : 0 < s.en.length := List.length_pos_iff.mpr he
  have hle := hk.len
  have HKD := Lib.hid hkd
  obtain ⟨x, hx⟩ : ∃ x, x = s.lst := ⟨_, rfl⟩
  rw [← hx] at HK HE p1
  clear h hk hc hf hkd he hx
  go_enter Tryz.func19, Tryz.ntmps19
  go_wp2_with fail
  refine HW.out.mono ?_
  rintro e w1 ⟨rfl, hw⟩
  rw [hw]; clear hw
  go_wp2_with fail
  refine (HE.out w (Below.refl _ _)).mono ?_
  rintro e w2 ⟨rfl, hb⟩
  have c5 := (H.out.next hb).c5
  rw [HKD.out] at c5
  have B2 := Lib.hid hb
  have BD := Lib.hid (show Below w.heap.size w w2.drew from Below.drewN hb 1)
  have HD := Lib.hid (H.out.next hb).drew
  have c2 := HD.out.c2
  clear hb
  go_wp2_with fail
  go_cut [] from 16 to 26 (fun wx => (∃ vl1, Wr Z B b wx vl1 ve ⟨s.c, s.out ++ [x], s.en, s.sm, s.kd⟩) ∧ Kz Z B w wx)
  case first =>
    go_region_law (first
      | (go_simp; go_at_call 27; (with_reducible refine (HE.out _ BD.out).mono ?_); rintro e w4 ⟨rfl, hb4⟩; have H4 := Lib.hid (HD.out.next hb4); have e2 := H4.out.c2; have HN4 := Lib.hid (heap_alloc_new w4 (.cells #[.int .u8 (x.toNat : Int)] 5)); have H5 := Lib.hid (H4.out.next (new_blw w4 (.cells #[.int .u8 (x.toNat : Int)] 5))); have K5 := Lib.hid ((Kz.of_below (Z := Z) (B := B) BD.out).trans ((Kz.of_below hb4).trans (Kz.of_below (new_blw w4 (.cells #[.int .u8 (x.toNat : Int)] 5))))); have e25 := H5.out.c2; clear hb4)
      | (refine step_append_byteA rfl (.tmp 20) (.tmp 23) 43 rfl 5 i0 Tryz.underlying43 hi hz0 hz1 hz2 vl B s.out H5.out.l H5.out.hB rfl w4.heap.size x HN4.out rfl (by omega) ?_; intro g3 n3 cp3 w3 hb3 ha3; obtain ⟨d2, f2⟩ := H5.out.cellL ha3 2; rw [e25] at d2; have H3 := Lib.hid (H5.out.stL ha3 hb3); clear hb3 ha3))
    all_goals go_wp2
    all_goals go_meet
    all_goals (case rel => exact ⟨⟨_, H3.out.1⟩, K5.out.trans H3.out.2⟩)
  case rest =>
    obtain ⟨⟨vl1, h1⟩, k1⟩ := hcut
    obtain ⟨ae, ce, rfl, hin, hcap⟩ := h1.e.form
    have q3 := h1.drew.c3
    have r3 := h1.drew.fr 3
    have H1 := Lib.hid (And.intro (h1.pop HEN.out).1.drew (h1.pop HEN.out).2.drew)
    have K1 := Lib.hid k1
    simp only at q3 hcap
    obtain ⟨N, hN⟩ : ∃ N, N = s.en.length := ⟨_, rfl⟩
    simp only [← hN] at H1 q3 hcap
    obtain ⟨K, hK⟩ : ∃ K, K = N - 1 := ⟨_, rfl⟩
    rw [← hN] at hpos hle
    rw [← hK] at H1
    have zw : IntKind.i64.wrap ((N : Int) - 1) = (K : Int) := by rw [i64_small (by omega) (by omega)]; omega
    have z0 : (0 : Int) ≤ (K : Int) := by omega
    have z1 : (K : Int) ≤ (ce : Int) := by omega
    have z2 : K ≤ ce := by omega
    have H4 := Lib.hid (H1.out.1.setS true)
    have q4 := H1.out.1.c4
    have r4 := H1.out.1.fr 4
    clear h1 k1 hin hN hK hpos hle hcap c2 c5 H HD
    go_wp2_with fail
    go_region
    all_goals go_wp2
    all_goals go_end0
    all_goals exact ⟨rfl, by rw [HK.out]; exact ⟨_, _, H4.out.1⟩, (K1.out.trans H1.out.2).trans H4.out.2⟩
theorem jwfin_any (h : Wr Z B b w vl ve s) (hk : WOk s) (hs : s.out.length ≤ 35184372088832) :
    Calls Tryz.prog 19 #[.pointer (some ⟨b, 0, none⟩)] w fun e w' => e = .returned (.tuple #[]) ∧ WrX Z B b w' s.fin ∧ Kz Z B w w' := by
  by_cases hc : s.c = 0
  · by_cases hf : s.lst = 0 ∨ s.kd = true
    · exact jwfin_bad h hk hc hf
    · exact jwfin_ok h hk hs hc hf
  · exact jwfin_err h hc
set_option maxRecDepth 100000 in
theorem jwdone_any (h : Wr Z B b w vl ve s) (hk : WOk s) :
    Calls Tryz.prog 10 #[.pointer (some ⟨b, 0, none⟩)] w fun e w' => e = .returned (.tuple #[.string (bA (wDone s).1), .int .i64 (wDone s).2]) ∧ Below w.heap.size w w' := by
  have HM := Lib.hid (jwmade_any h)
  have c1 := h.c1
  have HD := Lib.hid (show wDone s = if s.c = 0 then (if s.lst ≠ 0 ∨ s.sm = false then ([], 1) else (s.out, 0)) else ([], s.c) from rfl)
  have HE := Lib.hid (jwend_any h hk)
  have HN := Lib.hid (fun w1 (hb : Below w.heap.size w w1) => h.next hb)
  clear hk
  generalize wDone s = V at *
  by_cases hc : s.c = 0
  · rw [hc] at c1
    by_cases hf : s.lst ≠ 0 ∨ s.sm = false
    · have HV := Lib.hid (show V = ([], 1) by rw [HD.out, if_pos hc, if_pos hf])
      clear HD hc
      by_cases h1 : s.lst = 0
      · have hsm := hf.resolve_left (fun e => e h1)
        have p1 : ((s.lst.toNat : Int) != 0) = false := by rw [bne, u8eq_t (k := 0) 0 rfl h1]; rfl
        generalize s.lst = x at *
        clear hf h1 h
        go_enter Tryz.func10, Tryz.ntmps10
        go_wp2_with fail
        refine HM.out.mono ?_
        rintro e w1 ⟨rfl, hw⟩
        rw [hw]; clear hw
        go_wp2_with fail
        refine HE.out.mono ?_
        rintro e w2 ⟨rfl, hb⟩
        have c4 := (HN.out w2 hb).c4
        rw [hsm] at c4
        go_wp2
        go_ret2
        exact ⟨by rw [HV.out]; rfl, hb⟩
      · have p1 : ((s.lst.toNat : Int) != 0) = true := by rw [bne, u8eq_f (k := 0) 0 rfl h1]; rfl
        generalize s.lst = x at *
        clear hf h1 h
        go_enter Tryz.func10, Tryz.ntmps10
        go_wp2_with fail
        refine HM.out.mono ?_
        rintro e w1 ⟨rfl, hw⟩
        rw [hw]; clear hw
        go_wp2_with fail
        refine HE.out.mono ?_
        rintro e w2 ⟨rfl, hb⟩
        go_wp2
        go_ret2
        exact ⟨by rw [HV.out]; rfl, hb⟩
    · have HV := Lib.hid (show V = (s.out, 0) by rw [HD.out, if_pos hc, if_neg hf])
      have h1 : s.lst = 0 := Decidable.not_not.mp (fun e => hf (.inl e))
      have hsm : s.sm = true := (Bool.not_eq_false _).mp (fun e => hf (.inr e))
      have p1 : ((s.lst.toNat : Int) != 0) = false := by rw [bne, u8eq_t (k := 0) 0 rfl h1]; rfl
      generalize s.lst = x at *
      clear hf h1 h HD hc
      go_enter Tryz.func10, Tryz.ntmps10
      go_wp2_with fail
      refine HM.out.mono ?_
      rintro e w1 ⟨rfl, hw⟩
      rw [hw]; clear hw
      go_wp2_with fail
      refine HE.out.mono ?_
      rintro e w2 ⟨rfl, hb⟩
      have c4 := (HN.out w2 hb).c4
      rw [hsm] at c4
      have c2 := (HN.out w2 hb).c2
      have HCV := Lib.hid ((HN.out w2 hb).l.text Tryz.underlying43 Tryz.underlying5 Tryz.underlying9)
      go_wp2_with fail
      rw [HCV.out]
      go_wp2
      go_ret2
      exact ⟨by rw [HV.out]; rfl, hb⟩
  · have HV := Lib.hid (show V = ([], s.c) by rw [HD.out, if_neg hc])
    have p1 : (s.c != 0) = true := bne_iff_ne.mpr hc
    clear HD hc h
    generalize s.c = c at *
    go_enter Tryz.func10, Tryz.ntmps10
    go_wp2_with fail
    refine HM.out.mono ?_
    rintro e w1 ⟨rfl, hw⟩
    rw [hw]; clear hw
    go_wp2_with fail
    go_quiet (fail)
    go_wp2
    go_ret2
    exact ⟨by rw [HV.out]; rfl, Below.drewN (Below.refl _ _) _⟩
end
theorem jwnew_any (w : World) : Calls Tryz.prog 7 #[] w fun e w' => e = .returned (.pointer (some ⟨w.heap.size, 0, none⟩)) ∧ WrX (fun _ => False) w.heap.size w.heap.size w' WS.nw ∧ Below w.heap.size w w' := by
  go_enter Tryz.func7, Tryz.ntmps7
  go_wp2
  go_ret
  refine ⟨rfl, ⟨.slice none 0 0, .slice none 0 0, heap_alloc_new w _, bts_nil _ _ _, bts_nil _ _ _, Nat.le_refl _, id, fun _ e => e.elim, fun g hg => by simp [Value.ownBlock] at hg, fun g hg => by simp [Value.ownBlock] at hg, fun g hg => by simp [Value.ownBlock] at hg⟩, new_blw w _⟩
theorem jwtext_nil (w : World) (t : ByteArray) : Calls Tryz.prog 21 #[.pointer none, .string t] w fun e w' => e = .returned (.tuple #[]) ∧ w' = w := by
  have HN := Lib.hid (jwnext_nil w)
  go_enter Tryz.func21, Tryz.ntmps21
  go_wp2_with fail
  refine HN.out.mono ?_
  rintro e w1 ⟨rfl, hw⟩
  rw [hw]; clear hw
  go_wp2
  go_end0
  exact ⟨rfl, rfl⟩
theorem jwdone_nil (w : World) : Calls Tryz.prog 10 #[.pointer none] w fun e w' => e = .returned (.tuple #[.string ⟨#[]⟩, .int .i64 9]) ∧ w' = w := by
  have HM := Lib.hid (jwmade_nil w)
  go_enter Tryz.func10, Tryz.ntmps10
  go_wp2_with fail
  refine HM.out.mono ?_
  rintro e w1 ⟨rfl, hw⟩
  rw [hw]; clear hw
  go_wp2
  go_ret2
  exact ⟨rfl, rfl⟩
end Go.Proofs.YtnbhhnkcfbfdcaaGreatDoor
