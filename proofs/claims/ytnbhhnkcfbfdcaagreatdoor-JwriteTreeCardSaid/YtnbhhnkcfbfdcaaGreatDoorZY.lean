/- Several texts in one (JwC, JwD): each begins with its own words. -/
import Derived.Test.YtnbhhnkcfbfdcaaGreatDoorZX
/- Package jwrite: Whole, Key, begin, Object, List. -/
namespace Go.Proofs.YtnbhhnkcfbfdcaaGreatDoor
open Go Go.RowKit
set_option linter.unusedVariables false

section
variable {Z : Nat → Prop} {B b : Nat} {w : World} {vl ve : Value} {s : WS}
theorem laid_int (n : Int) (h0 : -9223372036854775808 ≤ n) (h1 : n ≤ 9223372036854775807) (w : World) (ht : P10 w) : Calls Tryz.prog 40 #[.slice none 0 0, .int .i64 n] w fun e w' => ∃ g m cap, e = .returned (.slice (some ⟨g, 0, none⟩) m cap) ∧ Bts 5 w' w.heap.size (.slice (some ⟨g, 0, none⟩) m cap) (Lib.itoa n) ∧ Below w.heap.size w w' := by
  refine (dput_any none 0 [] n w h0 h1 (by simp) (fun j hj => by simp at hj) ht).mono ?_
  rintro e w' ⟨v, rfl, hv, hb⟩
  rw [List.nil_append] at hv
  obtain ⟨g, cap, rfl, _⟩ := World.ownsRow.form hv (List.length_pos_iff.mpr (itoa_ne n))
  exact ⟨g, _, cap, rfl, hv, hb⟩
set_option maxRecDepth 20000 in
set_option maxHeartbeats 1000000 in
theorem jwwhole_any (h : Wr Z B b w vl ve s) (hk : WOk s) (hs : s.out.length ≤ 35184372088832) (n : Int) (h0 : -9223372036854775808 ≤ n) (h1 : n ≤ 9223372036854775807) (ht : ∀ w', Below B w w' → P10 w') :
    Calls Tryz.prog 17 #[.pointer (some ⟨b, 0, none⟩), .int .i64 n] w fun e w' => e = .returned (.tuple #[]) ∧ WrX Z B b w' (s.val (Lib.itoa n)) ∧ Kz Z B w w' := by
  obtain ⟨i0, hi, hz0, hz1, hz2⟩ := info_parts info8
  have HN := Lib.hid (jwnext_any h hk (by omega))
  have HP := Lib.hid (fun w ht => laid_int n h0 h1 w ht)
  have HT := Lib.hid ht
  have hB := h.hB
  have hnl := nx_len s
  have hj0 : 0 < (Lib.itoa n).length := List.length_pos_iff.mpr (itoa_ne n)
  have hj1 : (Lib.itoa n).length ≤ 21 := itoa_len n h0 h1
  clear h hk ht
  by_cases hx : s.nxB = true
  · have HV := Lib.hid (val_yes hx (Lib.itoa n))
    rw [hx] at HN
    clear hx
    generalize Lib.itoa n = J at *
    generalize s.val J = V at *
    generalize s.nx = m at *
    have hlen : m.out.length + J.length ≤ 140737488355328 := by omega
    go_enter Tryz.func17, Tryz.ntmps17
    go_wp2_with fail
    refine HN.out.mono ?_
    rintro e w1 ⟨rfl, ⟨vl1, ve1, h1⟩, k1⟩
    have c2 := h1.drew.c2
    have H1 := Lib.hid h1.drew
    have K1 := Lib.hid k1.drew
    have PT := Lib.hid (HT.out w1.drew (K1.out.below hB))
    clear h1 k1
    go_wp2_with fail
    go_region_law (first
      | (go_simp; go_at_call 40; (with_reducible refine (HP.out _ PT.out).mono ?_); rintro e w2 ⟨g2, n2, cp2, rfl, hv2, hb2⟩; have H2 := Lib.hid (H1.out.next hb2); have K2 := Lib.hid (K1.out.trans (Kz.of_below hb2)); have HV2 := Lib.hid hv2; have e2 := H2.out.c2; clear hb2 hv2)
      | (refine step_append_bytesA rfl (.tmp 10) (.tmp 12) 43 rfl 5 i0 Tryz.underlying43 hi hz0 hz1 hz2 vl1 B m.out H2.out.l H2.out.hB rfl g2 n2 cp2 _ J HV2.out rfl hj0 hlen ?_; intro g3 n3 cp3 w3 hb3 ha3; obtain ⟨d2, f2⟩ := H2.out.cellL ha3 2; rw [e2] at d2; have H3 := Lib.hid (H2.out.stL ha3 hb3); clear hb3 ha3))
    all_goals go_wp2
    all_goals go_end0
    all_goals exact ⟨rfl, ⟨_, _, by rw [HV.out]; exact H3.out.1⟩, K2.out.trans H3.out.2⟩
  · have HV := Lib.hid (val_no ((Bool.not_eq_true _).mp hx) (Lib.itoa n))
    rw [(Bool.not_eq_true _).mp hx] at HN
    clear hx
    generalize s.val (Lib.itoa n) = V at *
    go_enter Tryz.func17, Tryz.ntmps17
    go_wp2_with fail
    refine HN.out.mono ?_
    rintro e w1 ⟨rfl, h1, k1⟩
    have H1 := Lib.hid h1
    have K1 := Lib.hid k1
    clear h1 k1
    go_wp2
    go_end0
    exact ⟨rfl, by rw [HV.out]; exact H1.out, K1.out⟩
set_option maxRecDepth 20000 in
theorem jwkey_err (h : Wr Z B b w vl ve s) (hc : ¬ s.c = 0) (t : ByteArray) (T : List UInt8) :
    Calls Tryz.prog 15 #[.pointer (some ⟨b, 0, none⟩), .string t] w fun e w' => e = .returned (.tuple #[]) ∧ WrX Z B b w' (s.key T) ∧ Kz Z B w w' := by
  have HW := Lib.hid (jwworks_any h)
  rw [decide_eq_false hc] at HW
  have HK := Lib.hid (key_err hc T)
  have H := Lib.hid h
  clear h hc
  go_enter Tryz.func15, Tryz.ntmps15
  go_wp2_with fail
  refine HW.out.mono ?_
  rintro e w1 ⟨rfl, hw⟩
  rw [hw]; clear hw
  go_wp2
  refine bodyPost_ret (results_none rfl _ _ _) rfl ?_
  exact ⟨rfl, by rw [HK.out]; exact ⟨_, _, H.out⟩, Kz.refl _⟩
set_option maxRecDepth 20000 in
theorem jwkey_bad (h : Wr Z B b w vl ve s) (hk : WOk s) (hc : s.c = 0) (hf : s.lst ≠ 125 ∨ s.kd = true) (t : ByteArray) (T : List UInt8) :
    Calls Tryz.prog 15 #[.pointer (some ⟨b, 0, none⟩), .string t] w fun e w' => e = .returned (.tuple #[]) ∧ WrX Z B b w' (s.key T) ∧ Kz Z B w w' := by
  have HW := Lib.hid (jwworks_any h)
  rw [decide_eq_true hc] at HW
  have HE := Lib.hid (jwend_any h hk)
  have HK := Lib.hid (key_bad hc hf T)
  have HF := Lib.hid (fun w1 (hb : Below w.heap.size w w1) => jwfail_any (h.next hb) 12)
  have HC := Lib.hid (fun w1 (hb : Below w.heap.size w w1) => (h.next hb).c5)
  clear h hk hc
  by_cases h1 : s.lst = 125
  · have hkd := hf.resolve_left (fun e => e h1)
    have p1 : ((s.lst.toNat : Int) != 125) = false := by rw [bne, u8eq_t (k := 125) 125 rfl h1]; rfl
    rw [hkd] at HC
    generalize s.lst = x at *
    clear hf h1 hkd
    go_enter Tryz.func15, Tryz.ntmps15
    go_wp2_with fail
    refine HW.out.mono ?_
    rintro e w1 ⟨rfl, hw⟩
    rw [hw]; clear hw
    go_wp2_with fail
    refine HE.out.mono ?_
    rintro e w2 ⟨rfl, hb⟩
    have c5 := HC.out w2 hb
    go_wp2_with fail
    refine (HF.out w2 hb).mono ?_
    rintro e w3 ⟨rfl, h3, k3⟩
    have H3 := Lib.hid h3
    have K3 := Lib.hid ((Kz.of_below (Z := Z) (B := B) hb).trans k3)
    clear h3 k3 hb
    go_wp2
    refine bodyPost_ret (results_none rfl _ _ _) rfl ?_
    exact ⟨rfl, by rw [HK.out]; exact H3.out, K3.out⟩
  · have p1 : ((s.lst.toNat : Int) != 125) = true := by rw [bne, u8eq_f (k := 125) 125 rfl h1]; rfl
    generalize s.lst = x at *
    clear hf h1
    go_enter Tryz.func15, Tryz.ntmps15
    go_wp2_with fail
    refine HW.out.mono ?_
    rintro e w1 ⟨rfl, hw⟩
    rw [hw]; clear hw
    go_wp2_with fail
    refine HE.out.mono ?_
    rintro e w2 ⟨rfl, hb⟩
    go_wp2_with fail
    refine (HF.out w2 hb).mono ?_
    rintro e w3 ⟨rfl, h3, k3⟩
    have H3 := Lib.hid h3
    have K3 := Lib.hid ((Kz.of_below (Z := Z) (B := B) hb).trans k3)
    clear h3 k3 hb
    go_wp2
    refine bodyPost_ret (results_none rfl _ _ _) rfl ?_
    exact ⟨rfl, by rw [HK.out]; exact H3.out, K3.out⟩
set_option maxRecDepth 20000 in
set_option maxHeartbeats 2000000 in
theorem jwkey_ok (h : Wr Z B b w vl ve s) (hk : WOk s) (hs : s.out.length ≤ 35184372088832) (hc : s.c = 0) (hf : ¬ (s.lst ≠ 125 ∨ s.kd = true)) (t : List UInt8) (ht : t.length ≤ 1099511627776) :
    Calls Tryz.prog 15 #[.pointer (some ⟨b, 0, none⟩), .string (bA t)] w fun e w' => e = .returned (.tuple #[]) ∧ WrX Z B b w' (s.key t) ∧ Kz Z B w w' := by
  obtain ⟨i0, hi, hz0, hz1, hz2⟩ := info_parts info8
  have HW := Lib.hid (jwworks_any h)
  rw [decide_eq_true hc] at HW
  have HE := Lib.hid (jwend_any h hk)
  have HM := Lib.hid (fun w1 (hb : Below w.heap.size w w1) => jwcomma_any (h.next hb) (by omega))
  have HC := Lib.hid (fun w1 (hb : Below w.heap.size w w1) => (h.next hb).c5)
  have h1 : s.lst = 125 := Decidable.not_not.mp (fun e => hf (.inl e))
  have hkd : s.kd = false := (Bool.not_eq_true _).mp (fun e => hf (.inr e))
  have p1 : ((s.lst.toNat : Int) != 125) = false := by rw [bne, u8eq_t (k := 125) 125 rfl h1]; rfl
  have HP := Lib.hid (laid_text t ht)
  have hj0 : 0 < (jText t).length := by rw [jText_len]; omega
  have hj1 : (jText t).length ≤ 6597069766658 := by have := (jT_len t).2; rw [jText_len]; omega
  have hcl := cm_len s
  have HK := Lib.hid (show s.key t = ⟨s.c, s.out ++ s.cm ++ jText t ++ [58], s.en, s.sm, true⟩ by rw [key_ok hc hf, hc])
  rw [hkd] at HC
  have hlen : (s.out ++ s.cm).length + (jText t).length ≤ 140737488355328 := by rw [List.length_append]; omega
  have hlen2 : (s.out ++ s.cm ++ jText t).length + 1 ≤ 140737488355328 := by rw [List.length_append, List.length_append]; omega
  generalize s.lst = x at *
  generalize jText t = J at *
  generalize bA t = T at *
  generalize s.cm = cm at *
  generalize s.key t = V at *
  clear h hk hc hf h1 hkd
  go_enter Tryz.func15, Tryz.ntmps15
  go_wp2_with fail
  refine HW.out.mono ?_
  rintro e w1 ⟨rfl, hw⟩
  rw [hw]; clear hw
  go_wp2_with fail
  refine HE.out.mono ?_
  rintro e w2 ⟨rfl, hb⟩
  have c5 := HC.out w2 hb
  go_wp2_with fail
  refine (HM.out w2 hb).mono ?_
  rintro e w3 ⟨rfl, ⟨vl1, ve1, h1⟩, k1⟩
  have c0 := h1.drew.c0
  have c2 := h1.drew.c2
  have H1 := Lib.hid h1.drew
  have K1 := Lib.hid (((Kz.of_below (Z := Z) (B := B) hb).trans k1).drew)
  clear h1 k1 hb
  go_wp2_with fail
  go_region_law (first
    | (go_simp; go_at_call 24; (with_reducible refine (HP.out _).mono ?_); rintro e w4 ⟨g2, n2, cp2, rfl, hv2, hb2⟩; have H2 := Lib.hid (H1.out.next hb2); have K2 := Lib.hid (K1.out.trans (Kz.of_below hb2)); have HV2 := Lib.hid hv2; have e2 := H2.out.c2; clear hb2 hv2)
    | (refine step_append_bytesA rfl (.tmp 24) (.tmp 30) 43 rfl 5 i0 Tryz.underlying43 hi hz0 hz1 hz2 vl1 B (s.out ++ cm) H2.out.l H2.out.hB rfl g2 n2 cp2 _ J HV2.out rfl hj0 hlen ?_; intro g3 n3 cp3 w5 hb3 ha3; obtain ⟨d2, f2⟩ := H2.out.cellL ha3 2; rw [e2] at d2; have H3 := Lib.hid (H2.out.stL ha3 hb3); have q2 := H3.out.1.c2; clear hb3 ha3))
  all_goals (generalize hw6 : w5.setCell ⟨b, 2, none⟩ (.slice (some ⟨g3, 0, none⟩) n3 cp3) = w6 at *; clear hw6 d2 f2)
  all_goals go_wp2_with (at_builtin; go_loud (refine wpList_append_byteA rfl (.tmp 38) (.tmp 39) 43 rfl 5 i0 Tryz.underlying43 hi hz0 hz1 hz2 (.slice (some ⟨g3, 0, none⟩) n3 cp3) w6 B _ H3.out.1.l H3.out.1.hB rfl 58 58 rfl _ rfl rfl hlen2 ?_; intro g4 n4 cp4 w7 hb7 ha7; obtain ⟨d7, f7⟩ := H3.out.1.cellL ha7 2; rw [q2] at d7; have H7 := Lib.hid (H3.out.1.stL ha7 hb7); have q5 := H7.out.1.c5; have r5 := H7.out.1.fr 5; have H8 := Lib.hid (H7.out.1.setK true); clear hb7 ha7))
  all_goals go_end0
  all_goals exact ⟨rfl, by rw [HK.out]; exact ⟨_, _, H8.out.1⟩, ((K2.out.trans H3.out.2).trans H7.out.2).trans H8.out.2⟩
theorem jwkey_any (h : Wr Z B b w vl ve s) (hk : WOk s) (hs : s.out.length ≤ 35184372088832) (t : List UInt8) (ht : t.length ≤ 1099511627776) :
    Calls Tryz.prog 15 #[.pointer (some ⟨b, 0, none⟩), .string (bA t)] w fun e w' => e = .returned (.tuple #[]) ∧ WrX Z B b w' (s.key t) ∧ Kz Z B w w' := by
  by_cases hc : s.c = 0
  · by_cases hf : s.lst ≠ 125 ∨ s.kd = true
    · exact jwkey_bad h hk hc hf _ t
    · exact jwkey_ok h hk hs hc hf t ht
  · exact jwkey_err h hc _ t
end
end Go.Proofs.YtnbhhnkcfbfdcaaGreatDoor
/- Package jwrite: begin, Object, List, End, Done, New; a writer that is nil. -/
namespace Go.Proofs.YtnbhhnkcfbfdcaaGreatDoor
open Go Go.RowKit
set_option linter.unusedVariables false

theorem beg_yes {s : WS} (hd : ¬ (s.c = 0 ∧ s.en.length = 32)) (h : s.nxB = true) (o c : UInt8) : s.beg o c = ⟨s.nx.c, s.nx.out ++ [o], s.nx.en ++ [c], false, s.nx.kd⟩ := by
  by_cases hc : s.c = 0
  · by_cases ho : s.isO = true
    · rw [beg_ok hc (fun e => hd ⟨hc, e⟩) ho, nx_ok hc ho]
    · rw [nxB_bad hc ho] at h; cases h
  · rw [nxB_err hc] at h; cases h
theorem beg_no {s : WS} (hd : ¬ (s.c = 0 ∧ s.en.length = 32)) (h : s.nxB = false) (o c : UInt8) : s.beg o c = s.nx := by unfold WS.beg; rw [if_neg hd, h, if_neg (by decide)]
theorem nx_en {s : WS} : s.nx.en.length ≤ s.en.length := by
  by_cases hc : s.c = 0
  · by_cases ho : s.isO = true
    · rw [nx_ok hc ho]; exact Nat.le_refl _
    · rw [nx_bad hc ho]; simp [WS.bad]
  · rw [nx_err hc]; exact Nat.le_refl _
section
variable {Z : Nat → Prop} {B b : Nat} {w : World} {vl ve : Value} {s : WS}
/-- The two tests ahead of a value that others may be in. -/
def BegPre (s : WS) (r : Bool) : Prop := (¬ s.c = 0 ∧ r = false) ∨ (s.c = 0 ∧ ¬ s.en.length = 32 ∧ r = false)
set_option maxRecDepth 20000 in
set_option maxHeartbeats 2000000 in
theorem jwbeg_go (h : Wr Z B b w vl ve s) (hk : WOk s) (hs : s.out.length ≤ 35184372088832) (hd : ¬ (s.c = 0 ∧ s.en.length = 32)) (o c : UInt8) :
    Calls Tryz.prog 35 #[.pointer (some ⟨b, 0, none⟩), .int .u8 (o.toNat : Int), .int .u8 (c.toNat : Int)] w fun e w' => e = .returned (.tuple #[]) ∧ WrX Z B b w' (s.beg o c) ∧ Kz Z B w w' := by
  obtain ⟨i0, hi, hz0, hz1, hz2⟩ := info_parts info8
  have HW := Lib.hid (jwworks_any h)
  have HN := Lib.hid (jwnext_any h hk (by omega))
  have hnl := nx_len s
  have hne := nx_en (s := s)
  have hle := hk.len
  obtain ⟨ae, ce, rfl, _, _⟩ := h.e.form
  have c3 := h.c3
  have p0 : s.c = 0 → ((s.en.length : Int) == 32) = false := fun e => beq_eq_false_iff_ne.mpr (fun e2 => hd ⟨e, by omega⟩)
  have HY := Lib.hid (fun h => beg_yes hd h o c)
  have HO := Lib.hid (fun h => beg_no hd h o c)
  have hpre : decide (s.c = 0) = false ∨ (decide (s.c = 0) = true ∧ ((s.en.length : Int) == 32) = false) := by
    by_cases e : s.c = 0
    · exact .inr ⟨decide_eq_true e, p0 e⟩
    · exact .inl (decide_eq_false e)
  clear h hk hd p0
  generalize decide (s.c = 0) = d at *
  generalize s.en.length = N at *
  generalize s.beg o c = V at *
  generalize s.nxB = nb at *
  generalize s.nx = m at *
  cases nb
  · have HV := Lib.hid (HO.out rfl)
    clear HY HO
    rcases hpre with rfl | ⟨rfl, p1⟩
    · go_enter Tryz.func35, Tryz.ntmps35
      go_wp2_with fail
      refine HW.out.mono ?_
      rintro e w1 ⟨rfl, hw⟩
      rw [hw]; clear hw
      go_wp2_with fail
      refine HN.out.mono ?_
      rintro e w2 ⟨rfl, h1, k1⟩
      have H1 := Lib.hid h1
      have K1 := Lib.hid k1
      clear h1 k1
      go_wp2
      go_end0
      exact ⟨rfl, by rw [HV.out]; exact H1.out, K1.out⟩
    · go_enter Tryz.func35, Tryz.ntmps35
      go_wp2_with fail
      refine HW.out.mono ?_
      rintro e w1 ⟨rfl, hw⟩
      rw [hw]; clear hw
      go_wp2_with fail
      refine HN.out.mono ?_
      rintro e w2 ⟨rfl, h1, k1⟩
      have H1 := Lib.hid h1
      have K1 := Lib.hid k1
      clear h1 k1
      go_wp2
      go_end0
      exact ⟨rfl, by rw [HV.out]; exact H1.out, K1.out⟩
  · have HV := Lib.hid (HY.out rfl)
    clear HY HO
    rcases hpre with rfl | ⟨rfl, p1⟩
    all_goals (
      go_enter Tryz.func35, Tryz.ntmps35
      go_wp2_with fail
      refine HW.out.mono ?_
      rintro e w1 ⟨rfl, hw⟩
      rw [hw]; clear hw
      go_wp2_with fail
      refine HN.out.mono ?_
      rintro e w2 ⟨rfl, ⟨vl1, ve1, h1⟩, k1⟩
      have d2 := h1.c2
      have H1 := Lib.hid h1
      have K1 := Lib.hid k1
      clear h1 k1 c3
      go_wp2_with (at_builtin; first
        | (go_loud (refine wpList_append_byteA rfl (.tmp 24) (.tmp 26) 43 rfl 5 i0 Tryz.underlying43 hi hz0 hz1 hz2 vl1 w2 B m.out H1.out.l H1.out.hB rfl _ o rfl _ rfl rfl (by omega) ?_; intro g3 n3 cp3 w3 hb3 ha3; obtain ⟨d3, f3⟩ := H1.out.cellL ha3 2; rw [d2] at d3; have H3 := Lib.hid (H1.out.stL ha3 hb3); have q3 := H3.out.1.c3; clear hb3 ha3))
        | (go_loud (refine wpList_append_byteA rfl (.tmp 34) (.tmp 36) 43 rfl 5 i0 Tryz.underlying43 hi hz0 hz1 hz2 ve1 (w3.setCell ⟨b, 2, none⟩ (.slice (some ⟨g3, 0, none⟩) n3 cp3)) B m.en H3.out.1.e H3.out.1.hB rfl _ c rfl w3.heap.size (by simp) rfl (by omega) ?_; intro g5 n5 cp5 w5 hb5 ha5; obtain ⟨d5, f5⟩ := H3.out.1.cellE ha5 3; rw [q3] at d5; have H5 := Lib.hid (H3.out.1.stE ha5 hb5); have q4 := H5.out.1.c4; have r4 := H5.out.1.fr 4; have H6 := Lib.hid (H5.out.1.setS false); clear hb5 ha5)))
      go_end0
      exact ⟨rfl, by rw [HV.out]; exact ⟨_, _, H6.out.1⟩, ((K1.out.trans H3.out.2).trans H5.out.2).trans H6.out.2⟩)
theorem nxB_bad33 (s : WS) : (s.bad 33).nxB = false ∧ (s.bad 33).nx = s.bad 33 := ⟨nxB_err (by rw [bad_c]; decide), nx_err (by rw [bad_c]; decide)⟩
set_option maxRecDepth 20000 in
theorem jwbeg_deep (h : Wr Z B b w vl ve s) (hk : WOk s) (hc : s.c = 0) (hd : s.en.length = 32) (o c : UInt8) :
    Calls Tryz.prog 35 #[.pointer (some ⟨b, 0, none⟩), .int .u8 (o.toNat : Int), .int .u8 (c.toNat : Int)] w fun e w' => e = .returned (.tuple #[]) ∧ WrX Z B b w' (s.beg o c) ∧ Kz Z B w w' := by
  have HW := Lib.hid (jwworks_any h)
  rw [decide_eq_true hc] at HW
  have HF := Lib.hid (jwfail_any h 33)
  obtain ⟨ae, ce, rfl, _, _⟩ := h.e.form
  have c3 := h.c3
  rw [hd] at c3
  have HV := Lib.hid (beg_deep hc hd o c)
  have HB := Lib.hid (nxB_bad33 s)
  have hW := WOk.bad s 33
  have hl : (s.bad 33).out.length ≤ 70368744177664 := by simp [WS.bad]
  have HX := Lib.hid (show ∀ (w1 : World) (vl ve : Value), Wr Z B b w1 vl ve (s.bad 33) → Calls Tryz.prog 39 #[.pointer (some ⟨b, 0, none⟩)] w1 fun e w' => e = .returned (.bool false) ∧ WrX Z B b w' (s.bad 33) ∧ Kz Z B w1 w' from fun w1 vl ve h1 => by
    have := jwnext_any h1 hW hl
    rw [HB.out.1, HB.out.2] at this; exact this)
  clear h hk hc hd
  generalize s.beg o c = V at *
  generalize s.bad 33 = m at *
  go_enter Tryz.func35, Tryz.ntmps35
  go_wp2_with fail
  refine HW.out.mono ?_
  rintro e w1 ⟨rfl, hw⟩
  rw [hw]; clear hw
  go_wp2_with fail
  refine HF.out.mono ?_
  rintro e w2 ⟨rfl, ⟨vl2, ve2, h2⟩, k2⟩
  have K2 := Lib.hid k2
  have HX2 := Lib.hid (HX.out w2 vl2 ve2 h2)
  clear h2 k2
  go_wp2_with fail
  refine HX2.out.mono ?_
  rintro e w3 ⟨rfl, h3, k3⟩
  have H3 := Lib.hid h3
  have K3 := Lib.hid (K2.out.trans k3)
  clear h3 k3
  go_wp2
  go_end0
  exact ⟨rfl, by rw [HV.out]; exact H3.out, K3.out⟩
theorem jwbeg_any (h : Wr Z B b w vl ve s) (hk : WOk s) (hs : s.out.length ≤ 35184372088832) (o c : UInt8) :
    Calls Tryz.prog 35 #[.pointer (some ⟨b, 0, none⟩), .int .u8 (o.toNat : Int), .int .u8 (c.toNat : Int)] w fun e w' => e = .returned (.tuple #[]) ∧ WrX Z B b w' (s.beg o c) ∧ Kz Z B w w' := by
  by_cases hd : s.c = 0 ∧ s.en.length = 32
  · exact jwbeg_deep h hk hd.1 hd.2 o c
  · exact jwbeg_go h hk hs hd o c
theorem jwobject_any (h : Wr Z B b w vl ve s) (hk : WOk s) (hs : s.out.length ≤ 35184372088832) :
    Calls Tryz.prog 14 #[.pointer (some ⟨b, 0, none⟩)] w fun e w' => e = .returned (.tuple #[]) ∧ WrX Z B b w' (s.beg 123 125) ∧ Kz Z B w w' := by
  have HB := Lib.hid (show Calls Tryz.prog 35 #[.pointer (some ⟨b, 0, none⟩), .int .u8 123, .int .u8 125] w fun e w' => e = .returned (.tuple #[]) ∧ WrX Z B b w' (s.beg 123 125) ∧ Kz Z B w w' from jwbeg_any h hk hs 123 125)
  clear h hk
  go_enter Tryz.func14, Tryz.ntmps14
  go_wp2_with fail
  refine HB.out.mono ?_
  rintro e w1 ⟨rfl, h1, k1⟩
  have H1 := Lib.hid h1
  clear h1
  go_wp2
  go_end0
  exact ⟨rfl, H1.out, k1⟩
theorem jwlist_any (h : Wr Z B b w vl ve s) (hk : WOk s) (hs : s.out.length ≤ 35184372088832) :
    Calls Tryz.prog 16 #[.pointer (some ⟨b, 0, none⟩)] w fun e w' => e = .returned (.tuple #[]) ∧ WrX Z B b w' (s.beg 91 93) ∧ Kz Z B w w' := by
  have HB := Lib.hid (show Calls Tryz.prog 35 #[.pointer (some ⟨b, 0, none⟩), .int .u8 91, .int .u8 93] w fun e w' => e = .returned (.tuple #[]) ∧ WrX Z B b w' (s.beg 91 93) ∧ Kz Z B w w' from jwbeg_any h hk hs 91 93)
  clear h hk
  go_enter Tryz.func16, Tryz.ntmps16
  go_wp2_with fail
  refine HB.out.mono ?_
  rintro e w1 ⟨rfl, h1, k1⟩
  have H1 := Lib.hid h1
  clear h1
  go_wp2
  go_end0
  exact ⟨rfl, H1.out, k1⟩
end
end Go.Proofs.YtnbhhnkcfbfdcaaGreatDoor
