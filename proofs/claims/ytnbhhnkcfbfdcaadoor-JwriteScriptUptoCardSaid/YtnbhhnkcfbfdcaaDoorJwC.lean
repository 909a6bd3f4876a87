/- Package jwrite: Whole, Key, begin, Object, List. -/
import Derived.Test.YtnbhhnkcfbfdcaaDoorJwB
namespace Go.Proofs.YtnbhhnkcfbfdcaaDoor
open Go Go.RowKit
set_option linter.unusedVariables false

section
variable {Z : Nat → Prop} {B b : Nat} {w : World} {vl ve : Value} {s : WS}
theorem laid_int (n : Int) (h0 : -9223372036854775808 ≤ n) (h1 : n ≤ 9223372036854775807) (w : World) (ht : P10 w) : Calls Tryd.prog 31 #[.slice none 0 0, .int .i64 n] w fun e w' => ∃ g m cap, e = .returned (.slice (some ⟨g, 0, none⟩) m cap) ∧ Bts 5 w' w.heap.size (.slice (some ⟨g, 0, none⟩) m cap) (Lib.itoa n) ∧ Below w.heap.size w w' := by
  refine (dput_any none 0 [] n w h0 h1 (by simp) (fun j hj => by simp at hj) ht).mono ?_
  rintro e w' ⟨v, rfl, hv, hb⟩
  rw [List.nil_append] at hv
  obtain ⟨g, cap, rfl, _⟩ := World.ownsRow.form hv (List.length_pos_iff.mpr (itoa_ne n))
  exact ⟨g, _, cap, rfl, hv, hb⟩
set_option maxRecDepth 20000 in
set_option maxHeartbeats 1000000 in
theorem jwwhole_any (h : Wr Z B b w vl ve s) (hk : WOk s) (hs : s.out.length ≤ 35184372088832) (n : Int) (h0 : -9223372036854775808 ≤ n) (h1 : n ≤ 9223372036854775807) (ht : ∀ w', Below B w w' → P10 w') :
    Calls Tryd.prog 13 #[.pointer (some ⟨b, 0, none⟩), .int .i64 n] w fun e w' => e = .returned (.tuple #[]) ∧ WrX Z B b w' (s.val (Lib.itoa n)) ∧ Kz Z B w w' := by
  obtain ⟨i0, hi, hz0, hz1, hz2⟩ := info_parts info8
  have HN := Lib.hid (jwnext_any h hk (by omega))
  have HP := Lib.hid (fun w ht => laid_int n h0 h1 w ht)
  have HT := Lib.hid ht
  have hB := h.hB
  have hnl := nx_len s
  have hj0 : 0 < (Lib.itoa n).length := List.length_pos_iff.mpr (itoa_ne n)
  have hj1 : (Lib.itoa n).length ≤ 21 := itoa_len n h0 h1
  clear h hk ht
  by_cases hx : s.nxB = true
  · have HV := Lib.hid (val_yes hx (Lib.itoa n))
    rw [hx] at HN
    clear hx
    generalize Lib.itoa n = J at *
    generalize s.val J = V at *
    generalize s.nx = m at *
    have hlen : m.out.length + J.length ≤ 140737488355328 := by omega
    go_enter Tryd.func13, Tryd.ntmps13
    go_wp2_with fail
    refine HN.out.mono ?_
    rintro e w1 ⟨rfl, ⟨vl1, ve1, h1⟩, k1⟩
    have c2 := h1.drew.c2
    have H1 := Lib.hid h1.drew
    have K1 := Lib.hid k1.drew
    have PT := Lib.hid (HT.out w1.drew (K1.out.below hB))
    clear h1 k1
    go_wp2_with fail
    go_region_law (first
      | (go_simp; go_at_call 31; (with_reducible refine (HP.out _ PT.out).mono ?_); rintro e w2 ⟨g2, n2, cp2, rfl, hv2, hb2⟩; have H2 := Lib.hid (H1.out.next hb2); have K2 := Lib.hid (K1.out.trans (Kz.of_below hb2)); have HV2 := Lib.hid hv2; have e2 := H2.out.c2; clear hb2 hv2)
      | (refine step_append_bytesA rfl (.tmp 10) (.tmp 12) 41 rfl 5 i0 Tryd.underlying41 hi hz0 hz1 hz2 vl1 B m.out H2.out.l H2.out.hB rfl g2 n2 cp2 _ J HV2.out rfl hj0 hlen ?_; intro g3 n3 cp3 w3 hb3 ha3; obtain ⟨d2, f2⟩ := H2.out.cellL ha3 2; rw [e2] at d2; have H3 := Lib.hid (H2.out.stL ha3 hb3); clear hb3 ha3))
    all_goals go_wp2
    all_goals go_end0
    all_goals exact ⟨rfl, ⟨_, _, by rw [HV.out]; exact H3.out.1⟩, K2.out.trans H3.out.2⟩
  · have HV := Lib.hid (val_no ((Bool.not_eq_true _).mp hx) (Lib.itoa n))
    rw [(Bool.not_eq_true _).mp hx] at HN
    clear hx
    generalize s.val (Lib.itoa n) = V at *
    go_enter Tryd.func13, Tryd.ntmps13
    go_wp2_with fail
    refine HN.out.mono ?_
    rintro e w1 ⟨rfl, h1, k1⟩
    have H1 := Lib.hid h1
    have K1 := Lib.hid k1
    clear h1 k1
    go_wp2
    go_end0
    exact ⟨rfl, by rw [HV.out]; exact H1.out, K1.out⟩
set_option maxRecDepth 20000 in
theorem jwkey_err (h : Wr Z B b w vl ve s) (hc : ¬ s.c = 0) (t : ByteArray) (T : List UInt8) :
    Calls Tryd.prog 11 #[.pointer (some ⟨b, 0, none⟩), .string t] w fun e w' => e = .returned (.tuple #[]) ∧ WrX Z B b w' (s.key T) ∧ Kz Z B w w' := by
  have HW := Lib.hid (jwworks_any h)
  rw [decide_eq_false hc] at HW
  have HK := Lib.hid (key_err hc T)
  have H := Lib.hid h
  clear h hc
  go_enter Tryd.func11, Tryd.ntmps11
  go_wp2_with fail
  refine HW.out.mono ?_
  rintro e w1 ⟨rfl, hw⟩
  rw [hw]; clear hw
  go_wp2
  refine bodyPost_ret (results_none rfl _ _ _) rfl ?_
  exact ⟨rfl, by rw [HK.out]; exact ⟨_, _, H.out⟩, Kz.refl _⟩
set_option maxRecDepth 20000 in
theorem jwkey_bad (h : Wr Z B b w vl ve s) (hk : WOk s) (hc : s.c = 0) (hf : s.lst ≠ 125 ∨ s.kd = true) (t : ByteArray) (T : List UInt8) :
    Calls Tryd.prog 11 #[.pointer (some ⟨b, 0, none⟩), .string t] w fun e w' => e = .returned (.tuple #[]) ∧ WrX Z B b w' (s.key T) ∧ Kz Z B w w' := by
  have HW := Lib.hid (jwworks_any h)
  rw [decide_eq_true hc] at HW
  have HE := Lib.hid (jwend_any h hk)
  have HK := Lib.hid (key_bad hc hf T)
  have HF := Lib.hid (fun w1 (hb : Below w.heap.size w w1) => jwfail_any (h.next hb) 12)
  have HC := Lib.hid (fun w1 (hb : Below w.heap.size w w1) => (h.next hb).c5)
  clear h hk hc
  by_cases h1 : s.lst = 125
  · have hkd := hf.resolve_left (fun e => e h1)
    have p1 : ((s.lst.toNat : Int) != 125) = false := by rw [bne, u8eq_t (k := 125) 125 rfl h1]; rfl
    rw [hkd] at HC
    generalize s.lst = x at *
    clear hf h1 hkd
    go_enter Tryd.func11, Tryd.ntmps11
    go_wp2_with fail
    refine HW.out.mono ?_
    rintro e w1 ⟨rfl, hw⟩
    rw [hw]; clear hw
    go_wp2_with fail
    refine HE.out.mono ?_
    rintro e w2 ⟨rfl, hb⟩
    have c5 := HC.out w2 hb
    go_wp2_with fail
    refine (HF.out w2 hb).mono ?_
    rintro e w3 ⟨rfl, h3, k3⟩
    have H3 := Lib.hid h3
    have K3 := Lib.hid ((Kz.of_below (Z := Z) (B := B) hb).trans k3)
    clear h3 k3 hb
    go_wp2
    refine bodyPost_ret (results_none rfl _ _ _) rfl ?_
    exact ⟨rfl, by rw [HK.out]; exact H3.out, K3.out⟩
  · have p1 : ((s.lst.toNat : Int) != 125) = true := by rw [bne, u8eq_f (k := 125) 125 rfl h1]; rfl
    generalize s.lst = x at *
    clear hf h1
    go_enter Tryd.func11, Tryd.ntmps11
    go_wp2_with fail
    refine HW.out.mono ?_
    rintro e w1 ⟨rfl, hw⟩
    rw [hw]; clear hw
    go_wp2_with fail
    refine HE.out.mono ?_
    rintro e w2 ⟨rfl, hb⟩
    go_wp2_with fail
    refine (HF.out w2 hb).mono ?_
    rintro e w3 ⟨rfl, h3, k3⟩
    have H3 := Lib.hid h3
    have K3 := Lib.hid ((Kz.of_below (Z := Z) (B := B) hb).trans k3)
    clear h3 k3 hb
    go_wp2
    refine bodyPost_ret (results_none rfl _ _ _) rfl ?_
    exact ⟨rfl, by rw [HK.out]; exact H3.out, K3.out⟩
set_option maxRecDepth 20000 in
set_option maxHeartbeats 2000000 in
theorem jwkey_ok (h : Wr Z B b w vl ve s) (hk : WOk s) (hs : s.out.length ≤ 35184372088832) (hc : s.c = 0) (hf : ¬ (s.lst ≠ 125 ∨ s.kd = true)) (t : List UInt8) (ht : t.length ≤ 1099511627776) :
    Calls Tryd.prog 11 #[.pointer (some ⟨b, 0, none⟩), .string (bA t)] w fun e w' => e = .returned (.tuple #[]) ∧ WrX Z B b w' (s.key t) ∧ Kz Z B w w' := by
  obtain ⟨i0, hi, hz0, hz1, hz2⟩ := info_parts info8
  have HW := Lib.hid (jwworks_any h)
  rw [decide_eq_true hc] at HW
  have HE := Lib.hid (jwend_any h hk)
  have HM := Lib.hid (fun w1 (hb : Below w.heap.size w w1) => jwcomma_any (h.next hb) (by omega))
  have HC := Lib.hid (fun w1 (hb : Below w.heap.size w w1) => (h.next hb).c5)
  have h1 : s.lst = 125 := Decidable.not_not.mp (fun e => hf (.inl e))
  have hkd : s.kd = false := (Bool.not_eq_true _).mp (fun e => hf (.inr e))
  have p1 : ((s.lst.toNat : Int) != 125) = false := by rw [bne, u8eq_t (k := 125) 125 rfl h1]; rfl
  have HP := Lib.hid (laid_text t ht)
  have hj0 : 0 < (jText t).length := by rw [jText_len]; omega
  have hj1 : (jText t).length ≤ 6597069766658 := by have := (jT_len t).2; rw [jText_len]; omega
  have hcl := cm_len s
  have HK := Lib.hid (show s.key t = ⟨s.c, s.out ++ s.cm ++ jText t ++ [58], s.en, s.sm, true⟩ by rw [key_ok hc hf, hc])
  rw [hkd] at HC
  have hlen : (s.out ++ s.cm).length + (jText t).length ≤ 140737488355328 := by rw [List.length_append]; omega
  have hlen2 : (s.out ++ s.cm ++ jText t).length + 1 ≤ 140737488355328 := by rw [List.length_append, List.length_append]; omega
  generalize s.lst = x at *
  generalize jText t = J at *
  generalize bA t = T at *
  generalize s.cm = cm at *
  generalize s.key t = V at *
  clear h hk hc hf h1 hkd
  go_enter Tryd.func11, Tryd.ntmps11
  go_wp2_with fail
  refine HW.out.mono ?_
  rintro e w1 ⟨rfl, hw⟩
  rw [hw]; clear hw
  go_wp2_with fail
  refine HE.out.mono ?_
  rintro e w2 ⟨rfl, hb⟩
  have c5 := HC.out w2 hb
  go_wp2_with fail
  refine (HM.out w2 hb).mono ?_
  rintro e w3 ⟨rfl, ⟨vl1, ve1, h1⟩, k1⟩
  have c0 := h1.drew.c0
  have c2 := h1.drew.c2
  have H1 := Lib.hid h1.drew
  have K1 := Lib.hid (((Kz.of_below (Z := Z) (B := B) hb).trans k1).drew)
  clear h1 k1 hb
  go_wp2_with fail
  go_region_law (first
    | (go_simp; go_at_call 18; (with_reducible refine (HP.out _).mono ?_); rintro e w4 ⟨g2, n2, cp2, rfl, hv2, hb2⟩; have H2 := Lib.hid (H1.out.next hb2); have K2 := Lib.hid (K1.out.trans (Kz.of_below hb2)); have HV2 := Lib.hid hv2; have e2 := H2.out.c2; clear hb2 hv2)
    | (refine step_append_bytesA rfl (.tmp 24) (.tmp 30) 41 rfl 5 i0 Tryd.underlying41 hi hz0 hz1 hz2 vl1 B (s.out ++ cm) H2.out.l H2.out.hB rfl g2 n2 cp2 _ J HV2.out rfl hj0 hlen ?_; intro g3 n3 cp3 w5 hb3 ha3; obtain ⟨d2, f2⟩ := H2.out.cellL ha3 2; rw [e2] at d2; have H3 := Lib.hid (H2.out.stL ha3 hb3); have q2 := H3.out.1.c2; clear hb3 ha3))
  all_goals (generalize hw6 : w5.setCell ⟨b, 2, none⟩ (.slice (some ⟨g3, 0, none⟩) n3 cp3) = w6 at *; clear hw6 d2 f2)
  all_goals go_wp2_with (at_builtin; go_loud (refine wpList_append_byteA rfl (.tmp 38) (.tmp 39) 41 rfl 5 i0 Tryd.underlying41 hi hz0 hz1 hz2 (.slice (some ⟨g3, 0, none⟩) n3 cp3) w6 B _ H3.out.1.l H3.out.1.hB rfl 58 58 rfl _ rfl rfl hlen2 ?_; intro g4 n4 cp4 w7 hb7 ha7; obtain ⟨d7, f7⟩ := H3.out.1.cellL ha7 2; rw [q2] at d7; have H7 := Lib.hid (H3.out.1.stL ha7 hb7); have q5 := H7.out.1.c5; have r5 := H7.out.1.fr 5; have H8 := Lib.hid (H7.out.1.setK true); clear hb7 ha7))
  all_goals go_end0
  all_goals exact ⟨rfl, by rw [HK.out]; exact ⟨_, _, H8.out.1⟩, ((K2.out.trans H3.out.2).trans H7.out.2).trans H8.out.2⟩
theorem jwkey_any (h : Wr Z B b w vl ve s) (hk : WOk s) (hs : s.out.length ≤ 35184372088832) (t : List UInt8) (ht : t.length ≤ 1099511627776) :
    Calls Tryd.prog 11 #[.pointer (some ⟨b, 0, none⟩), .string (bA t)] w fun e w' => e = .returned (.tuple #[]) ∧ WrX Z B b w' (s.key t) ∧ Kz Z B w w' := by
  by_cases hc : s.c = 0
  · by_cases hf : s.lst ≠ 125 ∨ s.kd = true
    · exact jwkey_bad h hk hc hf _ t
    · exact jwkey_ok h hk hs hc hf t ht
  · exact jwkey_err h hc _ t
end
end Go.Proofs.YtnbhhnkcfbfdcaaDoor
