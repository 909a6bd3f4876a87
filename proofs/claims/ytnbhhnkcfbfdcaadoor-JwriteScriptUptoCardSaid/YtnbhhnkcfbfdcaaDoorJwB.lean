/- Package jwrite: word, Flag, Null, Text, Whole. -/
import Derived.Test.YtnbhhnkcfbfdcaaDoorJwA
import Derived.Test.YtnbhhnkcfbfdcaaDoorJsPut
import Derived.Test.YtnbhhnkcfbfdcaaDoorZH
namespace Go.Proofs.YtnbhhnkcfbfdcaaDoor
open Go Go.RowKit
set_option linter.unusedVariables false

theorem val_yes {s : WS} (h : s.nxB = true) (v : List UInt8) : s.val v = ⟨s.nx.c, s.nx.out ++ v, s.nx.en, s.nx.sm, s.nx.kd⟩ := by
  by_cases hc : s.c = 0
  · by_cases ho : s.isO = true
    · rw [val_ok hc ho, nx_ok hc ho]
    · rw [nxB_bad hc ho] at h; cases h
  · rw [nxB_err hc] at h; cases h
theorem val_no {s : WS} (h : s.nxB = false) (v : List UInt8) : s.val v = s.nx := by unfold WS.val; rw [h, if_neg (by decide)]
theorem nx_len (s : WS) : s.nx.out.length ≤ s.out.length + 1 := by
  by_cases hc : s.c = 0
  · by_cases ho : s.isO = true
    · rw [nx_ok hc ho]; have := cm_len s; simp only [List.length_append]; omega
    · rw [nx_bad hc ho]; simp [WS.bad]
  · rw [nx_err hc]; omega
section
variable {Z : Nat → Prop} {B b : Nat} {w : World} {vl ve : Value} {s : WS}
set_option maxRecDepth 20000 in
theorem jwword_any (h : Wr Z B b w vl ve s) (hk : WOk s) (hs : s.out.length ≤ 35184372088832) (t : ByteArray) (ht : t.size ≤ 5) :
    Calls Tryd.prog 32 #[.pointer (some ⟨b, 0, none⟩), .string t] w fun e w' => e = .returned (.tuple #[]) ∧ WrX Z B b w' (s.val t.data.toList) ∧ Kz Z B w w' := by
  obtain ⟨i0, hi, hz0, hz1, hz2⟩ := info_parts info8
  have HN := Lib.hid (jwnext_any h hk (by omega))
  have hnl := nx_len s
  clear h hk
  by_cases hx : s.nxB = true
  · have HV := Lib.hid (val_yes hx t.data.toList)
    rw [hx] at HN
    clear hx
    generalize s.val t.data.toList = V at *
    generalize s.nx = n at *
    go_enter Tryd.func32, Tryd.ntmps32
    go_wp2_with fail
    refine HN.out.mono ?_
    rintro e w1 ⟨rfl, ⟨vl1, ve1, h1⟩, k1⟩
    have c2 := h1.c2
    have H1 := Lib.hid h1
    have K1 := Lib.hid k1
    clear h1 k1
    go_wp2_with (at_builtin; go_loud (refine wpList_append_textA rfl (.tmp 10) (.tmp 11) 41 9 rfl 5 i0 Tryd.underlying41 Tryd.underlying9 hi hz0 hz1 hz2 vl1 B n.out H1.out.l H1.out.hB rfl t rfl (by omega) ?_; intro ad2 n2 cap2 w2 hb2 ha2; obtain ⟨d2, f2⟩ := H1.out.cellL ha2 2; rw [c2] at d2; have H2 := Lib.hid (H1.out.stL ha2 hb2); clear hb2 ha2))
    go_end0
    exact ⟨rfl, ⟨_, _, by rw [HV.out]; exact H2.out.1⟩, K1.out.trans H2.out.2⟩
  · have HV := Lib.hid (val_no ((Bool.not_eq_true _).mp hx) t.data.toList)
    rw [(Bool.not_eq_true _).mp hx] at HN
    clear hx
    generalize s.val t.data.toList = V at *
    go_enter Tryd.func32, Tryd.ntmps32
    go_wp2_with fail
    refine HN.out.mono ?_
    rintro e w1 ⟨rfl, h1, k1⟩
    have H1 := Lib.hid h1
    have K1 := Lib.hid k1
    clear h1 k1
    go_wp2
    go_end0
    exact ⟨rfl, by rw [HV.out]; exact H1.out, K1.out⟩
theorem jwflag_any (h : Wr Z B b w vl ve s) (hk : WOk s) (hs : s.out.length ≤ 35184372088832) (is : Bool) :
    Calls Tryd.prog 16 #[.pointer (some ⟨b, 0, none⟩), .bool is] w fun e w' => e = .returned (.tuple #[]) ∧ WrX Z B b w' (s.val (if is then [116, 114, 117, 101] else [102, 97, 108, 115, 101])) ∧ Kz Z B w w' := by
  cases is
  · have HT := Lib.hid (jwword_any h hk hs ⟨#[102, 97, 108, 115, 101]⟩ (by decide))
    clear h hk
    go_enter Tryd.func16, Tryd.ntmps16
    go_wp2_with fail
    refine HT.out.mono ?_
    rintro e w1 ⟨rfl, h1, k1⟩
    have H1 := Lib.hid h1
    clear h1
    go_wp2
    go_end0
    exact ⟨rfl, H1.out, k1⟩
  · have HT := Lib.hid (jwword_any h hk hs ⟨#[116, 114, 117, 101]⟩ (by decide))
    clear h hk
    go_enter Tryd.func16, Tryd.ntmps16
    go_wp2_with fail
    refine HT.out.mono ?_
    rintro e w1 ⟨rfl, h1, k1⟩
    have H1 := Lib.hid h1
    clear h1
    go_wp2
    refine bodyPost_ret (results_none rfl _ _ _) rfl ?_
    exact ⟨rfl, H1.out, k1⟩
theorem jwnull_any (h : Wr Z B b w vl ve s) (hk : WOk s) (hs : s.out.length ≤ 35184372088832) :
    Calls Tryd.prog 14 #[.pointer (some ⟨b, 0, none⟩)] w fun e w' => e = .returned (.tuple #[]) ∧ WrX Z B b w' (s.val [110, 117, 108, 108]) ∧ Kz Z B w w' := by
  have HT := Lib.hid (jwword_any h hk hs ⟨#[110, 117, 108, 108]⟩ (by decide))
  clear h hk
  go_enter Tryd.func14, Tryd.ntmps14
  go_wp2_with fail
  refine HT.out.mono ?_
  rintro e w1 ⟨rfl, h1, k1⟩
  have H1 := Lib.hid h1
  clear h1
  go_wp2
  go_end0
  exact ⟨rfl, H1.out, k1⟩
/-- What a text's bytes, laid anew, are. -/
abbrev Laid (N : Nat) (args : Array Value) (J : List UInt8) : Prop := ∀ w, Calls Tryd.prog N args w fun e w' => ∃ g n cap, e = .returned (.slice (some ⟨g, 0, none⟩) n cap) ∧ Bts 5 w' w.heap.size (.slice (some ⟨g, 0, none⟩) n cap) J ∧ Below w.heap.size w w'
theorem laid_text (t : List UInt8) (ht : t.length ≤ 1099511627776) : Laid 18 #[.slice none 0 0, .string (bA t)] (jText t) := fun w => by
  refine (jput_any none 0 [] (bA t) w (by simp) (by rw [bA_size]; exact ht) (fun j hj => by simp at hj)).mono ?_
  rintro e w' ⟨v, rfl, hv, hb⟩
  rw [List.nil_append, show (bA t).data.toList = t by simp [bA]] at hv
  obtain ⟨g, cap, rfl, _⟩ := World.ownsRow.form hv (by rw [jText_len]; omega)
  exact ⟨g, _, cap, rfl, hv, hb⟩
set_option maxRecDepth 20000 in
set_option maxHeartbeats 1000000 in
theorem jwtext_any (h : Wr Z B b w vl ve s) (hk : WOk s) (hs : s.out.length ≤ 35184372088832) (t : List UInt8) (ht : t.length ≤ 1099511627776) :
    Calls Tryd.prog 17 #[.pointer (some ⟨b, 0, none⟩), .string (bA t)] w fun e w' => e = .returned (.tuple #[]) ∧ WrX Z B b w' (s.val (jText t)) ∧ Kz Z B w w' := by
  obtain ⟨i0, hi, hz0, hz1, hz2⟩ := info_parts info8
  have HN := Lib.hid (jwnext_any h hk (by omega))
  have HP := Lib.hid (laid_text t ht)
  have hnl := nx_len s
  have hj0 : 0 < (jText t).length := by rw [jText_len]; omega
  have hj1 : (jText t).length ≤ 6597069766658 := by have := (jT_len t).2; rw [jText_len]; omega
  clear h hk
  by_cases hx : s.nxB = true
  · have HV := Lib.hid (val_yes hx (jText t))
    rw [hx] at HN
    clear hx
    generalize jText t = J at *
    generalize s.val J = V at *
    generalize s.nx = n at *
    generalize bA t = T at *
    have hlen : n.out.length + J.length ≤ 140737488355328 := by omega
    go_enter Tryd.func17, Tryd.ntmps17
    go_wp2_with fail
    refine HN.out.mono ?_
    rintro e w1 ⟨rfl, ⟨vl1, ve1, h1⟩, k1⟩
    have c0 := h1.drew.c0
    have c2 := h1.drew.c2
    have H1 := Lib.hid h1.drew
    have K1 := Lib.hid k1.drew
    clear h1 k1
    go_wp2_with fail
    go_region_law (first
      | (go_simp; go_at_call 18; (with_reducible refine (HP.out _).mono ?_); rintro e w2 ⟨g2, n2, cp2, rfl, hv2, hb2⟩; have H2 := Lib.hid (H1.out.next hb2); have K2 := Lib.hid (K1.out.trans (Kz.of_below hb2)); have HV2 := Lib.hid hv2; have e2 := H2.out.c2; clear hb2 hv2)
      | (refine step_append_bytesA rfl (.tmp 10) (.tmp 16) 41 rfl 5 i0 Tryd.underlying41 hi hz0 hz1 hz2 vl1 B n.out H2.out.l H2.out.hB rfl g2 n2 cp2 _ J HV2.out rfl hj0 hlen ?_; intro g3 n3 cp3 w3 hb3 ha3; obtain ⟨d2, f2⟩ := H2.out.cellL ha3 2; rw [e2] at d2; have H3 := Lib.hid (H2.out.stL ha3 hb3); clear hb3 ha3))
    all_goals go_wp2
    all_goals go_end0
    all_goals exact ⟨rfl, ⟨_, _, by rw [HV.out]; exact H3.out.1⟩, K2.out.trans H3.out.2⟩
  · have HV := Lib.hid (val_no ((Bool.not_eq_true _).mp hx) (jText t))
    rw [(Bool.not_eq_true _).mp hx] at HN
    clear hx
    generalize s.val (jText t) = V at *
    go_enter Tryd.func17, Tryd.ntmps17
    go_wp2_with fail
    refine HN.out.mono ?_
    rintro e w1 ⟨rfl, h1, k1⟩
    have H1 := Lib.hid h1
    have K1 := Lib.hid k1
    clear h1 k1
    go_wp2
    go_end0
    exact ⟨rfl, by rw [HV.out]; exact H1.out, K1.out⟩
end
end Go.Proofs.YtnbhhnkcfbfdcaaDoor
