/- Several texts in one (JwA, JwB): each begins with its own words. -/
import Derived.Test.YtnbhhnkcfbfdcaaGreatDoorJwMem
import Derived.Laws.EntriesVeiled
import Derived.Deep.RegionLaw
import Derived.Deep.Cut
import Derived.Deep.CutRange
import Derived.Test.YtnbhhnkcfbfdcaaGreatDoorJsPut
import Derived.Test.YtnbhhnkcfbfdcaaGreatDoorZH
/- Package jwrite: made, works, fail, end, open, comma, next. -/
namespace Go.Proofs.YtnbhhnkcfbfdcaaGreatDoor
open Go Go.RowKit
set_option linter.unusedVariables false

section
variable {Z : Nat → Prop} {B b : Nat} {w : World} {vl ve : Value} {s : WS}
/-- A function that is there is not nil. -/
theorem func_neq (F : Nat) (w : World) : (binOp .neq 55 (.func (.func F) #[] #[]) .nilFunc).run Tryz.prog w = .ok (.bool true) w := by kernel_rfl
theorem jwmade_any (h : Wr Z B b w vl ve s) : Calls Tryz.prog 26 #[.pointer (some ⟨b, 0, none⟩)] w fun e w' => e = .returned (.bool true) ∧ w' = w := by
  have c0 := h.c0
  clear h
  have hq := func_neq 24
  go_enter Tryz.func26, Tryz.ntmps26
  go_wp2_with (rw [hq])
  go_ret
  exact ⟨rfl, rfl⟩
theorem jwmade_nil (w : World) : Calls Tryz.prog 26 #[.pointer none] w fun e w' => e = .returned (.bool false) ∧ w' = w := by
  go_enter Tryz.func26, Tryz.ntmps26
  go_wp2
  go_ret
  exact ⟨rfl, rfl⟩
theorem jwworks_any (h : Wr Z B b w vl ve s) : Calls Tryz.prog 36 #[.pointer (some ⟨b, 0, none⟩)] w fun e w' => e = .returned (.bool (decide (s.c = 0))) ∧ w' = w := by
  have c1 := h.c1
  have HM := Lib.hid (jwmade_any h)
  clear h
  generalize s.c = c at *
  by_cases hc : c = 0
  · subst hc
    go_enter Tryz.func36, Tryz.ntmps36
    go_wp2_with fail
    refine HM.out.mono ?_
    rintro e w1 ⟨rfl, hw⟩
    rw [hw]; clear hw
    go_wp2
    go_ret
    exact ⟨rfl, rfl⟩
  · have p1 : (c == 0) = false := beq_eq_false_iff_ne.mpr hc
    have HD := Lib.hid (show decide (c = 0) = false from decide_eq_false hc)
    clear hc
    go_enter Tryz.func36, Tryz.ntmps36
    go_wp2_with fail
    refine HM.out.mono ?_
    rintro e w1 ⟨rfl, hw⟩
    rw [hw]; clear hw
    go_wp2
    go_ret
    exact ⟨by rw [HD.out]; rfl, rfl⟩
theorem jwworks_nil (w : World) : Calls Tryz.prog 36 #[.pointer none] w fun e w' => e = .returned (.bool false) ∧ w' = w := by
  have HM := Lib.hid (jwmade_nil w)
  go_enter Tryz.func36, Tryz.ntmps36
  go_wp2_with fail
  refine HM.out.mono ?_
  rintro e w1 ⟨rfl, hw⟩
  rw [hw]; clear hw
  go_wp2
  go_ret
  exact ⟨rfl, rfl⟩
set_option maxRecDepth 20000 in
theorem jwfail_any (h : Wr Z B b w vl ve s) (c : Int) : Calls Tryz.prog 37 #[.pointer (some ⟨b, 0, none⟩), .int .i64 c] w fun e w' => e = .returned (.tuple #[]) ∧ WrX Z B b w' (s.bad c) ∧ Kz Z B w w' := by
  have c0 := h.c0; have c1 := h.c1; have c2 := h.c2; have c3 := h.c3; have c4 := h.c4; have c5 := h.c5
  have f0 := h.fr 0; have f1 := h.fr 1; have f2 := h.fr 2; have f3 := h.fr 3; have f4 := h.fr 4; have f5 := h.fr 5
  have H := Lib.hid (h.setB c)
  clear h
  go_enter Tryz.func37, Tryz.ntmps37
  go_wp2
  go_end0
  exact ⟨rfl, ⟨_, _, H.out.1⟩, H.out.2⟩
theorem lst_at (s : WS) (h : 0 < s.en.length) : s.lst = s.en[s.en.length - 1]'(by omega) := by
  unfold WS.lst
  rw [List.getLastD_eq_getLast?, List.getLast?_eq_getElem?, List.getElem?_eq_getElem (by omega)]; rfl
set_option maxRecDepth 20000 in
theorem jwend_any (h : Wr Z B b w vl ve s) (hk : WOk s) : Calls Tryz.prog 27 #[.pointer (some ⟨b, 0, none⟩)] w fun e w' => e = .returned (.int .u8 (s.lst.toNat : Int)) ∧ Below w.heap.size w w' := by
  obtain ⟨a, cap, rfl, hin, hcap⟩ := h.e.form
  have c3 := h.c3
  have hlen := hk.len
  by_cases he : s.en.length = 0
  · have HL := Lib.hid (show s.lst = 0 from lst_none s (List.eq_nil_of_length_eq_zero he))
    rw [he] at c3
    clear h hk hin hcap he hlen
    go_enter Tryz.func27, Tryz.ntmps27
    go_wp2
    go_ret
    exact ⟨by rw [HL.out]; rfl, Below.refl _ _⟩
  · obtain ⟨K, hK⟩ : ∃ K, K = s.en.length - 1 := ⟨_, rfl⟩
    have HL := Lib.hid (lst_at s (by omega))
    obtain ⟨g, off, rfl, hg, hc⟩ := hin (s.en.length - 1) (by omega)
    simp only [← hK] at HL hc
    generalize s.en[K]'(by omega) = x at *
    generalize s.en.length = N at *
    have p1 : ((N : Int) == 0) = false := beq_eq_false_iff_ne.mpr (by omega)
    have p2 : decide (N = 0) = false := decide_eq_false he
    have zw : IntKind.i64.wrap ((N : Int) - 1) = (K : Int) := by rw [i64_small (by omega) (by omega)]; omega
    have q1 : (0 : Int) ≤ (K : Int) := by omega
    have q2 : (K : Int) < (N : Int) := by omega
    clear h hk hin hcap hK hlen
    go_enter Tryz.func27, Tryz.ntmps27
    go_wp2_with fail
    go_quiet (fail)
    go_wp2
    go_ret
    exact ⟨by rw [HL.out]; rfl, Below.drewN (Below.refl _ _) _⟩
theorem u8eq_t {x : UInt8} {k : Int} (y : UInt8) (hk : k = (y.toNat : Int)) (h : x = y) : ((x.toNat : Int) == k) = true := by subst h; subst hk; simp
theorem u8eq_f {x : UInt8} {k : Int} (y : UInt8) (hk : k = (y.toNat : Int)) (h : ¬ x = y) : ((x.toNat : Int) == k) = false := by
  subst hk
  exact beq_eq_false_iff_ne.mpr (fun e => h (UInt8.toNat_inj.mp (by omega)))
theorem jwopen_any (h : Wr Z B b w vl ve s) (hk : WOk s) : Calls Tryz.prog 60 #[.pointer (some ⟨b, 0, none⟩)] w fun e w' => e = .returned (.bool s.isO) ∧ Below w.heap.size w w' := by
  have HE := Lib.hid (jwend_any h hk)
  have HN := Lib.hid (fun w1 (hb : Below w.heap.size w w1) => (And.intro (h.next hb).c4 (h.next hb).c5))
  have HI := Lib.hid (show s.isO = if s.lst = 125 then s.kd else if s.lst = 93 then true else !s.sm from rfl)
  generalize s.isO = r at *
  clear h hk
  generalize s.lst = x at *
  generalize s.sm = sm at *
  generalize s.kd = kd at *
  by_cases h1 : x = 125
  · have p1 := u8eq_t (k := 125) 125 rfl h1
    have HR := Lib.hid (show r = kd by rw [HI.out, if_pos h1])
    clear HI h1
    go_enter Tryz.func60, Tryz.ntmps60
    go_wp2_with fail
    refine HE.out.mono ?_
    rintro e w1 ⟨rfl, hb⟩
    obtain ⟨c4, c5⟩ := HN.out w1 hb
    go_wp2
    go_ret
    exact ⟨by rw [HR.out]; rfl, hb⟩
  · have p1 := u8eq_f (k := 125) 125 rfl h1
    by_cases h2 : x = 93
    · have p2 := u8eq_t (k := 93) 93 rfl h2
      have HR := Lib.hid (show r = true by rw [HI.out, if_neg h1, if_pos h2])
      clear HI h1 h2
      go_enter Tryz.func60, Tryz.ntmps60
      go_wp2_with fail
      refine HE.out.mono ?_
      rintro e w1 ⟨rfl, hb⟩
      go_wp2
      go_ret
      exact ⟨by rw [HR.out]; rfl, hb⟩
    · have p2 := u8eq_f (k := 93) 93 rfl h2
      have HR := Lib.hid (show r = !sm by rw [HI.out, if_neg h1, if_neg h2])
      clear HI h1 h2
      go_enter Tryz.func60, Tryz.ntmps60
      go_wp2_with fail
      refine HE.out.mono ?_
      rintro e w1 ⟨rfl, hb⟩
      obtain ⟨c4, c5⟩ := HN.out w1 hb
      go_wp2
      go_ret
      exact ⟨by rw [HR.out]; rfl, hb⟩
set_option maxRecDepth 20000 in
theorem jwcomma_any (h : Wr Z B b w vl ve s) (hs : s.out.length ≤ 70368744177664) : Calls Tryz.prog 38 #[.pointer (some ⟨b, 0, none⟩)] w fun e w' => e = .returned (.tuple #[]) ∧ WrX Z B b w' ⟨s.c, s.out ++ s.cm, s.en, s.sm, s.kd⟩ ∧ Kz Z B w w' := by
  obtain ⟨c, out, en, sm, kd⟩ := s
  obtain ⟨i0, hi, hz0, hz1, hz2⟩ := info_parts info8
  simp only at hs
  have c2 := h.c2; have c4 := h.c4; have c5 := h.c5
  have H := Lib.hid h
  have hB := h.hB
  have hl := h.l
  clear h
  cases sm
  · have HC := Lib.hid (show (⟨c, out, en, false, kd⟩ : WS).cm = [] from by unfold WS.cm; rw [if_neg (fun e => by cases e.1)])
    go_enter Tryz.func38, Tryz.ntmps38
    go_wp2
    go_end0
    exact ⟨rfl, ⟨_, _, by rw [HC.out, List.append_nil]; exact H.out⟩, Kz.refl _⟩
  · cases kd
    · have HC := Lib.hid (show (⟨c, out, en, true, false⟩ : WS).cm = [44] from rfl)
      go_enter Tryz.func38, Tryz.ntmps38
      go_wp2_with (at_builtin; go_loud (refine wpList_append_byteA rfl (.tmp 17) (.tmp 18) 43 rfl 5 i0 Tryz.underlying43 hi hz0 hz1 hz2 vl w B out hl hB rfl 44 44 rfl _ rfl rfl (by omega) ?_; intro g n cap w1 hb1 ha1; obtain ⟨d2, f2⟩ := H.out.cellL ha1 2; rw [c2] at d2; have H1 := Lib.hid (H.out.stL ha1 hb1); clear hb1 ha1))
      go_end0
      exact ⟨rfl, ⟨_, _, H1.out.1⟩, H1.out.2⟩
    · have HC := Lib.hid (show (⟨c, out, en, true, true⟩ : WS).cm = [] from rfl)
      go_enter Tryz.func38, Tryz.ntmps38
      go_wp2
      go_end0
      exact ⟨rfl, ⟨_, _, by rw [HC.out, List.append_nil]; exact H.out⟩, Kz.refl _⟩
set_option maxRecDepth 20000 in
theorem jwnext_any (h : Wr Z B b w vl ve s) (hk : WOk s) (hs : s.out.length ≤ 70368744177664) : Calls Tryz.prog 39 #[.pointer (some ⟨b, 0, none⟩)] w fun e w' => e = .returned (.bool s.nxB) ∧ WrX Z B b w' s.nx ∧ Kz Z B w w' := by
  have HW := Lib.hid (jwworks_any h)
  have HO := Lib.hid (jwopen_any h hk)
  have HF := Lib.hid (fun w1 (hb : Below w.heap.size w w1) => jwfail_any (h.next hb) 12)
  have HC := Lib.hid (fun w1 (hb : Below w.heap.size w w1) => jwcomma_any (h.next hb) hs)
  have H := Lib.hid h
  clear h hs
  by_cases hc : s.c = 0
  · have hd : decide (s.c = 0) = true := decide_eq_true hc
    by_cases ho : s.isO = true
    · have HX := Lib.hid (show s.nx = ⟨s.c, s.out ++ s.cm, s.en, true, false⟩ by rw [nx_ok hc ho, hc])
      have HB := Lib.hid (nxB_ok hc ho)
      rw [hd] at HW
      rw [ho] at HO
      clear hc ho hd
      go_enter Tryz.func39, Tryz.ntmps39
      go_wp2_with fail
      refine HW.out.mono ?_
      rintro e w1 ⟨rfl, hw⟩
      rw [hw]; clear hw
      go_wp2_with fail
      refine HO.out.mono ?_
      rintro e w2 ⟨rfl, hb⟩
      go_wp2_with fail
      refine (HC.out w2 hb).mono ?_
      rintro e w3 ⟨rfl, ⟨vl3, ve3, h3⟩, k3⟩
      have e4 := h3.c4; have e5 := h3.c5; have g4 := h3.fr 4; have g5 := h3.fr 5
      have H4 := Lib.hid ((h3.setS true).1.setK false)
      have K4 := Lib.hid (((Kz.of_below (Z := Z) (B := B) hb).trans k3).trans ((h3.setS true).2.trans ((h3.setS true).1.setK false).2))
      clear h3 k3 hb
      go_wp2
      go_ret
      exact ⟨by rw [HB.out]; rfl, ⟨_, _, by rw [HX.out]; exact H4.out.1⟩, K4.out⟩
    · have HX := Lib.hid (nx_bad hc ho)
      have HB := Lib.hid (nxB_bad hc ho)
      rw [hd] at HW
      rw [(Bool.not_eq_true _).mp ho] at HO
      clear hc ho hd
      go_enter Tryz.func39, Tryz.ntmps39
      go_wp2_with fail
      refine HW.out.mono ?_
      rintro e w1 ⟨rfl, hw⟩
      rw [hw]; clear hw
      go_wp2_with fail
      refine HO.out.mono ?_
      rintro e w2 ⟨rfl, hb⟩
      go_wp2_with fail
      refine (HF.out w2 hb).mono ?_
      rintro e w3 ⟨rfl, h3, k3⟩
      have H3 := Lib.hid h3
      have K3 := Lib.hid ((Kz.of_below (Z := Z) (B := B) hb).trans k3)
      clear h3 k3 hb
      go_wp2
      go_ret
      exact ⟨by rw [HB.out]; rfl, by rw [HX.out]; exact H3.out, K3.out⟩
  · have hd : decide (s.c = 0) = false := decide_eq_false hc
    have HX := Lib.hid (nx_err hc)
    have HB := Lib.hid (nxB_err hc)
    rw [hd] at HW
    clear hc hd
    go_enter Tryz.func39, Tryz.ntmps39
    go_wp2_with fail
    refine HW.out.mono ?_
    rintro e w1 ⟨rfl, hw⟩
    rw [hw]; clear hw
    go_wp2
    go_ret
    exact ⟨by rw [HB.out]; rfl, ⟨_, _, by rw [HX.out]; exact H.out⟩, Kz.refl _⟩
theorem jwnext_nil (w : World) : Calls Tryz.prog 39 #[.pointer none] w fun e w' => e = .returned (.bool false) ∧ w' = w := by
  have HW := Lib.hid (jwworks_nil w)
  go_enter Tryz.func39, Tryz.ntmps39
  go_wp2_with fail
  refine HW.out.mono ?_
  rintro e w1 ⟨rfl, hw⟩
  rw [hw]; clear hw
  go_wp2
  go_ret
  exact ⟨rfl, rfl⟩
end
end Go.Proofs.YtnbhhnkcfbfdcaaGreatDoor
/- Package jwrite: word, Flag, Null, Text, Whole. -/
namespace Go.Proofs.YtnbhhnkcfbfdcaaGreatDoor
open Go Go.RowKit
set_option linter.unusedVariables false

theorem val_yes {s : WS} (h : s.nxB = true) (v : List UInt8) : s.val v = ⟨s.nx.c, s.nx.out ++ v, s.nx.en, s.nx.sm, s.nx.kd⟩ := by
  by_cases hc : s.c = 0
  · by_cases ho : s.isO = true
    · rw [val_ok hc ho, nx_ok hc ho]
    · rw [nxB_bad hc ho] at h; cases h
  · rw [nxB_err hc] at h; cases h
theorem val_no {s : WS} (h : s.nxB = false) (v : List UInt8) : s.val v = s.nx := by unfold WS.val; rw [h, if_neg (by decide)]
theorem nx_len (s : WS) : s.nx.out.length ≤ s.out.length + 1 := by
  by_cases hc : s.c = 0
  · by_cases ho : s.isO = true
    · rw [nx_ok hc ho]; have := cm_len s; simp only [List.length_append]; omega
    · rw [nx_bad hc ho]; simp [WS.bad]
  · rw [nx_err hc]; omega
section
variable {Z : Nat → Prop} {B b : Nat} {w : World} {vl ve : Value} {s : WS}
set_option maxRecDepth 20000 in
theorem jwword_any (h : Wr Z B b w vl ve s) (hk : WOk s) (hs : s.out.length ≤ 35184372088832) (t : ByteArray) (ht : t.size ≤ 5) :
    Calls Tryz.prog 41 #[.pointer (some ⟨b, 0, none⟩), .string t] w fun e w' => e = .returned (.tuple #[]) ∧ WrX Z B b w' (s.val t.data.toList) ∧ Kz Z B w w' := by
  obtain ⟨i0, hi, hz0, hz1, hz2⟩ := info_parts info8
  have HN := Lib.hid (jwnext_any h hk (by omega))
  have hnl := nx_len s
  clear h hk
  by_cases hx : s.nxB = true
  · have HV := Lib.hid (val_yes hx t.data.toList)
    rw [hx] at HN
    clear hx
    generalize s.val t.data.toList = V at *
    generalize s.nx = n at *
    go_enter Tryz.func41, Tryz.ntmps41
    go_wp2_with fail
    refine HN.out.mono ?_
    rintro e w1 ⟨rfl, ⟨vl1, ve1, h1⟩, k1⟩
    have c2 := h1.c2
    have H1 := Lib.hid h1
    have K1 := Lib.hid k1
    clear h1 k1
    go_wp2_with (at_builtin; go_loud (refine wpList_append_textA rfl (.tmp 10) (.tmp 11) 43 9 rfl 5 i0 Tryz.underlying43 Tryz.underlying9 hi hz0 hz1 hz2 vl1 B n.out H1.out.l H1.out.hB rfl t rfl (by omega) ?_; intro ad2 n2 cap2 w2 hb2 ha2; obtain ⟨d2, f2⟩ := H1.out.cellL ha2 2; rw [c2] at d2; have H2 := Lib.hid (H1.out.stL ha2 hb2); clear hb2 ha2))
    go_end0
    exact ⟨rfl, ⟨_, _, by rw [HV.out]; exact H2.out.1⟩, K1.out.trans H2.out.2⟩
  · have HV := Lib.hid (val_no ((Bool.not_eq_true _).mp hx) t.data.toList)
    rw [(Bool.not_eq_true _).mp hx] at HN
    clear hx
    generalize s.val t.data.toList = V at *
    go_enter Tryz.func41, Tryz.ntmps41
    go_wp2_with fail
    refine HN.out.mono ?_
    rintro e w1 ⟨rfl, h1, k1⟩
    have H1 := Lib.hid h1
    have K1 := Lib.hid k1
    clear h1 k1
    go_wp2
    go_end0
    exact ⟨rfl, by rw [HV.out]; exact H1.out, K1.out⟩
theorem jwflag_any (h : Wr Z B b w vl ve s) (hk : WOk s) (hs : s.out.length ≤ 35184372088832) (is : Bool) :
    Calls Tryz.prog 20 #[.pointer (some ⟨b, 0, none⟩), .bool is] w fun e w' => e = .returned (.tuple #[]) ∧ WrX Z B b w' (s.val (if is then [116, 114, 117, 101] else [102, 97, 108, 115, 101])) ∧ Kz Z B w w' := by
  cases is
  · have HT := Lib.hid (jwword_any h hk hs ⟨#[102, 97, 108, 115, 101]⟩ (by decide))
    clear h hk
    go_enter Tryz.func20, Tryz.ntmps20
    go_wp2_with fail
    refine HT.out.mono ?_
    rintro e w1 ⟨rfl, h1, k1⟩
    have H1 := Lib.hid h1
    clear h1
    go_wp2
    go_end0
    exact ⟨rfl, H1.out, k1⟩
  · have HT := Lib.hid (jwword_any h hk hs ⟨#[116, 114, 117, 101]⟩ (by decide))
    clear h hk
    go_enter Tryz.func20, Tryz.ntmps20
    go_wp2_with fail
    refine HT.out.mono ?_
    rintro e w1 ⟨rfl, h1, k1⟩
    have H1 := Lib.hid h1
    clear h1
    go_wp2
    refine bodyPost_ret (results_none rfl _ _ _) rfl ?_
    exact ⟨rfl, H1.out, k1⟩
theorem jwnull_any (h : Wr Z B b w vl ve s) (hk : WOk s) (hs : s.out.length ≤ 35184372088832) :
    Calls Tryz.prog 18 #[.pointer (some ⟨b, 0, none⟩)] w fun e w' => e = .returned (.tuple #[]) ∧ WrX Z B b w' (s.val [110, 117, 108, 108]) ∧ Kz Z B w w' := by
  have HT := Lib.hid (jwword_any h hk hs ⟨#[110, 117, 108, 108]⟩ (by decide))
  clear h hk
  go_enter Tryz.func18, Tryz.ntmps18
  go_wp2_with fail
  refine HT.out.mono ?_
  rintro e w1 ⟨rfl, h1, k1⟩
  have H1 := Lib.hid h1
  clear h1
  go_wp2
  go_end0
  exact ⟨rfl, H1.out, k1⟩
/-- What a text's bytes, laid anew, are. -/
abbrev Laid (N : Nat) (args : Array Value) (J : List UInt8) : Prop := ∀ w, Calls Tryz.prog N args w fun e w' => ∃ g n cap, e = .returned (.slice (some ⟨g, 0, none⟩) n cap) ∧ Bts 5 w' w.heap.size (.slice (some ⟨g, 0, none⟩) n cap) J ∧ Below w.heap.size w w'
theorem laid_text (t : List UInt8) (ht : t.length ≤ 1099511627776) : Laid 24 #[.slice none 0 0, .string (bA t)] (jText t) := fun w => by
  refine (jput_any none 0 [] (bA t) w (by simp) (by rw [bA_size]; exact ht) (fun j hj => by simp at hj)).mono ?_
  rintro e w' ⟨v, rfl, hv, hb⟩
  rw [List.nil_append, show (bA t).data.toList = t by simp [bA]] at hv
  obtain ⟨g, cap, rfl, _⟩ := World.ownsRow.form hv (by rw [jText_len]; omega)
  exact ⟨g, _, cap, rfl, hv, hb⟩
set_option maxRecDepth 20000 in
set_option maxHeartbeats 1000000 in
theorem jwtext_any (h : Wr Z B b w vl ve s) (hk : WOk s) (hs : s.out.length ≤ 35184372088832) (t : List UInt8) (ht : t.length ≤ 1099511627776) :
    Calls Tryz.prog 21 #[.pointer (some ⟨b, 0, none⟩), .string (bA t)] w fun e w' => e = .returned (.tuple #[]) ∧ WrX Z B b w' (s.val (jText t)) ∧ Kz Z B w w' := by
  obtain ⟨i0, hi, hz0, hz1, hz2⟩ := info_parts info8
  have HN := Lib.hid (jwnext_any h hk (by omega))
  have HP := Lib.hid (laid_text t ht)
  have hnl := nx_len s
  have hj0 : 0 < (jText t).length := by rw [jText_len]; omega
  have hj1 : (jText t).length ≤ 6597069766658 := by have := (jT_len t).2; rw [jText_len]; omega
  clear h hk
  by_cases hx : s.nxB = true
  · have HV := Lib.hid (val_yes hx (jText t))
    rw [hx] at HN
    clear hx
    generalize jText t = J at *
    generalize s.val J = V at *
    generalize s.nx = n at *
    generalize bA t = T at *
    have hlen : n.out.length + J.length ≤ 140737488355328 := by omega
    go_enter Tryz.func21, Tryz.ntmps21
    go_wp2_with fail
    refine HN.out.mono ?_
    rintro e w1 ⟨rfl, ⟨vl1, ve1, h1⟩, k1⟩
    have c0 := h1.drew.c0
    have c2 := h1.drew.c2
    have H1 := Lib.hid h1.drew
    have K1 := Lib.hid k1.drew
    clear h1 k1
    go_wp2_with fail
    go_region_law (first
      | (go_simp; go_at_call 24; (with_reducible refine (HP.out _).mono ?_); rintro e w2 ⟨g2, n2, cp2, rfl, hv2, hb2⟩; have H2 := Lib.hid (H1.out.next hb2); have K2 := Lib.hid (K1.out.trans (Kz.of_below hb2)); have HV2 := Lib.hid hv2; have e2 := H2.out.c2; clear hb2 hv2)
      | (refine step_append_bytesA rfl (.tmp 10) (.tmp 16) 43 rfl 5 i0 Tryz.underlying43 hi hz0 hz1 hz2 vl1 B n.out H2.out.l H2.out.hB rfl g2 n2 cp2 _ J HV2.out rfl hj0 hlen ?_; intro g3 n3 cp3 w3 hb3 ha3; obtain ⟨d2, f2⟩ := H2.out.cellL ha3 2; rw [e2] at d2; have H3 := Lib.hid (H2.out.stL ha3 hb3); clear hb3 ha3))
    all_goals go_wp2
    all_goals go_end0
    all_goals exact ⟨rfl, ⟨_, _, by rw [HV.out]; exact H3.out.1⟩, K2.out.trans H3.out.2⟩
  · have HV := Lib.hid (val_no ((Bool.not_eq_true _).mp hx) (jText t))
    rw [(Bool.not_eq_true _).mp hx] at HN
    clear hx
    generalize s.val (jText t) = V at *
    go_enter Tryz.func21, Tryz.ntmps21
    go_wp2_with fail
    refine HN.out.mono ?_
    rintro e w1 ⟨rfl, h1, k1⟩
    have H1 := Lib.hid h1
    have K1 := Lib.hid k1
    clear h1 k1
    go_wp2
    go_end0
    exact ⟨rfl, by rw [HV.out]; exact H1.out, K1.out⟩
end
end Go.Proofs.YtnbhhnkcfbfdcaaGreatDoor
