/- Package jwrite: made, works, fail, end, open, comma, next. -/
import Derived.Test.YtnbhhnkcfbfdcaaDoorJwMem
import Derived.Laws.EntriesVeiled
import Derived.Deep.RegionLaw
import Derived.Deep.Cut
import Derived.Deep.CutRange
namespace Go.Proofs.YtnbhhnkcfbfdcaaDoor
open Go Go.RowKit
set_option linter.unusedVariables false

section
variable {Z : Nat → Prop} {B b : Nat} {w : World} {vl ve : Value} {s : WS}
/-- A function that is there is not nil. -/
theorem func_neq (F : Nat) (w : World) : (binOp .neq 40 (.func (.func F) #[] #[]) .nilFunc).run Tryd.prog w = .ok (.bool true) w := by kernel_rfl
theorem jwmade_any (h : Wr Z B b w vl ve s) : Calls Tryd.prog 24 #[.pointer (some ⟨b, 0, none⟩)] w fun e w' => e = .returned (.bool true) ∧ w' = w := by
  have c0 := h.c0
  clear h
  have hq := func_neq 18
  go_enter Tryd.func24, Tryd.ntmps24
  go_wp2_with (rw [hq])
  go_ret
  exact ⟨rfl, rfl⟩
theorem jwmade_nil (w : World) : Calls Tryd.prog 24 #[.pointer none] w fun e w' => e = .returned (.bool false) ∧ w' = w := by
  go_enter Tryd.func24, Tryd.ntmps24
  go_wp2
  go_ret
  exact ⟨rfl, rfl⟩
theorem jwworks_any (h : Wr Z B b w vl ve s) : Calls Tryd.prog 27 #[.pointer (some ⟨b, 0, none⟩)] w fun e w' => e = .returned (.bool (decide (s.c = 0))) ∧ w' = w := by
  have c1 := h.c1
  have HM := Lib.hid (jwmade_any h)
  clear h
  generalize s.c = c at *
  by_cases hc : c = 0
  · subst hc
    go_enter Tryd.func27, Tryd.ntmps27
    go_wp2_with fail
    refine HM.out.mono ?_
    rintro e w1 ⟨rfl, hw⟩
    rw [hw]; clear hw
    go_wp2
    go_ret
    exact ⟨rfl, rfl⟩
  · have p1 : (c == 0) = false := beq_eq_false_iff_ne.mpr hc
    have HD := Lib.hid (show decide (c = 0) = false from decide_eq_false hc)
    clear hc
    go_enter Tryd.func27, Tryd.ntmps27
    go_wp2_with fail
    refine HM.out.mono ?_
    rintro e w1 ⟨rfl, hw⟩
    rw [hw]; clear hw
    go_wp2
    go_ret
    exact ⟨by rw [HD.out]; rfl, rfl⟩
theorem jwworks_nil (w : World) : Calls Tryd.prog 27 #[.pointer none] w fun e w' => e = .returned (.bool false) ∧ w' = w := by
  have HM := Lib.hid (jwmade_nil w)
  go_enter Tryd.func27, Tryd.ntmps27
  go_wp2_with fail
  refine HM.out.mono ?_
  rintro e w1 ⟨rfl, hw⟩
  rw [hw]; clear hw
  go_wp2
  go_ret
  exact ⟨rfl, rfl⟩
set_option maxRecDepth 20000 in
theorem jwfail_any (h : Wr Z B b w vl ve s) (c : Int) : Calls Tryd.prog 28 #[.pointer (some ⟨b, 0, none⟩), .int .i64 c] w fun e w' => e = .returned (.tuple #[]) ∧ WrX Z B b w' (s.bad c) ∧ Kz Z B w w' := by
  have c0 := h.c0; have c1 := h.c1; have c2 := h.c2; have c3 := h.c3; have c4 := h.c4; have c5 := h.c5
  have f0 := h.fr 0; have f1 := h.fr 1; have f2 := h.fr 2; have f3 := h.fr 3; have f4 := h.fr 4; have f5 := h.fr 5
  have H := Lib.hid (h.setB c)
  clear h
  go_enter Tryd.func28, Tryd.ntmps28
  go_wp2
  go_end0
  exact ⟨rfl, ⟨_, _, H.out.1⟩, H.out.2⟩
theorem lst_at (s : WS) (h : 0 < s.en.length) : s.lst = s.en[s.en.length - 1]'(by omega) := by
  unfold WS.lst
  rw [List.getLastD_eq_getLast?, List.getLast?_eq_getElem?, List.getElem?_eq_getElem (by omega)]; rfl
set_option maxRecDepth 20000 in
theorem jwend_any (h : Wr Z B b w vl ve s) (hk : WOk s) : Calls Tryd.prog 25 #[.pointer (some ⟨b, 0, none⟩)] w fun e w' => e = .returned (.int .u8 (s.lst.toNat : Int)) ∧ Below w.heap.size w w' := by
  obtain ⟨a, cap, rfl, hin, hcap⟩ := h.e.form
  have c3 := h.c3
  have hlen := hk.len
  by_cases he : s.en.length = 0
  · have HL := Lib.hid (show s.lst = 0 from lst_none s (List.eq_nil_of_length_eq_zero he))
    rw [he] at c3
    clear h hk hin hcap he hlen
    go_enter Tryd.func25, Tryd.ntmps25
    go_wp2
    go_ret
    exact ⟨by rw [HL.out]; rfl, Below.refl _ _⟩
  · obtain ⟨K, hK⟩ : ∃ K, K = s.en.length - 1 := ⟨_, rfl⟩
    have HL := Lib.hid (lst_at s (by omega))
    obtain ⟨g, off, rfl, hg, hc⟩ := hin (s.en.length - 1) (by omega)
    simp only [← hK] at HL hc
    generalize s.en[K]'(by omega) = x at *
    generalize s.en.length = N at *
    have p1 : ((N : Int) == 0) = false := beq_eq_false_iff_ne.mpr (by omega)
    have p2 : decide (N = 0) = false := decide_eq_false he
    have zw : IntKind.i64.wrap ((N : Int) - 1) = (K : Int) := by rw [i64_small (by omega) (by omega)]; omega
    have q1 : (0 : Int) ≤ (K : Int) := by omega
    have q2 : (K : Int) < (N : Int) := by omega
    clear h hk hin hcap hK hlen
    go_enter Tryd.func25, Tryd.ntmps25
    go_wp2_with fail
    go_quiet (fail)
    go_wp2
    go_ret
    exact ⟨by rw [HL.out]; rfl, Below.drewN (Below.refl _ _) _⟩
theorem u8eq_t {x : UInt8} {k : Int} (y : UInt8) (hk : k = (y.toNat : Int)) (h : x = y) : ((x.toNat : Int) == k) = true := by subst h; subst hk; simp
theorem u8eq_f {x : UInt8} {k : Int} (y : UInt8) (hk : k = (y.toNat : Int)) (h : ¬ x = y) : ((x.toNat : Int) == k) = false := by
  subst hk
  exact beq_eq_false_iff_ne.mpr (fun e => h (UInt8.toNat_inj.mp (by omega)))
theorem jwopen_any (h : Wr Z B b w vl ve s) (hk : WOk s) : Calls Tryd.prog 38 #[.pointer (some ⟨b, 0, none⟩)] w fun e w' => e = .returned (.bool s.isO) ∧ Below w.heap.size w w' := by
  have HE := Lib.hid (jwend_any h hk)
  have HN := Lib.hid (fun w1 (hb : Below w.heap.size w w1) => (And.intro (h.next hb).c4 (h.next hb).c5))
  have HI := Lib.hid (show s.isO = if s.lst = 125 then s.kd else if s.lst = 93 then true else !s.sm from rfl)
  generalize s.isO = r at *
  clear h hk
  generalize s.lst = x at *
  generalize s.sm = sm at *
  generalize s.kd = kd at *
  by_cases h1 : x = 125
  · have p1 := u8eq_t (k := 125) 125 rfl h1
    have HR := Lib.hid (show r = kd by rw [HI.out, if_pos h1])
    clear HI h1
    go_enter Tryd.func38, Tryd.ntmps38
    go_wp2_with fail
    refine HE.out.mono ?_
    rintro e w1 ⟨rfl, hb⟩
    obtain ⟨c4, c5⟩ := HN.out w1 hb
    go_wp2
    go_ret
    exact ⟨by rw [HR.out]; rfl, hb⟩
  · have p1 := u8eq_f (k := 125) 125 rfl h1
    by_cases h2 : x = 93
    · have p2 := u8eq_t (k := 93) 93 rfl h2
      have HR := Lib.hid (show r = true by rw [HI.out, if_neg h1, if_pos h2])
      clear HI h1 h2
      go_enter Tryd.func38, Tryd.ntmps38
      go_wp2_with fail
      refine HE.out.mono ?_
      rintro e w1 ⟨rfl, hb⟩
      go_wp2
      go_ret
      exact ⟨by rw [HR.out]; rfl, hb⟩
    · have p2 := u8eq_f (k := 93) 93 rfl h2
      have HR := Lib.hid (show r = !sm by rw [HI.out, if_neg h1, if_neg h2])
      clear HI h1 h2
      go_enter Tryd.func38, Tryd.ntmps38
      go_wp2_with fail
      refine HE.out.mono ?_
      rintro e w1 ⟨rfl, hb⟩
      obtain ⟨c4, c5⟩ := HN.out w1 hb
      go_wp2
      go_ret
      exact ⟨by rw [HR.out]; rfl, hb⟩
set_option maxRecDepth 20000 in
theorem jwcomma_any (h : Wr Z B b w vl ve s) (hs : s.out.length ≤ 70368744177664) : Calls Tryd.prog 29 #[.pointer (some ⟨b, 0, none⟩)] w fun e w' => e = .returned (.tuple #[]) ∧ WrX Z B b w' ⟨s.c, s.out ++ s.cm, s.en, s.sm, s.kd⟩ ∧ Kz Z B w w' := by
  obtain ⟨c, out, en, sm, kd⟩ := s
  obtain ⟨i0, hi, hz0, hz1, hz2⟩ := info_parts info8
  simp only at hs
  have c2 := h.c2; have c4 := h.c4; have c5 := h.c5
  have H := Lib.hid h
  have hB := h.hB
  have hl := h.l
  clear h
  cases sm
  · have HC := Lib.hid (show (⟨c, out, en, false, kd⟩ : WS).cm = [] from by unfold WS.cm; rw [if_neg (fun e => by cases e.1)])
    go_enter Tryd.func29, Tryd.ntmps29
    go_wp2
    go_end0
    exact ⟨rfl, ⟨_, _, by rw [HC.out, List.append_nil]; exact H.out⟩, Kz.refl _⟩
  · cases kd
    · have HC := Lib.hid (show (⟨c, out, en, true, false⟩ : WS).cm = [44] from rfl)
      go_enter Tryd.func29, Tryd.ntmps29
      go_wp2_with (at_builtin; go_loud (refine wpList_append_byteA rfl (.tmp 17) (.tmp 18) 41 rfl 5 i0 Tryd.underlying41 hi hz0 hz1 hz2 vl w B out hl hB rfl 44 44 rfl _ rfl rfl (by omega) ?_; intro g n cap w1 hb1 ha1; obtain ⟨d2, f2⟩ := H.out.cellL ha1 2; rw [c2] at d2; have H1 := Lib.hid (H.out.stL ha1 hb1); clear hb1 ha1))
      go_end0
      exact ⟨rfl, ⟨_, _, H1.out.1⟩, H1.out.2⟩
    · have HC := Lib.hid (show (⟨c, out, en, true, true⟩ : WS).cm = [] from rfl)
      go_enter Tryd.func29, Tryd.ntmps29
      go_wp2
      go_end0
      exact ⟨rfl, ⟨_, _, by rw [HC.out, List.append_nil]; exact H.out⟩, Kz.refl _⟩
set_option maxRecDepth 20000 in
theorem jwnext_any (h : Wr Z B b w vl ve s) (hk : WOk s) (hs : s.out.length ≤ 70368744177664) : Calls Tryd.prog 30 #[.pointer (some ⟨b, 0, none⟩)] w fun e w' => e = .returned (.bool s.nxB) ∧ WrX Z B b w' s.nx ∧ Kz Z B w w' := by
  have HW := Lib.hid (jwworks_any h)
  have HO := Lib.hid (jwopen_any h hk)
  have HF := Lib.hid (fun w1 (hb : Below w.heap.size w w1) => jwfail_any (h.next hb) 12)
  have HC := Lib.hid (fun w1 (hb : Below w.heap.size w w1) => jwcomma_any (h.next hb) hs)
  have H := Lib.hid h
  clear h hs
  by_cases hc : s.c = 0
  · have hd : decide (s.c = 0) = true := decide_eq_true hc
    by_cases ho : s.isO = true
    · have HX := Lib.hid (show s.nx = ⟨s.c, s.out ++ s.cm, s.en, true, false⟩ by rw [nx_ok hc ho, hc])
      have HB := Lib.hid (nxB_ok hc ho)
      rw [hd] at HW
      rw [ho] at HO
      clear hc ho hd
      go_enter Tryd.func30, Tryd.ntmps30
      go_wp2_with fail
      refine HW.out.mono ?_
      rintro e w1 ⟨rfl, hw⟩
      rw [hw]; clear hw
      go_wp2_with fail
      refine HO.out.mono ?_
      rintro e w2 ⟨rfl, hb⟩
      go_wp2_with fail
      refine (HC.out w2 hb).mono ?_
      rintro e w3 ⟨rfl, ⟨vl3, ve3, h3⟩, k3⟩
      have e4 := h3.c4; have e5 := h3.c5; have g4 := h3.fr 4; have g5 := h3.fr 5
      have H4 := Lib.hid ((h3.setS true).1.setK false)
      have K4 := Lib.hid (((Kz.of_below (Z := Z) (B := B) hb).trans k3).trans ((h3.setS true).2.trans ((h3.setS true).1.setK false).2))
      clear h3 k3 hb
      go_wp2
      go_ret
      exact ⟨by rw [HB.out]; rfl, ⟨_, _, by rw [HX.out]; exact H4.out.1⟩, K4.out⟩
    · have HX := Lib.hid (nx_bad hc ho)
      have HB := Lib.hid (nxB_bad hc ho)
      rw [hd] at HW
      rw [(Bool.not_eq_true _).mp ho] at HO
      clear hc ho hd
      go_enter Tryd.func30, Tryd.ntmps30
      go_wp2_with fail
      refine HW.out.mono ?_
      rintro e w1 ⟨rfl, hw⟩
      rw [hw]; clear hw
      go_wp2_with fail
      refine HO.out.mono ?_
      rintro e w2 ⟨rfl, hb⟩
      go_wp2_with fail
      refine (HF.out w2 hb).mono ?_
      rintro e w3 ⟨rfl, h3, k3⟩
      have H3 := Lib.hid h3
      have K3 := Lib.hid ((Kz.of_below (Z := Z) (B := B) hb).trans k3)
      clear h3 k3 hb
      go_wp2
      go_ret
      exact ⟨by rw [HB.out]; rfl, by rw [HX.out]; exact H3.out, K3.out⟩
  · have hd : decide (s.c = 0) = false := decide_eq_false hc
    have HX := Lib.hid (nx_err hc)
    have HB := Lib.hid (nxB_err hc)
    rw [hd] at HW
    clear hc hd
    go_enter Tryd.func30, Tryd.ntmps30
    go_wp2_with fail
    refine HW.out.mono ?_
    rintro e w1 ⟨rfl, hw⟩
    rw [hw]; clear hw
    go_wp2
    go_ret
    exact ⟨by rw [HB.out]; rfl, ⟨_, _, by rw [HX.out]; exact H.out⟩, Kz.refl _⟩
theorem jwnext_nil (w : World) : Calls Tryd.prog 30 #[.pointer none] w fun e w' => e = .returned (.bool false) ∧ w' = w := by
  have HW := Lib.hid (jwworks_nil w)
  go_enter Tryd.func30, Tryd.ntmps30
  go_wp2_with fail
  refine HW.out.mono ?_
  rintro e w1 ⟨rfl, hw⟩
  rw [hw]; clear hw
  go_wp2
  go_ret
  exact ⟨rfl, rfl⟩
end
end Go.Proofs.YtnbhhnkcfbfdcaaDoor
