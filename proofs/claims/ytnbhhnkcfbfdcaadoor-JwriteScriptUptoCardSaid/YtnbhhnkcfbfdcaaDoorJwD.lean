/- Package jwrite: begin, Object, List, End, Done, New; a writer that is nil. -/
import Derived.Test.YtnbhhnkcfbfdcaaDoorJwC
namespace Go.Proofs.YtnbhhnkcfbfdcaaDoor
open Go Go.RowKit
set_option linter.unusedVariables false

theorem beg_yes {s : WS} (hd : ¬ (s.c = 0 ∧ s.en.length = 32)) (h : s.nxB = true) (o c : UInt8) : s.beg o c = ⟨s.nx.c, s.nx.out ++ [o], s.nx.en ++ [c], false, s.nx.kd⟩ := by
  by_cases hc : s.c = 0
  · by_cases ho : s.isO = true
    · rw [beg_ok hc (fun e => hd ⟨hc, e⟩) ho, nx_ok hc ho]
    · rw [nxB_bad hc ho] at h; cases h
  · rw [nxB_err hc] at h; cases h
theorem beg_no {s : WS} (hd : ¬ (s.c = 0 ∧ s.en.length = 32)) (h : s.nxB = false) (o c : UInt8) : s.beg o c = s.nx := by unfold WS.beg; rw [if_neg hd, h, if_neg (by decide)]
theorem nx_en {s : WS} : s.nx.en.length ≤ s.en.length := by
  by_cases hc : s.c = 0
  · by_cases ho : s.isO = true
    · rw [nx_ok hc ho]; exact Nat.le_refl _
    · rw [nx_bad hc ho]; simp [WS.bad]
  · rw [nx_err hc]; exact Nat.le_refl _
section
variable {Z : Nat → Prop} {B b : Nat} {w : World} {vl ve : Value} {s : WS}
/-- The two tests ahead of a value that others may be in. -/
def BegPre (s : WS) (r : Bool) : Prop := (¬ s.c = 0 ∧ r = false) ∨ (s.c = 0 ∧ ¬ s.en.length = 32 ∧ r = false)
set_option maxRecDepth 20000 in
set_option maxHeartbeats 2000000 in
theorem jwbeg_go (h : Wr Z B b w vl ve s) (hk : WOk s) (hs : s.out.length ≤ 35184372088832) (hd : ¬ (s.c = 0 ∧ s.en.length = 32)) (o c : UInt8) :
    Calls Tryd.prog 26 #[.pointer (some ⟨b, 0, none⟩), .int .u8 (o.toNat : Int), .int .u8 (c.toNat : Int)] w fun e w' => e = .returned (.tuple #[]) ∧ WrX Z B b w' (s.beg o c) ∧ Kz Z B w w' := by
  obtain ⟨i0, hi, hz0, hz1, hz2⟩ := info_parts info8
  have HW := Lib.hid (jwworks_any h)
  have HN := Lib.hid (jwnext_any h hk (by omega))
  have hnl := nx_len s
  have hne := nx_en (s := s)
  have hle := hk.len
  obtain ⟨ae, ce, rfl, _, _⟩ := h.e.form
  have c3 := h.c3
  have p0 : s.c = 0 → ((s.en.length : Int) == 32) = false := fun e => beq_eq_false_iff_ne.mpr (fun e2 => hd ⟨e, by omega⟩)
  have HY := Lib.hid (fun h => beg_yes hd h o c)
  have HO := Lib.hid (fun h => beg_no hd h o c)
  have hpre : decide (s.c = 0) = false ∨ (decide (s.c = 0) = true ∧ ((s.en.length : Int) == 32) = false) := by
    by_cases e : s.c = 0
    · exact .inr ⟨decide_eq_true e, p0 e⟩
    · exact .inl (decide_eq_false e)
  clear h hk hd p0
  generalize decide (s.c = 0) = d at *
  generalize s.en.length = N at *
  generalize s.beg o c = V at *
  generalize s.nxB = nb at *
  generalize s.nx = m at *
  cases nb
  · have HV := Lib.hid (HO.out rfl)
    clear HY HO
    rcases hpre with rfl | ⟨rfl, p1⟩
    · go_enter Tryd.func26, Tryd.ntmps26
      go_wp2_with fail
      refine HW.out.mono ?_
      rintro e w1 ⟨rfl, hw⟩
      rw [hw]; clear hw
      go_wp2_with fail
      refine HN.out.mono ?_
      rintro e w2 ⟨rfl, h1, k1⟩
      have H1 := Lib.hid h1
      have K1 := Lib.hid k1
      clear h1 k1
      go_wp2
      go_end0
      exact ⟨rfl, by rw [HV.out]; exact H1.out, K1.out⟩
    · go_enter Tryd.func26, Tryd.ntmps26
      go_wp2_with fail
      refine HW.out.mono ?_
      rintro e w1 ⟨rfl, hw⟩
      rw [hw]; clear hw
      go_wp2_with fail
      refine HN.out.mono ?_
      rintro e w2 ⟨rfl, h1, k1⟩
      have H1 := Lib.hid h1
      have K1 := Lib.hid k1
      clear h1 k1
      go_wp2
      go_end0
      exact ⟨rfl, by rw [HV.out]; exact H1.out, K1.out⟩
  · have HV := Lib.hid (HY.out rfl)
    clear HY HO
    rcases hpre with rfl | ⟨rfl, p1⟩
    all_goals (
      go_enter Tryd.func26, Tryd.ntmps26
      go_wp2_with fail
      refine HW.out.mono ?_
      rintro e w1 ⟨rfl, hw⟩
      rw [hw]; clear hw
      go_wp2_with fail
      refine HN.out.mono ?_
      rintro e w2 ⟨rfl, ⟨vl1, ve1, h1⟩, k1⟩
      have d2 := h1.c2
      have H1 := Lib.hid h1
      have K1 := Lib.hid k1
      clear h1 k1 c3
      go_wp2_with (at_builtin; first
        | (go_loud (refine wpList_append_byteA rfl (.tmp 24) (.tmp 26) 41 rfl 5 i0 Tryd.underlying41 hi hz0 hz1 hz2 vl1 w2 B m.out H1.out.l H1.out.hB rfl _ o rfl _ rfl rfl (by omega) ?_; intro g3 n3 cp3 w3 hb3 ha3; obtain ⟨d3, f3⟩ := H1.out.cellL ha3 2; rw [d2] at d3; have H3 := Lib.hid (H1.out.stL ha3 hb3); have q3 := H3.out.1.c3; clear hb3 ha3))
        | (go_loud (refine wpList_append_byteA rfl (.tmp 34) (.tmp 36) 41 rfl 5 i0 Tryd.underlying41 hi hz0 hz1 hz2 ve1 (w3.setCell ⟨b, 2, none⟩ (.slice (some ⟨g3, 0, none⟩) n3 cp3)) B m.en H3.out.1.e H3.out.1.hB rfl _ c rfl w3.heap.size (by simp) rfl (by omega) ?_; intro g5 n5 cp5 w5 hb5 ha5; obtain ⟨d5, f5⟩ := H3.out.1.cellE ha5 3; rw [q3] at d5; have H5 := Lib.hid (H3.out.1.stE ha5 hb5); have q4 := H5.out.1.c4; have r4 := H5.out.1.fr 4; have H6 := Lib.hid (H5.out.1.setS false); clear hb5 ha5)))
      go_end0
      exact ⟨rfl, by rw [HV.out]; exact ⟨_, _, H6.out.1⟩, ((K1.out.trans H3.out.2).trans H5.out.2).trans H6.out.2⟩)
theorem nxB_bad33 (s : WS) : (s.bad 33).nxB = false ∧ (s.bad 33).nx = s.bad 33 := ⟨nxB_err (by rw [bad_c]; decide), nx_err (by rw [bad_c]; decide)⟩
set_option maxRecDepth 20000 in
theorem jwbeg_deep (h : Wr Z B b w vl ve s) (hk : WOk s) (hc : s.c = 0) (hd : s.en.length = 32) (o c : UInt8) :
    Calls Tryd.prog 26 #[.pointer (some ⟨b, 0, none⟩), .int .u8 (o.toNat : Int), .int .u8 (c.toNat : Int)] w fun e w' => e = .returned (.tuple #[]) ∧ WrX Z B b w' (s.beg o c) ∧ Kz Z B w w' := by
  have HW := Lib.hid (jwworks_any h)
  rw [decide_eq_true hc] at HW
  have HF := Lib.hid (jwfail_any h 33)
  obtain ⟨ae, ce, rfl, _, _⟩ := h.e.form
  have c3 := h.c3
  rw [hd] at c3
  have HV := Lib.hid (beg_deep hc hd o c)
  have HB := Lib.hid (nxB_bad33 s)
  have hW := WOk.bad s 33
  have hl : (s.bad 33).out.length ≤ 70368744177664 := by simp [WS.bad]
  have HX := Lib.hid (show ∀ (w1 : World) (vl ve : Value), Wr Z B b w1 vl ve (s.bad 33) → Calls Tryd.prog 30 #[.pointer (some ⟨b, 0, none⟩)] w1 fun e w' => e = .returned (.bool false) ∧ WrX Z B b w' (s.bad 33) ∧ Kz Z B w1 w' from fun w1 vl ve h1 => by
    have := jwnext_any h1 hW hl
    rw [HB.out.1, HB.out.2] at this; exact this)
  clear h hk hc hd
  generalize s.beg o c = V at *
  generalize s.bad 33 = m at *
  go_enter Tryd.func26, Tryd.ntmps26
  go_wp2_with fail
  refine HW.out.mono ?_
  rintro e w1 ⟨rfl, hw⟩
  rw [hw]; clear hw
  go_wp2_with fail
  refine HF.out.mono ?_
  rintro e w2 ⟨rfl, ⟨vl2, ve2, h2⟩, k2⟩
  have K2 := Lib.hid k2
  have HX2 := Lib.hid (HX.out w2 vl2 ve2 h2)
  clear h2 k2
  go_wp2_with fail
  refine HX2.out.mono ?_
  rintro e w3 ⟨rfl, h3, k3⟩
  have H3 := Lib.hid h3
  have K3 := Lib.hid (K2.out.trans k3)
  clear h3 k3
  go_wp2
  go_end0
  exact ⟨rfl, by rw [HV.out]; exact H3.out, K3.out⟩
theorem jwbeg_any (h : Wr Z B b w vl ve s) (hk : WOk s) (hs : s.out.length ≤ 35184372088832) (o c : UInt8) :
    Calls Tryd.prog 26 #[.pointer (some ⟨b, 0, none⟩), .int .u8 (o.toNat : Int), .int .u8 (c.toNat : Int)] w fun e w' => e = .returned (.tuple #[]) ∧ WrX Z B b w' (s.beg o c) ∧ Kz Z B w w' := by
  by_cases hd : s.c = 0 ∧ s.en.length = 32
  · exact jwbeg_deep h hk hd.1 hd.2 o c
  · exact jwbeg_go h hk hs hd o c
theorem jwobject_any (h : Wr Z B b w vl ve s) (hk : WOk s) (hs : s.out.length ≤ 35184372088832) :
    Calls Tryd.prog 10 #[.pointer (some ⟨b, 0, none⟩)] w fun e w' => e = .returned (.tuple #[]) ∧ WrX Z B b w' (s.beg 123 125) ∧ Kz Z B w w' := by
  have HB := Lib.hid (show Calls Tryd.prog 26 #[.pointer (some ⟨b, 0, none⟩), .int .u8 123, .int .u8 125] w fun e w' => e = .returned (.tuple #[]) ∧ WrX Z B b w' (s.beg 123 125) ∧ Kz Z B w w' from jwbeg_any h hk hs 123 125)
  clear h hk
  go_enter Tryd.func10, Tryd.ntmps10
  go_wp2_with fail
  refine HB.out.mono ?_
  rintro e w1 ⟨rfl, h1, k1⟩
  have H1 := Lib.hid h1
  clear h1
  go_wp2
  go_end0
  exact ⟨rfl, H1.out, k1⟩
theorem jwlist_any (h : Wr Z B b w vl ve s) (hk : WOk s) (hs : s.out.length ≤ 35184372088832) :
    Calls Tryd.prog 12 #[.pointer (some ⟨b, 0, none⟩)] w fun e w' => e = .returned (.tuple #[]) ∧ WrX Z B b w' (s.beg 91 93) ∧ Kz Z B w w' := by
  have HB := Lib.hid (show Calls Tryd.prog 26 #[.pointer (some ⟨b, 0, none⟩), .int .u8 91, .int .u8 93] w fun e w' => e = .returned (.tuple #[]) ∧ WrX Z B b w' (s.beg 91 93) ∧ Kz Z B w w' from jwbeg_any h hk hs 91 93)
  clear h hk
  go_enter Tryd.func12, Tryd.ntmps12
  go_wp2_with fail
  refine HB.out.mono ?_
  rintro e w1 ⟨rfl, h1, k1⟩
  have H1 := Lib.hid h1
  clear h1
  go_wp2
  go_end0
  exact ⟨rfl, H1.out, k1⟩
end
end Go.Proofs.YtnbhhnkcfbfdcaaDoor
