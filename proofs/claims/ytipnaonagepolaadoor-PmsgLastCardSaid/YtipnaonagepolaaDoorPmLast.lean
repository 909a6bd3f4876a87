/- PmsgLast, walked. -/
import Derived.Test.YtipnaonagepolaaDoorPmTells
import Derived.Test.YtipnaonagepolaaDoorPmTg
namespace Go.Proofs.YtipnaonagepolaaDoor
open Go Go.RowKit
set_option linter.unusedVariables false

theorem sm_ok {x : FD} (h : fSm x) : tOk (x.1, x.2.1) := by
  obtain ⟨h1, h2, h3, h4⟩ := h
  unfold tOk
  simp [Lit.wf, IntKind.min, IntKind.max, IntKind.signed, IntKind.bits]
  omega
theorem plast_long (a ta : Option Addr) (c tc : Nat) (l : List FD) (T : List TG) (w : World) (h : ¬ (l.length ≤ 20 ∧ T.length ≤ 20)) (ht : Tab w) :
    Calls Tryd.prog 4 #[.slice a l.length c, .slice ta T.length tc] w fun e w' => e = .returned (.bool true) ∧ Below w.heap.size w w' := by
  have HT := Lib.hid ht
  clear ht
  by_cases h1 : l.length ≤ 20
  · have p1 : decide ((20 : Int) < (l.length : Int)) = false := decide_eq_false (by omega)
    have p2 : decide ((20 : Int) < (T.length : Int)) = true := decide_eq_true (by omega)
    clear h h1
    go_enter Tryd.func4, Tryd.ntmps4
    go_wp2_with (go_at_call 6; refine (works_any w HT.out).mono ?_; rintro e w1 ⟨rfl, hb⟩)
    go_ret
    exact ⟨rfl, hb⟩
  · have p1 : decide ((20 : Int) < (l.length : Int)) = true := decide_eq_true (by omega)
    clear h h1
    go_enter Tryd.func4, Tryd.ntmps4
    go_wp2_with (go_at_call 6; refine (works_any w HT.out).mono ?_; rintro e w1 ⟨rfl, hb⟩)
    go_ret
    exact ⟨rfl, hb⟩

set_option maxRecDepth 100000 in
set_option maxHeartbeats 1000000 in
theorem plast_short (a ta : Option Addr) (c tc : Nat) (l : List FD) (T : List TG) (w : World) (hl : l.length ≤ 20) (hT : T.length ≤ 20) (hin : FInO w a l) (tin : TgIn w ta T) (ol : ∀ x ∈ l, fOk x) (oT : ∀ t ∈ T, tOk t) (ht : Tab w) :
    Calls Tryd.prog 4 #[.slice a l.length c, .slice ta T.length tc] w fun e w' => e = .returned (.bool true) ∧ Below w.heap.size w w' := by
  have HT := Lib.hid ht
  have HI := Lib.hid hin
  have TI := Lib.hid tin
  have OL := Lib.hid ol
  have OT := Lib.hid oT
  have p1 : decide ((20 : Int) < (l.length : Int)) = false := decide_eq_false (by omega)
  have p2 : decide ((20 : Int) < (T.length : Int)) = false := decide_eq_false (by omega)
  clear ht hin tin ol oT
  go_enter Tryd.func4, Tryd.ntmps4
  go_wp2_with fail
  go_loopw [5, 6] (fun v i wr => ∃ j : Nat, j ≤ l.length ∧ i = .int .i64 (j : Nat) ∧ (∀ x ∈ l.take j, x.2.2.2.size ≤ 100) ∧ Bts 5 wr w.heap.size v (fBs (l.take j)) ∧ Below w.heap.size w wr) (fun _ i _ => l.length - (intOf i).toNat)
  case atStart => exact ⟨0, Nat.zero_le _, rfl, by simp, ⟨rfl, .inl ⟨rfl, rfl⟩⟩, Below.refl _ _⟩
  case round =>
    obtain ⟨j, hj, rfl, hs, hrow, hbel⟩ := hrel
    by_cases hlt : j < l.length
    · have q1 : decide ((j : Int) < (l.length : Int)) = true := decide_eq_true (by omega)
      have q2 : (j : Int) < (l.length : Int) := by omega
      obtain ⟨g, off, rfl, hg, k0, k1, k2, k3⟩ := HI.out.below hbel (Nat.le_refl _) j hlt
      have HB := Lib.hid hbel
      have HQ := Lib.hid (show l.take (j + 1) = l.take j ++ [l[j]] from List.take_succ_eq_append_getElem hlt)
      have hok := OL.out _ (List.getElem_mem hlt)
      have hle := fBs_le (l.take j) (fun x hx => ⟨OL.out x (List.mem_of_mem_take hx), hs x hx⟩)
      have hlt2 : (l.take j).length ≤ 20 := by rw [List.length_take]; omega
      obtain ⟨va, vc, rfl, hbin⟩ := hrow.inn
      have HT2 := HT.out.below hbel HT.out.lt
      have HP := Lib.hid (fun (hsz : (l[j]).2.2.2.size ≤ 100) => fput_any va vc (fBs (l.take j)) (l[j]).1 (l[j]).2.1 (l[j]).2.2.1 (l[j]).2.2.2 wr (by omega) (by omega) hok hbin HT2)
      have HW := Lib.hid (works_any wr HT2)
      have HSX := Lib.hid hs
      clear hbel hg hrow hbin hle hok HT2 hs
      generalize l[j] = y at *
      obtain ⟨y0, y1, y2, y3⟩ := y
      dsimp only at k0 k1 k2 k3 HP
      by_cases hsz : y3.size ≤ 100
      · have q3 : decide ((100 : Int) < (y3.size : Int)) = false := decide_eq_false (by omega)
        have HP2 := Lib.hid (HP.out hsz)
        have HSZ := Lib.hid hsz
        clear hsz HP HW
        go_wp2_with (go_at_call 18; refine HP2.out.mono ?_; rintro e w1 ⟨v1, rfl, hb1, hbel1⟩; have B1 := Lib.hid hb1; have BB := Lib.hid (below_on HB.out hbel1 HB.out.size); clear hb1 hbel1)
        go_roundw
        case rel =>
          refine ⟨j + 1, by omega, by go_num, ?_, ?_, BB.out⟩
          · rw [HQ.out]
            intro x hx
            rcases List.mem_append.1 hx with hx | hx
            · exact HSX.out x hx
            · rw [List.mem_singleton.1 hx]; exact HSZ.out
          · rw [HQ.out, fBs_snoc]
            exact B1.out.base HB.out.size
        case measure => simp [intOf]; omega
      · have q3 : decide ((100 : Int) < (y3.size : Int)) = true := decide_eq_true (by omega)
        clear hsz HP
        go_wp2_with (go_at_call 6; refine HW.out.mono ?_; rintro e w1 ⟨rfl, hb⟩; have BB := Lib.hid (below_on HB.out hb HB.out.size); clear hb)
        go_ret
        exact ⟨rfl, BB.out⟩
    · have q1 : decide ((j : Int) < (l.length : Int)) = false := decide_eq_false (by omega)
      have e0 : l.take j = l := List.take_of_length_le (by omega)
      rw [e0] at hs hrow
      have hgood := fBs_good l (fun x hx => ⟨OL.out x hx, by have := hs x hx; omega⟩)
      have hle := fBs_le l (fun x hx => ⟨OL.out x hx, hs x hx⟩)
      obtain ⟨va, vc, rfl, hbin⟩ := hrow.inn
      have HB := Lib.hid hbel
      have hcv := hrow.text Tryd.underlying43 Tryd.underlying5 Tryd.underlying9
      have HRow := Lib.hid hrow
      have HR := Lib.hid (pmread_any (bA (fBs l)) wr (by rw [bA_size]; omega) (HT.out.below hbel HT.out.lt))
      have HA := Lib.hid (fun w => rfall_any (bA (fBs l)) w (by rw [bA_size]; omega))
      rw [show (bA (fBs l)).data.toList = fBs l from rfl, hgood] at HR HA
      have hsm := fAll_sm (fBs l)
      have hlen := fAll_len (fBs l)
      clear hbel hrow hbin hs
      generalize (fAll (fBs l)).1 = L2 at *
      have hL2 : L2.length ≤ 2400 := by omega
      have OL2 := Lib.hid (fun x hx => sm_ok (hsm x hx))
      clear hsm hlen hgood hle
      generalize fBs l = bs at *
      have HTW := Lib.hid (HT.out.below HB.out HT.out.lt)
      go_wp2_with fail
      refine HR.out.mono ?_
      rintro e w1 ⟨mp, rfl, hm, -, hb⟩
      have HM := Lib.hid hm
      have B1 := Lib.hid hb
      have hcv2 := (HRow.out.below hb (Nat.le_refl _)).text Tryd.underlying43 Tryd.underlying5 Tryd.underlying9
      clear hm hb hcv
      go_wp2_with fail
      refine (HA.out _).mono ?_
      rintro e w2 ⟨v2, rfl, hr, hb⟩
      obtain ⟨fa, fc, rfl, hfi⟩ := hr.inn
      have HF := Lib.hid hfi
      have HM2 := Lib.hid (HM.out.below hb (Nat.le_refl _))
      have BW := Lib.hid (below_on (below_on HB.out B1.out HB.out.size) hb (below_on HB.out B1.out HB.out.size).size)
      have HT2 := Lib.hid ((HTW.out.below B1.out HTW.out.lt).below hb (HTW.out.below B1.out HTW.out.lt).lt)
      have TI2 := Lib.hid (TI.out.below BW.out (Nat.le_refl _))
      clear hr hfi hb hcv2 B1 HM HTW
      go_wp2_with fail
      go_loopw [11, 12] (fun v i wx => ∃ j : Nat, j ≤ T.length ∧ i = .int .i64 (j : Nat) ∧ TgRow wx w2.heap.size v (T.take j) ∧ Below w2.heap.size w2 wx) (fun _ i _ => T.length - (intOf i).toNat)
      case atStart => exact ⟨0, Nat.zero_le _, rfl, tgrow_nil _ _, Below.refl _ _⟩
      case round =>
        obtain ⟨j, hj, rfl, hrow, hbel⟩ := hrel
        by_cases hlt : j < T.length
        · have q1 : decide ((j : Int) < (T.length : Int)) = true := decide_eq_true (by omega)
          have q2 : (j : Int) < (T.length : Int) := by omega
          obtain ⟨g, off, rfl, hg, k0, k1⟩ := TI2.out.below hbel (Nat.le_refl _) j hlt
          have HQ := Lib.hid (show T.take (j + 1) = T.take j ++ [T[j]] from List.take_succ_eq_append_getElem hlt)
          have hpl : (T.take j).length ≤ 1099511627776 := by rw [List.length_take]; omega
          have HLJ := Lib.hid (show (T.take j).length = j by rw [List.length_take]; omega)
          generalize T[j] = t at *
          obtain ⟨t0, t1⟩ := t
          dsimp only at k0 k1
          have HN := Lib.hid (heap_alloc_new wr.drew (.cells #[.int .i64 t0, .int .i64 t1] 51))
          have hal : Below wr.heap.size wr (wr.drew.alloc (.cells #[.int .i64 t0, .int .i64 t1] 51)) := (Below.refl _ _).drew.alloc (Nat.le_refl _) _
          have HRw := Lib.hid (hrow.below hal (Nat.le_refl _))
          have BA := Lib.hid (below_on hbel hal hbel.size)
          have hBs := BA.out.size
          clear hrow hbel hal hg
          go_wp2_with fail
          go_region_law (refine step_append_tg rfl (.tmp 66) (.tmp 78) rfl _ w2.heap.size (T.take j) HRw.out hBs rfl _ (t0, t1) HN.out rfl hpl ?_; intro g1 cap1 w5 hr5 hb5; have R5 := Lib.hid hr5; have B5 := Lib.hid (BA.out.trans hb5); clear hr5 hb5)
          all_goals go_wp2
          all_goals go_roundw
          all_goals first
            | exact ⟨j + 1, by omega, by go_num, by rw [HQ.out]; have h5 := R5.out; rw [HLJ.out] at h5; exact h5, B5.out⟩
            | (simp [intOf]; omega)
        · have q1 : decide ((j : Int) < (T.length : Int)) = false := decide_eq_false (by omega)
          have e1 : T.take j = T := List.take_of_length_le (by omega)
          rw [e1] at hrow
          obtain ⟨oa, oc, rfl, hoi⟩ := hrow.inn
          have HOI := Lib.hid hoi
          have BB := Lib.hid hbel
          have HS := Lib.hid (show TeS w mp fa L2 wr from ⟨HM2.out.below hbel (Nat.le_refl _), HF.out.below hbel (Nat.le_refl _), below_on BW.out hbel BW.out.size, HT2.out.below hbel HT2.out.lt⟩)
          have TI3 := Lib.hid (TI2.out.below hbel (Nat.le_refl _))
          have H1 := Lib.hid (pmlast_any mp oa oc L2 T wr HS.out.msg (by omega) (by omega) hoi)
          have H2 := Lib.hid (fun w h1 h2 => rlast_any fa ta fc tc L2 T w (by omega) (by omega) h1 h2)
          have H3 := Lib.hid (fun w h1 h2 => pmrest_any mp oa oc L2 T w h1 (by omega) (by omega) h2 OL2.out OT.out)
          have H4 := Lib.hid (fun w h1 h2 => rrest_any fa ta fc tc L2 T w (by omega) (by omega) h1 h2)
          clear hrow hoi hbel HM2 HF HT2 TI2 BW e1
          generalize fLast L2 (tKn T) = x at *
          generalize fIs L2 (tKn T) = Bi at *
          generalize fRest L2 T = Nr at *
          obtain ⟨x0, x1, x2, x3⟩ := x
          have heq := fun w => eqlRf (x0, x1, x2, x3) (x0, x1, x2, x3) w
          unfold pfV at H1 H2 heq
          simp only [decide_true] at heq
          dsimp only at H1 H2 heq
          go_wp2_with fail
          refine H1.out.mono ?_
          rintro e w3 ⟨rfl, hb⟩
          have hg3 := fd_grow w3 (x0, x1, x2, x3) 47
          have F3 := Lib.hid (fd_alloc w3 (x0, x1, x2, x3) 47)
          have S3 := Lib.hid ((HS.out.next hb).next hg3)
          have O3 := Lib.hid ((HOI.out.below hb (Nat.le_refl _)).below hg3 (Nat.le_refl _))
          have T3 := Lib.hid ((TI3.out.below hb (Nat.le_refl _)).below hg3 (Nat.le_refl _))
          clear hb hg3 HS HOI TI3
          go_wp2_with fail
          refine (H2.out _ S3.out.inn T3.out).mono ?_
          rintro e w4 ⟨rfl, hb⟩
          have hg4 := fd_grow w4 (x0, x1, x2, x3) 45
          have F4 := Lib.hid (fd_alloc w4 (x0, x1, x2, x3) 45)
          have G3 := (F3.out.below hb F3.out.lt).alloc (.cells #[.int .i64 x0, .int .i64 x1, .int .u64 (x2 : Nat), .string x3] 45)
          have S4 := Lib.hid ((S3.out.next hb).next hg4)
          have O4 := Lib.hid ((O3.out.below hb (Nat.le_refl _)).below hg4 (Nat.le_refl _))
          have T4 := Lib.hid ((T3.out.below hb (Nat.le_refl _)).below hg4 (Nat.le_refl _))
          have m0 := G3.c0; have m1 := G3.c1; have m2 := G3.c2; have m3 := G3.c3
          have n0 := F4.out.c0; have n1 := F4.out.c1; have n2 := F4.out.c2; have n3 := F4.out.c3
          clear hb hg4 S3 O3 T3 F3 F4 G3
          go_wp2_with fail
          refine (H3.out _ S4.out.msg O4.out).mono ?_
          rintro e w5 ⟨rfl, hb⟩
          have S5 := Lib.hid (S4.out.next hb)
          have T5 := Lib.hid (T4.out.below hb (Nat.le_refl _))
          clear hb S4 O4 T4 m0 m1 m2 m3 n0 n1 n2 n3
          go_wp2_with fail
          refine (H4.out _ S5.out.inn T5.out).mono ?_
          rintro e w6 ⟨rfl, hb⟩
          have S6 := Lib.hid (S5.out.next hb)
          clear hb S5 T5
          go_wp2_with fail
          refine (works_any _ S6.out.tab).mono ?_
          rintro e w7 ⟨rfl, hb⟩
          have S7 := Lib.hid (S6.out.next hb)
          clear hb S6
          go_wp2
          go_ret
          exact ⟨rfl, S7.out.bel⟩
theorem plast_law (a : Option Addr) (c : Nat) (l : List FD) (ta : Option Addr) (tc : Nat) (T : List TG) (w : World) (hin : FInO w a l) (ol : ∀ x ∈ l, fOk x) (tin : TgIn w ta T) (oT : ∀ t ∈ T, tOk t) (ht : Tab w) :
    Calls Tryd.prog 4 #[.slice a l.length c, .slice ta T.length tc] w fun e w' => e = .returned (.bool true) ∧ Below w.heap.size w w' := by
  by_cases h : l.length ≤ 20 ∧ T.length ≤ 20
  · exact plast_short a ta c tc l T w h.1 h.2 hin tin ol oT ht
  · exact plast_long a ta c tc l T w h ht
end Go.Proofs.YtipnaonagepolaaDoor
