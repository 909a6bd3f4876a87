/- CwriteScript, walked. -/
import Derived.Test.YtmcklfndnjagiaaDoorCwRh
import Derived.Deep.Cut
import Derived.Deep.CutRange
namespace Go.Proofs.YtmcklfndnjagiaaDoor
open Go Go.RowKit
set_option linter.unusedVariables false

theorem dn_rel {p d : WT} (h : RelW p d) : doneW p = doneW d := by
  by_cases hd : d.er = 0
  · rw [h.2 hd]
  · unfold doneW
    rw [h.1, if_pos hd, if_pos hd]
def KnO (k : Nat) : Prop := k = 123 ∨ k = 91 ∨ k = 101 ∨ k = 102 ∨ k = 110 ∨ k = 100
instance (k : Nat) : Decidable (KnO k) := by unfold KnO; infer_instance
/-- An op, its kind a known one. -/
def nrm (o : WO) : WO := if KnO o.k then o else { o with k := 115 }
theorem nrm_ok {o : WO} (h : OpOk o) : OpOk (nrm o) := by
  unfold nrm
  split
  · exact h
  · exact ⟨by show 115 < 256; decide, h.2⟩
theorem nrm_kn (o : WO) : (nrm o).k = 101 ∨ VKn (nrm o) := by
  unfold nrm
  split
  · rename_i h
    rcases h with h | h | h | h | h | h
    · exact .inr (.inl h)
    · exact .inr (.inr (.inl h))
    · exact .inl h
    · exact .inr (.inr (.inr (.inl h)))
    · exact .inr (.inr (.inr (.inr (.inl h))))
    · exact .inr (.inr (.inr (.inr (.inr (.inl h)))))
  · exact .inr (.inr (.inr (.inr (.inr (.inr rfl)))))
theorem nrm_tx (o : WO) : (nrm o).tx = o.tx := by unfold nrm; split <;> rfl
/-- The program's writer, and the document's in block z. -/
structure CsS (W : World) (z : Nat) (s d : WT) (v : Value) (wr : World) : Prop where
  ww : WrX W.heap.size W.heap.size wr s
  st : StT wr z (bA d.out) v d.er
  pi : PIn wr v d.l.reverse
  b : Below W.heap.size W wr
  z : W.heap.size ≤ z
section
variable {W wr w' : World} {z H : Nat} {s s' d d' : WT} {v v' : Value} {o : WO}
theorem CsS.next (h : CsS W z s d v wr) (hb : Below wr.heap.size wr w') : CsS W z s d v w' := ⟨h.ww.next hb, h.st.below hb, h.pi.below hb, grown_then h.b hb, h.z⟩
theorem CsS.told (h : CsS W z s d v wr) (hw : WrX W.heap.size W.heap.size w' s') (hk : Kt W.heap.size wr w') : CsS W z s' d v w' :=
  ⟨hw, (hk.block z h.st.lt (.inr h.st.oth)).trans h.st, h.pi.kt hk, h.b.trans (hk.below h.b.size), h.z⟩
theorem CsS.stored (h : CsS W z s d v wr) (hp : PIn wr v' d'.l.reverse) : CsS W z s d' v' (((wr.setCell ⟨z, 0, none⟩ (.string (bA d'.out))).setCell ⟨z, 1, none⟩ v').setCell ⟨z, 2, none⟩ (.int .i64 d'.er)) :=
  ⟨h.ww.other (set3_only wr z _ _ _) h.st.oth, h.st.setAll _ _ _, hp.st3 h.st _ _ _, h.b.trans ((set3_only wr z _ _ _).below h.z h.b.size), h.z⟩
theorem OpT.oth (h : OpT wr H o) : Oth wr H := ⟨_, _, _, h, by decide, by decide, by decide⟩
theorem CsS.op (h : CsS W z s d v wr) (ho : OpT wr H o) (hz : z ≠ H) (hH : W.heap.size ≤ H) (k : Nat) (x : Value) : CsS W z s d v (wr.setCell ⟨H, k, none⟩ x) :=
  ⟨h.ww.other ((Only.refl _ _).setCell _ _) ho.oth, h.st.other ((Only.refl _ _).setCell _ _) hz, h.pi.only ((Only.refl _ _).setCell _ _) ho (fun cs e => by simp at e), h.b.setCell hH _, h.z⟩
theorem OpT.set0 (h : OpT wr H o) : OpT (wr.setCell ⟨H, 0, none⟩ (.int .u8 115)) H { o with k := 115 } := heap_setCell_block h _
theorem OpT.kt {B : Nat} (h : OpT wr H o) (hk : Kt B wr w') : OpT w' H o := (hk.block H (lt_of_block h) (.inr h.oth)).trans h
end
theorem cws_long (a : Option Addr) (cap : Nat) (l : List WO) (w : World) (h : 60 < l.length) (ht : Tab w) :
    Calls Tryd.prog 3 #[.slice a l.length cap] w fun e w' => e = .returned (.bool true) ∧ Below w.heap.size w w' := by
  have p1 : decide (60 < (l.length : Int)) = true := decide_eq_true (by omega)
  have p2 : decide (60 < l.length) = true := decide_eq_true h
  have HX := Lib.hid (works23_any w ht)
  clear ht h
  go_enter Tryd.func3, Tryd.ntmps3
  go_wp2_with fail
  refine HX.out.mono ?_
  rintro e w2 ⟨rfl, hb⟩
  go_wp2
  go_ret
  exact ⟨rfl, hb⟩
def CsRel (W : World) (z : Nat) (l : List WO) (i : Value) (wr : World) : Prop :=
  ∃ j : Nat, j ≤ l.length ∧ i = .int .i64 (j : Nat) ∧ (∀ i (h : i < j) (h2 : i < l.length), (l[i]'h2).tx.length ≤ 200) ∧ ∃ s v, RelW s (wAll ((l.map nrm).take j)) ∧ CsS W z s (wAll ((l.map nrm).take j)) v wr
theorem cws_at {w : World} {g off : Nat} {L : List WO} (h : OIn w (some ⟨g, off, none⟩) L) (j : Nat) (hj : j < L.length) : w.cell? ⟨g, off + j * 6, none⟩ = some (.int .u8 (L[j].k : Nat)) ∧ w.cell? ⟨g, off + j * 6 + 1, none⟩ = some (.int .i64 L[j].id) ∧ w.cell? ⟨g, off + j * 6 + 2, none⟩ = some (.int .i64 L[j].n) ∧ w.cell? ⟨g, off + j * 6 + 3, none⟩ = some (.int .u8 (L[j].wh : Nat)) ∧ w.cell? ⟨g, off + j * 6 + 4, none⟩ = some (.int .u64 (L[j].bt : Nat)) ∧ w.cell? ⟨g, off + j * 6 + 5, none⟩ = some (.string (bA L[j].tx)) := by
  obtain ⟨g', off', e, _, h0, h1, h2, h3, h4, h5⟩ := h j hj
  simp only [Option.some.injEq, Addr.mk.injEq, and_true] at e
  obtain ⟨rfl, rfl⟩ := e
  exact ⟨h0, h1, h2, h3, h4, h5⟩
set_option maxRecDepth 100000 in
set_option maxHeartbeats 8000000 in
theorem cws_short (a : Option Addr) (cap : Nat) (l : List WO) (w : World) (h : l.length ≤ 60) (hin : OIn w a l) (hn : ∀ o ∈ l, OpOk o) (ht : Tab w) :
    Calls Tryd.prog 3 #[.slice a l.length cap] w fun e w' => e = .returned (.bool true) ∧ Below w.heap.size w w' := by
  have p1 : decide (60 < (l.length : Int)) = false := decide_eq_false (by omega)
  have p2 : decide (60 < l.length) = false := decide_eq_false (by omega)
  have HT := Lib.hid (show ∀ w', Below w.heap.size w w' → Tab w' from fun w' hb => ht.below hb ht.lt)
  have HIN := Lib.hid (show ∀ w', Below w.heap.size w w' → OIn w' a l from fun w' hb => hin.below hb (Nat.le_refl _))
  have HN := Lib.hid hn
  have HNW := Lib.hid (cwnew_any w)
  have HL := Lib.hid h
  clear h hin hn ht
  go_enter Tryd.func3, Tryd.ntmps3
  go_wp2_with fail
  refine HNW.out.mono ?_
  rintro e w1 ⟨rfl, hw1, hb1⟩
  have hg1 := new_grow w1 (.cells #[.string ⟨#[]⟩, .slice none 0 0, .int .i64 0] 29)
  have R0 := Lib.hid (show CsS w w1.heap.size ⟨[], [], 0⟩ ⟨[], [], 0⟩ (.slice none 0 0) (w1.alloc (.cells #[.string ⟨#[]⟩, .slice none 0 0, .int .i64 0] 29)) from
    ⟨hw1.next hg1, new_st w1 ⟨#[]⟩ (.slice none 0 0) 0, pin_nil _, grown_then hb1 hg1, hb1.size⟩)
  clear hw1 hb1 hg1
  go_wp2_with fail
  go_loopw [5] (fun i wr => CsRel w w1.heap.size l i wr) (fun i _ => l.length - (intOf i).toNat)
  case atStart => exact ⟨0, Nat.zero_le _, rfl, fun i h _ => by omega, _, _, RelW.refl _, R0.out⟩
  case round =>
    clear R0 HNW
    generalize w1.heap.size = z at *
    obtain ⟨j, hj, rfl, htx, s, v, hrl, hR⟩ := hrel
    have hmn : ∀ o ∈ l.map nrm, OpOk o := fun o ho => by
      obtain ⟨o', h1, rfl⟩ := List.mem_map.mp ho
      exact nrm_ok (HN.out o' h1)
    have hdok := all_ok (l.map nrm) hmn j (by rw [List.length_map]; exact hj) (fun i h h2 => by rw [List.getElem_map, nrm_tx]; rw [List.length_map] at h2; exact htx i h h2)
    have hl60 := HL.out
    by_cases hlt : j < l.length
    · have q1 : decide (j < l.length) = true := decide_eq_true hlt
      have q2 : (j : Int) < (l.length : Int) := by omega
      have q3 : (0 : Int) ≤ (j : Int) := by omega
      obtain ⟨g, off, rfl, hg, m0, m1, m2, m3, m4, m5⟩ := HIN.out wr hR.b j hlt
      have ho := HN.out _ (List.getElem_mem hlt)
      have hat : wAll ((l.map nrm).take (j + 1)) = wDo (wAll ((l.map nrm).take j)) (nrm l[j]) := by
        rw [all_take (l.map nrm) j (by rw [List.length_map]; exact hlt), List.getElem_map]
      have HNX := Lib.hid (fun (w' : World) s' v' (hs : l[j].tx.length ≤ 200) (h1 : RelW s' (wDo (wAll ((l.map nrm).take j)) (nrm l[j]))) (h2 : CsS w z s' (wDo (wAll ((l.map nrm).take j)) (nrm l[j])) v' w') => (show CsRel w z l (.int .i64 ((j + 1 : Nat) : Int)) w' from
        ⟨j + 1, hlt, rfl, fun i hi h2 => by
          by_cases e : i = j
          · subst e; exact hs
          · exact htx i (by omega) h2, s', v', by rw [hat]; exact h1, by rw [hat]; exact h2⟩))
      have hj60 : j * 222 ≤ 13320 := by omega
      generalize wAll ((l.map nrm).take j) = d at *
      generalize l[j] = o at *
      have hnew := new_op wr o
      have hgr := new_grow wr (.cells (opC o) 32)
      have HH := Lib.hid (show CsS w z s d v (wr.alloc (.cells (opC o) 32)) ∧ OpT (wr.alloc (.cells (opC o) 32)) wr.heap.size o ∧ z ≠ wr.heap.size ∧ w.heap.size ≤ wr.heap.size from ⟨hR.next hgr, hnew, by have := hR.st.lt; omega, hR.b.size⟩)
      have Hk := Lib.hid (And.intro hdok hrl)
      have HO := Lib.hid ho
      clear hnew hgr hR hdok hrl ho hat htx hmn hg
      unfold opC at HH
      go_upto_region 9 with fail
      generalize wr.alloc (.cells #[.int .u8 (o.k : Nat), .int .i64 o.id, .int .i64 o.n, .int .u8 (o.wh : Nat), .int .u64 (o.bt : Nat), .string (bA o.tx)] 32) = w2 at *
      generalize wr.heap.size = H at *
      clear m0 m1 m2 m3 m4 m5
      go_cut [53] from 26 to 53 (fun q wx => q = .bool (!decide (KnO o.k)) ∧ wx = w2)
      case first =>
        have c0 := HH.out.2.1.c.1
        have cf := HH.out.2.1.fr
        by_cases h0 : o.k = 123
        · have HNr := Lib.hid (show decide (KnO o.k) = true from decide_eq_true (by unfold KnO; omega))
          have p0' : ((o.k : Int) != 123) = false := by rw [h0]; rfl
          clear h0
          go_wp2_with fail
          go_meet
          case rel => exact ⟨by rw [HNr.out]; rfl, rfl⟩
        by_cases h1 : o.k = 91
        · have HNr := Lib.hid (show decide (KnO o.k) = true from decide_eq_true (by unfold KnO; omega))
          have p0' : ((o.k : Int) != 123) = true := bne_iff_ne.mpr (by omega)
          have p1' : ((o.k : Int) != 91) = false := by rw [h1]; rfl
          clear h0 h1
          go_wp2_with fail
          go_meet
          case rel => exact ⟨by rw [HNr.out]; rfl, rfl⟩
        by_cases h2 : o.k = 101
        · have HNr := Lib.hid (show decide (KnO o.k) = true from decide_eq_true (by unfold KnO; omega))
          have p0' : ((o.k : Int) != 123) = true := bne_iff_ne.mpr (by omega)
          have p1' : ((o.k : Int) != 91) = true := bne_iff_ne.mpr (by omega)
          have p2' : ((o.k : Int) != 101) = false := by rw [h2]; rfl
          clear h0 h1 h2
          go_wp2_with fail
          go_meet
          case rel => exact ⟨by rw [HNr.out]; rfl, rfl⟩
        by_cases h3 : o.k = 102
        · have HNr := Lib.hid (show decide (KnO o.k) = true from decide_eq_true (by unfold KnO; omega))
          have p0' : ((o.k : Int) != 123) = true := bne_iff_ne.mpr (by omega)
          have p1' : ((o.k : Int) != 91) = true := bne_iff_ne.mpr (by omega)
          have p2' : ((o.k : Int) != 101) = true := bne_iff_ne.mpr (by omega)
          have p3' : ((o.k : Int) != 102) = false := by rw [h3]; rfl
          clear h0 h1 h2 h3
          go_wp2_with fail
          go_meet
          case rel => exact ⟨by rw [HNr.out]; rfl, rfl⟩
        by_cases h4 : o.k = 110
        · have HNr := Lib.hid (show decide (KnO o.k) = true from decide_eq_true (by unfold KnO; omega))
          have p0' : ((o.k : Int) != 123) = true := bne_iff_ne.mpr (by omega)
          have p1' : ((o.k : Int) != 91) = true := bne_iff_ne.mpr (by omega)
          have p2' : ((o.k : Int) != 101) = true := bne_iff_ne.mpr (by omega)
          have p3' : ((o.k : Int) != 102) = true := bne_iff_ne.mpr (by omega)
          have p4' : ((o.k : Int) != 110) = false := by rw [h4]; rfl
          clear h0 h1 h2 h3 h4
          go_wp2_with fail
          go_meet
          case rel => exact ⟨by rw [HNr.out]; rfl, rfl⟩
        by_cases h5 : o.k = 100
        · have HNr := Lib.hid (show decide (KnO o.k) = true from decide_eq_true (by unfold KnO; omega))
          have p0' : ((o.k : Int) != 123) = true := bne_iff_ne.mpr (by omega)
          have p1' : ((o.k : Int) != 91) = true := bne_iff_ne.mpr (by omega)
          have p2' : ((o.k : Int) != 101) = true := bne_iff_ne.mpr (by omega)
          have p3' : ((o.k : Int) != 102) = true := bne_iff_ne.mpr (by omega)
          have p4' : ((o.k : Int) != 110) = true := bne_iff_ne.mpr (by omega)
          have p5' : ((o.k : Int) != 100) = false := by rw [h5]; rfl
          clear h0 h1 h2 h3 h4 h5
          go_wp2_with fail
          go_meet
          case rel => exact ⟨by rw [HNr.out]; rfl, rfl⟩
        have HNr := Lib.hid (show decide (KnO o.k) = false from decide_eq_false (by unfold KnO; omega))
        have p0' : ((o.k : Int) != 123) = true := bne_iff_ne.mpr (by omega)
        have p1' : ((o.k : Int) != 91) = true := bne_iff_ne.mpr (by omega)
        have p2' : ((o.k : Int) != 101) = true := bne_iff_ne.mpr (by omega)
        have p3' : ((o.k : Int) != 102) = true := bne_iff_ne.mpr (by omega)
        have p4' : ((o.k : Int) != 110) = true := bne_iff_ne.mpr (by omega)
        have p5' : ((o.k : Int) != 100) = true := bne_iff_ne.mpr (by omega)
        clear h0 h1 h2 h3 h4 h5
        go_wp2_with fail
        go_meet
        case rel => exact ⟨by rw [HNr.out]; rfl, rfl⟩
      case rest =>
       obtain ⟨rfl, hwc⟩ := hcut
       rw [hwc]
       clear hwc
       rcases Classical.em (KnO o.k) with hkn | hkn
       all_goals (first
         | (have hnr : nrm o = o := by unfold nrm; rw [if_pos hkn]
            have hK : CsS w z s d v w2 ∧ OpT w2 H (nrm o) ∧ z ≠ H ∧ w.heap.size ≤ H := ⟨HH.out.1, by rw [hnr]; exact HH.out.2.1, HH.out.2.2⟩
            have K3 := Lib.hid hK
            rw [decide_eq_true hkn]
            clear hkn hnr hK HH
            go_upto_region 11 with fail
            generalize w2 = w3 at *)
         | (have hnr : nrm o = { o with k := 115 } := by unfold nrm; rw [if_neg hkn]
            have c0 := HH.out.2.1.c.1
            have cf := HH.out.2.1.fr
            have hK : CsS w z s d v (w2.setCell ⟨H, 0, none⟩ (.int .u8 115)) ∧ OpT (w2.setCell ⟨H, 0, none⟩ (.int .u8 115)) H (nrm o) ∧ z ≠ H ∧ w.heap.size ≤ H := ⟨HH.out.1.op HH.out.2.1 HH.out.2.2.1 HH.out.2.2.2 _ _, by rw [hnr]; exact HH.out.2.1.set0, HH.out.2.2⟩
            have K3 := Lib.hid hK
            rw [decide_eq_false hkn]
            clear hkn hnr hK HH
            go_upto_region 11 with fail
            clear c0 cf
            generalize w2.setCell ⟨H, 0, none⟩ (.int .u8 115) = w3 at *))
       all_goals (
        obtain ⟨k1, k2, k3, k4⟩ := K3.out
        obtain ⟨r0, r1, r2, r3, r4, r5⟩ := k2.c
        have hz : (bA (nrm o).tx).size = o.tx.length := by rw [bA_size, nrm_tx]
        by_cases hlong : 200 < o.tx.length
        · have e1 : decide ((200 : Int) < ((bA (nrm o).tx).size : Int)) = true := decide_eq_true (by omega)
          have e2 : decide (200 < (bA (nrm o).tx).size) = true := decide_eq_true (by omega)
          have HX := Lib.hid (works23_any _ (HT.out _ k1.b))
          have HB := Lib.hid k1.b
          generalize bA (nrm o).tx = T at *
          clear hz hlong k1 k2 K3 HNX
          go_wp2_with fail
          refine HX.out.mono ?_
          rintro e w3 ⟨rfl, hb⟩
          have B2 := Lib.hid (grown_then HB.out hb)
          clear hb
          go_wp2
          go_ret
          exact ⟨rfl, B2.out⟩
        · have e1 : decide ((200 : Int) < ((bA (nrm o).tx).size : Int)) = false := decide_eq_false (by omega)
          have e2 : decide (200 < (bA (nrm o).tx).size) = false := decide_eq_false (by omega)
          obtain ⟨vb, vh, hw⟩ := k1.ww
          have hot : (nrm o).tx.length ≤ 200 := by rw [nrm_tx]; omega
          have HD := Lib.hid (cwdo_any hw (ok_rel Hk.out.1 Hk.out.2) (nrm o) (nrm_ok HO.out) (by omega) (fun w' hb => HT.out w' (k1.b.trans hb)))
          have HKT := Lib.hid (fun w' vb' vh' (k : Ky w.heap.size _ w' vb vh vb' vh') => k.kt hw)
          have HRD := Lib.hid (fun w1 (hp : PIn w1 v d.l.reverse) => rwdo_any d v (nrm o) w1 hp Hk.out.1 (by omega) (nrm_ok HO.out) (nrm_kn o) (by omega))
          have hrel2 := pDo_rel Hk.out.2 (ok_wf Hk.out.1) (nrm o)
          have HDN := Lib.hid (fun w' vb' vh' (h : WrE w.heap.size w.heap.size w' vb' vh' (pDo s (nrm o))) => cwdone_any h)
          rw [dn_rel hrel2] at HDN
          have HRF := Lib.hid (fun w' v' (hp : PIn w' v' (wDo d (nrm o)).l.reverse) => rwdone_any (wDo d (nrm o)) v' w' hp)
          have HRL := Lib.hid hrel2
          have HLT := Lib.hid (show o.tx.length ≤ 200 by omega)
          obtain ⟨av, nv, cv, hv⟩ := k1.pi.form3
          subst hv
          generalize nrm o = q at *
          generalize wDo d q = d2 at *
          generalize pDo s q = s2 at *
          generalize bA (doneW d2).1 = X at *
          generalize (doneW d2).2 = Y at *
          have sc0 := k1.st.c0; have sc1 := k1.st.c1; have sc2 := k1.st.c2
          unfold opV opC at HD HRD
          unfold stV at HRD HRF
          clear hz hlong k1 k2 k3 k4 hw hot hrel2 Hk
          go_wp2_with fail
          refine HD.out.mono ?_
          rintro e w4 ⟨rfl, vb4, vh4, h4, ky4⟩
          have kt4 := HKT.out _ _ _ ky4
          have R4 := K3.out.1.told ⟨_, _, h4⟩ kt4
          have op4 := K3.out.2.1.kt kt4
          have t0 := R4.st.c0; have t1 := R4.st.c1; have t2 := R4.st.c2
          obtain ⟨x0, x1, x2, x3, x4, x5⟩ := op4.c
          have H4 := Lib.hid R4
          clear kt4 ky4 h4 R4 op4 sc0 sc1 sc2 r0 r1 r2 r3 r4 r5 HD HKT
          go_wp2_with fail
          refine (HRD.out _ H4.out.pi).mono ?_
          rintro e w5 ⟨v5, rfl, hp5, hb5⟩
          obtain ⟨a5, n5, c5, hv5⟩ := hp5.form3
          subst hv5
          have R5 := H4.out.next hb5
          have R6 := Lib.hid (R5.stored hp5)
          have y0 := R5.st.c0; have y1 := R5.st.c1; have y2 := R5.st.c2; have yf := R5.st.fr
          obtain ⟨w6, hw6⟩ : ∃ w6, w6 = (((w5.setCell ⟨z, 0, none⟩ (.string (bA d2.out))).setCell ⟨z, 1, none⟩ (.slice a5 n5 c5)).setCell ⟨z, 2, none⟩ (.int .i64 d2.er)) := ⟨_, rfl⟩
          rw [← hw6] at R6
          clear hb5 hp5 t0 t1 t2 x0 x1 x2 x3 x4 x5 R5 HRD H4
          go_wp2_with fail
          rw [← hw6]
          clear hw6 y0 y1 y2 yf
          obtain ⟨vb6, vh6, h6⟩ := R6.out.ww
          refine (HDN.out _ _ _ h6).mono ?_
          rintro e w7 ⟨rfl, b7⟩
          have R7 := R6.out.next b7
          have t0 := R7.st.c0; have t1 := R7.st.c1; have t2 := R7.st.c2
          have H7 := Lib.hid R7
          clear b7 R7 h6 HDN R6
          go_wp2_with fail
          refine (HRF.out _ _ H7.out.pi).mono ?_
          rintro e w8 ⟨rfl, b8⟩
          have H8 := Lib.hid (HNX.out w8 _ _ HLT.out HRL.out (H7.out.next b8))
          clear b8 t0 t1 t2 H7 HRF HNX
          go_wp2_with fail
          go_roundw
          case rel =>
            obtain ⟨j1, h1, h2, h3⟩ := H8.out
            exact ⟨j1, h1, by rw [← h2]; go_num, h3⟩
          case measure => simp [intOf]; omega)
    · have q1 : decide (j < l.length) = false := decide_eq_false hlt
      have q2 : ¬ (j : Int) < (l.length : Int) := by omega
      have HX := Lib.hid (works23_any wr (HT.out wr hR.b))
      have HB := Lib.hid hR.b
      clear hR hrl hdok hmn
      go_wp2_with fail
      refine HX.out.mono ?_
      rintro e w2 ⟨rfl, hb⟩
      have B2 := Lib.hid (grown_then HB.out hb)
      clear hb
      go_wp2
      go_ret
      exact ⟨rfl, B2.out⟩
theorem cws_law (a : Option Addr) (cap : Nat) (l : List WO) (w : World) (hin : OIn w a l) (hn : ∀ o ∈ l, OpOk o) (ht : Tab w) :
    Calls Tryd.prog 3 #[.slice a l.length cap] w fun e w' => e = .returned (.bool true) ∧ Below w.heap.size w w' := by
  by_cases h : 60 < l.length
  · exact cws_long a cap l w h ht
  · exact cws_short a cap l w (by omega) hin hn ht
end Go.Proofs.YtmcklfndnjagiaaDoor
