/- Law 19: PwriteReads. -/
import Derived.Test.YtjpppnfkpnfhoaaDoorPwWork
import Derived.Test.YtjpppnfkpnfhoaaDoorPwAny
import Derived.Test.YtjpppnfkpnfhoaaDoorPwBk
import Derived.Test.YtjpppnfkpnfhoaaDoorZI
import Derived.Deep.RegionHeld3
namespace Go.Proofs.YtjpppnfkpnfhoaaDoor
open Go Go.RowKit
set_option linter.unusedVariables false

def PwRel (w : World) (l : List OD) (b : Nat) (i : Value) (wr : World) : Prop :=
  ∃ (j : Nat) (v : Value), j ≤ l.length ∧ i = .int .i64 (j : Nat) ∧ MsgR True wr w.heap.size b v (oAll (l.take j)) ∧ Below w.heap.size w wr ∧ (pB (oAll (l.take j))).length ≤ 400 * j ∧ (oAll (l.take j)).length ≤ j
def PwRe2 (w : World) (w0 : World) (Y : List FD) (u i : Value) (wr : World) : Prop :=
  ∃ (j : Nat), j ≤ Y.length ∧ i = .int .i64 (j : Nat) ∧ Bts 5 wr w.heap.size u (pB (Y.take j)) ∧ Below w0.heap.size w0 wr
/-- What stands ahead of the last comparison: the bytes laid again, the message, the listed table. -/
structure PX (w wx : World) (u v : Value) (X : List FD) : Prop where
  row : Bts 5 wx w.heap.size u (pB X)
  m : MsgR True wx w.heap.size w.heap.size v X
  tb : Tab wx
  b : Below w.heap.size w wx
theorem PX.next {w wx w' : World} {u v : Value} {X : List FD} (h : PX w wx u v X) (hb : Below wx.heap.size wx w') : PX w w' u v X := ⟨h.row.below hb (Nat.le_refl _), h.m.below hb, h.tb.below hb h.tb.lt, grown_then h.b hb⟩
set_option maxRecDepth 100000 in
set_option maxHeartbeats 16000000 in
theorem preads_any (a : Option Addr) (cap : Nat) (l : List OD) (w : World) (hin : OdIn w a l) (hok : ∀ o ∈ l, OdOk o) (ht : Tab w) :
    Calls Tryd.prog 3 #[.slice a l.length cap] w fun e w' => e = .returned (.bool true) ∧ Below w.heap.size w w' := by
  have HW := Lib.hid (fun w => works19_any w)
  by_cases hs : 30 < l.length
  · have p1 : decide ((30 : Int) < (l.length : Int)) = true := decide_eq_true (by omega)
    have p2 : decide (30 < l.length) = true := decide_eq_true hs
    clear hin hok ht
    go_enter Tryd.func3, Tryd.ntmps3
    go_wp2_with fail
    refine (HW.out _).mono ?_
    rintro e w1 ⟨rfl, b1⟩
    go_wp2
    go_ret
    exact ⟨rfl, b1⟩
  · have p1 : decide ((30 : Int) < (l.length : Int)) = false := decide_eq_false (by omega)
    have p2 : decide (30 < l.length) = false := decide_eq_false hs
    have HN := Lib.hid (fun w => pnewT True w)
    have HI := Lib.hid hin
    have HK := Lib.hid hok
    have HT := Lib.hid ht
    have HTb := Lib.hid (show Tb True w.heap.size w from fun _ => ⟨ht, ht.lt⟩)
    have hl30 : l.length ≤ 30 := by omega
    clear hin hok ht
    go_enter Tryd.func3, Tryd.ntmps3
    go_wp2_with fail
    refine (HN.out _).mono ?_
    rintro e w1 ⟨rfl, m1, b1⟩
    have M1 := Lib.hid m1
    have B1 := Lib.hid b1
    obtain ⟨b, hb⟩ : ∃ b, b = w.heap.size := ⟨_, rfl⟩
    have hbw := Lib.hid hb
    clear m1 b1
    go_wp2_with fail
    go_loopw [4] (fun i wr => PwRel w l w.heap.size i wr) (fun i _ => l.length - (intOf i).toNat)
    case atStart => exact ⟨0, _, by omega, rfl, M1.out, B1.out, by simp [oAll, pB_nil], by simp [oAll]⟩
    case round =>
      obtain ⟨j, v, hj, rfl, hm, hbb, hlen, hmany⟩ := hrel
      clear M1 B1 HN
      have M := Lib.hid hm
      have B := Lib.hid hbb
      have z0 := hbb.size
      clear hm hbb
      by_cases hlt : j < l.length
      · have p3 : decide ((j : Int) < (l.length : Int)) = true := decide_eq_true (by omega)
        obtain ⟨g, off, ea, hgl, hA⟩ := HI.out.below B.out (Nat.le_refl _) j hlt
        subst ea
        have hA0 := Lib.hid hA
        obtain ⟨c0, c1, c2, c3, c4⟩ := hA
        have hx := HK.out l[j] (List.getElem_mem hlt)
        have hnx := Lib.hid (oAll_next l j hlt)
        have i0 : (0 : Int) ≤ (j : Int) := by omega
        have i1 : (j : Int) < (l.length : Int) := by omega
        obtain ⟨x, hx0⟩ : ∃ x, x = l[j] := ⟨_, rfl⟩
        rw [← hx0] at c0 c1 c2 c3 c4 hx hnx hA0
        clear hx0
        by_cases hsz : 300 < x.2.2.2.2.size
        · have p4 : decide ((300 : Int) < (x.2.2.2.2.size : Int)) = true := decide_eq_true (by omega)
          have p5 : decide (300 < x.2.2.2.2.size) = true := decide_eq_true hsz
          clear hx
          go_wp2_with fail
          refine (HW.out _).mono ?_
          rintro e w3 ⟨rfl, b3⟩
          have B3 := Lib.hid (B.out.trans (b3.mono (by omega)))
          clear b3
          go_wp2
          go_ret
          exact ⟨rfl, B3.out⟩
        · have p4 : decide ((300 : Int) < (x.2.2.2.2.size : Int)) = false := decide_eq_false (by omega)
          have p5 : decide (300 < x.2.2.2.2.size) = false := decide_eq_false hsz
          have hL := opF_le x.1 x.2.1 x.2.2.1 x.2.2.2.1 x.2.2.2.2 x.2.2.2.2 hx.2 (by omega) (by omega)
          have HL := Lib.hid (And.intro (And.intro hlen hmany) hL)
          have HA := Lib.hid (addo_any (M.out.below (Below.refl _ wr).drew) (by simp; omega) x x.2.2.2.2 hx (fun _ => trivial) (by omega) (by omega) (by omega) (by omega))
          clear hx hL hlen hmany
          go_wp2_with fail
          have d0 : wr.drew.cell? ⟨g, off + j * 5, none⟩ = some (.int .u8 (x.1 : Nat)) := c0
          have d1 : wr.drew.cell? ⟨g, off + j * 5 + 1, none⟩ = some (.int .i64 x.2.1) := c1
          have d2 : wr.drew.cell? ⟨g, off + j * 5 + 2, none⟩ = some (.int .i64 x.2.2.1) := c2
          have d3 : wr.drew.cell? ⟨g, off + j * 5 + 3, none⟩ = some (.int .u64 (x.2.2.2.1 : Nat)) := c3
          have d4 : wr.drew.cell? ⟨g, off + j * 5 + 4, none⟩ = some (.string x.2.2.2.2) := c4
          go_region_with (first
            | (go_at_call 6; go_loud (with_reducible refine HA.out.mono ?_; rintro r w3 ⟨rfl, v3, m3, b3, -⟩); (rw [← hnx.out] at m3); (have M3 := Lib.hid m3); (have B3 := Lib.hid (B.out.trans ((Below.refl _ wr).drew.trans b3))); clear m3 b3))
          all_goals go_wp2
          all_goals go_roundw
          all_goals first
            | (case rel => exact ⟨j + 1, v3, by omega, by go_num, M3.out, B3.out, by rw [hnx.out, pB_len]; have := HL.out; omega, by rw [hnx.out, List.length_append]; have := HL.out; omega⟩)
            | skip
          all_goals (case measure => simp [intOf]; omega)
      · obtain rfl : j = l.length := by omega
        have p3 : decide ((l.length : Int) < (l.length : Int)) = false := decide_eq_false (by omega)
        rw [List.take_length] at M hlen hmany
        have HL := Lib.hid (And.intro hlen hmany)
        have HTw := Lib.hid (HT.out.below B.out HT.out.lt)
        have HTd := Lib.hid (HTb.out.below B.out)
        clear hlen hmany HI HK hj hlt
        generalize oAll l = X at *
        obtain ⟨kk, hrow⟩ := M.out.row.rowOf
        have HOK := Lib.hid hrow.oks
        have hrd := Lib.hid (pB_read X hrow.oks)
        have hkp := Lib.hid (pB_keep X hrow.oks)
        clear hrow
        have HB := Lib.hid (pbytes_any M.out (fun _ => ⟨HTw.out, HTw.out.lt⟩) (by have := HL.out.1; omega))
        go_wp2_with fail
        refine HB.out.mono ?_
        rintro e w2 ⟨rfl, b2⟩
        have M2 := Lib.hid (M.out.below b2)
        have B2 := Lib.hid (B.out.trans (b2.mono (by omega)))
        have T2 := Lib.hid (HTw.out.below b2 HTw.out.lt)
        have z2 := b2.size
        clear b2 HB M B HTw HTd
        have HJ := jo_all (bA (pB X)) w2 (by rw [size_bA]; have := HL.out.1; omega) T2.out
        rw [toList_bA, hrd.out] at HJ
        have HJ := Lib.hid HJ
        go_wp2_with fail
        refine HJ.out.mono ?_
        rintro e w3 ⟨vf, rfl, hf, b3⟩
        obtain ⟨ya, yc, rfl, hfin⟩ := hf.inn
        have HF := Lib.hid hfin
        have M3 := Lib.hid (M2.out.below b3)
        have B3 := Lib.hid (B2.out.trans (b3.mono (by omega)))
        have T3 := Lib.hid (T2.out.below b3 T2.out.lt)
        have z3 := b3.size
        have hYok := Lib.hid (show ∀ i (h : i < (X.map kF).length), (X.map kF)[i].2.2.1 < 18446744073709551616 ∧ (X.map kF)[i].2.2.2.size ≤ 1099511627776 from fun i h => by
          rw [List.getElem_map]
          exact kF_ok (HOK.out i (by simpa using h)))
        have hYl : (X.map kF).length ≤ 12000 := by rw [List.length_map]; have := HL.out.2; omega
        have hYz := Lib.hid (show (pB (X.map kF)).length ≤ 12000 by rw [hkp.out]; have := HL.out.1; omega)
        clear b3 hf hfin HJ M2 B2 T2 HOK hrd
        generalize X.map kF = Y at *
        go_wp2_with fail
        go_loopw [7, 8] (fun u i wr => PwRe2 w w3 Y u i wr) (fun _ i _ => Y.length - (intOf i).toNat)
        case atStart => exact ⟨0, by omega, rfl, ⟨rfl, .inl ⟨rfl, rfl⟩⟩, Below.refl _ _⟩
        case round =>
          obtain ⟨i, hi, rfl, hu, hbr⟩ := hrel
          have HU := Lib.hid hu
          have BR := Lib.hid hbr
          have zr := hbr.size
          clear hu hbr
          by_cases hlt2 : i < Y.length
          · have p4 : decide ((i : Int) < (Y.length : Int)) = true := decide_eq_true (by omega)
            obtain ⟨g, eg, _, hg0⟩ := HF.out.below BR.out (Nat.le_refl _) i hlt2
            subst eg
            obtain ⟨f0, f1, f2, f3⟩ := hg0
            have j0 : (0 : Int) ≤ (i : Int) := by omega
            have j1 : (i : Int) < (Y.length : Int) := by omega
            have hy := hYok.out i hlt2
            have hnx := Lib.hid (pB_take Y i hlt2)
            have hle := pB_take_le Y i
            obtain ⟨ua, uc, rfl, hin⟩ := HU.out.inn
            obtain ⟨y, hy0⟩ : ∃ y, y = Y[i] := ⟨_, rfl⟩
            rw [← hy0] at f0 f1 f2 f3 hy hnx
            have HP := Lib.hid (fput_any ua uc (pB (Y.take i)) y.1 y.2.1 y.2.2.1 y.2.2.2 wr (by have := hYz.out; omega) (by have := hy.2; omega) hy.1 hin (T3.out.below BR.out T3.out.lt))
            clear hy0 hin hle hy
            go_wp2_with fail
            refine HP.out.mono ?_
            rintro e w4 ⟨vu, rfl, h4, b4⟩
            have h5 := h4.base (B := w.heap.size) (by have := B3.out.size; omega)
            have h6 : Bts 5 w4 w.heap.size vu (pB (Y.take (i + 1))) := by rw [hnx.out]; exact h5
            have H4 := Lib.hid h6
            have B4 := Lib.hid (grown_then BR.out b4)
            clear h4 h5 h6 b4 HP f0 f1 f2 f3
            go_wp2
            go_roundw
            case rel => exact ⟨i + 1, by omega, by go_num, H4.out, B4.out⟩
            case measure => simp [intOf]; omega
          · obtain rfl : i = Y.length := by omega
            have p4 : decide ((Y.length : Int) < (Y.length : Int)) = false := decide_eq_false (by omega)
            rw [List.take_length, hkp.out] at HU
            obtain ⟨ua, uc, rfl, -⟩ := HU.out.inn
            have HX := Lib.hid (show PX w wr (.slice ua (pB X).length uc) v X from ⟨HU.out, M3.out.below BR.out, T3.out.below BR.out T3.out.lt, B3.out.trans (BR.out.mono (by have := B3.out.size; omega))⟩)
            have hz : (pB X).length ≤ 70368744177664 := by have := HL.out.1; omega
            have HB := Lib.hid (fun W (hW : PX w W (.slice ua (pB X).length uc) v X) => pbytes_any hW.m (fun _ => ⟨hW.tb, hW.tb.lt⟩) hz)
            have HC := Lib.hid (fun W (hW : PX w W (.slice ua (pB X).length uc) v X) => hW.row.text (P := Tryd.prog) Tryd.underlying35 Tryd.underlying5 Tryd.underlying9)
            clear M3 B3 T3 BR HU HF hYok hYz hkp HL HT HTb hz
            generalize (pB X).length = z at *
            generalize bA (pB X) = S at *
            go_wp2_with fail
            refine wp_region_held_drew (S := fun wx => PX w wx (.slice ua z uc) v X) (by kernel_rfl) (HX.out.next (drew_below _ _)) (fun hS => ?_)
            refine wpAnyH_take (i := 0) (oi := ⟨some 57, _, _, _, _, _⟩) (v := ?_) rfl (by decide +kernel) (by decide +kernel) (by decide +kernel) (fun _ _ _ h => h) (Or.inl ⟨by rfl, ?_⟩) hS ?_
            rotate_left 1
            · intro wS hSw
              go_simp
              try with_reducible rfl
            try simp only [Act.put, List.setIfInBounds_toArray, List.set_cons_zero, List.set_cons_succ]
            refine wpAnyH_take (i := 1) (oi := ⟨some 58, _, _, _, _, _⟩) (v := ?_) rfl (by decide +kernel) (by decide +kernel) (by decide +kernel) (fun _ _ _ h => h) (Or.inl ⟨by rfl, ?_⟩) hS ?_
            rotate_left 1
            · intro wS hSw
              go_simp
              try with_reducible rfl
            try simp only [Act.put, List.setIfInBounds_toArray, List.set_cons_zero, List.set_cons_succ]
            refine wpAnyH_take (i := 2) (oi := ⟨some 59, _, _, _, _, _⟩) (v := ?_) rfl (by decide +kernel) (by decide +kernel) (by decide +kernel) (fun _ _ _ h => h) (Or.inl ⟨by rfl, ?_⟩) hS ?_
            rotate_left 1
            · intro wS hSw
              go_simp
              try with_reducible rfl
            try simp only [Act.put, List.setIfInBounds_toArray, List.set_cons_zero, List.set_cons_succ]
            refine wpAnyH_take (i := 3) (oi := ⟨some 60, _, _, _, _, _⟩) (v := ?_) rfl (by decide +kernel) (by decide +kernel) (by decide +kernel) (fun _ _ _ h => h) (Or.inl ⟨by rfl, ?_⟩) hS ?_
            rotate_left 1
            · intro wS hSw
              go_simp
              try with_reducible rfl
            try simp only [Act.put, List.setIfInBounds_toArray, List.set_cons_zero, List.set_cons_succ]
            refine wpAnyH_take (i := 4) (oi := ⟨some 61, _, _, _, _, _⟩) (v := ?_) rfl (by decide +kernel) (by decide +kernel) (by decide +kernel) (fun _ _ _ h => h) (Or.inl ⟨by rfl, ?_⟩) hS ?_
            rotate_left 1
            · intro wS hSw
              have cv := HC.out wS hSw
              go_simp
              try with_reducible rfl
            try simp only [Act.put, List.setIfInBounds_toArray, List.set_cons_zero, List.set_cons_succ]
            refine wpAnyH_take (i := 5) (oi := ⟨some 62, _, _, _, _, _⟩) (v := ?_) rfl (by decide +kernel) (by decide +kernel) (by decide +kernel) (fun _ _ _ h => h) (Or.inl ⟨by rfl, ?_⟩) hS ?_
            rotate_left 1
            · intro wS hSw
              go_simp
              try with_reducible rfl
            try simp only [Act.put, List.setIfInBounds_toArray, List.set_cons_zero, List.set_cons_succ]
            refine wpAnyH_ready (rs := [6]) (by decide +kernel) (by simp) ?_
            refine AllReadyH.cons (o := ⟨some 63, _, _, _, _, _⟩) rfl (fun K hK => ?_) AllReadyH.nil
            rw [if_pos (by rfl)]
            go_simp
            with_reducible refine (HB.out _ hS).mono ?_
            rintro e w5 ⟨rfl, b5⟩
            refine hK.out _ _ (hS.next b5) (fun hS => ?_)
            clear hK K
            try simp only [Act.put, List.setIfInBounds_toArray, List.set_cons_zero, List.set_cons_succ]
            refine wpAnyH_take (i := 7) (oi := ⟨some 64, _, _, _, _, _⟩) (v := ?_) rfl (by decide +kernel) (by decide +kernel) (by decide +kernel) (fun _ _ _ h => h) (Or.inl ⟨by rfl, ?_⟩) hS ?_
            rotate_left 1
            · intro wS hSw
              go_simp
              try with_reducible rfl
            try simp only [Act.put, List.setIfInBounds_toArray, List.set_cons_zero, List.set_cons_succ]
            refine wpAnyH_take (i := 8) (oi := ⟨some 65, _, _, _, _, _⟩) (v := ?_) rfl (by decide +kernel) (by decide +kernel) (by decide +kernel) (fun _ _ _ h => h) (Or.inl ⟨by rfl, ?_⟩) hS ?_
            rotate_left 1
            · intro wS hSw
              go_simp
              try with_reducible rfl
            try simp only [Act.put, List.setIfInBounds_toArray, List.set_cons_zero, List.set_cons_succ]
            refine wpAnyH_take (i := 9) (oi := ⟨some 66, _, _, _, _, _⟩) (v := ?_) rfl (by decide +kernel) (by decide +kernel) (by decide +kernel) (fun _ _ _ h => h) (Or.inl ⟨by rfl, ?_⟩) hS ?_
            rotate_left 1
            · intro wS hSw
              go_simp
              try with_reducible rfl
            try simp only [Act.put, List.setIfInBounds_toArray, List.set_cons_zero, List.set_cons_succ]
            refine wpAnyH_ready (rs := [10]) (by decide +kernel) (by simp) ?_
            refine AllReadyH.cons (o := ⟨some 67, _, _, _, _, _⟩) rfl (fun K hK => ?_) AllReadyH.nil
            rw [if_pos (by rfl)]
            go_simp
            with_reducible refine (HW.out _).mono ?_
            rintro e w6 ⟨rfl, b6⟩
            refine hK.out _ _ (hS.next b6) (fun hS => ?_)
            clear hK K
            try simp only [Act.put, List.setIfInBounds_toArray, List.set_cons_zero, List.set_cons_succ]
            refine wpAnyH_take (i := 11) (oi := ⟨some 68, _, _, _, _, _⟩) (v := ?_) rfl (by decide +kernel) (by decide +kernel) (by decide +kernel) (fun _ _ _ h => h) (Or.inl ⟨by rfl, ?_⟩) hS ?_
            rotate_left 1
            · intro wS hSw
              go_simp
              try with_reducible rfl
            try simp only [Act.put, List.setIfInBounds_toArray, List.set_cons_zero, List.set_cons_succ]
            refine wpAnyH_take (i := 12) (oi := ⟨some 2, _, _, _, _, _⟩) (v := ?_) rfl (by decide +kernel) (by decide +kernel) (by decide +kernel) (fun _ _ _ h => h) (Or.inl ⟨by rfl, ?_⟩) hS ?_
            rotate_left 1
            · intro wS hSw
              go_simp
              try with_reducible rfl
            try simp only [Act.put, List.setIfInBounds_toArray, List.set_cons_zero, List.set_cons_succ]
            refine wpAnyH_done (by kernel_rfl) ?_ _
            have HF := Lib.hid hS.b
            clear hS
            go_wp2
            go_ret
            exact ⟨rfl, HF.out⟩
end Go.Proofs.YtjpppnfkpnfhoaaDoor
