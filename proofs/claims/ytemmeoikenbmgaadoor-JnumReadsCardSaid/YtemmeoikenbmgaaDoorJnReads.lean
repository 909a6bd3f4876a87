/- JnumReads, walked. -/
import Derived.Test.YtemmeoikenbmgaaDoorJnWork
namespace Go.Proofs.YtemmeoikenbmgaaDoor
open Go Go.RowKit
set_option linter.unusedVariables false

theorem nRes_err {c : CS} (h : ¬ c.er = 0) : c.nc = c.er ∧ c.nt = [] := by
  have h1 : c.nc = c.er := by unfold CS.nc; rw [if_neg h]
  exact ⟨h1, by unfold CS.nt; rw [h1, if_neg h]⟩
theorem nRes_good {c : CS} (h : c.nc = 0) : c.er = 0 := by
  by_cases h0 : c.er = 0
  · exact h0
  · rw [(nRes_err h0).1] at h; exact h
/-- The cursor and the document's own: of one error; while there is none, at one place. -/
def NAlike (c r : CS) : Prop := c.ok ∧ r.ok ∧ c.er = r.er ∧ (c.er = 0 → c = r) ∧ c.s = r.s
theorem NAlike.res {c r : CS} (h : NAlike c r) : c.nc = r.nc ∧ c.nt = r.nt := by
  obtain ⟨h1, h2, h3, h4, h5⟩ := h
  by_cases h0 : c.er = 0
  · rw [h4 h0]; exact ⟨rfl, rfl⟩
  · obtain ⟨a1, a2⟩ := nRes_err h0
    obtain ⟨b1, b2⟩ := nRes_err (c := r) (by rw [← h3]; exact h0)
    exact ⟨by rw [a1, b1, h3], by rw [a2, b2]⟩
theorem NAlike.step {c r c' : CS} (h : NAlike c r) (hA : CAt c (nE c.bs) c.nc c') : NAlike c' r.nTo ∧ r.nTo.s = r.s := by
  obtain ⟨hr, _⟩ := h.res
  obtain ⟨h1, h2, h3, h4, h5⟩ := h
  obtain ⟨a1, a2, a3, a4, a5⟩ := hA
  by_cases he : c.nc = 0
  · have h0 := nRes_good he
    have hcr := h4 h0
    have e1 := a5 he
    have e2 : r.nTo = c' := by
      unfold CS.nTo; rw [← hr, if_pos he, e1, hcr]
    rw [e2]
    exact ⟨⟨a1, a1, rfl, fun _ => rfl, rfl⟩, by rw [a2, h5]⟩
  · have e2 : r.nTo = r.bad c.nc := by unfold CS.nTo; rw [← hr, if_neg he]
    rw [e2]
    exact ⟨⟨a1, h2, a4, fun h => absurd (a4.symm.trans h) he, by rw [a2, h5]; rfl⟩, rfl⟩

def NwRel (s : ByteArray) (B BW : Nat) (W : World) (i : Value) (wr : World) : Prop :=
  ∃ (k : Nat) (c r : CS), k ≤ 3 ∧ i = .int .i64 (k : Nat) ∧ NAlike c r ∧ r.s = s ∧ CurT 40 wr B c ∧ CurT 27 wr BW r ∧ B ≠ BW ∧ W.heap.size ≤ B ∧ W.heap.size ≤ BW ∧ Below W.heap.size W wr
theorem NwRel.drewN {s : ByteArray} {B BW : Nat} {W wr : World} {i j : Value} (h : NwRel s B BW W i wr) (n : Nat) (e : j = i) : NwRel s B BW W j (wr.drewN n) := by
  subst e
  obtain ⟨k, c, r, h1, h2, h3, h4, h5, h6, h7, h8, h9, h10⟩ := h
  exact ⟨k, c, r, h1, h2, h3, h4, h5.drewN n, h6.drewN n, h7, h8, h9, Below.drewN h10 n⟩
theorem nr_l {b : Nat} {c : CS} {V : ByteArray} {w : World} (hV : Hid (V = bA c.nt)) (h : CurT 40 w b c) (hc : c.ok) (hs : c.s.size ≤ 140737488351232) :
    Calls Tryd.prog 9 #[.pointer (some ⟨b, 0, none⟩)] w fun e w' => e = .returned (.string V) ∧ (∃ d, CurT 40 w' b d ∧ CAt c (nE c.bs) c.nc d) ∧ Only b w w' := by
  rw [hV.out]; exact nread_any h hc hs
/-- The document's own Read, of a cursor that is alike. -/
theorem nrr_l {c r : CS} {V : ByteArray} (hV : Hid (V = bA c.nt)) (ha : Hid (NAlike c r)) (hs : r.s.size ≤ 140737488351232) (w : World) :
    Calls Tryd.prog 10 #[.agg #[.string r.s, .int .i64 r.at_, .int .i64 r.en, .int .i64 r.er]] w fun e w' => ∃ d, e = .returned (.tuple #[.agg #[.string d.s, .int .i64 d.at_, .int .i64 d.en, .int .i64 d.er], .string V]) ∧ d = r.nTo ∧ Below w.heap.size w w' := by
  refine (rnread_any r w ha.out.2.1 (by omega)).mono ?_
  rintro e w' ⟨rfl, hb⟩
  exact ⟨r.nTo, by rw [hV.out, ha.out.res.2]; rfl, rfl, hb⟩

theorem nreads_long (s : ByteArray) (w : World) (h : 300 < s.size) (hm : MaxL w) :
    Calls Tryd.prog 3 #[.string s] w fun e w' => e = .returned (.bool true) ∧ Below w.heap.size w w' := by
  have p1 : decide (300 < (s.size : Int)) = true := decide_eq_true (by omega)
  have HT := Lib.hid hm
  clear hm
  go_enter Tryd.func3, Tryd.ntmps3
  go_wp2_with ((with_reducible refine (works11_any _ HT.out).mono ?_); rintro e w2 ⟨rfl, hbel2⟩)
  go_ret
  exact ⟨rfl, hbel2⟩

set_option maxRecDepth 100000 in
set_option maxHeartbeats 4000000 in
theorem nreads_short (s : ByteArray) (w : World) (h : s.size ≤ 300) (hm : MaxL w) :
    Calls Tryd.prog 3 #[.string s] w fun e w' => e = .returned (.bool true) ∧ Below w.heap.size w w' := by
  have p1 : decide (300 < (s.size : Int)) = false := decide_eq_false (by omega)
  have HT := Lib.hid (show ∀ w', Below w.heap.size w w' → MaxL w' from fun w' hb => hm.below hb hm.lt)
  clear hm
  go_enter Tryd.func3, Tryd.ntmps3
  go_wp2_with fail
  with_reducible refine (new_cur s _ (by omega)).mono ?_
  rintro e w1 ⟨B, rfl, hb1, hc1, hbel1⟩
  go_wp2_with fail
  with_reducible refine (ref_new s _ (by omega)).mono ?_
  rintro e w2 ⟨rfl, hbel2⟩
  have hc2 := Below.cur hbel2 hc1 hc1.lt
  go_wp2_with fail
  have hc3 := hc2.allocOld (.cells #[.string s, .int .i64 0, .int .i64 s.size, .int .i64 0] 27)
  have hlt3 := hc2.lt
  have HR := Lib.hid (show NwRel s B w2.heap.size w (.int .i64 0) (w2.alloc (.cells #[.string s, .int .i64 0, .int .i64 s.size, .int .i64 0] 27)) from by
    have z1 := hbel1.size
    have z2 := hbel2.size
    have hok := CS.new_ok (s := s) (by omega)
    exact ⟨0, CS.new s, CS.new s, Nat.zero_le _, rfl, ⟨hok, hok, rfl, fun _ => rfl, rfl⟩, rfl, hc3, cur_alloc (c := CS.new s) _, by omega, hb1, by omega, (hbel1.trans (hbel2.mono z1)).alloc (by omega) _⟩)
  generalize w2.alloc (.cells #[.string s, .int .i64 0, .int .i64 s.size, .int .i64 0] 27) = w3 at HR hc3 ⊢
  generalize w2.heap.size = BW at HR hlt3 ⊢
  clear hbel1 hbel2 hc1 hc2 hc3 hlt3 hb1
  go_loopw [5] (fun i wr => NwRel s B BW w i wr) (fun i _ => 3 - (intOf i).toNat)
  case atStart => exact HR.out
  case round =>
    obtain ⟨k, c, r, hk, rfl, hal, hrs, q1, q2, hne, hB, hBW, hbel⟩ := hrel
    have hsz := hbel.size
    by_cases hlt : k < 3
    · have hd1 : decide ((k : Int) < 3) = true := decide_eq_true (by omega)
      have HOK := Lib.hid hal.1
      have HA := Lib.hid hal
      obtain ⟨V, hV0⟩ : ∃ V : ByteArray, V = bA c.nt := ⟨_, rfl⟩
      have hV := Lib.hid hV0
      have hrs2 : r.s.size ≤ 140737488351232 := by rw [hrs]; omega
      have hcs2 := Lib.hid (show c.s.size ≤ 140737488351232 by rw [hal.2.2.2.2, hrs]; omega)
      have HRS := Lib.hid hrs
      have hwr := Lib.hid (HT.out _ hbel)
      have vv : (V.toList != V.toList) = false := by simp
      clear hV0 hal hrs
      go_wp2_with fail
      with_reducible refine (nr_l hV q1 HOK.out hcs2.out).mono ?_
      rintro e w4 ⟨rfl, ⟨d, r1, hA4⟩, ho4⟩
      have hAt := Lib.hid (HA.out.step hA4)
      have g2 := ho4.cur q2 hne.symm
      have hbel4 := hbel.trans (ho4.below hB hsz)
      clear q1 q2 hbel ho4 hA4
      have a0 := g2.c0; have a1 := g2.c1; have a2 := g2.c2; have a3 := g2.c3; have af := g2.fr
      go_wp2_with fail
      with_reducible refine (nrr_l hV HA hrs2 _).mono ?_
      rintro e w5 ⟨x, rfl, hx, hb5⟩
      have hal6 := Lib.hid (show NAlike d x by rw [hx]; exact hAt.out.1)
      have hxs2 := Lib.hid (show x.s = s by rw [hx]; exact hAt.out.2.trans HRS.out)
      have s1 := Below.cur hb5 r1 r1.lt
      have s2 := Below.cur hb5 g2 g2.lt
      have hbel5 := hbel4.trans (hb5.mono hbel4.size)
      clear hb5 a0 a1 a2 a3 af g2 r1 hbel4 hx hrs2
      have a0 := s2.c0; have a1 := s2.c1; have a2 := s2.c2; have a3 := s2.c3; have af := s2.fr
      go_wp2_with fail
      have t1 := (Only.setAll w5 BW x).cur s1 hne
      have t2 := s2.setAll x
      have hbel6 := hbel5.trans ((Only.setAll w5 BW x).below hBW hbel5.size)
      obtain ⟨w6, hw6⟩ : ∃ w6, w6 = ((((w5.setCell ⟨BW, 0, none⟩ (.string x.s)).setCell ⟨BW, 1, none⟩ (.int .i64 x.at_)).setCell ⟨BW, 2, none⟩ (.int .i64 x.en)).setCell ⟨BW, 3, none⟩ (.int .i64 x.er)) := ⟨_, rfl⟩
      rw [← hw6] at t1 t2 hbel6 ⊢
      clear hw6 a0 a1 a2 a3 af s1 s2 hbel5
      have hrel6 := Lib.hid (show NwRel s B BW w (.int .i64 ((k + 1 : Nat) : Int)) w6 from ⟨k + 1, d, x, by omega, rfl, hal6.out, hxs2.out, t1, t2, hne, hB, hBW, hbel6⟩)
      have a1 := t2.c1; have a3 := t2.c3
      have her := hal6.out.2.2.1
      have HE := Lib.hid (fun n => err_any (w := w6.drewN n) (t1.drewN n))
      rw [her] at HE
      by_cases h0 : x.er = 0
      · have hdx : d = x := hal6.out.2.2.2.1 (her.trans h0)
        have HA := Lib.hid (fun n => at_any (w := w6.drewN n) (t1.drewN n) hal6.out.1)
        rw [hdx] at HA
        have p2 : (x.er == 0) = true := by simp [h0]
        clear her h0 hdx
        go_quiet (first | (go_at_call 11; exact Calls.quiet_of_same (HE.out _)) | (go_at_call 12; exact Calls.quiet_of_same (HA.out _)))
        go_wp2
        go_roundw
        case rel => exact hrel6.out.drewN _ (by go_num)
        case measure => simp [intOf]; omega
      · have p2 : (x.er == 0) = false := beq_eq_false_iff_ne.mpr h0
        clear her h0
        go_quiet (first | (go_at_call 11; exact Calls.quiet_of_same (HE.out _)) | (go_at_call 12; exact Calls.quiet_of_same (HA.out _)))
        go_wp2
        go_roundw
        case rel => exact hrel6.out.drewN _ (by go_num)
        case measure => simp [intOf]; omega
    · have hd1 : decide ((k : Int) < 3) = false := decide_eq_false (by omega)
      have hwr := Lib.hid (HT.out _ hbel)
      go_wp2_with ((with_reducible refine (works11_any _ hwr.out).mono ?_); rintro e w2 ⟨rfl, hbel2⟩)
      go_ret
      exact ⟨rfl, hbel.trans (hbel2.mono hsz)⟩

theorem nreads_any (s : ByteArray) (w : World) (hs : s.size ≤ 140737488351232) (hm : MaxL w) :
    Calls Tryd.prog 3 #[.string s] w fun e w' => e = .returned (.bool true) ∧ Below w.heap.size w w' := by
  by_cases h : 300 < s.size
  · exact nreads_long s w h hm
  · exact nreads_short s w (by omega) hm
end Go.Proofs.YtemmeoikenbmgaaDoor
