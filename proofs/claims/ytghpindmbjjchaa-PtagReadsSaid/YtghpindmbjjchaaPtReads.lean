/- PtagReads, walked. -/
import Derived.Test.YtghpindmbjjchaaPtR
import Derived.Test.YtghpindmbjjchaaPtWork
namespace Go.Proofs.Ytghpindmbjjchaa
open Go Go.RowKit
set_option linter.unusedVariables false

def PtRel (s : ByteArray) (B BW : Nat) (W : World) (i : Value) (wr : World) : Prop :=
  ∃ (k : Nat) (c r : CS), k ≤ 4 ∧ i = .int .i64 (k : Nat) ∧ Alike c r ∧ r.s = s ∧ CurT 44 wr B c ∧ CurT 27 wr BW r ∧ B ≠ BW ∧ W.heap.size ≤ B ∧ W.heap.size ≤ BW ∧ Below W.heap.size W wr
theorem PtRel.drewN {s : ByteArray} {B BW : Nat} {W wr : World} {i j : Value} (h : PtRel s B BW W i wr) (n : Nat) (e : j = i) : PtRel s B BW W j (wr.drewN n) := by
  subst e
  obtain ⟨k, c, r, h1, h2, h3, h4, h5, h6, h7, h8, h9, h10⟩ := h
  exact ⟨k, c, r, h1, h2, h3, h4, h5.drewN n, h6.drewN n, h7, h8, h9, Below.drewN h10 n⟩

theorem preads_long (s : ByteArray) (w : World) (h : 200 < s.size) :
    Calls Try.prog 3 #[.string s] w fun e w' => e = .returned (.bool true) ∧ Below w.heap.size w w' := by
  have p1 : decide (200 < (s.size : Int)) = true := decide_eq_true (by omega)
  go_enter Try.func3, Try.ntmps3
  go_wp2_with ((with_reducible refine (works16_any _).mono ?_); rintro e w2 ⟨rfl, hbel2⟩)
  go_ret
  exact ⟨rfl, hbel2⟩

set_option maxRecDepth 100000 in
set_option maxHeartbeats 4000000 in
theorem preads_short (s : ByteArray) (w : World) (h : s.size ≤ 200) :
    Calls Try.prog 3 #[.string s] w fun e w' => e = .returned (.bool true) ∧ Below w.heap.size w w' := by
  have p1 : decide (200 < (s.size : Int)) = false := decide_eq_false (by omega)
  go_enter Try.func3, Try.ntmps3
  go_wp2_with fail
  with_reducible refine (new_cur s _ (by omega)).mono ?_
  rintro e w1 ⟨B, rfl, hb1, hc1, hbel1⟩
  go_wp2_with fail
  with_reducible refine (ref_new s _ (by omega)).mono ?_
  rintro e w2 ⟨rfl, hbel2⟩
  have hc2 := Below.cur hbel2 hc1 hc1.lt
  go_wp2_with fail
  have hc3 := hc2.allocOld (.cells #[.string s, .int .i64 0, .int .i64 s.size, .int .i64 0] 27)
  have hlt3 := hc2.lt
  have HR := Lib.hid (show PtRel s B w2.heap.size w (.int .i64 0) (w2.alloc (.cells #[.string s, .int .i64 0, .int .i64 s.size, .int .i64 0] 27)) from by
    have z1 := hbel1.size
    have z2 := hbel2.size
    have hok := CS.new_ok (s := s) (by omega)
    exact ⟨0, CS.new s, CS.new s, Nat.zero_le _, rfl, ⟨hok, hok, rfl, fun _ => rfl, rfl⟩, rfl, hc3, cur_alloc (c := CS.new s) _, by omega, hb1, by omega, (hbel1.trans (hbel2.mono z1)).alloc (by omega) _⟩)
  generalize w2.alloc (.cells #[.string s, .int .i64 0, .int .i64 s.size, .int .i64 0] 27) = w3 at HR hc3 ⊢
  generalize w2.heap.size = BW at HR hlt3 ⊢
  clear hbel1 hbel2 hc1 hc2 hc3 hlt3 hb1
  go_loopw [5] (fun i wr => PtRel s B BW w i wr) (fun i _ => 4 - (intOf i).toNat)
  case atStart => exact HR.out
  case round =>
    obtain ⟨k, c, r, hk, rfl, hal, hrs, q1, q2, hne, hB, hBW, hbel⟩ := hrel
    have hsz := hbel.size
    by_cases hlt : k < 4
    · have hd1 : decide ((k : Int) < 4) = true := decide_eq_true (by omega)
      have hd1' : decide (k < 4) = true := decide_eq_true hlt
      have HOK := Lib.hid hal.1
      have hrs2 : r.s.size ≤ 140737488351232 := by rw [hrs]; omega
      have HT := Lib.hid (fun w (h : CurT 44 w B c) => tread_any h HOK.out)
      have HV := Lib.hid (fun w => rtread_any hal hrs2 w)
      have hgok : c.gTo.ok := by
        have h1 := CS.vTo_ok HOK.out
        unfold CS.gTo; split
        · exact CS.fail_ok h1 14
        · exact h1
      have HGO := Lib.hid hgok
      have HRS := Lib.hid hrs
      obtain ⟨N, hN⟩ : ∃ N, N = mN c.vVal := ⟨_, rfl⟩
      obtain ⟨R, hR⟩ : ∃ R, R = mW c.vVal := ⟨_, rfl⟩
      rw [← hN, ← hR] at HT HV
      clear hN hR hgok hal hrs hrs2
      generalize c.gTo = d at HT HV HGO
      go_wp2_with fail
      with_reducible refine (HT.out _ q1).mono ?_
      rintro e w4 ⟨rfl, r1, ho4⟩
      have g2 := ho4.cur q2 hne.symm
      have hbel4 := hbel.trans (ho4.below hB hsz)
      have r1a := r1.allocOld (.cells #[.int .i64 N, .int .i64 R] 30)
      have g2a := g2.allocOld (.cells #[.int .i64 N, .int .i64 R] 30)
      have t4 := tg_alloc 30 w4 N R
      have hbel4a := hbel4.alloc hbel4.size (.cells #[.int .i64 N, .int .i64 R] 30)
      have l1 := g2.lt
      have a0 := g2a.c0; have a1 := g2a.c1; have a2 := g2a.c2; have a3 := g2a.c3
      clear q1 q2 hbel ho4 r1 hbel4
      go_wp2_with fail
      with_reducible refine (HV.out _).mono ?_
      rintro e w5 ⟨x, rfl, hal5, hxs, hb5⟩
      have hal6 := Lib.hid hal5
      have hxs2 := Lib.hid (hxs.trans HRS.out)
      have s1 := Below.cur hb5 r1a r1a.lt
      have s2 := Below.cur hb5 g2a g2a.lt
      have s3 := t4.below hb5 t4.lt
      have hbel5 := hbel4a.trans (hb5.mono hbel4a.size)
      clear hb5 a0 a1 a2 a3 g2 g2a r1a t4 hbel4a hal5 hxs
      have a0 := s2.c0; have a1 := s2.c1; have a2 := s2.c2; have a3 := s2.c3; have af := s2.fr
      go_wp2_with fail
      have t1 := (Only.setAll w5 BW x).cur s1 hne
      have t2 := s2.setAll x
      have t3 := s3.only (Only.setAll w5 BW x) (by omega)
      have hbel6 := hbel5.trans ((Only.setAll w5 BW x).below hBW hbel5.size)
      obtain ⟨w6, hw6⟩ : ∃ w6, w6 = ((((w5.setCell ⟨BW, 0, none⟩ (.string x.s)).setCell ⟨BW, 1, none⟩ (.int .i64 x.at_)).setCell ⟨BW, 2, none⟩ (.int .i64 x.en)).setCell ⟨BW, 3, none⟩ (.int .i64 x.er)) := ⟨_, rfl⟩
      rw [← hw6] at t1 t2 t3 hbel6 ⊢
      clear hw6 a0 a1 a2 a3 af s1 s2 s3 hbel5
      have hrel6 := Lib.hid (show PtRel s B BW w (.int .i64 ((k + 1 : Nat) : Int)) w6 from ⟨k + 1, d, x, by omega, rfl, hal6.out, hxs2.out, t1, t2, hne, hB, hBW, hbel6⟩)
      have a1 := t2.c1; have a3 := t2.c3; have b0 := t3.c0; have b1 := t3.c1
      have her := hal6.out.2.2.1
      have HE := Lib.hid (fun n => err_any (w := w6.drewN n) (t1.drewN n))
      rw [her] at HE
      by_cases h0 : x.er = 0
      · have hdx : d = x := hal6.out.2.2.2.1 (her.trans h0)
        have HA := Lib.hid (fun n => at_any (w := w6.drewN n) (t1.drewN n) hal6.out.1)
        rw [hdx] at HA
        have p2 : (x.er == 0) = true := by simp [h0]
        clear her h0 hdx
        go_quiet (first | (go_at_call 10; exact Calls.quiet_of_same (HE.out _)) | (go_at_call 11; exact Calls.quiet_of_same (HA.out _)))
        go_wp2
        go_roundw
        case rel => exact hrel6.out.drewN _ (by go_num)
        case measure => simp [intOf]; omega
      · have p2 : (x.er == 0) = false := beq_eq_false_iff_ne.mpr h0
        clear her h0
        go_quiet (first | (go_at_call 10; exact Calls.quiet_of_same (HE.out _)) | (go_at_call 11; exact Calls.quiet_of_same (HA.out _)))
        go_wp2
        go_roundw
        case rel => exact hrel6.out.drewN _ (by go_num)
        case measure => simp [intOf]; omega
    · have hd1 : decide ((k : Int) < 4) = false := decide_eq_false (by omega)
      have hd1' : decide (k < 4) = false := decide_eq_false hlt
      go_wp2_with ((with_reducible refine (works16_any _).mono ?_); rintro e w2 ⟨rfl, hbel2⟩)
      go_ret
      exact ⟨rfl, hbel.trans (hbel2.mono hsz)⟩

theorem preads_any (s : ByteArray) (w : World) (hs : s.size ≤ 140737488351232) :
    Calls Try.prog 3 #[.string s] w fun e w' => e = .returned (.bool true) ∧ Below w.heap.size w w' := by
  by_cases h : 200 < s.size
  · exact preads_long s w h
  · exact preads_short s w (by omega)
end Go.Proofs.Ytghpindmbjjchaa
