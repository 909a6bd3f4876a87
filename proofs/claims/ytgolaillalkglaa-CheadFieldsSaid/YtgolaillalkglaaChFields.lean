/- CheadFields, walked. -/
import Derived.Test.YtgolaillalkglaaChWork
import Derived.Test.YtgolaillalkglaaChS
import Derived.Deep.QuietTactic
import Derived.BigQuiet
namespace Go.Proofs.Ytgolaillalkglaa
open Go Go.RowKit
set_option linter.unusedVariables false

theorem CS.want_er {c : CS} {x : Bool} {k : Int} (hk : k ≠ 0) (h : (c.want x k).er = 0) : x = true := by
  cases x
  · rw [CS.want_no] at h
    by_cases h0 : c.er = 0
    · exact absurd h (CS.bad_er h0 hk)
    · rw [CS.fail_fail h0] at h; exact absurd h h0
  · rfl
theorem CS.hId_num (c : CS) (last : Int) : numB (c.hId last) = true := by
  unfold CS.hId
  split
  · rfl
  · rename_i hp
    split
    · rename_i h0
      unfold CS.hTo at h0
      rw [if_neg hp] at h0
      exact CS.want_er (by decide) h0
    · rfl

def ChRel (s : ByteArray) (B BW : Nat) (w : World) (l i : Value) (wr : World) : Prop :=
  ∃ (k : Nat) (last : Int) (c r : CS), k ≤ 4 ∧ i = .int .i64 k ∧ l = .int .i64 last ∧ numB last = true ∧ Alike c r ∧ r.s = s ∧ CurT 56 wr B c ∧ CurT 27 wr BW r ∧ B ≠ BW ∧ w.heap.size ≤ B ∧ w.heap.size ≤ BW ∧ Below w.heap.size w wr
theorem ChRel.drewN {s : ByteArray} {B BW : Nat} {w : World} {l i : Value} {wr : World} (h : ChRel s B BW w l i wr) (n : Nat) {l' i' : Value} (hl : l' = l) (hi : i' = i) : ChRel s B BW w l' i' (wr.drewN n) := by
  obtain ⟨k, last, c, r, h1, h2, h3, h4, h5, h6, h7, h8, h9, h10, h11, h12⟩ := h
  subst hl hi
  exact ⟨k, last, c, r, h1, h2, h3, h4, h5, h6, h7.drewN n, h8.drewN n, h9, h10, h11, Below.drewN h12 n⟩

theorem chf_out (s : ByteArray) (last : Int) (w : World) (h : last < -32768 ∨ 32767 < last) :
    Calls Try.prog 3 #[.string s, .int .i64 last] w fun e w' => e = .returned (.bool true) ∧ Below w.heap.size w w' := by
  by_cases h1 : last < -32768
  · have p1 : decide (last < -32768) = true := decide_eq_true h1
    go_enter Try.func3, Try.ntmps3
    go_wp2_with ((with_reducible refine (works20_any _).mono ?_); rintro e w2 ⟨rfl, hbel2⟩)
    go_ret
    exact ⟨rfl, hbel2⟩
  · have p1 : decide (last < -32768) = false := decide_eq_false h1
    have p2 : decide (32767 < last) = true := decide_eq_true (by omega)
    go_enter Try.func3, Try.ntmps3
    go_wp2_with ((with_reducible refine (works20_any _).mono ?_); rintro e w2 ⟨rfl, hbel2⟩)
    go_ret
    exact ⟨rfl, hbel2⟩

set_option maxRecDepth 100000 in
set_option maxHeartbeats 4000000 in
theorem chf_in (s : ByteArray) (last : Int) (w : World) (hs : s.size ≤ 140737488351232) (h1 : ¬ last < -32768) (h2 : ¬ 32767 < last) :
    Calls Try.prog 3 #[.string s, .int .i64 last] w fun e w' => e = .returned (.bool true) ∧ Below w.heap.size w w' := by
  have p1 : decide (last < -32768) = false := decide_eq_false h1
  have p2 : decide (32767 < last) = false := decide_eq_false h2
  have hl : numB last = true := by unfold numB; rw [decide_eq_true (by omega), decide_eq_true (by omega)]; rfl
  go_enter Try.func3, Try.ntmps3
  go_wp2_with fail
  refine (new_cur s _ (by omega)).mono ?_
  rintro e w1 ⟨B, rfl, hb1, hc1, hbel1⟩
  go_wp2_with fail
  refine (ref_new s _ (by omega)).mono ?_
  rintro e w2 ⟨rfl, hbel2⟩
  have hc2 := Below.cur hbel2 hc1 hc1.lt
  go_wp2_with fail
  have hc3 := hc2.allocOld (.cells #[.string s, .int .i64 0, .int .i64 s.size, .int .i64 0] 27)
  have hlt3 := hc2.lt
  have HR := Lib.hid (show ChRel s B w2.heap.size w (.int .i64 last) (.int .i64 0) (w2.alloc (.cells #[.string s, .int .i64 0, .int .i64 s.size, .int .i64 0] 27)) from by
    have z1 := hbel1.size
    have z2 := hbel2.size
    have hok := CS.new_ok (s := s) (by omega)
    exact ⟨0, last, CS.new s, CS.new s, Nat.zero_le _, rfl, rfl, hl, ⟨hok, hok, rfl, fun _ => rfl, rfl⟩, rfl, hc3, cur_alloc (c := CS.new s) _, by omega, hb1, by omega, (hbel1.trans (hbel2.mono z1)).alloc (by omega) _⟩)
  generalize w2.alloc (.cells #[.string s, .int .i64 0, .int .i64 s.size, .int .i64 0] 27) = w3 at HR hc3 ⊢
  generalize w2.heap.size = BW at HR hlt3 ⊢
  clear hbel1 hbel2 hc1 hc2 hc3 hlt3 hb1 p1 p2 h1 h2 hl
  go_loopw [1, 7] (fun l i wr => ChRel s B BW w l i wr) (fun _ i _ => 4 - (intOf i).toNat)
  case atStart => exact HR.out
  case round =>
    obtain ⟨k, la, c, r, hk, rfl, rfl, hn, hal, hrs, q1, q2, hne, hB, hBW, hbel⟩ := hrel
    have hsz := hbel.size
    by_cases hlt : k < 4
    · have hd1 : decide ((k : Int) < 4) = true := decide_eq_true (by omega)
      have hd1' : decide (k < 4) = true := decide_eq_true hlt
      have HOK := Lib.hid hal.1
      have hrs2 : r.s.size ≤ 140737488351232 := by rw [hrs]; omega
      have HT := Lib.hid (fun w (h : CurT 56 w B c) => field_any h HOK.out la hn)
      have HV := Lib.hid (fun w => rfield_any hal hrs2 w la hn)
      have HI := Lib.hid (CS.hId_num c la)
      have HRS := Lib.hid hrs
      obtain ⟨I, hI⟩ : ∃ I, I = c.hId la := ⟨_, rfl⟩
      obtain ⟨K, hK⟩ : ∃ K, K = c.hKd la := ⟨_, rfl⟩
      rw [← hI, ← hK] at HT HV
      rw [← hI] at HI
      clear hI hK hal hrs hrs2 hn
      generalize c.hTo la = d at HT HV
      go_wp2_with fail
      with_reducible refine (HT.out _ q1).mono ?_
      rintro e w4 ⟨rfl, r1, ho4⟩
      have g2 := ho4.cur q2 hne.symm
      have hbel4 := hbel.trans (ho4.below hB hsz)
      have a0 := g2.c0; have a1 := g2.c1; have a2 := g2.c2; have a3 := g2.c3
      clear q1 q2 hbel ho4
      go_wp2_with fail
      with_reducible refine (HV.out _).mono ?_
      rintro e w5 ⟨x, rfl, hal5, hxs, hb5⟩
      have hal6 := Lib.hid hal5
      have hxs2 := Lib.hid (hxs.trans HRS.out)
      have s1 := Below.cur hb5 r1 r1.lt
      have s2 := Below.cur hb5 g2 g2.lt
      have hbel5 := hbel4.trans (hb5.mono hbel4.size)
      clear hb5 a0 a1 a2 a3 g2 r1 hbel4 hal5 hxs
      have a0 := s2.c0; have a1 := s2.c1; have a2 := s2.c2; have a3 := s2.c3; have af := s2.fr
      go_wp2_with fail
      have t1 := (Only.setAll w5 BW x).cur s1 hne
      have t2 := s2.setAll x
      have hbel6 := hbel5.trans ((Only.setAll w5 BW x).below hBW hbel5.size)
      obtain ⟨w6, hw6⟩ : ∃ w6, w6 = ((((w5.setCell ⟨BW, 0, none⟩ (.string x.s)).setCell ⟨BW, 1, none⟩ (.int .i64 x.at_)).setCell ⟨BW, 2, none⟩ (.int .i64 x.en)).setCell ⟨BW, 3, none⟩ (.int .i64 x.er)) := ⟨_, rfl⟩
      rw [← hw6] at t1 t2 hbel6 ⊢
      clear hw6 a0 a1 a2 a3 af s1 s2 hbel5
      have hrel6 := Lib.hid (show ChRel s B BW w (.int .i64 I) (.int .i64 ((k + 1 : Nat) : Int)) w6 from ⟨k + 1, I, d, x, by omega, rfl, rfl, HI.out, hal6.out, hxs2.out, t1, t2, hne, hB, hBW, hbel6⟩)
      have a1 := t2.c1; have a3 := t2.c3
      have her := hal6.out.2.2.1
      have HE := Lib.hid (fun n => err_any (w := w6.drewN n) (t1.drewN n))
      rw [her] at HE
      by_cases h0 : x.er = 0
      · have hdx : d = x := hal6.out.2.2.2.1 (her.trans h0)
        have HA := Lib.hid (fun n => at_any (w := w6.drewN n) (t1.drewN n) hal6.out.1)
        rw [hdx] at HA
        have p2 : (x.er == 0) = true := by simp [h0]
        clear her h0 hdx
        go_quiet (first | (go_at_call 11; exact Calls.quiet_of_same (HE.out _)) | (go_at_call 12; exact Calls.quiet_of_same (HA.out _)))
        go_wp2
        go_roundw
        case rel => exact hrel6.out.drewN _ rfl (by go_num)
        case measure => simp [intOf]; omega
      · have p2 : (x.er == 0) = false := beq_eq_false_iff_ne.mpr h0
        clear her h0
        go_quiet (first | (go_at_call 11; exact Calls.quiet_of_same (HE.out _)) | (go_at_call 12; exact Calls.quiet_of_same (HA.out _)))
        go_wp2
        go_roundw
        case rel => exact hrel6.out.drewN _ rfl (by go_num)
        case measure => simp [intOf]; omega
    · have hd1 : decide ((k : Int) < 4) = false := decide_eq_false (by omega)
      have hd1' : decide (k < 4) = false := decide_eq_false hlt
      go_wp2_with ((with_reducible refine (works20_any _).mono ?_); rintro e w2 ⟨rfl, hbel2⟩)
      go_ret
      exact ⟨rfl, hbel.trans (hbel2.mono hsz)⟩

theorem chf_any (s : ByteArray) (last : Int) (w : World) (hs : s.size ≤ 140737488351232) :
    Calls Try.prog 3 #[.string s, .int .i64 last] w fun e w' => e = .returned (.bool true) ∧ Below w.heap.size w w' := by
  by_cases h1 : last < -32768
  · exact chf_out s last w (.inl h1)
  · by_cases h2 : 32767 < last
    · exact chf_out s last w (.inr h2)
    · exact chf_in s last w hs h1 h2
theorem chf_law (s : ByteArray) (last : Int) (w : World) (hs : s.size ≤ 140737488351232) (h1 : -9223372036854775808 ≤ last) (h2 : last ≤ 9223372036854775807) :
    Calls Try.prog 3 #[.string s, .int .i64 last] w fun e w' => e = .returned (.bool true) ∧ Below w.heap.size w w' := chf_any s last w hs
end Go.Proofs.Ytgolaillalkglaa
