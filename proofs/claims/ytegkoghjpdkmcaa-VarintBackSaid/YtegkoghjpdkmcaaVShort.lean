/- VarintShort, walked. -/
import Derived.Test.YtegkoghjpdkmcaaVWork
namespace Go.Proofs.Ytegkoghjpdkmcaa
open Go Go.RowKit
set_option linter.unusedVariables false

theorem only_then {b : Nat} {w w1 w' : World} (h : Below w.heap.size w w1) (ho : Only b w1 w') (hb : w.heap.size ≤ b) : Below w.heap.size w w' := h.trans (ho.below hb h.size)

/-- Two texts that are read as one number: just one of them is short, and none is shorter. -/
theorem short_one {s t : ByteArray} (hs : (CS.new s).vTo.endC = 0) (ht : (CS.new t).vTo.endC = 0) (h : (CS.new s).vVal = (CS.new t).vVal) :
    (vShort s = true → vShort t = true → s = t) ∧ (vShort s = true → s.size ≤ t.size) := by
  obtain ⟨s1, s2⟩ := all_read hs
  obtain ⟨t1, t2⟩ := all_read ht
  constructor
  · intro h1 h2
    rw [vShort_of hs] at h1
    rw [vShort_of ht] at h2
    rw [← of_decide_eq_true h1, ← of_decide_eq_true h2, h]
  · intro h1
    have h3 := (of_decide_eq_true h1).2
    rw [h, t2] at h3
    have := vB_least _ t1
    rw [toList_size] at this
    omega

set_option maxRecDepth 100000 in
set_option maxHeartbeats 4000000 in
theorem vshortlaw_any (s t : ByteArray) (w : World) (hs : s.size ≤ 140737488351232) (ht : t.size ≤ 140737488351232) :
    Calls Try.prog 5 #[.string s, .string t] w fun e w' => e = .returned (.bool true) ∧ Below w.heap.size w w' := by
  have HS := Lib.hid (fun w => vshort_any s w (by omega))
  have HT := Lib.hid (fun w => vshort_any t w (by omega))
  have HRS := Lib.hid (fun w => rshort_any s w hs)
  have oks := Lib.hid (new_ok (s := s) (by omega))
  have okt := Lib.hid (new_ok (s := t) (by omega))
  have okx := Lib.hid (CS.vTo_ok oks.out)
  have oky := Lib.hid (CS.vTo_ok okt.out)
  have HA := Lib.hid (fun (b : Nat) (w : World) h => vread_any (b := b) (w := w) (c := CS.new s) h oks.out)
  have HB := Lib.hid (fun (b : Nat) (w : World) h => vread_any (b := b) (w := w) (c := CS.new t) h okt.out)
  have HEA := Lib.hid (fun (b : Nat) (w : World) h => end_any (b := b) (w := w) (c := (CS.new s).vTo) h okx.out)
  have HEB := Lib.hid (fun (b : Nat) (w : World) h => end_any (b := b) (w := w) (c := (CS.new t).vTo) h oky.out)
  have F := Lib.hid (short_one (s := s) (t := t))
  have vs := CS.vVal_lt (CS.new s)
  have vt := CS.vVal_lt (CS.new t)
  generalize (CS.new s).vTo.endC = ea at *
  generalize (CS.new t).vTo.endC = eb at *
  generalize (CS.new s).vVal = u at *
  generalize (CS.new t).vVal = v at *
  generalize vShort s = bs at *
  generalize vShort t = bt at *
  go_enter Try.func5, Try.ntmps5
  go_wp2_with fail
  with_reducible refine (HS.out _).mono ?_
  rintro e w1 ⟨rfl, hb1⟩
  go_wp2_with fail
  with_reducible refine (HRS.out _).mono ?_
  rintro e w2 ⟨rfl, hb2⟩
  have k2 := Lib.hid (grown_then hb1 hb2)
  clear hb1 hb2
  go_wp2_with fail
  with_reducible refine (new_cur s _ (by omega)).mono ?_
  rintro e w3 ⟨b1, rfl, g1, c1, hb3⟩
  have k3 := Lib.hid (grown_then k2.out hb3)
  have g1' := Lib.hid (Nat.le_trans k2.out.size g1)
  clear hb3 g1
  go_wp2_with fail
  with_reducible refine (new_cur t _ (by omega)).mono ?_
  rintro e w4 ⟨b2, rfl, g2, c2, hb4⟩
  have k4 := Lib.hid (grown_then k3.out hb4)
  have g2' := Lib.hid (Nat.le_trans k3.out.size g2)
  have hne : b1 ≠ b2 := by have := c1.lt; omega
  have c1' := Below.cur hb4 c1 c1.lt
  clear hb4 g2 c1
  go_wp2_with fail
  with_reducible refine (HA.out b1 _ c1').mono ?_
  rintro e w5 ⟨rfl, d1, o5⟩
  have k5 := Lib.hid (only_then k4.out o5 g1'.out)
  have c2' := o5.cur c2 hne.symm
  clear o5 c2 c1'
  go_wp2_with fail
  with_reducible refine (HB.out b2 _ c2').mono ?_
  rintro e w6 ⟨rfl, d2, o6⟩
  have k6 := Lib.hid (only_then k5.out o6 g2'.out)
  have d1' := o6.cur d1 hne
  clear o6 d1 c2'
  go_wp2_with fail
  with_reducible refine (HEA.out b1 _ d1').mono ?_
  rintro e w7 ⟨rfl, n1, rfl⟩
  by_cases ha : ea = 0
  · have pa : (ea != 0) = false := by simp [ha]
    have HEB2 := Lib.hid (fun n => HEB.out b2 (w6.drewN n) (d2.drewN n))
    go_wp2_with fail
    with_reducible refine (HEB2.out _).mono ?_
    rintro e w8 ⟨rfl, n2, rfl⟩
    by_cases hb : eb = 0
    · have pb : (eb != 0) = false := by simp [hb]
      by_cases huv : u = v
      · have pu : ((u : Int) != (v : Int)) = false := by simp [huv]
        obtain ⟨F1, F2⟩ := F.out ha hb huv
        clear ha hb huv F
        by_cases hst : s = t
        · have pst : (s.toList == t.toList) = true := by rw [text_eq]; exact decide_eq_true hst
          have psz : decide (s.size ≤ t.size) = true := decide_eq_true (by rw [hst]; exact Nat.le_refl _)
          have psz' : decide ((s.size : Int) ≤ (t.size : Int)) = true := decide_eq_true (by rw [hst]; exact Int.le_refl _)
          clear hst F1 F2
          cases bs with
          | true =>
            go_wp2_with fail
            with_reducible refine (HS.out _).mono ?_
            rintro e x9 ⟨rfl, hy9⟩
            have z9 := Lib.hid (grown_then (Below.drewN k6.out _) hy9)
            clear hy9
            go_wp2_with fail
            with_reducible refine (works3_any _).mono ?_
            rintro e x10 ⟨rfl, hy10⟩
            have z10 := Lib.hid (grown_then z9.out hy10)
            clear hy10
            go_wp2
            go_ret
            exact ⟨rfl, z10.out⟩
          | false =>
            go_wp2_with fail
            with_reducible refine (HS.out _).mono ?_
            rintro e x9 ⟨rfl, hy9⟩
            have z9 := Lib.hid (grown_then (Below.drewN k6.out _) hy9)
            clear hy9
            go_wp2_with fail
            with_reducible refine (works3_any _).mono ?_
            rintro e x10 ⟨rfl, hy10⟩
            have z10 := Lib.hid (grown_then z9.out hy10)
            clear hy10
            go_wp2
            go_ret
            exact ⟨rfl, z10.out⟩
        · have pst : (s.toList == t.toList) = false := by rw [text_eq]; exact decide_eq_false hst
          cases hbs : bs with
          | false =>
            subst hbs
            clear F1 F2 hst
            go_wp2_with fail
            with_reducible refine (HS.out _).mono ?_
            rintro e x9 ⟨rfl, hy9⟩
            have z9 := Lib.hid (grown_then (Below.drewN k6.out _) hy9)
            clear hy9
            go_wp2_with fail
            with_reducible refine (HS.out _).mono ?_
            rintro e x10 ⟨rfl, hy10⟩
            have z10 := Lib.hid (grown_then z9.out hy10)
            clear hy10
            go_wp2_with fail
            with_reducible refine (works3_any _).mono ?_
            rintro e x11 ⟨rfl, hy11⟩
            have z11 := Lib.hid (grown_then z10.out hy11)
            clear hy11
            go_wp2
            go_ret
            exact ⟨rfl, z11.out⟩
          | true =>
            have h2 := F2 hbs
            have psz : decide (s.size ≤ t.size) = true := decide_eq_true h2
            have psz' : decide ((s.size : Int) ≤ (t.size : Int)) = true := decide_eq_true (by omega)
            have hbt : bt = false := by
              cases hbt : bt with
              | false => rfl
              | true => exact absurd (F1 hbs hbt) hst
            subst hbs; subst hbt
            clear F1 F2 hst h2
            go_wp2_with fail
            with_reducible refine (HS.out _).mono ?_
            rintro e x9 ⟨rfl, hy9⟩
            have z9 := Lib.hid (grown_then (Below.drewN k6.out _) hy9)
            clear hy9
            go_wp2_with fail
            with_reducible refine (HT.out _).mono ?_
            rintro e x10 ⟨rfl, hy10⟩
            have z10 := Lib.hid (grown_then z9.out hy10)
            clear hy10
            go_wp2_with fail
            with_reducible refine (HS.out _).mono ?_
            rintro e x11 ⟨rfl, hy11⟩
            have z11 := Lib.hid (grown_then z10.out hy11)
            clear hy11
            go_wp2_with fail
            with_reducible refine (works3_any _).mono ?_
            rintro e x12 ⟨rfl, hy12⟩
            have z12 := Lib.hid (grown_then z11.out hy12)
            clear hy12
            go_wp2
            go_ret
            exact ⟨rfl, z12.out⟩
      · have pu : ((u : Int) != (v : Int)) = true := by simp; omega
        clear F huv
        go_wp2_with fail
        with_reducible refine (works3_any _).mono ?_
        rintro e w9 ⟨rfl, hb9⟩
        have k9 := Lib.hid (grown_then (Below.drewN k6.out _) hb9)
        go_wp2
        go_ret
        exact ⟨rfl, k9.out⟩
    · have pb : (eb != 0) = true := by simp [hb]
      clear F
      go_wp2_with fail
      with_reducible refine (works3_any _).mono ?_
      rintro e w9 ⟨rfl, hb9⟩
      have k9 := Lib.hid (grown_then (Below.drewN k6.out _) hb9)
      go_wp2
      go_ret
      exact ⟨rfl, k9.out⟩
  · have pa : (ea != 0) = true := by simp [ha]
    clear F
    go_wp2_with fail
    with_reducible refine (works3_any _).mono ?_
    rintro e w9 ⟨rfl, hb9⟩
    have k9 := Lib.hid (grown_then (Below.drewN k6.out _) hb9)
    go_wp2
    go_ret
    exact ⟨rfl, k9.out⟩

end Go.Proofs.Ytegkoghjpdkmcaa
