/- Package jstring's numbered, escaped. -/
import Derived.Test.YteakcfgjjlocjaaDoorJsCur
import Derived.Test.YteakcfgjjlocjaaDoorUIs
namespace Go.Proofs.YteakcfgjjlocjaaDoor
open Go Go.RowKit
set_option linter.unusedVariables false

theorem jnumber_good {b : Nat} {c : CS} {w : World} (h : CurT 42 w b c) (hc : c.ok) (h0 : c.er = 0) (h1 : (jDg 4 0 c.bs).2 = 0) :
    Calls Tryd.prog 41 #[.pointer (some ⟨b, 0, none⟩)] w fun e w' => e = .returned (.int .i32 ((jDg 4 0 c.bs).1 : Nat)) ∧ CurT 42 w' b (c.past 4) ∧ Only b w w' := by
  refine (jnumber_any h hc h0).mono ?_
  rintro e w' ⟨he, ⟨c', hq, hA⟩, ho⟩
  rw [hA.2.2.2.2 h1] at hq
  exact ⟨he, hq, ho⟩
theorem jnumber_bad {b : Nat} {c : CS} {w : World} (h : CurT 42 w b c) (hc : c.ok) (h0 : c.er = 0) (h1 : ¬ (jDg 4 0 c.bs).2 = 0) :
    Calls Tryd.prog 41 #[.pointer (some ⟨b, 0, none⟩)] w fun e w' => e = .returned (.int .i32 0) ∧ (∃ c', CurT 42 w' b c' ∧ CAt c 0 (jDg 4 0 c.bs).2 c') ∧ Only b w w' := by
  refine (jnumber_any h hc h0).mono ?_
  rintro e w' ⟨he, ⟨c', hq, hA⟩, ho⟩
  rw [jDg_no _ _ _ h1] at he
  exact ⟨he, ⟨c', hq, hA.no h1⟩, ho⟩
theorem jNum_bad {l : List UInt8} (h : ¬ (jDg 4 0 l).2 = 0) : jNum l = ⟨0, 0, (jDg 4 0 l).2⟩ := by unfold jNum; rw [if_neg h]
theorem jNum_char {l : List UInt8} (h : (jDg 4 0 l).2 = 0) (h1 : uIs (jDg 4 0 l).1 = true) : jNum l = ⟨(jDg 4 0 l).1, 4, 0⟩ := by unfold jNum; rw [if_pos h, if_pos h1]
theorem jNum_second {l : List UInt8} (h : (jDg 4 0 l).2 = 0) (h1 : ¬ uIs (jDg 4 0 l).1 = true) (h2 : 56320 ≤ (jDg 4 0 l).1) : jNum l = ⟨0, 0, 6⟩ := by unfold jNum; rw [if_pos h, if_neg h1, if_pos h2]
theorem jNum_pair {l : List UInt8} (h : (jDg 4 0 l).2 = 0) (h1 : ¬ uIs (jDg 4 0 l).1 = true) (h2 : ¬ 56320 ≤ (jDg 4 0 l).1) : jNum l = if (jPair (jDg 4 0 l).1 (l.drop 4)).e = 0 then ⟨(jPair (jDg 4 0 l).1 (l.drop 4)).r, (jPair (jDg 4 0 l).1 (l.drop 4)).k + 4, 0⟩ else ⟨0, 0, (jPair (jDg 4 0 l).1 (l.drop 4)).e⟩ := by unfold jNum; rw [if_pos h, if_neg h1, if_neg h2]
theorem jPair_x {n : Nat} {x : UInt8} {t : List UInt8} (hx : ¬ x.toNat = 92) : jPair n (x :: t) = ⟨0, 0, 6⟩ := by simp only [jPair]; rw [if_neg hx]
theorem jPair_1 {n : Nat} {x : UInt8} (hx : x.toNat = 92) : jPair n [x] = ⟨0, 0, 1⟩ := by simp only [jPair]; rw [if_pos hx]
theorem jPair_y {n : Nat} {x y : UInt8} {t : List UInt8} (hx : x.toNat = 92) (hy : ¬ y.toNat = 117) : jPair n (x :: y :: t) = ⟨0, 0, 6⟩ := by simp only [jPair]; rw [if_pos hx, if_neg hy]
theorem jPair_bad {n : Nat} {x y : UInt8} {t : List UInt8} (hx : x.toNat = 92) (hy : y.toNat = 117) (h : ¬ (jDg 4 0 t).2 = 0) : jPair n (x :: y :: t) = ⟨0, 0, (jDg 4 0 t).2⟩ := by simp only [jPair]; rw [if_pos hx, if_pos hy, if_neg h]
theorem jPair_out {n : Nat} {x y : UInt8} {t : List UInt8} (hx : x.toNat = 92) (hy : y.toNat = 117) (h : (jDg 4 0 t).2 = 0) (h2 : (jDg 4 0 t).1 < 56320 ∨ 57343 < (jDg 4 0 t).1) : jPair n (x :: y :: t) = ⟨0, 0, 6⟩ := by simp only [jPair]; rw [if_pos hx, if_pos hy, if_pos h, if_pos h2]
theorem jPair_in {n : Nat} {x y : UInt8} {t : List UInt8} (hx : x.toNat = 92) (hy : y.toNat = 117) (h : (jDg 4 0 t).2 = 0) (h2 : ¬ (jDg 4 0 t).1 < 56320) (h3 : ¬ 57343 < (jDg 4 0 t).1) : jPair n (x :: y :: t) = ⟨65536 + 1024 * (n - 55296) + ((jDg 4 0 t).1 - 56320), 6, 0⟩ := by simp only [jPair]; rw [if_pos hx, if_pos hy, if_pos h, if_neg (by omega)]
theorem ret_i32 {a b : Int} (h : a = b) : Ending.returned (.int .i32 a) = .returned (.int .i32 b) := by rw [h]

theorem jnumbered_bad {b : Nat} {c : CS} {w : World} (h : CurT 42 w b c) (hc : c.ok) (h0 : c.er = 0) (h1 : ¬ (jDg 4 0 c.bs).2 = 0) :
    Calls Tryd.prog 35 #[.pointer (some ⟨b, 0, none⟩)] w fun e w' => e = .returned (.int .i32 ((jNum c.bs).r : Nat)) ∧ (∃ c', CurT 42 w' b c' ∧ CAt c (jNum c.bs).k (jNum c.bs).e c') ∧ Only b w w' := by
  have HD := Lib.hid (jnumber_bad h hc h0 h1)
  have HI := Lib.hid (show ∀ w, Calls Tryd.prog 40 #[.int .i32 0] w fun e w' => e = .returned (.bool true) ∧ w' = w from fun w => by
    have := uis_any 0 w
    rw [show uIs 0 = true by decide] at this; exact this)
  rw [jNum_bad h1]
  clear hc h0 h1 h
  go_enter Tryd.func35, Tryd.ntmps35
  go_wp2_with fail
  with_reducible refine HD.out.mono ?_
  rintro e w1 ⟨rfl, ⟨c', hq, hA⟩, ho⟩
  go_wp2_with fail
  with_reducible refine (HI.out _).mono ?_
  rintro e w2 ⟨rfl, hw⟩
  rw [hw]; clear hw
  go_wp2
  go_ret
  exact ⟨rfl, ⟨c', hq, hA⟩, ho⟩
theorem jnumbered_char {b : Nat} {c : CS} {w : World} (h : CurT 42 w b c) (hc : c.ok) (h0 : c.er = 0) (h1 : (jDg 4 0 c.bs).2 = 0) (h2 : uIs (jDg 4 0 c.bs).1 = true) :
    Calls Tryd.prog 35 #[.pointer (some ⟨b, 0, none⟩)] w fun e w' => e = .returned (.int .i32 ((jNum c.bs).r : Nat)) ∧ (∃ c', CurT 42 w' b c' ∧ CAt c (jNum c.bs).k (jNum c.bs).e c') ∧ Only b w w' := by
  obtain ⟨D, hDe⟩ : ∃ D, D = (jDg 4 0 c.bs).1 := ⟨_, rfl⟩
  have hm := jDg4_lt c.bs
  have hlen := jDg_len 4 0 c.bs h1
  have HD := Lib.hid (jnumber_good h hc h0 h1)
  have HI := Lib.hid (fun w => uis_any (D : Int) w)
  rw [← hDe] at HD hm
  have HR := Lib.hid (jNum_char h1 h2)
  have HA := Lib.hid (CAt.past hc h0 hlen)
  rw [← hDe] at h2 HR
  rw [h2] at HI
  clear hc h0 h1 h2 h hlen hDe
  go_enter Tryd.func35, Tryd.ntmps35
  go_wp2_with fail
  with_reducible refine HD.out.mono ?_
  rintro e w1 ⟨rfl, hq, ho⟩
  go_wp2_with fail
  with_reducible refine (HI.out _).mono ?_
  rintro e w2 ⟨rfl, hw⟩
  rw [hw]; clear hw
  go_wp2
  go_ret
  exact ⟨by rw [HR.out]; rfl, ⟨_, hq, by rw [HR.out]; exact HA.out⟩, ho⟩
theorem jnumbered_second {b : Nat} {c : CS} {w : World} (h : CurT 42 w b c) (hc : c.ok) (h0 : c.er = 0) (h1 : (jDg 4 0 c.bs).2 = 0) (h2 : ¬ uIs (jDg 4 0 c.bs).1 = true) (h3 : 56320 ≤ (jDg 4 0 c.bs).1) :
    Calls Tryd.prog 35 #[.pointer (some ⟨b, 0, none⟩)] w fun e w' => e = .returned (.int .i32 ((jNum c.bs).r : Nat)) ∧ (∃ c', CurT 42 w' b c' ∧ CAt c (jNum c.bs).k (jNum c.bs).e c') ∧ Only b w w' := by
  obtain ⟨D, hDe⟩ : ∃ D, D = (jDg 4 0 c.bs).1 := ⟨_, rfl⟩
  have hm := jDg4_lt c.bs
  have hlen := jDg_len 4 0 c.bs h1
  have HD := Lib.hid (jnumber_good h hc h0 h1)
  have HI := Lib.hid (fun w => uis_any (D : Int) w)
  rw [← hDe] at HD hm
  have HR := Lib.hid (jNum_second h1 h2 h3)
  have HA := Lib.hid (CAt.bad hc hlen 0 (e := 6) (by decide))
  have HE := Lib.hid (show (c.past 4).er = 0 from h0)
  rw [← hDe] at h2 h3
  rw [show uIs (D : Int) = false by simpa using h2] at HI
  have p1 : decide ((56320 : Int) ≤ (D : Int)) = true := decide_eq_true (by omega)
  clear hc h0 h1 h2 h hlen hDe
  go_enter Tryd.func35, Tryd.ntmps35
  go_wp2_with fail
  with_reducible refine HD.out.mono ?_
  rintro e w1 ⟨rfl, hq, ho⟩
  go_wp2_with fail
  with_reducible refine (HI.out _).mono ?_
  rintro e w2 ⟨rfl, hw⟩
  rw [hw]; clear hw
  go_wp2_with fail
  with_reducible refine (fail_fresh hq HE.out 6).mono ?_
  rintro e w3 ⟨rfl, hq3, ho3⟩
  go_wp2
  go_ret
  exact ⟨by rw [HR.out]; rfl, ⟨_, hq3, by rw [HR.out]; exact HA.out⟩, ho.trans ho3⟩
theorem jnumbered_end {b : Nat} {c : CS} {w : World} (h : CurT 42 w b c) (hc : c.ok) (h0 : c.er = 0) (h1 : (jDg 4 0 c.bs).2 = 0) (h2 : ¬ uIs (jDg 4 0 c.bs).1 = true) (h3 : ¬ 56320 ≤ (jDg 4 0 c.bs).1) (h4 : c.bs.drop 4 = []) :
    Calls Tryd.prog 35 #[.pointer (some ⟨b, 0, none⟩)] w fun e w' => e = .returned (.int .i32 ((jNum c.bs).r : Nat)) ∧ (∃ c', CurT 42 w' b c' ∧ CAt c (jNum c.bs).k (jNum c.bs).e c') ∧ Only b w w' := by
  obtain ⟨D, hDe⟩ : ∃ D, D = (jDg 4 0 c.bs).1 := ⟨_, rfl⟩
  have hm := jDg4_lt c.bs
  have hlen := jDg_len 4 0 c.bs h1
  have HD := Lib.hid (jnumber_good h hc h0 h1)
  have HI := Lib.hid (fun w => uis_any (D : Int) w)
  rw [← hDe] at HD hm
  have hR := jNum_pair h1 h2 h3
  have hok := CS.past_fine hc hlen
  have hb4 := CS.bs_past c 4
  rw [← hDe] at h2 h3 hR
  have hsur := uIs_no.mp (by simpa using h2)
  rw [show uIs (D : Int) = false by simpa using h2] at HI
  have p1 : decide ((56320 : Int) ≤ (D : Int)) = false := decide_eq_false (by omega)
  rw [h4] at hR hb4
  have HR := Lib.hid (show jNum c.bs = ⟨0, 0, 1⟩ from hR)
  have HB := Lib.hid (fun w h => byte_lacks (w := w) (b := b) h hok h0 hb4)
  have HA := Lib.hid (CAt.bad hc hlen 0 (e := 1) (by decide))
  have HNE := Lib.hid (show ¬ ((c.past 4).bad 1).er = 0 by show ¬ (1 : Int) = 0; decide)
  clear hc h0 h1 h2 h3 h4 h hlen hDe hR hok hb4 hsur
  go_enter Tryd.func35, Tryd.ntmps35
  go_wp2_with fail
  with_reducible refine HD.out.mono ?_
  rintro e w1 ⟨rfl, hq, ho⟩
  go_wp2_with fail
  with_reducible refine (HI.out _).mono ?_
  rintro e w2 ⟨rfl, hw⟩
  rw [hw]; clear hw
  go_wp2_with fail
  with_reducible refine (HB.out _ hq).mono ?_
  rintro e w3 ⟨rfl, hq3, ho3⟩
  go_wp2_with fail
  with_reducible refine (fail_more hq3 HNE.out 6).mono ?_
  rintro e w4 ⟨rfl, hq4, ho4⟩
  go_wp2
  go_ret
  exact ⟨by rw [HR.out]; rfl, ⟨_, hq4, by rw [HR.out]; exact HA.out⟩, (ho.trans ho3).trans ho4⟩
theorem jnumbered_other {b : Nat} {c : CS} {w : World} (h : CurT 42 w b c) (hc : c.ok) (h0 : c.er = 0) (h1 : (jDg 4 0 c.bs).2 = 0) (h2 : ¬ uIs (jDg 4 0 c.bs).1 = true) (h3 : ¬ 56320 ≤ (jDg 4 0 c.bs).1) {x : UInt8} {t : List UInt8} (h4 : c.bs.drop 4 = x :: t) (hx : ¬ x.toNat = 92) :
    Calls Tryd.prog 35 #[.pointer (some ⟨b, 0, none⟩)] w fun e w' => e = .returned (.int .i32 ((jNum c.bs).r : Nat)) ∧ (∃ c', CurT 42 w' b c' ∧ CAt c (jNum c.bs).k (jNum c.bs).e c') ∧ Only b w w' := by
  obtain ⟨D, hDe⟩ : ∃ D, D = (jDg 4 0 c.bs).1 := ⟨_, rfl⟩
  have hm := jDg4_lt c.bs
  have hlen := jDg_len 4 0 c.bs h1
  have HD := Lib.hid (jnumber_good h hc h0 h1)
  have HI := Lib.hid (fun w => uis_any (D : Int) w)
  rw [← hDe] at HD hm
  have hR := jNum_pair h1 h2 h3
  have hok := CS.past_fine hc hlen
  have hb4 := CS.bs_past c 4
  rw [← hDe] at h2 h3 hR
  have hsur := uIs_no.mp (by simpa using h2)
  rw [show uIs (D : Int) = false by simpa using h2] at HI
  have p1 : decide ((56320 : Int) ≤ (D : Int)) = false := decide_eq_false (by omega)
  rw [h4] at hR hb4
  have h5 := CS.bs_some hok h0 hb4
  have hlen5 : 5 ≤ c.bs.length := by
    have := congrArg List.length h4
    rw [List.length_drop, List.length_cons] at this; omega
  have HB := Lib.hid (fun w h => byte_next (w := w) (b := b) h hok h0 hb4)
  have hb5 := h5.2.2.1
  have hok5 := h5.2.2.2
  rw [CS.past_past] at HB hb5 hok5
  have HR := Lib.hid (show jNum c.bs = ⟨0, 0, 6⟩ by rw [hR]; rw [jPair_x hx]; rfl)
  have HA := Lib.hid (CAt.bad hc hlen5 0 (e := 6) (by decide))
  have HE := Lib.hid (show (c.past 5).er = 0 from h0)
  obtain ⟨X, hXe⟩ : ∃ X, X = x.toNat := ⟨_, rfl⟩
  rw [← hXe] at HB hx
  have p2 : ((X : Int) != 92) = true := bne_iff_ne.mpr (by omega)
  clear hc h0 h1 h2 h3 h4 h hlen hDe hR hok hb4 hsur h5 hlen5 hb5 hok5 hXe hx
  go_enter Tryd.func35, Tryd.ntmps35
  go_wp2_with fail
  with_reducible refine HD.out.mono ?_
  rintro e w1 ⟨rfl, hq, ho⟩
  go_wp2_with fail
  with_reducible refine (HI.out _).mono ?_
  rintro e w2 ⟨rfl, hw⟩
  rw [hw]; clear hw
  go_wp2_with fail
  with_reducible refine (HB.out _ hq).mono ?_
  rintro e w3 ⟨rfl, hq3, ho3⟩
  go_wp2_with fail
  with_reducible refine (fail_fresh hq3 HE.out 6).mono ?_
  rintro e w4 ⟨rfl, hq4, ho4⟩
  go_wp2
  go_ret
  exact ⟨by rw [HR.out]; rfl, ⟨_, hq4, by rw [HR.out]; exact HA.out⟩, (ho.trans ho3).trans ho4⟩
theorem jnumbered_end2 {b : Nat} {c : CS} {w : World} (h : CurT 42 w b c) (hc : c.ok) (h0 : c.er = 0) (h1 : (jDg 4 0 c.bs).2 = 0) (h2 : ¬ uIs (jDg 4 0 c.bs).1 = true) (h3 : ¬ 56320 ≤ (jDg 4 0 c.bs).1) {x : UInt8} (h4 : c.bs.drop 4 = [x]) (hx : x.toNat = 92) :
    Calls Tryd.prog 35 #[.pointer (some ⟨b, 0, none⟩)] w fun e w' => e = .returned (.int .i32 ((jNum c.bs).r : Nat)) ∧ (∃ c', CurT 42 w' b c' ∧ CAt c (jNum c.bs).k (jNum c.bs).e c') ∧ Only b w w' := by
  obtain ⟨D, hDe⟩ : ∃ D, D = (jDg 4 0 c.bs).1 := ⟨_, rfl⟩
  have hm := jDg4_lt c.bs
  have hlen := jDg_len 4 0 c.bs h1
  have HD := Lib.hid (jnumber_good h hc h0 h1)
  have HI := Lib.hid (fun w => uis_any (D : Int) w)
  rw [← hDe] at HD hm
  have hR := jNum_pair h1 h2 h3
  have hok := CS.past_fine hc hlen
  have hb4 := CS.bs_past c 4
  rw [← hDe] at h2 h3 hR
  have hsur := uIs_no.mp (by simpa using h2)
  rw [show uIs (D : Int) = false by simpa using h2] at HI
  have p1 : decide ((56320 : Int) ≤ (D : Int)) = false := decide_eq_false (by omega)
  rw [h4] at hR hb4
  have h5 := CS.bs_some hok h0 hb4
  have hlen5 : 5 ≤ c.bs.length := by
    have := congrArg List.length h4
    rw [List.length_drop, List.length_cons] at this; omega
  have HB := Lib.hid (fun w h => byte_next (w := w) (b := b) h hok h0 hb4)
  have hb5 := h5.2.2.1
  have hok5 := h5.2.2.2
  rw [CS.past_past] at HB hb5 hok5
  have HB := Lib.hid (show ∀ w, CurT 42 w b (c.past 4) → Calls Tryd.prog 19 #[.pointer (some ⟨b, 0, none⟩)] w fun e w' => e = .returned (.int .u8 92) ∧ CurT 42 w' b (c.past 5) ∧ Only b w w' from fun w h => by
    have := HB.out w h
    rw [hx] at this; exact this)
  have HR := Lib.hid (show jNum c.bs = ⟨0, 0, 1⟩ by rw [hR]; rw [jPair_1 hx]; rfl)
  have HB2 := Lib.hid (fun w h => byte_lacks (w := w) (b := b) h hok5 h0 hb5)
  have HA := Lib.hid (CAt.bad hc hlen5 0 (e := 1) (by decide))
  have HNE := Lib.hid (show ¬ ((c.past 5).bad 1).er = 0 by show ¬ (1 : Int) = 0; decide)
  clear hc h0 h1 h2 h3 h4 h hlen hDe hR hok hb4 hsur h5 hlen5 hb5 hok5 hx
  go_enter Tryd.func35, Tryd.ntmps35
  go_wp2_with fail
  with_reducible refine HD.out.mono ?_
  rintro e w1 ⟨rfl, hq, ho⟩
  go_wp2_with fail
  with_reducible refine (HI.out _).mono ?_
  rintro e w2 ⟨rfl, hw⟩
  rw [hw]; clear hw
  go_wp2_with fail
  with_reducible refine (HB.out _ hq).mono ?_
  rintro e w3 ⟨rfl, hq3, ho3⟩
  go_wp2_with fail
  with_reducible refine (HB2.out _ hq3).mono ?_
  rintro e w4 ⟨rfl, hq4, ho4⟩
  go_wp2_with fail
  with_reducible refine (fail_more hq4 HNE.out 6).mono ?_
  rintro e w5 ⟨rfl, hq5, ho5⟩
  go_wp2
  go_ret
  exact ⟨by rw [HR.out]; rfl, ⟨_, hq5, by rw [HR.out]; exact HA.out⟩, ((ho.trans ho3).trans ho4).trans ho5⟩
theorem jnumbered_other2 {b : Nat} {c : CS} {w : World} (h : CurT 42 w b c) (hc : c.ok) (h0 : c.er = 0) (h1 : (jDg 4 0 c.bs).2 = 0) (h2 : ¬ uIs (jDg 4 0 c.bs).1 = true) (h3 : ¬ 56320 ≤ (jDg 4 0 c.bs).1) {x y : UInt8} {t : List UInt8} (h4 : c.bs.drop 4 = x :: y :: t) (hx : x.toNat = 92) (hy : ¬ y.toNat = 117) :
    Calls Tryd.prog 35 #[.pointer (some ⟨b, 0, none⟩)] w fun e w' => e = .returned (.int .i32 ((jNum c.bs).r : Nat)) ∧ (∃ c', CurT 42 w' b c' ∧ CAt c (jNum c.bs).k (jNum c.bs).e c') ∧ Only b w w' := by
  obtain ⟨D, hDe⟩ : ∃ D, D = (jDg 4 0 c.bs).1 := ⟨_, rfl⟩
  have hm := jDg4_lt c.bs
  have hlen := jDg_len 4 0 c.bs h1
  have HD := Lib.hid (jnumber_good h hc h0 h1)
  have HI := Lib.hid (fun w => uis_any (D : Int) w)
  rw [← hDe] at HD hm
  have hR := jNum_pair h1 h2 h3
  have hok := CS.past_fine hc hlen
  have hb4 := CS.bs_past c 4
  rw [← hDe] at h2 h3 hR
  have hsur := uIs_no.mp (by simpa using h2)
  rw [show uIs (D : Int) = false by simpa using h2] at HI
  have p1 : decide ((56320 : Int) ≤ (D : Int)) = false := decide_eq_false (by omega)
  rw [h4] at hR hb4
  have h5 := CS.bs_some hok h0 hb4
  have hlen5 : 5 ≤ c.bs.length := by
    have := congrArg List.length h4
    rw [List.length_drop, List.length_cons] at this; omega
  have HB := Lib.hid (fun w h => byte_next (w := w) (b := b) h hok h0 hb4)
  have hb5 := h5.2.2.1
  have hok5 := h5.2.2.2
  rw [CS.past_past] at HB hb5 hok5
  have HB := Lib.hid (show ∀ w, CurT 42 w b (c.past 4) → Calls Tryd.prog 19 #[.pointer (some ⟨b, 0, none⟩)] w fun e w' => e = .returned (.int .u8 92) ∧ CurT 42 w' b (c.past 5) ∧ Only b w w' from fun w h => by
    have := HB.out w h
    rw [hx] at this; exact this)
  have h6 := CS.bs_some hok5 h0 hb5
  have hlen6 : 6 ≤ c.bs.length := by
    have := congrArg List.length h4
    rw [List.length_drop, List.length_cons, List.length_cons] at this; omega
  have HB2 := Lib.hid (fun w h => byte_next (w := w) (b := b) h hok5 h0 hb5)
  have hb6 := h6.2.2.1
  have hok6 := h6.2.2.2
  rw [CS.past_past] at HB2 hb6 hok6
  have HR := Lib.hid (show jNum c.bs = ⟨0, 0, 6⟩ by rw [hR]; rw [jPair_y hx hy]; rfl)
  have HA := Lib.hid (CAt.bad hc hlen6 0 (e := 6) (by decide))
  have HE := Lib.hid (show (c.past 6).er = 0 from h0)
  obtain ⟨Y, hYe⟩ : ∃ Y, Y = y.toNat := ⟨_, rfl⟩
  rw [← hYe] at HB2 hy
  have p2 : ((Y : Int) != 117) = true := bne_iff_ne.mpr (by omega)
  clear hc h0 h1 h2 h3 h4 h hlen hDe hR hok hb4 hsur h5 hlen5 hb5 hok5 hx h6 hlen6 hb6 hok6 hy hYe
  go_enter Tryd.func35, Tryd.ntmps35
  go_wp2_with fail
  with_reducible refine HD.out.mono ?_
  rintro e w1 ⟨rfl, hq, ho⟩
  go_wp2_with fail
  with_reducible refine (HI.out _).mono ?_
  rintro e w2 ⟨rfl, hw⟩
  rw [hw]; clear hw
  go_wp2_with fail
  with_reducible refine (HB.out _ hq).mono ?_
  rintro e w3 ⟨rfl, hq3, ho3⟩
  go_wp2_with fail
  with_reducible refine (HB2.out _ hq3).mono ?_
  rintro e w4 ⟨rfl, hq4, ho4⟩
  go_wp2_with fail
  with_reducible refine (fail_fresh hq4 HE.out 6).mono ?_
  rintro e w5 ⟨rfl, hq5, ho5⟩
  go_wp2
  go_ret
  exact ⟨by rw [HR.out]; rfl, ⟨_, hq5, by rw [HR.out]; exact HA.out⟩, ((ho.trans ho3).trans ho4).trans ho5⟩
theorem jnumbered_bad2 {b : Nat} {c : CS} {w : World} (h : CurT 42 w b c) (hc : c.ok) (h0 : c.er = 0) (h1 : (jDg 4 0 c.bs).2 = 0) (h2 : ¬ uIs (jDg 4 0 c.bs).1 = true) (h3 : ¬ 56320 ≤ (jDg 4 0 c.bs).1) {x y : UInt8} {t : List UInt8} (h4 : c.bs.drop 4 = x :: y :: t) (hx : x.toNat = 92) (hy : y.toNat = 117) (h7 : ¬ (jDg 4 0 t).2 = 0) :
    Calls Tryd.prog 35 #[.pointer (some ⟨b, 0, none⟩)] w fun e w' => e = .returned (.int .i32 ((jNum c.bs).r : Nat)) ∧ (∃ c', CurT 42 w' b c' ∧ CAt c (jNum c.bs).k (jNum c.bs).e c') ∧ Only b w w' := by
  obtain ⟨D, hDe⟩ : ∃ D, D = (jDg 4 0 c.bs).1 := ⟨_, rfl⟩
  have hm := jDg4_lt c.bs
  have hlen := jDg_len 4 0 c.bs h1
  have HD := Lib.hid (jnumber_good h hc h0 h1)
  have HI := Lib.hid (fun w => uis_any (D : Int) w)
  rw [← hDe] at HD hm
  have hR := jNum_pair h1 h2 h3
  have hok := CS.past_fine hc hlen
  have hb4 := CS.bs_past c 4
  rw [← hDe] at h2 h3 hR
  have hsur := uIs_no.mp (by simpa using h2)
  rw [show uIs (D : Int) = false by simpa using h2] at HI
  have p1 : decide ((56320 : Int) ≤ (D : Int)) = false := decide_eq_false (by omega)
  rw [h4] at hR hb4
  have h5 := CS.bs_some hok h0 hb4
  have hlen5 : 5 ≤ c.bs.length := by
    have := congrArg List.length h4
    rw [List.length_drop, List.length_cons] at this; omega
  have HB := Lib.hid (fun w h => byte_next (w := w) (b := b) h hok h0 hb4)
  have hb5 := h5.2.2.1
  have hok5 := h5.2.2.2
  rw [CS.past_past] at HB hb5 hok5
  have HB := Lib.hid (show ∀ w, CurT 42 w b (c.past 4) → Calls Tryd.prog 19 #[.pointer (some ⟨b, 0, none⟩)] w fun e w' => e = .returned (.int .u8 92) ∧ CurT 42 w' b (c.past 5) ∧ Only b w w' from fun w h => by
    have := HB.out w h
    rw [hx] at this; exact this)
  have h6 := CS.bs_some hok5 h0 hb5
  have hlen6 : 6 ≤ c.bs.length := by
    have := congrArg List.length h4
    rw [List.length_drop, List.length_cons, List.length_cons] at this; omega
  have HB2 := Lib.hid (fun w h => byte_next (w := w) (b := b) h hok5 h0 hb5)
  have hb6 := h6.2.2.1
  have hok6 := h6.2.2.2
  rw [CS.past_past] at HB2 hb6 hok6
  have HB2 := Lib.hid (show ∀ w, CurT 42 w b (c.past 5) → Calls Tryd.prog 19 #[.pointer (some ⟨b, 0, none⟩)] w fun e w' => e = .returned (.int .u8 117) ∧ CurT 42 w' b (c.past 6) ∧ Only b w w' from fun w h => by
    have := HB2.out w h
    rw [hy] at this; exact this)
  have hb6' := hb6
  rw [← hb6'] at hR
  rw [← hb6] at h7
  have HR := Lib.hid (show jNum c.bs = ⟨0, 0, (jDg 4 0 (c.past 6).bs).2⟩ by rw [hR]; rw [jPair_bad hx hy h7, if_neg h7])
  have HC2 := Lib.hid (fun w h => jnumber_bad (w := w) (b := b) h hok6 h0 h7)
  have HCA := Lib.hid (fun c' (h : CAt (c.past 6) 0 (jDg 4 0 (c.past 6).bs).2 c') => (h.more).no (j := 0) h7)
  have HNE := Lib.hid h7
  clear hc h0 h1 h2 h3 h4 h hlen hDe hR hok hb4 hsur h5 hlen5 hb5 hok5 hx h6 hlen6 hb6 hb6' hok6 hy h7
  go_enter Tryd.func35, Tryd.ntmps35
  go_wp2_with fail
  with_reducible refine HD.out.mono ?_
  rintro e w1 ⟨rfl, hq, ho⟩
  go_wp2_with fail
  with_reducible refine (HI.out _).mono ?_
  rintro e w2 ⟨rfl, hw⟩
  rw [hw]; clear hw
  go_wp2_with fail
  with_reducible refine (HB.out _ hq).mono ?_
  rintro e w3 ⟨rfl, hq3, ho3⟩
  go_wp2_with fail
  with_reducible refine (HB2.out _ hq3).mono ?_
  rintro e w4 ⟨rfl, hq4, ho4⟩
  go_wp2_with fail
  with_reducible refine (HC2.out _ hq4).mono ?_
  rintro e w5 ⟨rfl, ⟨c', hq5, hA5⟩, ho5⟩
  have hne := Lib.hid (show ¬ c'.er = 0 by rw [hA5.2.2.2.1]; exact HNE.out)
  go_wp2_with fail
  with_reducible refine (fail_more hq5 hne.out 6).mono ?_
  rintro e w6 ⟨rfl, hq6, ho6⟩
  go_wp2
  go_ret
  exact ⟨by rw [HR.out]; rfl, ⟨_, hq6, by rw [HR.out]; exact HCA.out _ hA5⟩, (((ho.trans ho3).trans ho4).trans ho5).trans ho6⟩
theorem jnumbered_least {b : Nat} {c : CS} {w : World} (h : CurT 42 w b c) (hc : c.ok) (h0 : c.er = 0) (h1 : (jDg 4 0 c.bs).2 = 0) (h2 : ¬ uIs (jDg 4 0 c.bs).1 = true) (h3 : ¬ 56320 ≤ (jDg 4 0 c.bs).1) {x y : UInt8} {t : List UInt8} (h4 : c.bs.drop 4 = x :: y :: t) (hx : x.toNat = 92) (hy : y.toNat = 117) (h7 : (jDg 4 0 t).2 = 0) (h8 : (jDg 4 0 t).1 < 56320) :
    Calls Tryd.prog 35 #[.pointer (some ⟨b, 0, none⟩)] w fun e w' => e = .returned (.int .i32 ((jNum c.bs).r : Nat)) ∧ (∃ c', CurT 42 w' b c' ∧ CAt c (jNum c.bs).k (jNum c.bs).e c') ∧ Only b w w' := by
  obtain ⟨D, hDe⟩ : ∃ D, D = (jDg 4 0 c.bs).1 := ⟨_, rfl⟩
  have hm := jDg4_lt c.bs
  have hlen := jDg_len 4 0 c.bs h1
  have HD := Lib.hid (jnumber_good h hc h0 h1)
  have HI := Lib.hid (fun w => uis_any (D : Int) w)
  rw [← hDe] at HD hm
  have hR := jNum_pair h1 h2 h3
  have hok := CS.past_fine hc hlen
  have hb4 := CS.bs_past c 4
  rw [← hDe] at h2 h3 hR
  have hsur := uIs_no.mp (by simpa using h2)
  rw [show uIs (D : Int) = false by simpa using h2] at HI
  have p1 : decide ((56320 : Int) ≤ (D : Int)) = false := decide_eq_false (by omega)
  rw [h4] at hR hb4
  have h5 := CS.bs_some hok h0 hb4
  have hlen5 : 5 ≤ c.bs.length := by
    have := congrArg List.length h4
    rw [List.length_drop, List.length_cons] at this; omega
  have HB := Lib.hid (fun w h => byte_next (w := w) (b := b) h hok h0 hb4)
  have hb5 := h5.2.2.1
  have hok5 := h5.2.2.2
  rw [CS.past_past] at HB hb5 hok5
  have HB := Lib.hid (show ∀ w, CurT 42 w b (c.past 4) → Calls Tryd.prog 19 #[.pointer (some ⟨b, 0, none⟩)] w fun e w' => e = .returned (.int .u8 92) ∧ CurT 42 w' b (c.past 5) ∧ Only b w w' from fun w h => by
    have := HB.out w h
    rw [hx] at this; exact this)
  have h6 := CS.bs_some hok5 h0 hb5
  have hlen6 : 6 ≤ c.bs.length := by
    have := congrArg List.length h4
    rw [List.length_drop, List.length_cons, List.length_cons] at this; omega
  have HB2 := Lib.hid (fun w h => byte_next (w := w) (b := b) h hok5 h0 hb5)
  have hb6 := h6.2.2.1
  have hok6 := h6.2.2.2
  rw [CS.past_past] at HB2 hb6 hok6
  have HB2 := Lib.hid (show ∀ w, CurT 42 w b (c.past 5) → Calls Tryd.prog 19 #[.pointer (some ⟨b, 0, none⟩)] w fun e w' => e = .returned (.int .u8 117) ∧ CurT 42 w' b (c.past 6) ∧ Only b w w' from fun w h => by
    have := HB2.out w h
    rw [hy] at this; exact this)
  have hb6' := hb6
  rw [← hb6'] at hR
  rw [← hb6] at h7
  obtain ⟨M, hMe⟩ : ∃ M, M = (jDg 4 0 (c.past 6).bs).1 := ⟨_, rfl⟩
  have hm2 := jDg4_lt (c.past 6).bs
  have hlen10 := jDg_len 4 0 (c.past 6).bs h7
  have HC2 := Lib.hid (fun w h => jnumber_good (w := w) (b := b) h hok6 h0 h7)
  rw [← hMe] at HC2 hm2
  rw [CS.bs_past, List.length_drop] at hlen10
  have hlenX : 10 ≤ c.bs.length := by omega
  rw [CS.past_past] at HC2
  rw [← hb6, ← hMe] at h8
  have HR := Lib.hid (show jNum c.bs = ⟨0, 0, 6⟩ by rw [hR]; rw [jPair_out hx hy h7 (.inl (by rw [← hMe]; exact h8))]; rfl)
  have HA := Lib.hid (CAt.bad hc hlenX 0 (e := 6) (by decide))
  have HE := Lib.hid (show (c.past 10).er = 0 from h0)
  have q1 : decide ((M : Int) < 56320) = true := decide_eq_true (by omega)
  clear hc h0 h1 h2 h3 h4 h hlen hDe hR hok hb4 hsur h5 hlen5 hb5 hok5 hx h6 hlen6 hb6 hb6' hok6 hy h7 h8 hMe hlen10 hlenX
  go_enter Tryd.func35, Tryd.ntmps35
  go_wp2_with fail
  with_reducible refine HD.out.mono ?_
  rintro e w1 ⟨rfl, hq, ho⟩
  go_wp2_with fail
  with_reducible refine (HI.out _).mono ?_
  rintro e w2 ⟨rfl, hw⟩
  rw [hw]; clear hw
  go_wp2_with fail
  with_reducible refine (HB.out _ hq).mono ?_
  rintro e w3 ⟨rfl, hq3, ho3⟩
  go_wp2_with fail
  with_reducible refine (HB2.out _ hq3).mono ?_
  rintro e w4 ⟨rfl, hq4, ho4⟩
  go_wp2_with fail
  with_reducible refine (HC2.out _ hq4).mono ?_
  rintro e w5 ⟨rfl, hq5, ho5⟩
  go_wp2_with fail
  with_reducible refine (fail_fresh hq5 HE.out 6).mono ?_
  rintro e w6 ⟨rfl, hq6, ho6⟩
  go_wp2
  go_ret
  exact ⟨by rw [HR.out]; rfl, ⟨_, hq6, by rw [HR.out]; exact HA.out⟩, (((ho.trans ho3).trans ho4).trans ho5).trans ho6⟩
theorem jnumbered_great {b : Nat} {c : CS} {w : World} (h : CurT 42 w b c) (hc : c.ok) (h0 : c.er = 0) (h1 : (jDg 4 0 c.bs).2 = 0) (h2 : ¬ uIs (jDg 4 0 c.bs).1 = true) (h3 : ¬ 56320 ≤ (jDg 4 0 c.bs).1) {x y : UInt8} {t : List UInt8} (h4 : c.bs.drop 4 = x :: y :: t) (hx : x.toNat = 92) (hy : y.toNat = 117) (h7 : (jDg 4 0 t).2 = 0) (h8 : 57343 < (jDg 4 0 t).1) :
    Calls Tryd.prog 35 #[.pointer (some ⟨b, 0, none⟩)] w fun e w' => e = .returned (.int .i32 ((jNum c.bs).r : Nat)) ∧ (∃ c', CurT 42 w' b c' ∧ CAt c (jNum c.bs).k (jNum c.bs).e c') ∧ Only b w w' := by
  obtain ⟨D, hDe⟩ : ∃ D, D = (jDg 4 0 c.bs).1 := ⟨_, rfl⟩
  have hm := jDg4_lt c.bs
  have hlen := jDg_len 4 0 c.bs h1
  have HD := Lib.hid (jnumber_good h hc h0 h1)
  have HI := Lib.hid (fun w => uis_any (D : Int) w)
  rw [← hDe] at HD hm
  have hR := jNum_pair h1 h2 h3
  have hok := CS.past_fine hc hlen
  have hb4 := CS.bs_past c 4
  rw [← hDe] at h2 h3 hR
  have hsur := uIs_no.mp (by simpa using h2)
  rw [show uIs (D : Int) = false by simpa using h2] at HI
  have p1 : decide ((56320 : Int) ≤ (D : Int)) = false := decide_eq_false (by omega)
  rw [h4] at hR hb4
  have h5 := CS.bs_some hok h0 hb4
  have hlen5 : 5 ≤ c.bs.length := by
    have := congrArg List.length h4
    rw [List.length_drop, List.length_cons] at this; omega
  have HB := Lib.hid (fun w h => byte_next (w := w) (b := b) h hok h0 hb4)
  have hb5 := h5.2.2.1
  have hok5 := h5.2.2.2
  rw [CS.past_past] at HB hb5 hok5
  have HB := Lib.hid (show ∀ w, CurT 42 w b (c.past 4) → Calls Tryd.prog 19 #[.pointer (some ⟨b, 0, none⟩)] w fun e w' => e = .returned (.int .u8 92) ∧ CurT 42 w' b (c.past 5) ∧ Only b w w' from fun w h => by
    have := HB.out w h
    rw [hx] at this; exact this)
  have h6 := CS.bs_some hok5 h0 hb5
  have hlen6 : 6 ≤ c.bs.length := by
    have := congrArg List.length h4
    rw [List.length_drop, List.length_cons, List.length_cons] at this; omega
  have HB2 := Lib.hid (fun w h => byte_next (w := w) (b := b) h hok5 h0 hb5)
  have hb6 := h6.2.2.1
  have hok6 := h6.2.2.2
  rw [CS.past_past] at HB2 hb6 hok6
  have HB2 := Lib.hid (show ∀ w, CurT 42 w b (c.past 5) → Calls Tryd.prog 19 #[.pointer (some ⟨b, 0, none⟩)] w fun e w' => e = .returned (.int .u8 117) ∧ CurT 42 w' b (c.past 6) ∧ Only b w w' from fun w h => by
    have := HB2.out w h
    rw [hy] at this; exact this)
  have hb6' := hb6
  rw [← hb6'] at hR
  rw [← hb6] at h7
  obtain ⟨M, hMe⟩ : ∃ M, M = (jDg 4 0 (c.past 6).bs).1 := ⟨_, rfl⟩
  have hm2 := jDg4_lt (c.past 6).bs
  have hlen10 := jDg_len 4 0 (c.past 6).bs h7
  have HC2 := Lib.hid (fun w h => jnumber_good (w := w) (b := b) h hok6 h0 h7)
  rw [← hMe] at HC2 hm2
  rw [CS.bs_past, List.length_drop] at hlen10
  have hlenX : 10 ≤ c.bs.length := by omega
  rw [CS.past_past] at HC2
  rw [← hb6, ← hMe] at h8
  have HR := Lib.hid (show jNum c.bs = ⟨0, 0, 6⟩ by rw [hR]; rw [jPair_out hx hy h7 (.inr (by rw [← hMe]; exact h8))]; rfl)
  have HA := Lib.hid (CAt.bad hc hlenX 0 (e := 6) (by decide))
  have HE := Lib.hid (show (c.past 10).er = 0 from h0)
  have q1 : decide ((M : Int) < 56320) = false := decide_eq_false (by omega)
  have q2 : decide ((57344 : Int) ≤ (M : Int)) = true := decide_eq_true (by omega)
  clear hc h0 h1 h2 h3 h4 h hlen hDe hR hok hb4 hsur h5 hlen5 hb5 hok5 hx h6 hlen6 hb6 hb6' hok6 hy h7 h8 hMe hlen10 hlenX
  go_enter Tryd.func35, Tryd.ntmps35
  go_wp2_with fail
  with_reducible refine HD.out.mono ?_
  rintro e w1 ⟨rfl, hq, ho⟩
  go_wp2_with fail
  with_reducible refine (HI.out _).mono ?_
  rintro e w2 ⟨rfl, hw⟩
  rw [hw]; clear hw
  go_wp2_with fail
  with_reducible refine (HB.out _ hq).mono ?_
  rintro e w3 ⟨rfl, hq3, ho3⟩
  go_wp2_with fail
  with_reducible refine (HB2.out _ hq3).mono ?_
  rintro e w4 ⟨rfl, hq4, ho4⟩
  go_wp2_with fail
  with_reducible refine (HC2.out _ hq4).mono ?_
  rintro e w5 ⟨rfl, hq5, ho5⟩
  go_wp2_with fail
  with_reducible refine (fail_fresh hq5 HE.out 6).mono ?_
  rintro e w6 ⟨rfl, hq6, ho6⟩
  go_wp2
  go_ret
  exact ⟨by rw [HR.out]; rfl, ⟨_, hq6, by rw [HR.out]; exact HA.out⟩, (((ho.trans ho3).trans ho4).trans ho5).trans ho6⟩
theorem jnumbered_pair {b : Nat} {c : CS} {w : World} (h : CurT 42 w b c) (hc : c.ok) (h0 : c.er = 0) (h1 : (jDg 4 0 c.bs).2 = 0) (h2 : ¬ uIs (jDg 4 0 c.bs).1 = true) (h3 : ¬ 56320 ≤ (jDg 4 0 c.bs).1) {x y : UInt8} {t : List UInt8} (h4 : c.bs.drop 4 = x :: y :: t) (hx : x.toNat = 92) (hy : y.toNat = 117) (h7 : (jDg 4 0 t).2 = 0) (h8 : ¬ (jDg 4 0 t).1 < 56320) (h9 : ¬ 57343 < (jDg 4 0 t).1) :
    Calls Tryd.prog 35 #[.pointer (some ⟨b, 0, none⟩)] w fun e w' => e = .returned (.int .i32 ((jNum c.bs).r : Nat)) ∧ (∃ c', CurT 42 w' b c' ∧ CAt c (jNum c.bs).k (jNum c.bs).e c') ∧ Only b w w' := by
  obtain ⟨D, hDe⟩ : ∃ D, D = (jDg 4 0 c.bs).1 := ⟨_, rfl⟩
  have hm := jDg4_lt c.bs
  have hlen := jDg_len 4 0 c.bs h1
  have HD := Lib.hid (jnumber_good h hc h0 h1)
  have HI := Lib.hid (fun w => uis_any (D : Int) w)
  rw [← hDe] at HD hm
  have hR := jNum_pair h1 h2 h3
  have hok := CS.past_fine hc hlen
  have hb4 := CS.bs_past c 4
  rw [← hDe] at h2 h3 hR
  have hsur := uIs_no.mp (by simpa using h2)
  rw [show uIs (D : Int) = false by simpa using h2] at HI
  have p1 : decide ((56320 : Int) ≤ (D : Int)) = false := decide_eq_false (by omega)
  rw [h4] at hR hb4
  have h5 := CS.bs_some hok h0 hb4
  have hlen5 : 5 ≤ c.bs.length := by
    have := congrArg List.length h4
    rw [List.length_drop, List.length_cons] at this; omega
  have HB := Lib.hid (fun w h => byte_next (w := w) (b := b) h hok h0 hb4)
  have hb5 := h5.2.2.1
  have hok5 := h5.2.2.2
  rw [CS.past_past] at HB hb5 hok5
  have HB := Lib.hid (show ∀ w, CurT 42 w b (c.past 4) → Calls Tryd.prog 19 #[.pointer (some ⟨b, 0, none⟩)] w fun e w' => e = .returned (.int .u8 92) ∧ CurT 42 w' b (c.past 5) ∧ Only b w w' from fun w h => by
    have := HB.out w h
    rw [hx] at this; exact this)
  have h6 := CS.bs_some hok5 h0 hb5
  have hlen6 : 6 ≤ c.bs.length := by
    have := congrArg List.length h4
    rw [List.length_drop, List.length_cons, List.length_cons] at this; omega
  have HB2 := Lib.hid (fun w h => byte_next (w := w) (b := b) h hok5 h0 hb5)
  have hb6 := h6.2.2.1
  have hok6 := h6.2.2.2
  rw [CS.past_past] at HB2 hb6 hok6
  have HB2 := Lib.hid (show ∀ w, CurT 42 w b (c.past 5) → Calls Tryd.prog 19 #[.pointer (some ⟨b, 0, none⟩)] w fun e w' => e = .returned (.int .u8 117) ∧ CurT 42 w' b (c.past 6) ∧ Only b w w' from fun w h => by
    have := HB2.out w h
    rw [hy] at this; exact this)
  have hb6' := hb6
  rw [← hb6'] at hR
  rw [← hb6] at h7
  obtain ⟨M, hMe⟩ : ∃ M, M = (jDg 4 0 (c.past 6).bs).1 := ⟨_, rfl⟩
  have hm2 := jDg4_lt (c.past 6).bs
  have hlen10 := jDg_len 4 0 (c.past 6).bs h7
  have HC2 := Lib.hid (fun w h => jnumber_good (w := w) (b := b) h hok6 h0 h7)
  rw [← hMe] at HC2 hm2
  rw [CS.bs_past, List.length_drop] at hlen10
  have hlenX : 10 ≤ c.bs.length := by omega
  rw [CS.past_past] at HC2
  rw [← hb6, ← hMe] at h8 h9
  obtain ⟨d, hd⟩ : ∃ d, d = D - 55296 := ⟨_, rfl⟩
  obtain ⟨m, hmm⟩ : ∃ m, m = M - 56320 := ⟨_, rfl⟩
  obtain ⟨V, hV⟩ : ∃ V, V = 65536 + 1024 * d + m := ⟨_, rfl⟩
  have HR := Lib.hid (show jNum c.bs = ⟨V, 10, 0⟩ by
    rw [hR, jPair_in hx hy h7 (by rw [← hMe]; exact h8) (by rw [← hMe]; exact h9), ← hMe, ← hd, ← hmm, ← hV]; rfl)
  have HA := Lib.hid (CAt.past hc h0 hlenX)
  have q1 : decide ((M : Int) < 56320) = false := decide_eq_false (by omega)
  have q2 : decide ((57344 : Int) ≤ (M : Int)) = false := decide_eq_false (by omega)
  have hs1 := hsur
  have z1 : IntKind.i32.wrap ((D : Int) - 55296) = (d : Int) := by rw [IntWalk.i32_in _ (by omega)]; omega
  have z2 : IntKind.i32.wrap (1024 * (d : Int)) = 1024 * (d : Int) := IntWalk.i32_in _ (by omega)
  have z3 : IntKind.i32.wrap (65536 + 1024 * (d : Int)) = 65536 + 1024 * (d : Int) := IntWalk.i32_in _ (by omega)
  have z4 : IntKind.i32.wrap ((M : Int) - 56320) = (m : Int) := by rw [IntWalk.i32_in _ (by omega)]; omega
  have z5 : IntKind.i32.wrap (65536 + 1024 * (d : Int) + (m : Int)) = (V : Int) := by rw [IntWalk.i32_in _ (by omega)]; omega
  clear hc h0 h1 h2 h3 h4 h hlen hDe hR hok hb4 hsur h5 hlen5 hb5 hok5 hx h6 hlen6 hb6 hb6' hok6 hy h7 h8 h9 hMe hlen10 hlenX hd hmm hV hs1
  go_enter Tryd.func35, Tryd.ntmps35
  go_wp2_with fail
  with_reducible refine HD.out.mono ?_
  rintro e w1 ⟨rfl, hq, ho⟩
  go_wp2_with fail
  with_reducible refine (HI.out _).mono ?_
  rintro e w2 ⟨rfl, hw⟩
  rw [hw]; clear hw
  go_wp2_with fail
  with_reducible refine (HB.out _ hq).mono ?_
  rintro e w3 ⟨rfl, hq3, ho3⟩
  go_wp2_with fail
  with_reducible refine (HB2.out _ hq3).mono ?_
  rintro e w4 ⟨rfl, hq4, ho4⟩
  go_wp2_with fail
  with_reducible refine (HC2.out _ hq4).mono ?_
  rintro e w5 ⟨rfl, hq5, ho5⟩
  go_wp2
  go_ret
  exact ⟨by rw [HR.out]; rfl, ⟨_, hq5, by rw [HR.out]; exact HA.out⟩, ((ho.trans ho3).trans ho4).trans ho5⟩
theorem jnumbered_any {b : Nat} {c : CS} {w : World} (h : CurT 42 w b c) (hc : c.ok) (h0 : c.er = 0) :
    Calls Tryd.prog 35 #[.pointer (some ⟨b, 0, none⟩)] w fun e w' => e = .returned (.int .i32 ((jNum c.bs).r : Nat)) ∧ (∃ c', CurT 42 w' b c' ∧ CAt c (jNum c.bs).k (jNum c.bs).e c') ∧ Only b w w' := by
  by_cases h1 : (jDg 4 0 c.bs).2 = 0
  · by_cases h2 : uIs (jDg 4 0 c.bs).1 = true
    · exact jnumbered_char h hc h0 h1 h2
    · by_cases h3 : 56320 ≤ (jDg 4 0 c.bs).1
      · exact jnumbered_second h hc h0 h1 h2 h3
      · match h4 : c.bs.drop 4 with
        | [] => exact jnumbered_end h hc h0 h1 h2 h3 h4
        | x :: t =>
          by_cases hx : x.toNat = 92
          · match t, h4 with
            | [], h4 => exact jnumbered_end2 h hc h0 h1 h2 h3 h4 hx
            | y :: t, h4 =>
              by_cases hy : y.toNat = 117
              · by_cases h7 : (jDg 4 0 t).2 = 0
                · by_cases h8 : (jDg 4 0 t).1 < 56320
                  · exact jnumbered_least h hc h0 h1 h2 h3 h4 hx hy h7 h8
                  · by_cases h9 : 57343 < (jDg 4 0 t).1
                    · exact jnumbered_great h hc h0 h1 h2 h3 h4 hx hy h7 h9
                    · exact jnumbered_pair h hc h0 h1 h2 h3 h4 hx hy h7 h8 h9
                · exact jnumbered_bad2 h hc h0 h1 h2 h3 h4 hx hy h7
              · exact jnumbered_other2 h hc h0 h1 h2 h3 h4 hx hy
          · exact jnumbered_other h hc h0 h1 h2 h3 h4 hx
  · exact jnumbered_bad h hc h0 h1
end Go.Proofs.YteakcfgjjlocjaaDoor
