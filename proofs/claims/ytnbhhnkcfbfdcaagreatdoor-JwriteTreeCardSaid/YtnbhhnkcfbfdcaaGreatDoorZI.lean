/- Several texts in one (JsHex, JsEsc): each begins with its own words. -/
import Derived.Test.YtnbhhnkcfbfdcaaGreatDoorJsCur
import Derived.Test.YtnbhhnkcfbfdcaaGreatDoorZF
/- Package jstring's numbered, escaped. -/
namespace Go.Proofs.YtnbhhnkcfbfdcaaGreatDoor
open Go Go.RowKit
set_option linter.unusedVariables false

theorem jnumber_good {b : Nat} {c : CS} {w : World} (h : CurT 89 w b c) (hc : c.ok) (h0 : c.er = 0) (h1 : (jDg 4 0 c.bs).2 = 0) :
    Calls Tryz.prog 129 #[.pointer (some ⟨b, 0, none⟩)] w fun e w' => e = .returned (.int .i32 ((jDg 4 0 c.bs).1 : Nat)) ∧ CurT 89 w' b (c.past 4) ∧ Only b w w' := by
  refine (jnumber_any h hc h0).mono ?_
  rintro e w' ⟨he, ⟨c', hq, hA⟩, ho⟩
  rw [hA.2.2.2.2 h1] at hq
  exact ⟨he, hq, ho⟩
theorem jnumber_bad {b : Nat} {c : CS} {w : World} (h : CurT 89 w b c) (hc : c.ok) (h0 : c.er = 0) (h1 : ¬ (jDg 4 0 c.bs).2 = 0) :
    Calls Tryz.prog 129 #[.pointer (some ⟨b, 0, none⟩)] w fun e w' => e = .returned (.int .i32 0) ∧ (∃ c', CurT 89 w' b c' ∧ CAt c 0 (jDg 4 0 c.bs).2 c') ∧ Only b w w' := by
  refine (jnumber_any h hc h0).mono ?_
  rintro e w' ⟨he, ⟨c', hq, hA⟩, ho⟩
  rw [jDg_no _ _ _ h1] at he
  exact ⟨he, ⟨c', hq, hA.no h1⟩, ho⟩
theorem jNum_bad {l : List UInt8} (h : ¬ (jDg 4 0 l).2 = 0) : jNum l = ⟨0, 0, (jDg 4 0 l).2⟩ := by unfold jNum; rw [if_neg h]
theorem jNum_char {l : List UInt8} (h : (jDg 4 0 l).2 = 0) (h1 : uIs (jDg 4 0 l).1 = true) : jNum l = ⟨(jDg 4 0 l).1, 4, 0⟩ := by unfold jNum; rw [if_pos h, if_pos h1]
theorem jNum_second {l : List UInt8} (h : (jDg 4 0 l).2 = 0) (h1 : ¬ uIs (jDg 4 0 l).1 = true) (h2 : 56320 ≤ (jDg 4 0 l).1) : jNum l = ⟨0, 0, 6⟩ := by unfold jNum; rw [if_pos h, if_neg h1, if_pos h2]
theorem jNum_pair {l : List UInt8} (h : (jDg 4 0 l).2 = 0) (h1 : ¬ uIs (jDg 4 0 l).1 = true) (h2 : ¬ 56320 ≤ (jDg 4 0 l).1) : jNum l = if (jPair (jDg 4 0 l).1 (l.drop 4)).e = 0 then ⟨(jPair (jDg 4 0 l).1 (l.drop 4)).r, (jPair (jDg 4 0 l).1 (l.drop 4)).k + 4, 0⟩ else ⟨0, 0, (jPair (jDg 4 0 l).1 (l.drop 4)).e⟩ := by unfold jNum; rw [if_pos h, if_neg h1, if_neg h2]
theorem jPair_x {n : Nat} {x : UInt8} {t : List UInt8} (hx : ¬ x.toNat = 92) : jPair n (x :: t) = ⟨0, 0, 6⟩ := by simp only [jPair]; rw [if_neg hx]
theorem jPair_1 {n : Nat} {x : UInt8} (hx : x.toNat = 92) : jPair n [x] = ⟨0, 0, 1⟩ := by simp only [jPair]; rw [if_pos hx]
theorem jPair_y {n : Nat} {x y : UInt8} {t : List UInt8} (hx : x.toNat = 92) (hy : ¬ y.toNat = 117) : jPair n (x :: y :: t) = ⟨0, 0, 6⟩ := by simp only [jPair]; rw [if_pos hx, if_neg hy]
theorem jPair_bad {n : Nat} {x y : UInt8} {t : List UInt8} (hx : x.toNat = 92) (hy : y.toNat = 117) (h : ¬ (jDg 4 0 t).2 = 0) : jPair n (x :: y :: t) = ⟨0, 0, (jDg 4 0 t).2⟩ := by simp only [jPair]; rw [if_pos hx, if_pos hy, if_neg h]
theorem jPair_out {n : Nat} {x y : UInt8} {t : List UInt8} (hx : x.toNat = 92) (hy : y.toNat = 117) (h : (jDg 4 0 t).2 = 0) (h2 : (jDg 4 0 t).1 < 56320 ∨ 57343 < (jDg 4 0 t).1) : jPair n (x :: y :: t) = ⟨0, 0, 6⟩ := by simp only [jPair]; rw [if_pos hx, if_pos hy, if_pos h, if_pos h2]
theorem jPair_in {n : Nat} {x y : UInt8} {t : List UInt8} (hx : x.toNat = 92) (hy : y.toNat = 117) (h : (jDg 4 0 t).2 = 0) (h2 : ¬ (jDg 4 0 t).1 < 56320) (h3 : ¬ 57343 < (jDg 4 0 t).1) : jPair n (x :: y :: t) = ⟨65536 + 1024 * (n - 55296) + ((jDg 4 0 t).1 - 56320), 6, 0⟩ := by simp only [jPair]; rw [if_pos hx, if_pos hy, if_pos h, if_neg (by omega)]
theorem ret_i32 {a b : Int} (h : a = b) : Ending.returned (.int .i32 a) = .returned (.int .i32 b) := by rw [h]

theorem jnumbered_bad {b : Nat} {c : CS} {w : World} (h : CurT 89 w b c) (hc : c.ok) (h0 : c.er = 0) (h1 : ¬ (jDg 4 0 c.bs).2 = 0) :
    Calls Tryz.prog 117 #[.pointer (some ⟨b, 0, none⟩)] w fun e w' => e = .returned (.int .i32 ((jNum c.bs).r : Nat)) ∧ (∃ c', CurT 89 w' b c' ∧ CAt c (jNum c.bs).k (jNum c.bs).e c') ∧ Only b w w' := by
  have HD := Lib.hid (jnumber_bad h hc h0 h1)
  have HI := Lib.hid (show ∀ w, Calls Tryz.prog 128 #[.int .i32 0] w fun e w' => e = .returned (.bool true) ∧ w' = w from fun w => by
    have := uis_any 0 w
    rw [show uIs 0 = true by decide] at this; exact this)
  rw [jNum_bad h1]
  clear hc h0 h1 h
  go_enter Tryz.func117, Tryz.ntmps117
  go_wp2_with fail
  with_reducible refine HD.out.mono ?_
  rintro e w1 ⟨rfl, ⟨c', hq, hA⟩, ho⟩
  go_wp2_with fail
  with_reducible refine (HI.out _).mono ?_
  rintro e w2 ⟨rfl, hw⟩
  rw [hw]; clear hw
  go_wp2
  go_ret
  exact ⟨rfl, ⟨c', hq, hA⟩, ho⟩
theorem jnumbered_char {b : Nat} {c : CS} {w : World} (h : CurT 89 w b c) (hc : c.ok) (h0 : c.er = 0) (h1 : (jDg 4 0 c.bs).2 = 0) (h2 : uIs (jDg 4 0 c.bs).1 = true) :
    Calls Tryz.prog 117 #[.pointer (some ⟨b, 0, none⟩)] w fun e w' => e = .returned (.int .i32 ((jNum c.bs).r : Nat)) ∧ (∃ c', CurT 89 w' b c' ∧ CAt c (jNum c.bs).k (jNum c.bs).e c') ∧ Only b w w' := by
  obtain ⟨D, hDe⟩ : ∃ D, D = (jDg 4 0 c.bs).1 := ⟨_, rfl⟩
  have hm := jDg4_lt c.bs
  have hlen := jDg_len 4 0 c.bs h1
  have HD := Lib.hid (jnumber_good h hc h0 h1)
  have HI := Lib.hid (fun w => uis_any (D : Int) w)
  rw [← hDe] at HD hm
  have HR := Lib.hid (jNum_char h1 h2)
  have HA := Lib.hid (CAt.past hc h0 hlen)
  rw [← hDe] at h2 HR
  rw [h2] at HI
  clear hc h0 h1 h2 h hlen hDe
  go_enter Tryz.func117, Tryz.ntmps117
  go_wp2_with fail
  with_reducible refine HD.out.mono ?_
  rintro e w1 ⟨rfl, hq, ho⟩
  go_wp2_with fail
  with_reducible refine (HI.out _).mono ?_
  rintro e w2 ⟨rfl, hw⟩
  rw [hw]; clear hw
  go_wp2
  go_ret
  exact ⟨by rw [HR.out]; rfl, ⟨_, hq, by rw [HR.out]; exact HA.out⟩, ho⟩
theorem jnumbered_second {b : Nat} {c : CS} {w : World} (h : CurT 89 w b c) (hc : c.ok) (h0 : c.er = 0) (h1 : (jDg 4 0 c.bs).2 = 0) (h2 : ¬ uIs (jDg 4 0 c.bs).1 = true) (h3 : 56320 ≤ (jDg 4 0 c.bs).1) :
    Calls Tryz.prog 117 #[.pointer (some ⟨b, 0, none⟩)] w fun e w' => e = .returned (.int .i32 ((jNum c.bs).r : Nat)) ∧ (∃ c', CurT 89 w' b c' ∧ CAt c (jNum c.bs).k (jNum c.bs).e c') ∧ Only b w w' := by
  obtain ⟨D, hDe⟩ : ∃ D, D = (jDg 4 0 c.bs).1 := ⟨_, rfl⟩
  have hm := jDg4_lt c.bs
  have hlen := jDg_len 4 0 c.bs h1
  have HD := Lib.hid (jnumber_good h hc h0 h1)
  have HI := Lib.hid (fun w => uis_any (D : Int) w)
  rw [← hDe] at HD hm
  have HR := Lib.hid (jNum_second h1 h2 h3)
  have HA := Lib.hid (CAt.bad hc hlen 0 (e := 6) (by decide))
  have HE := Lib.hid (show (c.past 4).er = 0 from h0)
  rw [← hDe] at h2 h3
  rw [show uIs (D : Int) = false by simpa using h2] at HI
  have p1 : decide ((56320 : Int) ≤ (D : Int)) = true := decide_eq_true (by omega)
  clear hc h0 h1 h2 h hlen hDe
  go_enter Tryz.func117, Tryz.ntmps117
  go_wp2_with fail
  with_reducible refine HD.out.mono ?_
  rintro e w1 ⟨rfl, hq, ho⟩
  go_wp2_with fail
  with_reducible refine (HI.out _).mono ?_
  rintro e w2 ⟨rfl, hw⟩
  rw [hw]; clear hw
  go_wp2_with fail
  with_reducible refine (fail_fresh hq HE.out 6).mono ?_
  rintro e w3 ⟨rfl, hq3, ho3⟩
  go_wp2
  go_ret
  exact ⟨by rw [HR.out]; rfl, ⟨_, hq3, by rw [HR.out]; exact HA.out⟩, ho.trans ho3⟩
theorem jnumbered_end {b : Nat} {c : CS} {w : World} (h : CurT 89 w b c) (hc : c.ok) (h0 : c.er = 0) (h1 : (jDg 4 0 c.bs).2 = 0) (h2 : ¬ uIs (jDg 4 0 c.bs).1 = true) (h3 : ¬ 56320 ≤ (jDg 4 0 c.bs).1) (h4 : c.bs.drop 4 = []) :
    Calls Tryz.prog 117 #[.pointer (some ⟨b, 0, none⟩)] w fun e w' => e = .returned (.int .i32 ((jNum c.bs).r : Nat)) ∧ (∃ c', CurT 89 w' b c' ∧ CAt c (jNum c.bs).k (jNum c.bs).e c') ∧ Only b w w' := by
  obtain ⟨D, hDe⟩ : ∃ D, D = (jDg 4 0 c.bs).1 := ⟨_, rfl⟩
  have hm := jDg4_lt c.bs
  have hlen := jDg_len 4 0 c.bs h1
  have HD := Lib.hid (jnumber_good h hc h0 h1)
  have HI := Lib.hid (fun w => uis_any (D : Int) w)
  rw [← hDe] at HD hm
  have hR := jNum_pair h1 h2 h3
  have hok := CS.past_fine hc hlen
  have hb4 := CS.bs_past c 4
  rw [← hDe] at h2 h3 hR
  have hsur := uIs_no.mp (by simpa using h2)
  rw [show uIs (D : Int) = false by simpa using h2] at HI
  have p1 : decide ((56320 : Int) ≤ (D : Int)) = false := decide_eq_false (by omega)
  rw [h4] at hR hb4
  have HR := Lib.hid (show jNum c.bs = ⟨0, 0, 1⟩ from hR)
  have HB := Lib.hid (fun w h => byte_lacks (w := w) (b := b) h hok h0 hb4)
  have HA := Lib.hid (CAt.bad hc hlen 0 (e := 1) (by decide))
  have HNE := Lib.hid (show ¬ ((c.past 4).bad 1).er = 0 by show ¬ (1 : Int) = 0; decide)
  clear hc h0 h1 h2 h3 h4 h hlen hDe hR hok hb4 hsur
  go_enter Tryz.func117, Tryz.ntmps117
  go_wp2_with fail
  with_reducible refine HD.out.mono ?_
  rintro e w1 ⟨rfl, hq, ho⟩
  go_wp2_with fail
  with_reducible refine (HI.out _).mono ?_
  rintro e w2 ⟨rfl, hw⟩
  rw [hw]; clear hw
  go_wp2_with fail
  with_reducible refine (HB.out _ hq).mono ?_
  rintro e w3 ⟨rfl, hq3, ho3⟩
  go_wp2_with fail
  with_reducible refine (fail_more hq3 HNE.out 6).mono ?_
  rintro e w4 ⟨rfl, hq4, ho4⟩
  go_wp2
  go_ret
  exact ⟨by rw [HR.out]; rfl, ⟨_, hq4, by rw [HR.out]; exact HA.out⟩, (ho.trans ho3).trans ho4⟩
theorem jnumbered_other {b : Nat} {c : CS} {w : World} (h : CurT 89 w b c) (hc : c.ok) (h0 : c.er = 0) (h1 : (jDg 4 0 c.bs).2 = 0) (h2 : ¬ uIs (jDg 4 0 c.bs).1 = true) (h3 : ¬ 56320 ≤ (jDg 4 0 c.bs).1) {x : UInt8} {t : List UInt8} (h4 : c.bs.drop 4 = x :: t) (hx : ¬ x.toNat = 92) :
    Calls Tryz.prog 117 #[.pointer (some ⟨b, 0, none⟩)] w fun e w' => e = .returned (.int .i32 ((jNum c.bs).r : Nat)) ∧ (∃ c', CurT 89 w' b c' ∧ CAt c (jNum c.bs).k (jNum c.bs).e c') ∧ Only b w w' := by
  obtain ⟨D, hDe⟩ : ∃ D, D = (jDg 4 0 c.bs).1 := ⟨_, rfl⟩
  have hm := jDg4_lt c.bs
  have hlen := jDg_len 4 0 c.bs h1
  have HD := Lib.hid (jnumber_good h hc h0 h1)
  have HI := Lib.hid (fun w => uis_any (D : Int) w)
  rw [← hDe] at HD hm
  have hR := jNum_pair h1 h2 h3
  have hok := CS.past_fine hc hlen
  have hb4 := CS.bs_past c 4
  rw [← hDe] at h2 h3 hR
  have hsur := uIs_no.mp (by simpa using h2)
  rw [show uIs (D : Int) = false by simpa using h2] at HI
  have p1 : decide ((56320 : Int) ≤ (D : Int)) = false := decide_eq_false (by omega)
  rw [h4] at hR hb4
  have h5 := CS.bs_some hok h0 hb4
  have hlen5 : 5 ≤ c.bs.length := by
    have := congrArg List.length h4
    rw [List.length_drop, List.length_cons] at this; omega
  have HB := Lib.hid (fun w h => byte_next (w := w) (b := b) h hok h0 hb4)
  have hb5 := h5.2.2.1
  have hok5 := h5.2.2.2
  rw [CS.past_past] at HB hb5 hok5
  have HR := Lib.hid (show jNum c.bs = ⟨0, 0, 6⟩ by rw [hR]; rw [jPair_x hx]; rfl)
  have HA := Lib.hid (CAt.bad hc hlen5 0 (e := 6) (by decide))
  have HE := Lib.hid (show (c.past 5).er = 0 from h0)
  obtain ⟨X, hXe⟩ : ∃ X, X = x.toNat := ⟨_, rfl⟩
  rw [← hXe] at HB hx
  have p2 : ((X : Int) != 92) = true := bne_iff_ne.mpr (by omega)
  clear hc h0 h1 h2 h3 h4 h hlen hDe hR hok hb4 hsur h5 hlen5 hb5 hok5 hXe hx
  go_enter Tryz.func117, Tryz.ntmps117
  go_wp2_with fail
  with_reducible refine HD.out.mono ?_
  rintro e w1 ⟨rfl, hq, ho⟩
  go_wp2_with fail
  with_reducible refine (HI.out _).mono ?_
  rintro e w2 ⟨rfl, hw⟩
  rw [hw]; clear hw
  go_wp2_with fail
  with_reducible refine (HB.out _ hq).mono ?_
  rintro e w3 ⟨rfl, hq3, ho3⟩
  go_wp2_with fail
  with_reducible refine (fail_fresh hq3 HE.out 6).mono ?_
  rintro e w4 ⟨rfl, hq4, ho4⟩
  go_wp2
  go_ret
  exact ⟨by rw [HR.out]; rfl, ⟨_, hq4, by rw [HR.out]; exact HA.out⟩, (ho.trans ho3).trans ho4⟩
theorem jnumbered_end2 {b : Nat} {c : CS} {w : World} (h : CurT 89 w b c) (hc : c.ok) (h0 : c.er = 0) (h1 : (jDg 4 0 c.bs).2 = 0) (h2 : ¬ uIs (jDg 4 0 c.bs).1 = true) (h3 : ¬ 56320 ≤ (jDg 4 0 c.bs).1) {x : UInt8} (h4 : c.bs.drop 4 = [x]) (hx : x.toNat = 92) :
    Calls Tryz.prog 117 #[.pointer (some ⟨b, 0, none⟩)] w fun e w' => e = .returned (.int .i32 ((jNum c.bs).r : Nat)) ∧ (∃ c', CurT 89 w' b c' ∧ CAt c (jNum c.bs).k (jNum c.bs).e c') ∧ Only b w w' := by
  obtain ⟨D, hDe⟩ : ∃ D, D = (jDg 4 0 c.bs).1 := ⟨_, rfl⟩
  have hm := jDg4_lt c.bs
  have hlen := jDg_len 4 0 c.bs h1
  have HD := Lib.hid (jnumber_good h hc h0 h1)
  have HI := Lib.hid (fun w => uis_any (D : Int) w)
  rw [← hDe] at HD hm
  have hR := jNum_pair h1 h2 h3
  have hok := CS.past_fine hc hlen
  have hb4 := CS.bs_past c 4
  rw [← hDe] at h2 h3 hR
  have hsur := uIs_no.mp (by simpa using h2)
  rw [show uIs (D : Int) = false by simpa using h2] at HI
  have p1 : decide ((56320 : Int) ≤ (D : Int)) = false := decide_eq_false (by omega)
  rw [h4] at hR hb4
  have h5 := CS.bs_some hok h0 hb4
  have hlen5 : 5 ≤ c.bs.length := by
    have := congrArg List.length h4
    rw [List.length_drop, List.length_cons] at this; omega
  have HB := Lib.hid (fun w h => byte_next (w := w) (b := b) h hok h0 hb4)
  have hb5 := h5.2.2.1
  have hok5 := h5.2.2.2
  rw [CS.past_past] at HB hb5 hok5
  have HB := Lib.hid (show ∀ w, CurT 89 w b (c.past 4) → Calls Tryz.prog 86 #[.pointer (some ⟨b, 0, none⟩)] w fun e w' => e = .returned (.int .u8 92) ∧ CurT 89 w' b (c.past 5) ∧ Only b w w' from fun w h => by
    have := HB.out w h
    rw [hx] at this; exact this)
  have HR := Lib.hid (show jNum c.bs = ⟨0, 0, 1⟩ by rw [hR]; rw [jPair_1 hx]; rfl)
  have HB2 := Lib.hid (fun w h => byte_lacks (w := w) (b := b) h hok5 h0 hb5)
  have HA := Lib.hid (CAt.bad hc hlen5 0 (e := 1) (by decide))
  have HNE := Lib.hid (show ¬ ((c.past 5).bad 1).er = 0 by show ¬ (1 : Int) = 0; decide)
  clear hc h0 h1 h2 h3 h4 h hlen hDe hR hok hb4 hsur h5 hlen5 hb5 hok5 hx
  go_enter Tryz.func117, Tryz.ntmps117
  go_wp2_with fail
  with_reducible refine HD.out.mono ?_
  rintro e w1 ⟨rfl, hq, ho⟩
  go_wp2_with fail
  with_reducible refine (HI.out _).mono ?_
  rintro e w2 ⟨rfl, hw⟩
  rw [hw]; clear hw
  go_wp2_with fail
  with_reducible refine (HB.out _ hq).mono ?_
  rintro e w3 ⟨rfl, hq3, ho3⟩
  go_wp2_with fail
  with_reducible refine (HB2.out _ hq3).mono ?_
  rintro e w4 ⟨rfl, hq4, ho4⟩
  go_wp2_with fail
  with_reducible refine (fail_more hq4 HNE.out 6).mono ?_
  rintro e w5 ⟨rfl, hq5, ho5⟩
  go_wp2
  go_ret
  exact ⟨by rw [HR.out]; rfl, ⟨_, hq5, by rw [HR.out]; exact HA.out⟩, ((ho.trans ho3).trans ho4).trans ho5⟩
theorem jnumbered_other2 {b : Nat} {c : CS} {w : World} (h : CurT 89 w b c) (hc : c.ok) (h0 : c.er = 0) (h1 : (jDg 4 0 c.bs).2 = 0) (h2 : ¬ uIs (jDg 4 0 c.bs).1 = true) (h3 : ¬ 56320 ≤ (jDg 4 0 c.bs).1) {x y : UInt8} {t : List UInt8} (h4 : c.bs.drop 4 = x :: y :: t) (hx : x.toNat = 92) (hy : ¬ y.toNat = 117) :
    Calls Tryz.prog 117 #[.pointer (some ⟨b, 0, none⟩)] w fun e w' => e = .returned (.int .i32 ((jNum c.bs).r : Nat)) ∧ (∃ c', CurT 89 w' b c' ∧ CAt c (jNum c.bs).k (jNum c.bs).e c') ∧ Only b w w' := by
  obtain ⟨D, hDe⟩ : ∃ D, D = (jDg 4 0 c.bs).1 := ⟨_, rfl⟩
  have hm := jDg4_lt c.bs
  have hlen := jDg_len 4 0 c.bs h1
  have HD := Lib.hid (jnumber_good h hc h0 h1)
  have HI := Lib.hid (fun w => uis_any (D : Int) w)
  rw [← hDe] at HD hm
  have hR := jNum_pair h1 h2 h3
  have hok := CS.past_fine hc hlen
  have hb4 := CS.bs_past c 4
  rw [← hDe] at h2 h3 hR
  have hsur := uIs_no.mp (by simpa using h2)
  rw [show uIs (D : Int) = false by simpa using h2] at HI
  have p1 : decide ((56320 : Int) ≤ (D : Int)) = false := decide_eq_false (by omega)
  rw [h4] at hR hb4
  have h5 := CS.bs_some hok h0 hb4
  have hlen5 : 5 ≤ c.bs.length := by
    have := congrArg List.length h4
    rw [List.length_drop, List.length_cons] at this; omega
  have HB := Lib.hid (fun w h => byte_next (w := w) (b := b) h hok h0 hb4)
  have hb5 := h5.2.2.1
  have hok5 := h5.2.2.2
  rw [CS.past_past] at HB hb5 hok5
  have HB := Lib.hid (show ∀ w, CurT 89 w b (c.past 4) → Calls Tryz.prog 86 #[.pointer (some ⟨b, 0, none⟩)] w fun e w' => e = .returned (.int .u8 92) ∧ CurT 89 w' b (c.past 5) ∧ Only b w w' from fun w h => by
    have := HB.out w h
    rw [hx] at this; exact this)
  have h6 := CS.bs_some hok5 h0 hb5
  have hlen6 : 6 ≤ c.bs.length := by
    have := congrArg List.length h4
    rw [List.length_drop, List.length_cons, List.length_cons] at this; omega
  have HB2 := Lib.hid (fun w h => byte_next (w := w) (b := b) h hok5 h0 hb5)
  have hb6 := h6.2.2.1
  have hok6 := h6.2.2.2
  rw [CS.past_past] at HB2 hb6 hok6
  have HR := Lib.hid (show jNum c.bs = ⟨0, 0, 6⟩ by rw [hR]; rw [jPair_y hx hy]; rfl)
  have HA := Lib.hid (CAt.bad hc hlen6 0 (e := 6) (by decide))
  have HE := Lib.hid (show (c.past 6).er = 0 from h0)
  obtain ⟨Y, hYe⟩ : ∃ Y, Y = y.toNat := ⟨_, rfl⟩
  rw [← hYe] at HB2 hy
  have p2 : ((Y : Int) != 117) = true := bne_iff_ne.mpr (by omega)
  clear hc h0 h1 h2 h3 h4 h hlen hDe hR hok hb4 hsur h5 hlen5 hb5 hok5 hx h6 hlen6 hb6 hok6 hy hYe
  go_enter Tryz.func117, Tryz.ntmps117
  go_wp2_with fail
  with_reducible refine HD.out.mono ?_
  rintro e w1 ⟨rfl, hq, ho⟩
  go_wp2_with fail
  with_reducible refine (HI.out _).mono ?_
  rintro e w2 ⟨rfl, hw⟩
  rw [hw]; clear hw
  go_wp2_with fail
  with_reducible refine (HB.out _ hq).mono ?_
  rintro e w3 ⟨rfl, hq3, ho3⟩
  go_wp2_with fail
  with_reducible refine (HB2.out _ hq3).mono ?_
  rintro e w4 ⟨rfl, hq4, ho4⟩
  go_wp2_with fail
  with_reducible refine (fail_fresh hq4 HE.out 6).mono ?_
  rintro e w5 ⟨rfl, hq5, ho5⟩
  go_wp2
  go_ret
  exact ⟨by rw [HR.out]; rfl, ⟨_, hq5, by rw [HR.out]; exact HA.out⟩, ((ho.trans ho3).trans ho4).trans ho5⟩
theorem jnumbered_bad2 {b : Nat} {c : CS} {w : World} (h : CurT 89 w b c) (hc : c.ok) (h0 : c.er = 0) (h1 : (jDg 4 0 c.bs).2 = 0) (h2 : ¬ uIs (jDg 4 0 c.bs).1 = true) (h3 : ¬ 56320 ≤ (jDg 4 0 c.bs).1) {x y : UInt8} {t : List UInt8} (h4 : c.bs.drop 4 = x :: y :: t) (hx : x.toNat = 92) (hy : y.toNat = 117) (h7 : ¬ (jDg 4 0 t).2 = 0) :
    Calls Tryz.prog 117 #[.pointer (some ⟨b, 0, none⟩)] w fun e w' => e = .returned (.int .i32 ((jNum c.bs).r : Nat)) ∧ (∃ c', CurT 89 w' b c' ∧ CAt c (jNum c.bs).k (jNum c.bs).e c') ∧ Only b w w' := by
  obtain ⟨D, hDe⟩ : ∃ D, D = (jDg 4 0 c.bs).1 := ⟨_, rfl⟩
  have hm := jDg4_lt c.bs
  have hlen := jDg_len 4 0 c.bs h1
  have HD := Lib.hid (jnumber_good h hc h0 h1)
  have HI := Lib.hid (fun w => uis_any (D : Int) w)
  rw [← hDe] at HD hm
  have hR := jNum_pair h1 h2 h3
  have hok := CS.past_fine hc hlen
  have hb4 := CS.bs_past c 4
  rw [← hDe] at h2 h3 hR
  have hsur := uIs_no.mp (by simpa using h2)
  rw [show uIs (D : Int) = false by simpa using h2] at HI
  have p1 : decide ((56320 : Int) ≤ (D : Int)) = false := decide_eq_false (by omega)
  rw [h4] at hR hb4
  have h5 := CS.bs_some hok h0 hb4
  have hlen5 : 5 ≤ c.bs.length := by
    have := congrArg List.length h4
    rw [List.length_drop, List.length_cons] at this; omega
  have HB := Lib.hid (fun w h => byte_next (w := w) (b := b) h hok h0 hb4)
  have hb5 := h5.2.2.1
  have hok5 := h5.2.2.2
  rw [CS.past_past] at HB hb5 hok5
  have HB := Lib.hid (show ∀ w, CurT 89 w b (c.past 4) → Calls Tryz.prog 86 #[.pointer (some ⟨b, 0, none⟩)] w fun e w' => e = .returned (.int .u8 92) ∧ CurT 89 w' b (c.past 5) ∧ Only b w w' from fun w h => by
    have := HB.out w h
    rw [hx] at this; exact this)
  have h6 := CS.bs_some hok5 h0 hb5
  have hlen6 : 6 ≤ c.bs.length := by
    have := congrArg List.length h4
    rw [List.length_drop, List.length_cons, List.length_cons] at this; omega
  have HB2 := Lib.hid (fun w h => byte_next (w := w) (b := b) h hok5 h0 hb5)
  have hb6 := h6.2.2.1
  have hok6 := h6.2.2.2
  rw [CS.past_past] at HB2 hb6 hok6
  have HB2 := Lib.hid (show ∀ w, CurT 89 w b (c.past 5) → Calls Tryz.prog 86 #[.pointer (some ⟨b, 0, none⟩)] w fun e w' => e = .returned (.int .u8 117) ∧ CurT 89 w' b (c.past 6) ∧ Only b w w' from fun w h => by
    have := HB2.out w h
    rw [hy] at this; exact this)
  have hb6' := hb6
  rw [← hb6'] at hR
  rw [← hb6] at h7
  have HR := Lib.hid (show jNum c.bs = ⟨0, 0, (jDg 4 0 (c.past 6).bs).2⟩ by rw [hR]; rw [jPair_bad hx hy h7, if_neg h7])
  have HC2 := Lib.hid (fun w h => jnumber_bad (w := w) (b := b) h hok6 h0 h7)
  have HCA := Lib.hid (fun c' (h : CAt (c.past 6) 0 (jDg 4 0 (c.past 6).bs).2 c') => (h.more).no (j := 0) h7)
  have HNE := Lib.hid h7
  clear hc h0 h1 h2 h3 h4 h hlen hDe hR hok hb4 hsur h5 hlen5 hb5 hok5 hx h6 hlen6 hb6 hb6' hok6 hy h7
  go_enter Tryz.func117, Tryz.ntmps117
  go_wp2_with fail
  with_reducible refine HD.out.mono ?_
  rintro e w1 ⟨rfl, hq, ho⟩
  go_wp2_with fail
  with_reducible refine (HI.out _).mono ?_
  rintro e w2 ⟨rfl, hw⟩
  rw [hw]; clear hw
  go_wp2_with fail
  with_reducible refine (HB.out _ hq).mono ?_
  rintro e w3 ⟨rfl, hq3, ho3⟩
  go_wp2_with fail
  with_reducible refine (HB2.out _ hq3).mono ?_
  rintro e w4 ⟨rfl, hq4, ho4⟩
  go_wp2_with fail
  with_reducible refine (HC2.out _ hq4).mono ?_
  rintro e w5 ⟨rfl, ⟨c', hq5, hA5⟩, ho5⟩
  have hne := Lib.hid (show ¬ c'.er = 0 by rw [hA5.2.2.2.1]; exact HNE.out)
  go_wp2_with fail
  with_reducible refine (fail_more hq5 hne.out 6).mono ?_
  rintro e w6 ⟨rfl, hq6, ho6⟩
  go_wp2
  go_ret
  exact ⟨by rw [HR.out]; rfl, ⟨_, hq6, by rw [HR.out]; exact HCA.out _ hA5⟩, (((ho.trans ho3).trans ho4).trans ho5).trans ho6⟩
theorem jnumbered_least {b : Nat} {c : CS} {w : World} (h : CurT 89 w b c) (hc : c.ok) (h0 : c.er = 0) (h1 : (jDg 4 0 c.bs).2 = 0) (h2 : ¬ uIs (jDg 4 0 c.bs).1 = true) (h3 : ¬ 56320 ≤ (jDg 4 0 c.bs).1) {x y : UInt8} {t : List UInt8} (h4 : c.bs.drop 4 = x :: y :: t) (hx : x.toNat = 92) (hy : y.toNat = 117) (h7 : (jDg 4 0 t).2 = 0) (h8 : (jDg 4 0 t).1 < 56320) :
    Calls Tryz.prog 117 #[.pointer (some ⟨b, 0, none⟩)] w fun e w' => e = .returned (.int .i32 ((jNum c.bs).r : Nat)) ∧ (∃ c', CurT 89 w' b c' ∧ CAt c (jNum c.bs).k (jNum c.bs).e c') ∧ Only b w w' := by
  obtain ⟨D, hDe⟩ : ∃ D, D = (jDg 4 0 c.bs).1 := ⟨_, rfl⟩
  have hm := jDg4_lt c.bs
  have hlen := jDg_len 4 0 c.bs h1
  have HD := Lib.hid (jnumber_good h hc h0 h1)
  have HI := Lib.hid (fun w => uis_any (D : Int) w)
  rw [← hDe] at HD hm
  have hR := jNum_pair h1 h2 h3
  have hok := CS.past_fine hc hlen
  have hb4 := CS.bs_past c 4
  rw [← hDe] at h2 h3 hR
  have hsur := uIs_no.mp (by simpa using h2)
  rw [show uIs (D : Int) = false by simpa using h2] at HI
  have p1 : decide ((56320 : Int) ≤ (D : Int)) = false := decide_eq_false (by omega)
  rw [h4] at hR hb4
  have h5 := CS.bs_some hok h0 hb4
  have hlen5 : 5 ≤ c.bs.length := by
    have := congrArg List.length h4
    rw [List.length_drop, List.length_cons] at this; omega
  have HB := Lib.hid (fun w h => byte_next (w := w) (b := b) h hok h0 hb4)
  have hb5 := h5.2.2.1
  have hok5 := h5.2.2.2
  rw [CS.past_past] at HB hb5 hok5
  have HB := Lib.hid (show ∀ w, CurT 89 w b (c.past 4) → Calls Tryz.prog 86 #[.pointer (some ⟨b, 0, none⟩)] w fun e w' => e = .returned (.int .u8 92) ∧ CurT 89 w' b (c.past 5) ∧ Only b w w' from fun w h => by
    have := HB.out w h
    rw [hx] at this; exact this)
  have h6 := CS.bs_some hok5 h0 hb5
  have hlen6 : 6 ≤ c.bs.length := by
    have := congrArg List.length h4
    rw [List.length_drop, List.length_cons, List.length_cons] at this; omega
  have HB2 := Lib.hid (fun w h => byte_next (w := w) (b := b) h hok5 h0 hb5)
  have hb6 := h6.2.2.1
  have hok6 := h6.2.2.2
  rw [CS.past_past] at HB2 hb6 hok6
  have HB2 := Lib.hid (show ∀ w, CurT 89 w b (c.past 5) → Calls Tryz.prog 86 #[.pointer (some ⟨b, 0, none⟩)] w fun e w' => e = .returned (.int .u8 117) ∧ CurT 89 w' b (c.past 6) ∧ Only b w w' from fun w h => by
    have := HB2.out w h
    rw [hy] at this; exact this)
  have hb6' := hb6
  rw [← hb6'] at hR
  rw [← hb6] at h7
  obtain ⟨M, hMe⟩ : ∃ M, M = (jDg 4 0 (c.past 6).bs).1 := ⟨_, rfl⟩
  have hm2 := jDg4_lt (c.past 6).bs
  have hlen10 := jDg_len 4 0 (c.past 6).bs h7
  have HC2 := Lib.hid (fun w h => jnumber_good (w := w) (b := b) h hok6 h0 h7)
  rw [← hMe] at HC2 hm2
  rw [CS.bs_past, List.length_drop] at hlen10
  have hlenX : 10 ≤ c.bs.length := by omega
  rw [CS.past_past] at HC2
  rw [← hb6, ← hMe] at h8
  have HR := Lib.hid (show jNum c.bs = ⟨0, 0, 6⟩ by rw [hR]; rw [jPair_out hx hy h7 (.inl (by rw [← hMe]; exact h8))]; rfl)
  have HA := Lib.hid (CAt.bad hc hlenX 0 (e := 6) (by decide))
  have HE := Lib.hid (show (c.past 10).er = 0 from h0)
  have q1 : decide ((M : Int) < 56320) = true := decide_eq_true (by omega)
  clear hc h0 h1 h2 h3 h4 h hlen hDe hR hok hb4 hsur h5 hlen5 hb5 hok5 hx h6 hlen6 hb6 hb6' hok6 hy h7 h8 hMe hlen10 hlenX
  go_enter Tryz.func117, Tryz.ntmps117
  go_wp2_with fail
  with_reducible refine HD.out.mono ?_
  rintro e w1 ⟨rfl, hq, ho⟩
  go_wp2_with fail
  with_reducible refine (HI.out _).mono ?_
  rintro e w2 ⟨rfl, hw⟩
  rw [hw]; clear hw
  go_wp2_with fail
  with_reducible refine (HB.out _ hq).mono ?_
  rintro e w3 ⟨rfl, hq3, ho3⟩
  go_wp2_with fail
  with_reducible refine (HB2.out _ hq3).mono ?_
  rintro e w4 ⟨rfl, hq4, ho4⟩
  go_wp2_with fail
  with_reducible refine (HC2.out _ hq4).mono ?_
  rintro e w5 ⟨rfl, hq5, ho5⟩
  go_wp2_with fail
  with_reducible refine (fail_fresh hq5 HE.out 6).mono ?_
  rintro e w6 ⟨rfl, hq6, ho6⟩
  go_wp2
  go_ret
  exact ⟨by rw [HR.out]; rfl, ⟨_, hq6, by rw [HR.out]; exact HA.out⟩, (((ho.trans ho3).trans ho4).trans ho5).trans ho6⟩
theorem jnumbered_great {b : Nat} {c : CS} {w : World} (h : CurT 89 w b c) (hc : c.ok) (h0 : c.er = 0) (h1 : (jDg 4 0 c.bs).2 = 0) (h2 : ¬ uIs (jDg 4 0 c.bs).1 = true) (h3 : ¬ 56320 ≤ (jDg 4 0 c.bs).1) {x y : UInt8} {t : List UInt8} (h4 : c.bs.drop 4 = x :: y :: t) (hx : x.toNat = 92) (hy : y.toNat = 117) (h7 : (jDg 4 0 t).2 = 0) (h8 : 57343 < (jDg 4 0 t).1) :
    Calls Tryz.prog 117 #[.pointer (some ⟨b, 0, none⟩)] w fun e w' => e = .returned (.int .i32 ((jNum c.bs).r : Nat)) ∧ (∃ c', CurT 89 w' b c' ∧ CAt c (jNum c.bs).k (jNum c.bs).e c') ∧ Only b w w' := by
  obtain ⟨D, hDe⟩ : ∃ D, D = (jDg 4 0 c.bs).1 := ⟨_, rfl⟩
  have hm := jDg4_lt c.bs
  have hlen := jDg_len 4 0 c.bs h1
  have HD := Lib.hid (jnumber_good h hc h0 h1)
  have HI := Lib.hid (fun w => uis_any (D : Int) w)
  rw [← hDe] at HD hm
  have hR := jNum_pair h1 h2 h3
  have hok := CS.past_fine hc hlen
  have hb4 := CS.bs_past c 4
  rw [← hDe] at h2 h3 hR
  have hsur := uIs_no.mp (by simpa using h2)
  rw [show uIs (D : Int) = false by simpa using h2] at HI
  have p1 : decide ((56320 : Int) ≤ (D : Int)) = false := decide_eq_false (by omega)
  rw [h4] at hR hb4
  have h5 := CS.bs_some hok h0 hb4
  have hlen5 : 5 ≤ c.bs.length := by
    have := congrArg List.length h4
    rw [List.length_drop, List.length_cons] at this; omega
  have HB := Lib.hid (fun w h => byte_next (w := w) (b := b) h hok h0 hb4)
  have hb5 := h5.2.2.1
  have hok5 := h5.2.2.2
  rw [CS.past_past] at HB hb5 hok5
  have HB := Lib.hid (show ∀ w, CurT 89 w b (c.past 4) → Calls Tryz.prog 86 #[.pointer (some ⟨b, 0, none⟩)] w fun e w' => e = .returned (.int .u8 92) ∧ CurT 89 w' b (c.past 5) ∧ Only b w w' from fun w h => by
    have := HB.out w h
    rw [hx] at this; exact this)
  have h6 := CS.bs_some hok5 h0 hb5
  have hlen6 : 6 ≤ c.bs.length := by
    have := congrArg List.length h4
    rw [List.length_drop, List.length_cons, List.length_cons] at this; omega
  have HB2 := Lib.hid (fun w h => byte_next (w := w) (b := b) h hok5 h0 hb5)
  have hb6 := h6.2.2.1
  have hok6 := h6.2.2.2
  rw [CS.past_past] at HB2 hb6 hok6
  have HB2 := Lib.hid (show ∀ w, CurT 89 w b (c.past 5) → Calls Tryz.prog 86 #[.pointer (some ⟨b, 0, none⟩)] w fun e w' => e = .returned (.int .u8 117) ∧ CurT 89 w' b (c.past 6) ∧ Only b w w' from fun w h => by
    have := HB2.out w h
    rw [hy] at this; exact this)
  have hb6' := hb6
  rw [← hb6'] at hR
  rw [← hb6] at h7
  obtain ⟨M, hMe⟩ : ∃ M, M = (jDg 4 0 (c.past 6).bs).1 := ⟨_, rfl⟩
  have hm2 := jDg4_lt (c.past 6).bs
  have hlen10 := jDg_len 4 0 (c.past 6).bs h7
  have HC2 := Lib.hid (fun w h => jnumber_good (w := w) (b := b) h hok6 h0 h7)
  rw [← hMe] at HC2 hm2
  rw [CS.bs_past, List.length_drop] at hlen10
  have hlenX : 10 ≤ c.bs.length := by omega
  rw [CS.past_past] at HC2
  rw [← hb6, ← hMe] at h8
  have HR := Lib.hid (show jNum c.bs = ⟨0, 0, 6⟩ by rw [hR]; rw [jPair_out hx hy h7 (.inr (by rw [← hMe]; exact h8))]; rfl)
  have HA := Lib.hid (CAt.bad hc hlenX 0 (e := 6) (by decide))
  have HE := Lib.hid (show (c.past 10).er = 0 from h0)
  have q1 : decide ((M : Int) < 56320) = false := decide_eq_false (by omega)
  have q2 : decide ((57344 : Int) ≤ (M : Int)) = true := decide_eq_true (by omega)
  clear hc h0 h1 h2 h3 h4 h hlen hDe hR hok hb4 hsur h5 hlen5 hb5 hok5 hx h6 hlen6 hb6 hb6' hok6 hy h7 h8 hMe hlen10 hlenX
  go_enter Tryz.func117, Tryz.ntmps117
  go_wp2_with fail
  with_reducible refine HD.out.mono ?_
  rintro e w1 ⟨rfl, hq, ho⟩
  go_wp2_with fail
  with_reducible refine (HI.out _).mono ?_
  rintro e w2 ⟨rfl, hw⟩
  rw [hw]; clear hw
  go_wp2_with fail
  with_reducible refine (HB.out _ hq).mono ?_
  rintro e w3 ⟨rfl, hq3, ho3⟩
  go_wp2_with fail
  with_reducible refine (HB2.out _ hq3).mono ?_
  rintro e w4 ⟨rfl, hq4, ho4⟩
  go_wp2_with fail
  with_reducible refine (HC2.out _ hq4).mono ?_
  rintro e w5 ⟨rfl, hq5, ho5⟩
  go_wp2_with fail
  with_reducible refine (fail_fresh hq5 HE.out 6).mono ?_
  rintro e w6 ⟨rfl, hq6, ho6⟩
  go_wp2
  go_ret
  exact ⟨by rw [HR.out]; rfl, ⟨_, hq6, by rw [HR.out]; exact HA.out⟩, (((ho.trans ho3).trans ho4).trans ho5).trans ho6⟩
theorem jnumbered_pair {b : Nat} {c : CS} {w : World} (h : CurT 89 w b c) (hc : c.ok) (h0 : c.er = 0) (h1 : (jDg 4 0 c.bs).2 = 0) (h2 : ¬ uIs (jDg 4 0 c.bs).1 = true) (h3 : ¬ 56320 ≤ (jDg 4 0 c.bs).1) {x y : UInt8} {t : List UInt8} (h4 : c.bs.drop 4 = x :: y :: t) (hx : x.toNat = 92) (hy : y.toNat = 117) (h7 : (jDg 4 0 t).2 = 0) (h8 : ¬ (jDg 4 0 t).1 < 56320) (h9 : ¬ 57343 < (jDg 4 0 t).1) :
    Calls Tryz.prog 117 #[.pointer (some ⟨b, 0, none⟩)] w fun e w' => e = .returned (.int .i32 ((jNum c.bs).r : Nat)) ∧ (∃ c', CurT 89 w' b c' ∧ CAt c (jNum c.bs).k (jNum c.bs).e c') ∧ Only b w w' := by
  obtain ⟨D, hDe⟩ : ∃ D, D = (jDg 4 0 c.bs).1 := ⟨_, rfl⟩
  have hm := jDg4_lt c.bs
  have hlen := jDg_len 4 0 c.bs h1
  have HD := Lib.hid (jnumber_good h hc h0 h1)
  have HI := Lib.hid (fun w => uis_any (D : Int) w)
  rw [← hDe] at HD hm
  have hR := jNum_pair h1 h2 h3
  have hok := CS.past_fine hc hlen
  have hb4 := CS.bs_past c 4
  rw [← hDe] at h2 h3 hR
  have hsur := uIs_no.mp (by simpa using h2)
  rw [show uIs (D : Int) = false by simpa using h2] at HI
  have p1 : decide ((56320 : Int) ≤ (D : Int)) = false := decide_eq_false (by omega)
  rw [h4] at hR hb4
  have h5 := CS.bs_some hok h0 hb4
  have hlen5 : 5 ≤ c.bs.length := by
    have := congrArg List.length h4
    rw [List.length_drop, List.length_cons] at this; omega
  have HB := Lib.hid (fun w h => byte_next (w := w) (b := b) h hok h0 hb4)
  have hb5 := h5.2.2.1
  have hok5 := h5.2.2.2
  rw [CS.past_past] at HB hb5 hok5
  have HB := Lib.hid (show ∀ w, CurT 89 w b (c.past 4) → Calls Tryz.prog 86 #[.pointer (some ⟨b, 0, none⟩)] w fun e w' => e = .returned (.int .u8 92) ∧ CurT 89 w' b (c.past 5) ∧ Only b w w' from fun w h => by
    have := HB.out w h
    rw [hx] at this; exact this)
  have h6 := CS.bs_some hok5 h0 hb5
  have hlen6 : 6 ≤ c.bs.length := by
    have := congrArg List.length h4
    rw [List.length_drop, List.length_cons, List.length_cons] at this; omega
  have HB2 := Lib.hid (fun w h => byte_next (w := w) (b := b) h hok5 h0 hb5)
  have hb6 := h6.2.2.1
  have hok6 := h6.2.2.2
  rw [CS.past_past] at HB2 hb6 hok6
  have HB2 := Lib.hid (show ∀ w, CurT 89 w b (c.past 5) → Calls Tryz.prog 86 #[.pointer (some ⟨b, 0, none⟩)] w fun e w' => e = .returned (.int .u8 117) ∧ CurT 89 w' b (c.past 6) ∧ Only b w w' from fun w h => by
    have := HB2.out w h
    rw [hy] at this; exact this)
  have hb6' := hb6
  rw [← hb6'] at hR
  rw [← hb6] at h7
  obtain ⟨M, hMe⟩ : ∃ M, M = (jDg 4 0 (c.past 6).bs).1 := ⟨_, rfl⟩
  have hm2 := jDg4_lt (c.past 6).bs
  have hlen10 := jDg_len 4 0 (c.past 6).bs h7
  have HC2 := Lib.hid (fun w h => jnumber_good (w := w) (b := b) h hok6 h0 h7)
  rw [← hMe] at HC2 hm2
  rw [CS.bs_past, List.length_drop] at hlen10
  have hlenX : 10 ≤ c.bs.length := by omega
  rw [CS.past_past] at HC2
  rw [← hb6, ← hMe] at h8 h9
  obtain ⟨d, hd⟩ : ∃ d, d = D - 55296 := ⟨_, rfl⟩
  obtain ⟨m, hmm⟩ : ∃ m, m = M - 56320 := ⟨_, rfl⟩
  obtain ⟨V, hV⟩ : ∃ V, V = 65536 + 1024 * d + m := ⟨_, rfl⟩
  have HR := Lib.hid (show jNum c.bs = ⟨V, 10, 0⟩ by
    rw [hR, jPair_in hx hy h7 (by rw [← hMe]; exact h8) (by rw [← hMe]; exact h9), ← hMe, ← hd, ← hmm, ← hV]; rfl)
  have HA := Lib.hid (CAt.past hc h0 hlenX)
  have q1 : decide ((M : Int) < 56320) = false := decide_eq_false (by omega)
  have q2 : decide ((57344 : Int) ≤ (M : Int)) = false := decide_eq_false (by omega)
  have hs1 := hsur
  have z1 : IntKind.i32.wrap ((D : Int) - 55296) = (d : Int) := by rw [IntWalk.i32_in _ (by omega)]; omega
  have z2 : IntKind.i32.wrap (1024 * (d : Int)) = 1024 * (d : Int) := IntWalk.i32_in _ (by omega)
  have z3 : IntKind.i32.wrap (65536 + 1024 * (d : Int)) = 65536 + 1024 * (d : Int) := IntWalk.i32_in _ (by omega)
  have z4 : IntKind.i32.wrap ((M : Int) - 56320) = (m : Int) := by rw [IntWalk.i32_in _ (by omega)]; omega
  have z5 : IntKind.i32.wrap (65536 + 1024 * (d : Int) + (m : Int)) = (V : Int) := by rw [IntWalk.i32_in _ (by omega)]; omega
  clear hc h0 h1 h2 h3 h4 h hlen hDe hR hok hb4 hsur h5 hlen5 hb5 hok5 hx h6 hlen6 hb6 hb6' hok6 hy h7 h8 h9 hMe hlen10 hlenX hd hmm hV hs1
  go_enter Tryz.func117, Tryz.ntmps117
  go_wp2_with fail
  with_reducible refine HD.out.mono ?_
  rintro e w1 ⟨rfl, hq, ho⟩
  go_wp2_with fail
  with_reducible refine (HI.out _).mono ?_
  rintro e w2 ⟨rfl, hw⟩
  rw [hw]; clear hw
  go_wp2_with fail
  with_reducible refine (HB.out _ hq).mono ?_
  rintro e w3 ⟨rfl, hq3, ho3⟩
  go_wp2_with fail
  with_reducible refine (HB2.out _ hq3).mono ?_
  rintro e w4 ⟨rfl, hq4, ho4⟩
  go_wp2_with fail
  with_reducible refine (HC2.out _ hq4).mono ?_
  rintro e w5 ⟨rfl, hq5, ho5⟩
  go_wp2
  go_ret
  exact ⟨by rw [HR.out]; rfl, ⟨_, hq5, by rw [HR.out]; exact HA.out⟩, ((ho.trans ho3).trans ho4).trans ho5⟩
theorem jnumbered_any {b : Nat} {c : CS} {w : World} (h : CurT 89 w b c) (hc : c.ok) (h0 : c.er = 0) :
    Calls Tryz.prog 117 #[.pointer (some ⟨b, 0, none⟩)] w fun e w' => e = .returned (.int .i32 ((jNum c.bs).r : Nat)) ∧ (∃ c', CurT 89 w' b c' ∧ CAt c (jNum c.bs).k (jNum c.bs).e c') ∧ Only b w w' := by
  by_cases h1 : (jDg 4 0 c.bs).2 = 0
  · by_cases h2 : uIs (jDg 4 0 c.bs).1 = true
    · exact jnumbered_char h hc h0 h1 h2
    · by_cases h3 : 56320 ≤ (jDg 4 0 c.bs).1
      · exact jnumbered_second h hc h0 h1 h2 h3
      · match h4 : c.bs.drop 4 with
        | [] => exact jnumbered_end h hc h0 h1 h2 h3 h4
        | x :: t =>
          by_cases hx : x.toNat = 92
          · match t, h4 with
            | [], h4 => exact jnumbered_end2 h hc h0 h1 h2 h3 h4 hx
            | y :: t, h4 =>
              by_cases hy : y.toNat = 117
              · by_cases h7 : (jDg 4 0 t).2 = 0
                · by_cases h8 : (jDg 4 0 t).1 < 56320
                  · exact jnumbered_least h hc h0 h1 h2 h3 h4 hx hy h7 h8
                  · by_cases h9 : 57343 < (jDg 4 0 t).1
                    · exact jnumbered_great h hc h0 h1 h2 h3 h4 hx hy h7 h9
                    · exact jnumbered_pair h hc h0 h1 h2 h3 h4 hx hy h7 h8 h9
                · exact jnumbered_bad2 h hc h0 h1 h2 h3 h4 hx hy h7
              · exact jnumbered_other2 h hc h0 h1 h2 h3 h4 hx hy
          · exact jnumbered_other h hc h0 h1 h2 h3 h4 hx
  · exact jnumbered_bad h hc h0 h1
end Go.Proofs.YtnbhhnkcfbfdcaaGreatDoor
/- Package jstring's escaped. -/
namespace Go.Proofs.YtnbhhnkcfbfdcaaGreatDoor
open Go Go.RowKit
set_option linter.unusedVariables false

theorem jesc_34 {b : Nat} {c : CS} {w : World} (h : CurT 89 w b c) (hc : c.ok) (h0 : c.er = 0) {x : UInt8} {t : List UInt8} (hb : c.bs = x :: t) (hx : x.toNat = 34) :
    Calls Tryz.prog 100 #[.pointer (some ⟨b, 0, none⟩)] w fun e w' => e = .returned (.int .i32 34) ∧ CurT 89 w' b (c.past 1) ∧ Only b w w' := by
  have HB := Lib.hid (show Calls Tryz.prog 86 #[.pointer (some ⟨b, 0, none⟩)] w fun e w' => e = .returned (.int .u8 34) ∧ CurT 89 w' b (c.past 1) ∧ Only b w w' by
    have := byte_next h hc h0 hb
    rw [hx] at this; exact this)
  clear hc h0 hb hx h
  go_enter Tryz.func100, Tryz.ntmps100
  go_wp2_with fail
  with_reducible refine HB.out.mono ?_
  rintro e w1 ⟨rfl, hq, ho⟩
  go_wp2
  go_ret
  exact ⟨rfl, hq, ho⟩
theorem jesc_92 {b : Nat} {c : CS} {w : World} (h : CurT 89 w b c) (hc : c.ok) (h0 : c.er = 0) {x : UInt8} {t : List UInt8} (hb : c.bs = x :: t) (hx : x.toNat = 92) :
    Calls Tryz.prog 100 #[.pointer (some ⟨b, 0, none⟩)] w fun e w' => e = .returned (.int .i32 92) ∧ CurT 89 w' b (c.past 1) ∧ Only b w w' := by
  have HB := Lib.hid (show Calls Tryz.prog 86 #[.pointer (some ⟨b, 0, none⟩)] w fun e w' => e = .returned (.int .u8 92) ∧ CurT 89 w' b (c.past 1) ∧ Only b w w' by
    have := byte_next h hc h0 hb
    rw [hx] at this; exact this)
  clear hc h0 hb hx h
  go_enter Tryz.func100, Tryz.ntmps100
  go_wp2_with fail
  with_reducible refine HB.out.mono ?_
  rintro e w1 ⟨rfl, hq, ho⟩
  go_wp2
  go_ret
  exact ⟨rfl, hq, ho⟩
theorem jesc_47 {b : Nat} {c : CS} {w : World} (h : CurT 89 w b c) (hc : c.ok) (h0 : c.er = 0) {x : UInt8} {t : List UInt8} (hb : c.bs = x :: t) (hx : x.toNat = 47) :
    Calls Tryz.prog 100 #[.pointer (some ⟨b, 0, none⟩)] w fun e w' => e = .returned (.int .i32 47) ∧ CurT 89 w' b (c.past 1) ∧ Only b w w' := by
  have HB := Lib.hid (show Calls Tryz.prog 86 #[.pointer (some ⟨b, 0, none⟩)] w fun e w' => e = .returned (.int .u8 47) ∧ CurT 89 w' b (c.past 1) ∧ Only b w w' by
    have := byte_next h hc h0 hb
    rw [hx] at this; exact this)
  clear hc h0 hb hx h
  go_enter Tryz.func100, Tryz.ntmps100
  go_wp2_with fail
  with_reducible refine HB.out.mono ?_
  rintro e w1 ⟨rfl, hq, ho⟩
  go_wp2
  go_ret
  exact ⟨rfl, hq, ho⟩
theorem jesc_98 {b : Nat} {c : CS} {w : World} (h : CurT 89 w b c) (hc : c.ok) (h0 : c.er = 0) {x : UInt8} {t : List UInt8} (hb : c.bs = x :: t) (hx : x.toNat = 98) :
    Calls Tryz.prog 100 #[.pointer (some ⟨b, 0, none⟩)] w fun e w' => e = .returned (.int .i32 8) ∧ CurT 89 w' b (c.past 1) ∧ Only b w w' := by
  have HB := Lib.hid (show Calls Tryz.prog 86 #[.pointer (some ⟨b, 0, none⟩)] w fun e w' => e = .returned (.int .u8 98) ∧ CurT 89 w' b (c.past 1) ∧ Only b w w' by
    have := byte_next h hc h0 hb
    rw [hx] at this; exact this)
  clear hc h0 hb hx h
  go_enter Tryz.func100, Tryz.ntmps100
  go_wp2_with fail
  with_reducible refine HB.out.mono ?_
  rintro e w1 ⟨rfl, hq, ho⟩
  go_wp2
  go_ret
  exact ⟨rfl, hq, ho⟩
theorem jesc_102 {b : Nat} {c : CS} {w : World} (h : CurT 89 w b c) (hc : c.ok) (h0 : c.er = 0) {x : UInt8} {t : List UInt8} (hb : c.bs = x :: t) (hx : x.toNat = 102) :
    Calls Tryz.prog 100 #[.pointer (some ⟨b, 0, none⟩)] w fun e w' => e = .returned (.int .i32 12) ∧ CurT 89 w' b (c.past 1) ∧ Only b w w' := by
  have HB := Lib.hid (show Calls Tryz.prog 86 #[.pointer (some ⟨b, 0, none⟩)] w fun e w' => e = .returned (.int .u8 102) ∧ CurT 89 w' b (c.past 1) ∧ Only b w w' by
    have := byte_next h hc h0 hb
    rw [hx] at this; exact this)
  clear hc h0 hb hx h
  go_enter Tryz.func100, Tryz.ntmps100
  go_wp2_with fail
  with_reducible refine HB.out.mono ?_
  rintro e w1 ⟨rfl, hq, ho⟩
  go_wp2
  go_ret
  exact ⟨rfl, hq, ho⟩
theorem jesc_110 {b : Nat} {c : CS} {w : World} (h : CurT 89 w b c) (hc : c.ok) (h0 : c.er = 0) {x : UInt8} {t : List UInt8} (hb : c.bs = x :: t) (hx : x.toNat = 110) :
    Calls Tryz.prog 100 #[.pointer (some ⟨b, 0, none⟩)] w fun e w' => e = .returned (.int .i32 10) ∧ CurT 89 w' b (c.past 1) ∧ Only b w w' := by
  have HB := Lib.hid (show Calls Tryz.prog 86 #[.pointer (some ⟨b, 0, none⟩)] w fun e w' => e = .returned (.int .u8 110) ∧ CurT 89 w' b (c.past 1) ∧ Only b w w' by
    have := byte_next h hc h0 hb
    rw [hx] at this; exact this)
  clear hc h0 hb hx h
  go_enter Tryz.func100, Tryz.ntmps100
  go_wp2_with fail
  with_reducible refine HB.out.mono ?_
  rintro e w1 ⟨rfl, hq, ho⟩
  go_wp2
  go_ret
  exact ⟨rfl, hq, ho⟩
theorem jesc_114 {b : Nat} {c : CS} {w : World} (h : CurT 89 w b c) (hc : c.ok) (h0 : c.er = 0) {x : UInt8} {t : List UInt8} (hb : c.bs = x :: t) (hx : x.toNat = 114) :
    Calls Tryz.prog 100 #[.pointer (some ⟨b, 0, none⟩)] w fun e w' => e = .returned (.int .i32 13) ∧ CurT 89 w' b (c.past 1) ∧ Only b w w' := by
  have HB := Lib.hid (show Calls Tryz.prog 86 #[.pointer (some ⟨b, 0, none⟩)] w fun e w' => e = .returned (.int .u8 114) ∧ CurT 89 w' b (c.past 1) ∧ Only b w w' by
    have := byte_next h hc h0 hb
    rw [hx] at this; exact this)
  clear hc h0 hb hx h
  go_enter Tryz.func100, Tryz.ntmps100
  go_wp2_with fail
  with_reducible refine HB.out.mono ?_
  rintro e w1 ⟨rfl, hq, ho⟩
  go_wp2
  go_ret
  exact ⟨rfl, hq, ho⟩
theorem jesc_116 {b : Nat} {c : CS} {w : World} (h : CurT 89 w b c) (hc : c.ok) (h0 : c.er = 0) {x : UInt8} {t : List UInt8} (hb : c.bs = x :: t) (hx : x.toNat = 116) :
    Calls Tryz.prog 100 #[.pointer (some ⟨b, 0, none⟩)] w fun e w' => e = .returned (.int .i32 9) ∧ CurT 89 w' b (c.past 1) ∧ Only b w w' := by
  have HB := Lib.hid (show Calls Tryz.prog 86 #[.pointer (some ⟨b, 0, none⟩)] w fun e w' => e = .returned (.int .u8 116) ∧ CurT 89 w' b (c.past 1) ∧ Only b w w' by
    have := byte_next h hc h0 hb
    rw [hx] at this; exact this)
  clear hc h0 hb hx h
  go_enter Tryz.func100, Tryz.ntmps100
  go_wp2_with fail
  with_reducible refine HB.out.mono ?_
  rintro e w1 ⟨rfl, hq, ho⟩
  go_wp2
  go_ret
  exact ⟨rfl, hq, ho⟩
theorem jesc_117 {b : Nat} {c : CS} {w : World} (h : CurT 89 w b c) (hc : c.ok) (h0 : c.er = 0) {x : UInt8} {t : List UInt8} (hb : c.bs = x :: t) (hx : x.toNat = 117) :
    Calls Tryz.prog 100 #[.pointer (some ⟨b, 0, none⟩)] w fun e w' => e = .returned (.int .i32 ((jNum t).r : Nat)) ∧ (∃ c', CurT 89 w' b c' ∧ CAt (c.past 1) (jNum t).k (jNum t).e c') ∧ Only b w w' := by
  have HB := Lib.hid (show Calls Tryz.prog 86 #[.pointer (some ⟨b, 0, none⟩)] w fun e w' => e = .returned (.int .u8 117) ∧ CurT 89 w' b (c.past 1) ∧ Only b w w' by
    have := byte_next h hc h0 hb
    rw [hx] at this; exact this)
  obtain ⟨_, _, h3, h4⟩ := CS.bs_some hc h0 hb
  have HN := Lib.hid (fun w h => jnumbered_any (w := w) (b := b) h h4 h0)
  rw [h3] at HN
  clear hc h0 hb hx h h3 h4
  go_enter Tryz.func100, Tryz.ntmps100
  go_wp2_with fail
  with_reducible refine HB.out.mono ?_
  rintro e w1 ⟨rfl, hq, ho⟩
  go_wp2_with fail
  with_reducible refine (HN.out _ hq).mono ?_
  rintro e w2 ⟨rfl, hA, ho2⟩
  go_wp2
  go_ret
  exact ⟨rfl, hA, ho.trans ho2⟩
theorem jesc_other {b : Nat} {c : CS} {w : World} (h : CurT 89 w b c) (hc : c.ok) (h0 : c.er = 0) {x : UInt8} {t : List UInt8} (hb : c.bs = x :: t) (hx : ¬ x.toNat = 117) (hx2 : jSim x.toNat = 0) :
    Calls Tryz.prog 100 #[.pointer (some ⟨b, 0, none⟩)] w fun e w' => e = .returned (.int .i32 0) ∧ CurT 89 w' b ((c.past 1).bad 6) ∧ Only b w w' := by
  have HB := Lib.hid (byte_next h hc h0 hb)
  have HE := Lib.hid (show (c.past 1).er = 0 from h0)
  obtain ⟨X, hXe⟩ : ∃ X, X = x.toNat := ⟨_, rfl⟩
  rw [← hXe] at HB hx hx2
  have n34 : ¬ X = 34 := fun h => by rw [h] at hx2; exact absurd hx2 (by decide)
  have n92 : ¬ X = 92 := fun h => by rw [h] at hx2; exact absurd hx2 (by decide)
  have n47 : ¬ X = 47 := fun h => by rw [h] at hx2; exact absurd hx2 (by decide)
  have n98 : ¬ X = 98 := fun h => by rw [h] at hx2; exact absurd hx2 (by decide)
  have n102 : ¬ X = 102 := fun h => by rw [h] at hx2; exact absurd hx2 (by decide)
  have n110 : ¬ X = 110 := fun h => by rw [h] at hx2; exact absurd hx2 (by decide)
  have n114 : ¬ X = 114 := fun h => by rw [h] at hx2; exact absurd hx2 (by decide)
  have n116 : ¬ X = 116 := fun h => by rw [h] at hx2; exact absurd hx2 (by decide)
  have p34 : ((X : Int) == 34) = false := beq_eq_false_iff_ne.mpr (by omega)
  have p92 : ((X : Int) == 92) = false := beq_eq_false_iff_ne.mpr (by omega)
  have p47 : ((X : Int) == 47) = false := beq_eq_false_iff_ne.mpr (by omega)
  have p98 : ((X : Int) == 98) = false := beq_eq_false_iff_ne.mpr (by omega)
  have p102 : ((X : Int) == 102) = false := beq_eq_false_iff_ne.mpr (by omega)
  have p110 : ((X : Int) == 110) = false := beq_eq_false_iff_ne.mpr (by omega)
  have p114 : ((X : Int) == 114) = false := beq_eq_false_iff_ne.mpr (by omega)
  have p116 : ((X : Int) == 116) = false := beq_eq_false_iff_ne.mpr (by omega)
  have p117 : ((X : Int) == 117) = false := beq_eq_false_iff_ne.mpr (by omega)
  clear hc h0 hb hx h hx2 hXe n34 n92 n47 n98 n102 n110 n114 n116
  go_enter Tryz.func100, Tryz.ntmps100
  go_wp2_with fail
  with_reducible refine HB.out.mono ?_
  rintro e w1 ⟨rfl, hq, ho⟩
  go_wp2_with fail
  with_reducible refine (fail_fresh hq HE.out 6).mono ?_
  rintro e w2 ⟨rfl, hq2, ho2⟩
  go_wp2
  go_ret
  exact ⟨rfl, hq2, ho.trans ho2⟩
theorem jesc_none {b : Nat} {c : CS} {w : World} (h : CurT 89 w b c) (hc : c.ok) (h0 : c.er = 0) (hb : c.bs = []) :
    Calls Tryz.prog 100 #[.pointer (some ⟨b, 0, none⟩)] w fun e w' => e = .returned (.int .i32 0) ∧ CurT 89 w' b (c.bad 1) ∧ Only b w w' := by
  have HB := Lib.hid (byte_lacks h hc h0 hb)
  have HNE := Lib.hid (show ¬ (c.bad 1).er = 0 by show ¬ (1 : Int) = 0; decide)
  clear hc h0 hb h
  go_enter Tryz.func100, Tryz.ntmps100
  go_wp2_with fail
  with_reducible refine HB.out.mono ?_
  rintro e w1 ⟨rfl, hq, ho⟩
  go_wp2_with fail
  with_reducible refine (fail_more hq HNE.out 6).mono ?_
  rintro e w2 ⟨rfl, hq2, ho2⟩
  go_wp2
  go_ret
  exact ⟨rfl, hq2, ho.trans ho2⟩
theorem jPair_none {n : Nat} {l : List UInt8} (h : ¬ (jPair n l).e = 0) : (jPair n l).r = 0 := by
  match l, h with
  | [], _ => rfl
  | [a], h =>
    simp only [jPair] at h ⊢
    split <;> rfl
  | a :: b :: u, h =>
    simp only [jPair] at h ⊢
    by_cases h1 : a.toNat = 92
    · rw [if_pos h1] at h ⊢
      by_cases h2 : b.toNat = 117
      · rw [if_pos h2] at h ⊢
        by_cases h3 : (jDg 4 0 u).2 = 0
        · rw [if_pos h3] at h ⊢
          by_cases h4 : (jDg 4 0 u).1 < 56320 ∨ 57343 < (jDg 4 0 u).1
          · rw [if_pos h4]
          · rw [if_neg h4] at h; exact absurd rfl h
        · rw [if_neg h3]
      · rw [if_neg h2]
    · rw [if_neg h1]
theorem jNum_none {l : List UInt8} (h : ¬ (jNum l).e = 0) : (jNum l).r = 0 := by
  unfold jNum at h ⊢
  by_cases h1 : (jDg 4 0 l).2 = 0
  · rw [if_pos h1] at h ⊢
    by_cases h2 : uIs (jDg 4 0 l).1 = true
    · rw [if_pos h2] at h; exact absurd rfl h
    · rw [if_neg h2] at h ⊢
      by_cases h3 : 56320 ≤ (jDg 4 0 l).1
      · rw [if_pos h3]
      · rw [if_neg h3] at h ⊢
        by_cases h4 : (jPair (jDg 4 0 l).1 (l.drop 4)).e = 0
        · rw [if_pos h4] at h; exact absurd rfl h
        · rw [if_neg h4]
  · rw [if_neg h1]
theorem jescaped_any {b : Nat} {c : CS} {w : World} (h : CurT 89 w b c) (hc : c.ok) (h0 : c.er = 0) :
    Calls Tryz.prog 100 #[.pointer (some ⟨b, 0, none⟩)] w fun e w' => e = .returned (.int .i32 ((jEsc c.bs).r : Nat)) ∧ (∃ c', CurT 89 w' b c' ∧ CAt c (jEsc c.bs).k (jEsc c.bs).e c') ∧ Only b w w' := by
  match hb : c.bs with
  | [] =>
    refine (jesc_none h hc h0 hb).mono ?_
    rintro e w' ⟨rfl, hq, ho⟩
    exact ⟨rfl, ⟨_, hq, CAt.bad0 hc 0 (by decide)⟩, ho⟩
  | x :: t =>
    have hl : 1 ≤ c.bs.length := by rw [hb]; simp
    by_cases hx : x.toNat = 117
    · refine (jesc_117 h hc h0 hb hx).mono ?_
      rintro e w' ⟨rfl, ⟨c', hq, hA⟩, ho⟩
      by_cases he : (jNum t).e = 0
      · have hR : jEsc (x :: t) = ⟨(jNum t).r, (jNum t).k + 1, 0⟩ := by simp only [jEsc]; rw [if_pos hx, if_pos he]
        rw [hR]
        rw [he] at hA
        refine ⟨rfl, ⟨c', hq, ?_⟩, ho⟩
        have := hA.more
        rw [Nat.add_comm] at this; exact this
      · have hR : jEsc (x :: t) = ⟨0, 0, (jNum t).e⟩ := by simp only [jEsc]; rw [if_pos hx, if_neg he]
        rw [hR]
        have h1 : (jNum t).r = 0 := jNum_none he
        rw [h1]
        exact ⟨rfl, ⟨c', hq, (hA.more).no he⟩, ho⟩
    · by_cases hs : jSim x.toNat = 0
      · have hR : jEsc (x :: t) = ⟨0, 0, 6⟩ := by simp only [jEsc]; rw [if_neg hx, if_pos hs]
        rw [hR]
        refine (jesc_other h hc h0 hb hx hs).mono ?_
        rintro e w' ⟨rfl, hq, ho⟩
        exact ⟨rfl, ⟨_, hq, CAt.bad hc hl 0 (by decide)⟩, ho⟩
      · have hR : jEsc (x :: t) = ⟨jSim x.toNat, 1, 0⟩ := by simp only [jEsc]; rw [if_neg hx, if_neg hs]
        rw [hR]
        have key : ∀ {v : Nat}, jSim x.toNat = v → (Calls Tryz.prog 100 #[.pointer (some ⟨b, 0, none⟩)] w fun e w' => e = .returned (.int .i32 (v : Nat)) ∧ CurT 89 w' b (c.past 1) ∧ Only b w w') →
            Calls Tryz.prog 100 #[.pointer (some ⟨b, 0, none⟩)] w fun e w' => e = .returned (.int .i32 ((jSim x.toNat : Nat) : Int)) ∧ (∃ c', CurT 89 w' b c' ∧ CAt c 1 0 c') ∧ Only b w w' := fun {v} hv hC => by
          rw [hv]
          refine hC.mono ?_
          rintro e w' ⟨he, hq, ho⟩
          exact ⟨he, ⟨_, hq, CAt.past hc h0 hl⟩, ho⟩
        show Calls _ _ _ _ fun e w' => e = .returned (.int .i32 ((jSim x.toNat : Nat) : Int)) ∧ (∃ c', CurT 89 w' b c' ∧ CAt c 1 0 c') ∧ Only b w w'
        by_cases x34 : x.toNat = 34
        · exact key (v := 34) (by rw [x34]; rfl) (jesc_34 h hc h0 hb x34)
        by_cases x92 : x.toNat = 92
        · exact key (v := 92) (by rw [x92]; rfl) (jesc_92 h hc h0 hb x92)
        by_cases x47 : x.toNat = 47
        · exact key (v := 47) (by rw [x47]; rfl) (jesc_47 h hc h0 hb x47)
        by_cases x98 : x.toNat = 98
        · exact key (v := 8) (by rw [x98]; rfl) (jesc_98 h hc h0 hb x98)
        by_cases x102 : x.toNat = 102
        · exact key (v := 12) (by rw [x102]; rfl) (jesc_102 h hc h0 hb x102)
        by_cases x110 : x.toNat = 110
        · exact key (v := 10) (by rw [x110]; rfl) (jesc_110 h hc h0 hb x110)
        by_cases x114 : x.toNat = 114
        · exact key (v := 13) (by rw [x114]; rfl) (jesc_114 h hc h0 hb x114)
        by_cases x116 : x.toNat = 116
        · exact key (v := 9) (by rw [x116]; rfl) (jesc_116 h hc h0 hb x116)
        exact absurd (show jSim x.toNat = 0 by unfold jSim; rw [if_neg x34, if_neg x92, if_neg x47, if_neg x98, if_neg x102, if_neg x110, if_neg x114, if_neg x116]) hs
end Go.Proofs.YtnbhhnkcfbfdcaaGreatDoor
