/- Package jstring's escaped. -/
import Derived.Test.YteakcfgjjlocjaaDoorJsHex
namespace Go.Proofs.YteakcfgjjlocjaaDoor
open Go Go.RowKit
set_option linter.unusedVariables false

theorem jesc_34 {b : Nat} {c : CS} {w : World} (h : CurT 42 w b c) (hc : c.ok) (h0 : c.er = 0) {x : UInt8} {t : List UInt8} (hb : c.bs = x :: t) (hx : x.toNat = 34) :
    Calls Tryd.prog 23 #[.pointer (some ⟨b, 0, none⟩)] w fun e w' => e = .returned (.int .i32 34) ∧ CurT 42 w' b (c.past 1) ∧ Only b w w' := by
  have HB := Lib.hid (show Calls Tryd.prog 19 #[.pointer (some ⟨b, 0, none⟩)] w fun e w' => e = .returned (.int .u8 34) ∧ CurT 42 w' b (c.past 1) ∧ Only b w w' by
    have := byte_next h hc h0 hb
    rw [hx] at this; exact this)
  clear hc h0 hb hx h
  go_enter Tryd.func23, Tryd.ntmps23
  go_wp2_with fail
  with_reducible refine HB.out.mono ?_
  rintro e w1 ⟨rfl, hq, ho⟩
  go_wp2
  go_ret
  exact ⟨rfl, hq, ho⟩
theorem jesc_92 {b : Nat} {c : CS} {w : World} (h : CurT 42 w b c) (hc : c.ok) (h0 : c.er = 0) {x : UInt8} {t : List UInt8} (hb : c.bs = x :: t) (hx : x.toNat = 92) :
    Calls Tryd.prog 23 #[.pointer (some ⟨b, 0, none⟩)] w fun e w' => e = .returned (.int .i32 92) ∧ CurT 42 w' b (c.past 1) ∧ Only b w w' := by
  have HB := Lib.hid (show Calls Tryd.prog 19 #[.pointer (some ⟨b, 0, none⟩)] w fun e w' => e = .returned (.int .u8 92) ∧ CurT 42 w' b (c.past 1) ∧ Only b w w' by
    have := byte_next h hc h0 hb
    rw [hx] at this; exact this)
  clear hc h0 hb hx h
  go_enter Tryd.func23, Tryd.ntmps23
  go_wp2_with fail
  with_reducible refine HB.out.mono ?_
  rintro e w1 ⟨rfl, hq, ho⟩
  go_wp2
  go_ret
  exact ⟨rfl, hq, ho⟩
theorem jesc_47 {b : Nat} {c : CS} {w : World} (h : CurT 42 w b c) (hc : c.ok) (h0 : c.er = 0) {x : UInt8} {t : List UInt8} (hb : c.bs = x :: t) (hx : x.toNat = 47) :
    Calls Tryd.prog 23 #[.pointer (some ⟨b, 0, none⟩)] w fun e w' => e = .returned (.int .i32 47) ∧ CurT 42 w' b (c.past 1) ∧ Only b w w' := by
  have HB := Lib.hid (show Calls Tryd.prog 19 #[.pointer (some ⟨b, 0, none⟩)] w fun e w' => e = .returned (.int .u8 47) ∧ CurT 42 w' b (c.past 1) ∧ Only b w w' by
    have := byte_next h hc h0 hb
    rw [hx] at this; exact this)
  clear hc h0 hb hx h
  go_enter Tryd.func23, Tryd.ntmps23
  go_wp2_with fail
  with_reducible refine HB.out.mono ?_
  rintro e w1 ⟨rfl, hq, ho⟩
  go_wp2
  go_ret
  exact ⟨rfl, hq, ho⟩
theorem jesc_98 {b : Nat} {c : CS} {w : World} (h : CurT 42 w b c) (hc : c.ok) (h0 : c.er = 0) {x : UInt8} {t : List UInt8} (hb : c.bs = x :: t) (hx : x.toNat = 98) :
    Calls Tryd.prog 23 #[.pointer (some ⟨b, 0, none⟩)] w fun e w' => e = .returned (.int .i32 8) ∧ CurT 42 w' b (c.past 1) ∧ Only b w w' := by
  have HB := Lib.hid (show Calls Tryd.prog 19 #[.pointer (some ⟨b, 0, none⟩)] w fun e w' => e = .returned (.int .u8 98) ∧ CurT 42 w' b (c.past 1) ∧ Only b w w' by
    have := byte_next h hc h0 hb
    rw [hx] at this; exact this)
  clear hc h0 hb hx h
  go_enter Tryd.func23, Tryd.ntmps23
  go_wp2_with fail
  with_reducible refine HB.out.mono ?_
  rintro e w1 ⟨rfl, hq, ho⟩
  go_wp2
  go_ret
  exact ⟨rfl, hq, ho⟩
theorem jesc_102 {b : Nat} {c : CS} {w : World} (h : CurT 42 w b c) (hc : c.ok) (h0 : c.er = 0) {x : UInt8} {t : List UInt8} (hb : c.bs = x :: t) (hx : x.toNat = 102) :
    Calls Tryd.prog 23 #[.pointer (some ⟨b, 0, none⟩)] w fun e w' => e = .returned (.int .i32 12) ∧ CurT 42 w' b (c.past 1) ∧ Only b w w' := by
  have HB := Lib.hid (show Calls Tryd.prog 19 #[.pointer (some ⟨b, 0, none⟩)] w fun e w' => e = .returned (.int .u8 102) ∧ CurT 42 w' b (c.past 1) ∧ Only b w w' by
    have := byte_next h hc h0 hb
    rw [hx] at this; exact this)
  clear hc h0 hb hx h
  go_enter Tryd.func23, Tryd.ntmps23
  go_wp2_with fail
  with_reducible refine HB.out.mono ?_
  rintro e w1 ⟨rfl, hq, ho⟩
  go_wp2
  go_ret
  exact ⟨rfl, hq, ho⟩
theorem jesc_110 {b : Nat} {c : CS} {w : World} (h : CurT 42 w b c) (hc : c.ok) (h0 : c.er = 0) {x : UInt8} {t : List UInt8} (hb : c.bs = x :: t) (hx : x.toNat = 110) :
    Calls Tryd.prog 23 #[.pointer (some ⟨b, 0, none⟩)] w fun e w' => e = .returned (.int .i32 10) ∧ CurT 42 w' b (c.past 1) ∧ Only b w w' := by
  have HB := Lib.hid (show Calls Tryd.prog 19 #[.pointer (some ⟨b, 0, none⟩)] w fun e w' => e = .returned (.int .u8 110) ∧ CurT 42 w' b (c.past 1) ∧ Only b w w' by
    have := byte_next h hc h0 hb
    rw [hx] at this; exact this)
  clear hc h0 hb hx h
  go_enter Tryd.func23, Tryd.ntmps23
  go_wp2_with fail
  with_reducible refine HB.out.mono ?_
  rintro e w1 ⟨rfl, hq, ho⟩
  go_wp2
  go_ret
  exact ⟨rfl, hq, ho⟩
theorem jesc_114 {b : Nat} {c : CS} {w : World} (h : CurT 42 w b c) (hc : c.ok) (h0 : c.er = 0) {x : UInt8} {t : List UInt8} (hb : c.bs = x :: t) (hx : x.toNat = 114) :
    Calls Tryd.prog 23 #[.pointer (some ⟨b, 0, none⟩)] w fun e w' => e = .returned (.int .i32 13) ∧ CurT 42 w' b (c.past 1) ∧ Only b w w' := by
  have HB := Lib.hid (show Calls Tryd.prog 19 #[.pointer (some ⟨b, 0, none⟩)] w fun e w' => e = .returned (.int .u8 114) ∧ CurT 42 w' b (c.past 1) ∧ Only b w w' by
    have := byte_next h hc h0 hb
    rw [hx] at this; exact this)
  clear hc h0 hb hx h
  go_enter Tryd.func23, Tryd.ntmps23
  go_wp2_with fail
  with_reducible refine HB.out.mono ?_
  rintro e w1 ⟨rfl, hq, ho⟩
  go_wp2
  go_ret
  exact ⟨rfl, hq, ho⟩
theorem jesc_116 {b : Nat} {c : CS} {w : World} (h : CurT 42 w b c) (hc : c.ok) (h0 : c.er = 0) {x : UInt8} {t : List UInt8} (hb : c.bs = x :: t) (hx : x.toNat = 116) :
    Calls Tryd.prog 23 #[.pointer (some ⟨b, 0, none⟩)] w fun e w' => e = .returned (.int .i32 9) ∧ CurT 42 w' b (c.past 1) ∧ Only b w w' := by
  have HB := Lib.hid (show Calls Tryd.prog 19 #[.pointer (some ⟨b, 0, none⟩)] w fun e w' => e = .returned (.int .u8 116) ∧ CurT 42 w' b (c.past 1) ∧ Only b w w' by
    have := byte_next h hc h0 hb
    rw [hx] at this; exact this)
  clear hc h0 hb hx h
  go_enter Tryd.func23, Tryd.ntmps23
  go_wp2_with fail
  with_reducible refine HB.out.mono ?_
  rintro e w1 ⟨rfl, hq, ho⟩
  go_wp2
  go_ret
  exact ⟨rfl, hq, ho⟩
theorem jesc_117 {b : Nat} {c : CS} {w : World} (h : CurT 42 w b c) (hc : c.ok) (h0 : c.er = 0) {x : UInt8} {t : List UInt8} (hb : c.bs = x :: t) (hx : x.toNat = 117) :
    Calls Tryd.prog 23 #[.pointer (some ⟨b, 0, none⟩)] w fun e w' => e = .returned (.int .i32 ((jNum t).r : Nat)) ∧ (∃ c', CurT 42 w' b c' ∧ CAt (c.past 1) (jNum t).k (jNum t).e c') ∧ Only b w w' := by
  have HB := Lib.hid (show Calls Tryd.prog 19 #[.pointer (some ⟨b, 0, none⟩)] w fun e w' => e = .returned (.int .u8 117) ∧ CurT 42 w' b (c.past 1) ∧ Only b w w' by
    have := byte_next h hc h0 hb
    rw [hx] at this; exact this)
  obtain ⟨_, _, h3, h4⟩ := CS.bs_some hc h0 hb
  have HN := Lib.hid (fun w h => jnumbered_any (w := w) (b := b) h h4 h0)
  rw [h3] at HN
  clear hc h0 hb hx h h3 h4
  go_enter Tryd.func23, Tryd.ntmps23
  go_wp2_with fail
  with_reducible refine HB.out.mono ?_
  rintro e w1 ⟨rfl, hq, ho⟩
  go_wp2_with fail
  with_reducible refine (HN.out _ hq).mono ?_
  rintro e w2 ⟨rfl, hA, ho2⟩
  go_wp2
  go_ret
  exact ⟨rfl, hA, ho.trans ho2⟩
theorem jesc_other {b : Nat} {c : CS} {w : World} (h : CurT 42 w b c) (hc : c.ok) (h0 : c.er = 0) {x : UInt8} {t : List UInt8} (hb : c.bs = x :: t) (hx : ¬ x.toNat = 117) (hx2 : jSim x.toNat = 0) :
    Calls Tryd.prog 23 #[.pointer (some ⟨b, 0, none⟩)] w fun e w' => e = .returned (.int .i32 0) ∧ CurT 42 w' b ((c.past 1).bad 6) ∧ Only b w w' := by
  have HB := Lib.hid (byte_next h hc h0 hb)
  have HE := Lib.hid (show (c.past 1).er = 0 from h0)
  obtain ⟨X, hXe⟩ : ∃ X, X = x.toNat := ⟨_, rfl⟩
  rw [← hXe] at HB hx hx2
  have n34 : ¬ X = 34 := fun h => by rw [h] at hx2; exact absurd hx2 (by decide)
  have n92 : ¬ X = 92 := fun h => by rw [h] at hx2; exact absurd hx2 (by decide)
  have n47 : ¬ X = 47 := fun h => by rw [h] at hx2; exact absurd hx2 (by decide)
  have n98 : ¬ X = 98 := fun h => by rw [h] at hx2; exact absurd hx2 (by decide)
  have n102 : ¬ X = 102 := fun h => by rw [h] at hx2; exact absurd hx2 (by decide)
  have n110 : ¬ X = 110 := fun h => by rw [h] at hx2; exact absurd hx2 (by decide)
  have n114 : ¬ X = 114 := fun h => by rw [h] at hx2; exact absurd hx2 (by decide)
  have n116 : ¬ X = 116 := fun h => by rw [h] at hx2; exact absurd hx2 (by decide)
  have p34 : ((X : Int) == 34) = false := beq_eq_false_iff_ne.mpr (by omega)
  have p92 : ((X : Int) == 92) = false := beq_eq_false_iff_ne.mpr (by omega)
  have p47 : ((X : Int) == 47) = false := beq_eq_false_iff_ne.mpr (by omega)
  have p98 : ((X : Int) == 98) = false := beq_eq_false_iff_ne.mpr (by omega)
  have p102 : ((X : Int) == 102) = false := beq_eq_false_iff_ne.mpr (by omega)
  have p110 : ((X : Int) == 110) = false := beq_eq_false_iff_ne.mpr (by omega)
  have p114 : ((X : Int) == 114) = false := beq_eq_false_iff_ne.mpr (by omega)
  have p116 : ((X : Int) == 116) = false := beq_eq_false_iff_ne.mpr (by omega)
  have p117 : ((X : Int) == 117) = false := beq_eq_false_iff_ne.mpr (by omega)
  clear hc h0 hb hx h hx2 hXe n34 n92 n47 n98 n102 n110 n114 n116
  go_enter Tryd.func23, Tryd.ntmps23
  go_wp2_with fail
  with_reducible refine HB.out.mono ?_
  rintro e w1 ⟨rfl, hq, ho⟩
  go_wp2_with fail
  with_reducible refine (fail_fresh hq HE.out 6).mono ?_
  rintro e w2 ⟨rfl, hq2, ho2⟩
  go_wp2
  go_ret
  exact ⟨rfl, hq2, ho.trans ho2⟩
theorem jesc_none {b : Nat} {c : CS} {w : World} (h : CurT 42 w b c) (hc : c.ok) (h0 : c.er = 0) (hb : c.bs = []) :
    Calls Tryd.prog 23 #[.pointer (some ⟨b, 0, none⟩)] w fun e w' => e = .returned (.int .i32 0) ∧ CurT 42 w' b (c.bad 1) ∧ Only b w w' := by
  have HB := Lib.hid (byte_lacks h hc h0 hb)
  have HNE := Lib.hid (show ¬ (c.bad 1).er = 0 by show ¬ (1 : Int) = 0; decide)
  clear hc h0 hb h
  go_enter Tryd.func23, Tryd.ntmps23
  go_wp2_with fail
  with_reducible refine HB.out.mono ?_
  rintro e w1 ⟨rfl, hq, ho⟩
  go_wp2_with fail
  with_reducible refine (fail_more hq HNE.out 6).mono ?_
  rintro e w2 ⟨rfl, hq2, ho2⟩
  go_wp2
  go_ret
  exact ⟨rfl, hq2, ho.trans ho2⟩
theorem jPair_none {n : Nat} {l : List UInt8} (h : ¬ (jPair n l).e = 0) : (jPair n l).r = 0 := by
  match l, h with
  | [], _ => rfl
  | [a], h =>
    simp only [jPair] at h ⊢
    split <;> rfl
  | a :: b :: u, h =>
    simp only [jPair] at h ⊢
    by_cases h1 : a.toNat = 92
    · rw [if_pos h1] at h ⊢
      by_cases h2 : b.toNat = 117
      · rw [if_pos h2] at h ⊢
        by_cases h3 : (jDg 4 0 u).2 = 0
        · rw [if_pos h3] at h ⊢
          by_cases h4 : (jDg 4 0 u).1 < 56320 ∨ 57343 < (jDg 4 0 u).1
          · rw [if_pos h4]
          · rw [if_neg h4] at h; exact absurd rfl h
        · rw [if_neg h3]
      · rw [if_neg h2]
    · rw [if_neg h1]
theorem jNum_none {l : List UInt8} (h : ¬ (jNum l).e = 0) : (jNum l).r = 0 := by
  unfold jNum at h ⊢
  by_cases h1 : (jDg 4 0 l).2 = 0
  · rw [if_pos h1] at h ⊢
    by_cases h2 : uIs (jDg 4 0 l).1 = true
    · rw [if_pos h2] at h; exact absurd rfl h
    · rw [if_neg h2] at h ⊢
      by_cases h3 : 56320 ≤ (jDg 4 0 l).1
      · rw [if_pos h3]
      · rw [if_neg h3] at h ⊢
        by_cases h4 : (jPair (jDg 4 0 l).1 (l.drop 4)).e = 0
        · rw [if_pos h4] at h; exact absurd rfl h
        · rw [if_neg h4]
  · rw [if_neg h1]
theorem jescaped_any {b : Nat} {c : CS} {w : World} (h : CurT 42 w b c) (hc : c.ok) (h0 : c.er = 0) :
    Calls Tryd.prog 23 #[.pointer (some ⟨b, 0, none⟩)] w fun e w' => e = .returned (.int .i32 ((jEsc c.bs).r : Nat)) ∧ (∃ c', CurT 42 w' b c' ∧ CAt c (jEsc c.bs).k (jEsc c.bs).e c') ∧ Only b w w' := by
  match hb : c.bs with
  | [] =>
    refine (jesc_none h hc h0 hb).mono ?_
    rintro e w' ⟨rfl, hq, ho⟩
    exact ⟨rfl, ⟨_, hq, CAt.bad0 hc 0 (by decide)⟩, ho⟩
  | x :: t =>
    have hl : 1 ≤ c.bs.length := by rw [hb]; simp
    by_cases hx : x.toNat = 117
    · refine (jesc_117 h hc h0 hb hx).mono ?_
      rintro e w' ⟨rfl, ⟨c', hq, hA⟩, ho⟩
      by_cases he : (jNum t).e = 0
      · have hR : jEsc (x :: t) = ⟨(jNum t).r, (jNum t).k + 1, 0⟩ := by simp only [jEsc]; rw [if_pos hx, if_pos he]
        rw [hR]
        rw [he] at hA
        refine ⟨rfl, ⟨c', hq, ?_⟩, ho⟩
        have := hA.more
        rw [Nat.add_comm] at this; exact this
      · have hR : jEsc (x :: t) = ⟨0, 0, (jNum t).e⟩ := by simp only [jEsc]; rw [if_pos hx, if_neg he]
        rw [hR]
        have h1 : (jNum t).r = 0 := jNum_none he
        rw [h1]
        exact ⟨rfl, ⟨c', hq, (hA.more).no he⟩, ho⟩
    · by_cases hs : jSim x.toNat = 0
      · have hR : jEsc (x :: t) = ⟨0, 0, 6⟩ := by simp only [jEsc]; rw [if_neg hx, if_pos hs]
        rw [hR]
        refine (jesc_other h hc h0 hb hx hs).mono ?_
        rintro e w' ⟨rfl, hq, ho⟩
        exact ⟨rfl, ⟨_, hq, CAt.bad hc hl 0 (by decide)⟩, ho⟩
      · have hR : jEsc (x :: t) = ⟨jSim x.toNat, 1, 0⟩ := by simp only [jEsc]; rw [if_neg hx, if_neg hs]
        rw [hR]
        have key : ∀ {v : Nat}, jSim x.toNat = v → (Calls Tryd.prog 23 #[.pointer (some ⟨b, 0, none⟩)] w fun e w' => e = .returned (.int .i32 (v : Nat)) ∧ CurT 42 w' b (c.past 1) ∧ Only b w w') →
            Calls Tryd.prog 23 #[.pointer (some ⟨b, 0, none⟩)] w fun e w' => e = .returned (.int .i32 ((jSim x.toNat : Nat) : Int)) ∧ (∃ c', CurT 42 w' b c' ∧ CAt c 1 0 c') ∧ Only b w w' := fun {v} hv hC => by
          rw [hv]
          refine hC.mono ?_
          rintro e w' ⟨he, hq, ho⟩
          exact ⟨he, ⟨_, hq, CAt.past hc h0 hl⟩, ho⟩
        show Calls _ _ _ _ fun e w' => e = .returned (.int .i32 ((jSim x.toNat : Nat) : Int)) ∧ (∃ c', CurT 42 w' b c' ∧ CAt c 1 0 c') ∧ Only b w w'
        by_cases x34 : x.toNat = 34
        · exact key (v := 34) (by rw [x34]; rfl) (jesc_34 h hc h0 hb x34)
        by_cases x92 : x.toNat = 92
        · exact key (v := 92) (by rw [x92]; rfl) (jesc_92 h hc h0 hb x92)
        by_cases x47 : x.toNat = 47
        · exact key (v := 47) (by rw [x47]; rfl) (jesc_47 h hc h0 hb x47)
        by_cases x98 : x.toNat = 98
        · exact key (v := 8) (by rw [x98]; rfl) (jesc_98 h hc h0 hb x98)
        by_cases x102 : x.toNat = 102
        · exact key (v := 12) (by rw [x102]; rfl) (jesc_102 h hc h0 hb x102)
        by_cases x110 : x.toNat = 110
        · exact key (v := 10) (by rw [x110]; rfl) (jesc_110 h hc h0 hb x110)
        by_cases x114 : x.toNat = 114
        · exact key (v := 13) (by rw [x114]; rfl) (jesc_114 h hc h0 hb x114)
        by_cases x116 : x.toNat = 116
        · exact key (v := 9) (by rw [x116]; rfl) (jesc_116 h hc h0 hb x116)
        exact absurd (show jSim x.toNat = 0 by unfold jSim; rw [if_neg x34, if_neg x92, if_neg x47, if_neg x98, if_neg x102, if_neg x110, if_neg x114, if_neg x116]) hs
end Go.Proofs.YteakcfgjjlocjaaDoor
