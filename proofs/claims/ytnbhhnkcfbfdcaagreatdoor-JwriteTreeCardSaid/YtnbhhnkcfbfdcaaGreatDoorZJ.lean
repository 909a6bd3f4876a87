/- Several texts in one (JsRd, JnPer, JnRd): each begins with its own words. -/
import Derived.Test.YtnbhhnkcfbfdcaaGreatDoorJsPl
import Derived.Test.YtnbhhnkcfbfdcaaGreatDoorZE
import Derived.LoopN
import Derived.Test.YtnbhhnkcfbfdcaaGreatDoorZG
import Derived.Test.YtnbhhnkcfbfdcaaGreatDoorApp
import Derived.Test.YtnbhhnkcfbfdcaaGreatDoorZC
import Derived.Test.YtnbhhnkcfbfdcaaGreatDoorShelf
import Derived.WalkMore
import Derived.ScopeJumps
import Derived.Deep.Cut
import Derived.Lib.IndexAny
/- Package jstring's Read. -/
namespace Go.Proofs.YtnbhhnkcfbfdcaaGreatDoor
open Go Go.RowKit
set_option linter.unusedVariables false

/-- 10.2: for which bytes the JSON stands that begins at the next byte, how many bytes it has, what is wrong. -/
def CS.jRes (c : CS) : JT := if c.er = 0 then
    (match c.bs with
    | [] => ⟨[], 0, 1⟩
    | x :: t => if x.toNat = 34 then (if (jIn t).e = 0 then ⟨(jIn t).t, (jIn t).k + 1, 0⟩ else ⟨[], 0, (jIn t).e⟩) else ⟨[], 0, 3⟩)
  else ⟨[], 0, c.er⟩
theorem CS.jRes_err {c : CS} (h : ¬ c.er = 0) : c.jRes = ⟨[], 0, c.er⟩ := by unfold CS.jRes; rw [if_neg h]
theorem CS.jRes_nil {c : CS} (h : c.er = 0) (hb : c.bs = []) : c.jRes = ⟨[], 0, 1⟩ := by unfold CS.jRes; rw [if_pos h, hb]
theorem CS.jRes_other {c : CS} (h : c.er = 0) {x : UInt8} {t : List UInt8} (hb : c.bs = x :: t) (hx : ¬ x.toNat = 34) : c.jRes = ⟨[], 0, 3⟩ := by
  unfold CS.jRes; rw [if_pos h, hb]; simp only; rw [if_neg hx]
theorem CS.jRes_in {c : CS} (h : c.er = 0) {x : UInt8} {t : List UInt8} (hb : c.bs = x :: t) (hx : x.toNat = 34) : c.jRes = if (jIn t).e = 0 then ⟨(jIn t).t, (jIn t).k + 1, 0⟩ else ⟨[], 0, (jIn t).e⟩ := by
  unfold CS.jRes; rw [if_pos h, hb]; simp only; rw [if_pos hx]
theorem uput_new (r : Int) (w : World) (ht : Hds w) :
    Calls Tryz.prog 99 #[.slice none 0 0, .int .i32 r] w fun e w' => ∃ v, e = .returned v ∧ Bts 5 w' w.heap.size v (uBI r) ∧ Below w.heap.size w w' := uput_any none 0 [] r w (by simp) (bin_none w) ht
theorem uBI_char {r : Nat} (h : uIs r = true) : uBI (r : Int) = uB r := by unfold uBI; rw [if_pos h, Int.toNat_natCast]
theorem uB_some (r : Nat) : uB r ≠ [] := fun h => by have := (uB_pos r).1; rw [h] at this; simp at this

set_option maxRecDepth 20000 in
theorem jread_err {b : Nat} {c : CS} {w : World} (h : CurT 89 w b c) (hc : c.ok) (h0 : ¬ c.er = 0) :
    Calls Tryz.prog 88 #[.pointer (some ⟨b, 0, none⟩)] w fun e w' => e = .returned (.string (bA c.jRes.t)) ∧ (∃ c', CurT 89 w' b c' ∧ CAt c c.jRes.k c.jRes.e c') ∧ Only b w w' := by
  have HR := Lib.hid (CS.jRes_err h0)
  have HB := Lib.hid (byte_bad h hc h0)
  have HF := Lib.hid (fun w h => fail_more (w := w) (b := b) h h0 3)
  have HA := Lib.hid (show CAt c 0 c.er c from ⟨hc, rfl, rfl, rfl, fun e => absurd e h0⟩)
  have p1 : (c.er == 0) = false := beq_eq_false_iff_ne.mpr h0
  clear h hc h0
  go_enter Tryz.func88, Tryz.ntmps88
  go_wp2_with fail
  with_reducible refine HB.out.mono ?_
  rintro e w1 ⟨rfl, hq1, ho1⟩
  go_wp2_with fail
  with_reducible refine (HF.out _ hq1).mono ?_
  rintro e w2 ⟨rfl, hq2, ho2⟩
  go_wp2_with fail
  refine wp_loop_rounds 1 ?_
  rw [rounds_succ]
  go_wp2_with fail
  with_reducible refine (err_any hq2).mono ?_
  rintro e w3 ⟨rfl, hw⟩
  rw [hw]; clear hw
  go_wp2
  go_ret
  exact ⟨by rw [HR.out]; rfl, ⟨_, hq2, by rw [HR.out]; exact HA.out⟩, ho1.trans ho2⟩
set_option maxRecDepth 20000 in
theorem jread_none {b : Nat} {c : CS} {w : World} (h : CurT 89 w b c) (hc : c.ok) (h0 : c.er = 0) (hb : c.bs = []) :
    Calls Tryz.prog 88 #[.pointer (some ⟨b, 0, none⟩)] w fun e w' => e = .returned (.string (bA c.jRes.t)) ∧ (∃ c', CurT 89 w' b c' ∧ CAt c c.jRes.k c.jRes.e c') ∧ Only b w w' := by
  have HR := Lib.hid (CS.jRes_nil h0 hb)
  have HB := Lib.hid (byte_lacks h hc h0 hb)
  have HF := Lib.hid (fun w h => fail_more (c := c.bad 1) (w := w) (b := b) h (by show ¬ (1 : Int) = 0; decide) 3)
  have HA := Lib.hid (CAt.bad0 hc 0 (e := 1) (by decide))
  have p1 : ((c.bad 1).er == 0) = false := rfl
  clear h hc h0
  go_enter Tryz.func88, Tryz.ntmps88
  go_wp2_with fail
  with_reducible refine HB.out.mono ?_
  rintro e w1 ⟨rfl, hq1, ho1⟩
  go_wp2_with fail
  with_reducible refine (HF.out _ hq1).mono ?_
  rintro e w2 ⟨rfl, hq2, ho2⟩
  go_wp2_with fail
  refine wp_loop_rounds 1 ?_
  rw [rounds_succ]
  go_wp2_with fail
  with_reducible refine (err_any hq2).mono ?_
  rintro e w3 ⟨rfl, hw⟩
  rw [hw]; clear hw
  go_wp2
  go_ret
  exact ⟨by rw [HR.out]; rfl, ⟨_, hq2, by rw [HR.out]; exact HA.out⟩, ho1.trans ho2⟩
set_option maxRecDepth 20000 in
theorem jread_other {b : Nat} {c : CS} {w : World} (h : CurT 89 w b c) (hc : c.ok) (h0 : c.er = 0) {x : UInt8} {t : List UInt8} (hb : c.bs = x :: t) (hx : ¬ x.toNat = 34) :
    Calls Tryz.prog 88 #[.pointer (some ⟨b, 0, none⟩)] w fun e w' => e = .returned (.string (bA c.jRes.t)) ∧ (∃ c', CurT 89 w' b c' ∧ CAt c c.jRes.k c.jRes.e c') ∧ Only b w w' := by
  have HR := Lib.hid (CS.jRes_other h0 hb hx)
  have HB := Lib.hid (byte_next h hc h0 hb)
  have HF := Lib.hid (fun w h => fail_fresh (c := c.past 1) (w := w) (b := b) h h0 3)
  have HA := Lib.hid (CAt.bad hc (j := 1) (by rw [hb]; simp) 0 (e := 3) (by decide))
  have p1 : (((c.past 1).bad 3).er == 0) = false := rfl
  obtain ⟨X, hXe⟩ : ∃ X, X = x.toNat := ⟨_, rfl⟩
  rw [← hXe] at HB hx
  have p2 : ((X : Int) != 34) = true := bne_iff_ne.mpr (by omega)
  clear h hc h0 hb hx hXe
  go_enter Tryz.func88, Tryz.ntmps88
  go_wp2_with fail
  with_reducible refine HB.out.mono ?_
  rintro e w1 ⟨rfl, hq1, ho1⟩
  go_wp2_with fail
  with_reducible refine (HF.out _ hq1).mono ?_
  rintro e w2 ⟨rfl, hq2, ho2⟩
  go_wp2_with fail
  refine wp_loop_rounds 1 ?_
  rw [rounds_succ]
  go_wp2_with fail
  with_reducible refine (err_any hq2).mono ?_
  rintro e w3 ⟨rfl, hw⟩
  rw [hw]; clear hw
  go_wp2
  go_ret
  exact ⟨by rw [HR.out]; rfl, ⟨_, hq2, by rw [HR.out]; exact HA.out⟩, ho1.trans ho2⟩
theorem jEsc_none {l : List UInt8} (h : ¬ (jEsc l).e = 0) : (jEsc l).r = 0 := by
  match l, h with
  | [], _ => rfl
  | b :: t, h =>
    simp only [jEsc] at h ⊢
    by_cases h1 : b.toNat = 117
    · rw [if_pos h1] at h ⊢
      by_cases h2 : (jNum t).e = 0
      · rw [if_pos h2] at h; exact absurd rfl h
      · rw [if_neg h2]
    · rw [if_neg h1] at h ⊢
      by_cases h2 : jSim b.toNat = 0
      · rw [if_pos h2]
      · rw [if_neg h2] at h; exact absurd rfl h
/-- Where the loop stands: nothing is wrong so far, and what is left tells the rest; or something is. -/
def JState (c c' : CS) (l : List UInt8) : Prop :=
  c'.ok ∧ c'.s = c.s ∧ c'.en = c.en ∧ ((c'.er = 0 ∧ ∃ k, c' = c.past k ∧ k ≤ c.bs.length ∧ l.length ≤ k ∧ jIn c.bs = (⟨l, k, 0⟩ : JT).and (jIn c'.bs)) ∨ (¬ c'.er = 0 ∧ (jIn c.bs).e = c'.er))
def JReadRel (c : CS) (b : Nat) (W : World) (z v : Value) (wr : World) : Prop :=
  ∃ c' l, z = .string ⟨#[]⟩ ∧ Hid (JState c c' l) ∧ Bts 5 wr W.heap.size v l ∧ CurT 89 wr b c' ∧ Only b W wr
theorem JState.no {c c' : CS} {l : List UInt8} (h : c'.ok) (h1 : c'.s = c.s) (h2 : c'.en = c.en) (h3 : ¬ c'.er = 0) (h4 : (jIn c.bs).e = c'.er) : JState c c' l := ⟨h, h1, h2, .inr ⟨h3, h4⟩⟩

set_option maxRecDepth 20000 in
set_option maxHeartbeats 2000000 in
theorem jread_in {b : Nat} {c : CS} {w : World} (h : CurT 89 w b c) (hc : c.ok) (h0 : c.er = 0) {x : UInt8} {t : List UInt8} (hb : c.bs = x :: t) (hx : x.toNat = 34) (hs : c.s.size ≤ 140737488352256) (ht : Hds w) (hg : 1 ≠ b) :
    Calls Tryz.prog 88 #[.pointer (some ⟨b, 0, none⟩)] w fun e w' => e = .returned (.string (bA c.jRes.t)) ∧ (∃ c', CurT 89 w' b c' ∧ CAt c c.jRes.k c.jRes.e c') ∧ Only b w w' := by
  obtain ⟨i0, hi, hz0, hz1, hz2⟩ := info_parts info8
  have HR := Lib.hid (CS.jRes_in h0 hb hx)
  have HB := Lib.hid (show Calls Tryz.prog 86 #[.pointer (some ⟨b, 0, none⟩)] w fun e w' => e = .returned (.int .u8 34) ∧ CurT 89 w' b (c.past 1) ∧ Only b w w' by
    have := byte_next h hc h0 hb
    rw [hx] at this; exact this)
  obtain ⟨_, _, hb1, hok1⟩ := CS.bs_some hc h0 hb
  have hbl := h.lt
  have hl1 : 1 ≤ c.bs.length := by rw [hb]; simp
  rw [← hb1] at HR
  obtain ⟨d, hd⟩ : ∃ d, d = c.past 1 := ⟨_, rfl⟩
  have hds : d.s = c.s := by rw [hd]; rfl
  have hden : d.en = c.en := by rw [hd]; rfl
  have hde : d.er = 0 := by rw [hd]; exact h0
  have HFIN := Lib.hid (show ∀ c' k e, CAt d k e c' → (e ≠ 0 → CAt c 0 e c') ∧ CAt c (k + 1) e c' from fun c' k e hA => by
    rw [hd] at hA
    have := hA.more
    rw [Nat.add_comm] at this
    exact ⟨fun he => this.no he, this⟩)
  rw [← hd] at HB hok1 HR
  have HD := Lib.hid (And.intro hok1 hde)
  have hdl := CS.bs_length hok1
  have hdlen : d.bs.length ≤ 140737488352256 := by have := hok1.2.1; rw [hds] at this; omega
  have hss : d.s.size ≤ 140737488352256 := by rw [hds]; exact hs
  have HT := Lib.hid (show ∀ w', Only b w w' → Hds w' from fun w' h => ht.only h hg)
  have HEN := Lib.hid hdl
  clear hc h0 hb hx ht hb1 h hl1 hd hds hden hde hdl hok1
  go_enter Tryz.func88, Tryz.ntmps88
  go_wp2_with fail
  with_reducible refine HB.out.mono ?_
  rintro e w1 ⟨rfl, hq1, ho1⟩
  go_wp2_with fail
  go_loopw [2, 3] (fun z v wr => JReadRel d b w z v wr) (fun _ _ wr => if erOf b wr = 0 then d.en + 1 - atOf b wr else 0)
  case atStart =>
    exact ⟨d, [], rfl, Lib.hid ⟨HD.out.1, rfl, rfl, .inl ⟨HD.out.2, 0, rfl, Nat.zero_le _, Nat.le_refl _, (nil_and _).symm⟩⟩, World.ownsRow_nil _ _ _ _, hq1, ho1⟩
  case round =>
    obtain ⟨c', l, rfl, hst, hv, hq, ho⟩ := hrel
    have hat := Lib.hid (And.intro (atOf_cur hq) (erOf_cur hq))
    have hsz := ho.size
    by_cases he : c'.er = 0
    · have hst1 := hst.out
      obtain ⟨hok, hs2, hen2, hst2⟩ := hst1
      have hst3 : ∃ k, c' = d.past k ∧ k ≤ d.bs.length ∧ l.length ≤ k ∧ jIn d.bs = (⟨l, k, 0⟩ : JT).and (jIn c'.bs) := by
        rcases hst2 with ⟨_, h⟩ | ⟨h, _⟩
        · exact h
        · exact absurd he h
      obtain ⟨k, hck, hk, hlk, hJ⟩ := hst3
      clear hst2 hst
      have p1 : (c'.er == 0) = true := by rw [he]; rfl
      have hM := Lib.hid (show ∀ w4 c4, CurT 89 w4 b c4 → (c4.er = 0 → c'.at_ < c4.at_ ∧ c4.at_ ≤ d.en) → (if erOf b w4 = 0 then d.en + 1 - atOf b w4 else 0) < (if erOf b wr = 0 then d.en + 1 - atOf b wr else 0) from fun w4 c4 hq4 hlt => by
        rw [hat.out.1, hat.out.2, if_pos he, atOf_cur hq4, erOf_cur hq4]
        have h1 := hok.1
        by_cases h4 : c4.er = 0
        · rw [if_pos h4]; have := hlt h4; omega
        · rw [if_neg h4]; omega)
      have hcl : c'.bs = d.bs.drop k := by rw [hck, CS.bs_past]
      have hclen : c'.bs.length = d.bs.length - k := by rw [hcl, List.length_drop]
      have HERR := Lib.hid (fun w h => err_any (w := w) (b := b) (c := c') h)
      have hrun := jIn_run _ (c'.bs.takeWhile jPl) (c'.bs.dropWhile jPl) rfl (fun y hy => by
        have := List.all_takeWhile (p := jPl) (l := c'.bs)
        exact List.all_eq_true.mp this y hy) (fun y u hy => by
        have h1 := List.head?_dropWhile_not jPl c'.bs
        rw [hy] at h1
        simpa using h1)
      rw [List.takeWhile_append_dropWhile] at hrun
      have hnle : (c'.bs.takeWhile jPl).length + (c'.bs.dropWhile jPl).length = c'.bs.length := by
        rw [← List.length_append, List.takeWhile_append_dropWhile]
      have hdrop : c'.bs.drop (c'.bs.takeWhile jPl).length = c'.bs.dropWhile jPl := by
        have h1 : (c'.bs.takeWhile jPl ++ c'.bs.dropWhile jPl).drop (c'.bs.takeWhile jPl).length = c'.bs.dropWhile jPl := List.drop_left
        rwa [List.takeWhile_append_dropWhile] at h1
      have hnp : ∀ y u, c'.bs.dropWhile jPl = y :: u → jPl y = false := fun y u hy => by
        have h1 := List.head?_dropWhile_not jPl c'.bs
        rw [hy] at h1
        simpa using h1
      have hwr := HT.out _ ho
      by_cases hu : UOk (c'.bs.takeWhile jPl)
      · have hJ2 := hrun.1 hu
        have HP := Lib.hid (jplain_good hq hok he (by rw [hs2]; exact hss) hwr hg hu)
        obtain ⟨n, hn⟩ : ∃ n, n = (c'.bs.takeWhile jPl).length := ⟨_, rfl⟩
        have hok2 : (c'.past n).ok := CS.past_fine hok (by omega)
        have hb2 : (c'.past n).bs = c'.bs.dropWhile jPl := by rw [CS.bs_past, hn, hdrop]
        rw [← hn] at HP
        have hl2 : l.length + (bA (c'.bs.takeWhile jPl)).size ≤ 140737488352256 := by rw [bA_size]; omega
        have hTl : (bA (c'.bs.takeWhile jPl)).data.toList = c'.bs.takeWhile jPl := rfl
        have hJ3 : jIn d.bs = (⟨l ++ c'.bs.takeWhile jPl, k + n, 0⟩ : JT).and (jIn (c'.past n).bs) := by
          rw [hJ, hJ2, ← JT.and_and _ _ _ rfl, hb2, ← hn]
          rfl
        have hl3 : (l ++ c'.bs.takeWhile jPl).length = l.length + n := by rw [List.length_append, ← hn]
        have hkn : k + n ≤ d.bs.length := by omega
        have hcn : c'.past n = d.past (k + n) := by rw [hck, CS.past_past]
        have hern : (c'.past n).er = 0 := he
        have hlast : (c'.bs.dropWhile jPl).length = d.bs.length - (k + n) := by omega
        have HX := Lib.hid (CS.bs_length HD.out.1)
        rw [← hTl] at hl3 hJ3
        obtain ⟨L, hL⟩ : ∃ L, L = l ++ (bA (c'.bs.takeWhile jPl)).data.toList := ⟨_, rfl⟩
        rw [← hL] at hl3 hJ3
        obtain ⟨c2, hc2⟩ : ∃ c2, c2 = c'.past n := ⟨_, rfl⟩
        have hs3 : c2.s = d.s ∧ c2.en = d.en := by rw [hc2]; exact ⟨hs2, hen2⟩
        have hat2 : c2.at_ = c'.at_ + n := by rw [hc2]; rfl
        rw [← hc2] at HP hok2 hb2 hJ3 hcn hern
        have HL := Lib.hid hL
        have hd1 : c'.at_ ≤ d.en := by rw [← hen2]; exact hok.1
        match hD : c'.bs.dropWhile jPl with
        | [] =>
          rw [hD] at hb2
          have HB2 := Lib.hid (fun w h => byte_lacks (w := w) (b := b) h hok2 hern hb2)
          have HF2 := Lib.hid (fun w h => fail_more (c := c2.bad 1) (w := w) (b := b) h (by show ¬ (1 : Int) = 0; decide) 3)
          have HST := Lib.hid (show JState d (c2.bad 1) L from .no (CS.bad_fine hok2 1) hs3.1 hs3.2 (by show ¬ (1 : Int) = 0; decide) (by rw [hJ3, JT.and_e, hb2]; rfl))
          have HM2 := Lib.hid (fun w4 (h : CurT 89 w4 b (c2.bad 1)) => hM.out w4 _ h (fun e => absurd (show (1 : Int) = 0 from e) (by decide)))
          clear hJ hJ2 hJ3 hrun hnle hdrop hnp hcl hclen hwr hu hn hTl hl3 hkn hcn hlast hck hlk hk hM hat hat2 hd1 hL hc2 hs3 hD
          clear hok hok2 hb2 hern hs2 hen2
          go_wp2_with fail
          with_reducible refine (HERR.out _ hq).mono ?_
          rintro e w3 ⟨rfl, hw⟩
          rw [hw]; clear hw
          go_wp2_with fail
          with_reducible refine HP.out.mono ?_
          rintro e w4 ⟨rfl, hq4, ho4⟩
          have hv4 := hv.only ho4 hbl
          have ho9 := ho.trans ho4
          have hs5 := ho9.size
          have hl6 : l.length + (bA (c'.bs.takeWhile jPl)).size ≤ 140737488355328 := by omega
          have HQ5 := Lib.hid (fun w3 (h : Below w.heap.size w4 w3) => And.intro (Below.cur h hq4 hbl) (only_then ho9 h (Nat.le_refl _)))
          clear hv hq ho4 ho
          go_wp2_with (first | (at_builtin; go_loud (refine wpList_append_text rfl (.tmp 12) (.tmp 14) 43 9 rfl 5 i0 Tryz.underlying43 Tryz.underlying9 hi hz0 hz1 hz2 _ w4 w4 w.heap.size l _ hv4 (Below.refl _ _) hs5 rfl rfl hl6 ?_; intro v5 w5 hv5 hb5)) | fail)
          have hq5 := (HQ5.out _ hb5).1
          have ho5 := (HQ5.out _ hb5).2
          rw [← HL.out] at hv5
          clear hb5
          with_reducible refine (HB2.out _ hq5).mono ?_
          rintro e w6 ⟨rfl, hq6, ho6⟩
          go_wp2_with fail
          with_reducible refine (HF2.out _ hq6).mono ?_
          rintro e w7 ⟨rfl, hq7, ho7⟩
          have hv7 := (hv5.only ho6 hbl).only ho7 hbl
          have ho8 := (ho5.trans ho6).trans ho7
          go_wp2
          go_roundw
          case rel => exact ⟨c2.bad 1, L, rfl, HST, hv7, hq7, ho8⟩
          case measure => exact HM2.out _ hq7
        | y :: u =>
          rw [hD] at hb2 hlast
          rw [List.length_cons] at hlast
          have hyp := hnp y u hD
          have HB2 := Lib.hid (fun w h => byte_next (w := w) (b := b) h hok2 hern hb2)
          obtain ⟨_, _, hb3, hok3⟩ := CS.bs_some hok2 hern hb2
          rw [hb2] at hJ3
          by_cases h34 : y.toNat = 34
          · have HB3 := Lib.hid (show ∀ w, CurT 89 w b c2 → Calls Tryz.prog 86 #[.pointer (some ⟨b, 0, none⟩)] w fun e w' => e = .returned (.int .u8 34) ∧ CurT 89 w' b (c2.past 1) ∧ Only b w w' from fun w h => by
              have := HB2.out w h
              rw [h34] at this; exact this)
            have HJ := Lib.hid (show jIn d.bs = ⟨L, k + n + 1, 0⟩ by rw [hJ3, jIn_quote _ _ h34, JT.and_yes _ rfl]; simp)
            have HA := Lib.hid (show CAt d (k + n + 1) 0 (c2.past 1) by
              rw [hcn, CS.past_past]
              exact CAt.past HD.out.1 HD.out.2 (by omega))
            clear hJ hJ2 hJ3 hrun hnle hdrop hnp hcl hclen hwr hu hn hTl hl3 hkn hcn hlast hck hlk hk hM hat hat2 hd1 hL hc2 hs3 hD
            clear hok hok2 hb2 hern hs2 hen2 hyp hb3 hok3 h34
            go_wp2_with fail
            with_reducible refine (HERR.out _ hq).mono ?_
            rintro e w3 ⟨rfl, hw⟩
            rw [hw]; clear hw
            go_wp2_with fail
            with_reducible refine HP.out.mono ?_
            rintro e w4 ⟨rfl, hq4, ho4⟩
            have hv4 := hv.only ho4 hbl
            have ho9 := ho.trans ho4
            have hs5 := ho9.size
            have hl6 : l.length + (bA (c'.bs.takeWhile jPl)).size ≤ 140737488355328 := by omega
            have HQ5 := Lib.hid (fun w3 (h : Below w.heap.size w4 w3) => And.intro (Below.cur h hq4 hbl) (only_then ho9 h (Nat.le_refl _)))
            clear hv hq ho4 ho
            go_wp2_with (first | (at_builtin; go_loud (refine wpList_append_text rfl (.tmp 12) (.tmp 14) 43 9 rfl 5 i0 Tryz.underlying43 Tryz.underlying9 hi hz0 hz1 hz2 _ w4 w4 w.heap.size l _ hv4 (Below.refl _ _) hs5 rfl rfl hl6 ?_; intro v5 w5 hv5 hb5)) | fail)
            have hq5 := (HQ5.out _ hb5).1
            have ho5 := (HQ5.out _ hb5).2
            rw [← HL.out] at hv5
            clear hb5
            with_reducible refine (HB3.out _ hq5).mono ?_
            rintro e w6 ⟨rfl, hq6, ho6⟩
            have htx := Lib.hid ((hv5.only ho6 hbl).text (P := Tryz.prog) (d := 9) Tryz.underlying43 Tryz.underlying5 Tryz.underlying9)
            have ho8 := ho5.trans ho6
            go_wp2_with fail
            rw [htx.out]
            go_wp2
            go_ret
            refine ⟨by rw [HR.out, HJ.out]; rfl, ⟨_, hq6, ?_⟩, ho8⟩
            rw [HR.out, HJ.out]
            exact (HFIN.out _ _ _ HA.out).2
          · by_cases h92 : y.toNat = 92
            · have HB3 := Lib.hid (show ∀ w, CurT 89 w b c2 → Calls Tryz.prog 86 #[.pointer (some ⟨b, 0, none⟩)] w fun e w' => e = .returned (.int .u8 92) ∧ CurT 89 w' b (c2.past 1) ∧ Only b w w' from fun w h => by
                have := HB2.out w h
                rw [h92] at this; exact this)
              have HE0 := fun w h => jescaped_any (w := w) (b := b) (c := c2.past 1) h hok3 hern
              rw [hb3] at HE0
              have HE := Lib.hid HE0
              have hre : ∃ rr, rr = (jEsc u).r := ⟨_, rfl⟩
              obtain ⟨rr, hrr⟩ := hre
              rw [jIn_esc _ _ h92] at hJ3
              have HSTEP := Lib.hid (show ∀ c4, CAt (c2.past 1) (jEsc u).k (jEsc u).e c4 → JState d c4 (L ++ uBI (rr : Int)) ∧ (c4.er = 0 → c'.at_ < c4.at_ ∧ c4.at_ ≤ d.en) from fun c4 hA => by
                obtain ⟨a1, a2, a3, a4, a5⟩ := hA
                by_cases hee : (jEsc u).e = 0
                · rw [if_pos hee] at hJ3
                  obtain ⟨f1, f2, f3, f4⟩ := jEsc_fine hee
                  have hc4 := a5 hee
                  have h1 : c4 = d.past (k + n + ((jEsc u).k + 1)) := by rw [hc4, hcn, CS.past_past, CS.past_past, Nat.add_comm 1]
                  have h2 : c4.bs = u.drop (jEsc u).k := by rw [hc4, CS.bs_past, hb3]
                  have h3 : k + n + ((jEsc u).k + 1) ≤ d.bs.length := by omega
                  refine ⟨⟨a1, a2.trans hs3.1, a3.trans hs3.2, .inl ⟨by rw [a4]; exact hee, _, h1, h3, ?_, ?_⟩⟩, fun _ => ?_⟩
                  · rw [hrr, uBI_char f1, List.length_append]; omega
                  · rw [h2, hJ3, ← JT.and_and _ _ _ rfl, hrr, uBI_char f1]; rfl
                  · have e1 : c4.at_ = c2.at_ + 1 + (jEsc u).k := by rw [hc4]; rfl
                    have e2 := a1.1
                    rw [a3] at e2
                    have e3 : (c2.past 1).en = d.en := hs3.2
                    omega
                · rw [if_neg hee, JT.and_no _ (by exact hee)] at hJ3
                  exact ⟨.no a1 (a2.trans hs3.1) (a3.trans hs3.2) (by rw [a4]; exact hee) (by rw [hJ3, a4]), fun e => absurd (a4.symm.trans e) hee⟩)
              have HU := Lib.hid (fun w ht => uput_new (rr : Int) w ht)
              have hne : uBI (rr : Int) ≠ [] := by
                by_cases hee : (jEsc u).e = 0
                · rw [hrr, uBI_char (jEsc_fine hee).1]; exact uB_some _
                · rw [hrr, jEsc_none hee]; decide
              have hul : (uBI (rr : Int)).length ≤ 4 := by rw [uBI_len]; exact uW_le _
              have hl5 : L.length + (uBI (rr : Int)).length ≤ 140737488355328 := by omega
              rw [← hrr] at HE
              generalize uBI (rr : Int) = U at *
              clear hJ hJ2 hJ3 hrun hnle hdrop hnp hcl hclen hwr hu hn hTl hl3 hkn hcn hlast hck hlk hk hat hat2 hd1 hL hc2 hs3 hD HE0
              clear hok hok2 hb2 hern hs2 hen2 hyp hb3 hok3 h34 h92 hrr hul
              go_wp2_with fail
              with_reducible refine (HERR.out _ hq).mono ?_
              rintro e w3 ⟨rfl, hw⟩
              rw [hw]; clear hw
              go_wp2_with fail
              with_reducible refine HP.out.mono ?_
              rintro e w4 ⟨rfl, hq4, ho4⟩
              have hv4 := hv.only ho4 hbl
              have ho9 := ho.trans ho4
              have hs5 := ho9.size
              have hl6 : l.length + (bA (c'.bs.takeWhile jPl)).size ≤ 140737488355328 := by omega
              have HQ5 := Lib.hid (fun w3 (h : Below w.heap.size w4 w3) => And.intro (Below.cur h hq4 hbl) (only_then ho9 h (Nat.le_refl _)))
              clear hv hq ho4 ho
              go_wp2_with (first | (at_builtin; go_loud (refine wpList_append_text rfl (.tmp 12) (.tmp 14) 43 9 rfl 5 i0 Tryz.underlying43 Tryz.underlying9 hi hz0 hz1 hz2 _ w4 w4 w.heap.size l _ hv4 (Below.refl _ _) hs5 rfl rfl hl6 ?_; intro v5 w5 hv5 hb5)) | fail)
              have hq5 := (HQ5.out _ hb5).1
              have ho5 := (HQ5.out _ hb5).2
              rw [← HL.out] at hv5
              clear hb5
              with_reducible refine (HB3.out _ hq5).mono ?_
              rintro e w6 ⟨rfl, hq6, ho6⟩
              have hv6 := hv5.only ho6 hbl
              have ho8 := ho5.trans ho6
              clear hv5 hq5 ho6 ho5
              go_wp2_with fail
              with_reducible refine (HE.out _ hq6).mono ?_
              rintro e w7 ⟨rfl, ⟨c4, hq7, hA⟩, ho7⟩
              have hv7 := hv6.only ho7 hbl
              have ho9 := ho8.trans ho7
              have hS := Lib.hid (HSTEP.out _ hA)
              clear hv6 hq6 ho7 ho8 hA
              go_wp2_with fail
              with_reducible refine (HU.out _ (HT.out _ ho9)).mono ?_
              rintro e w8 ⟨v2, rfl, hu8, hb8⟩
              have hv8 := hv7.below hb8 (Nat.le_refl _)
              have ho10 := only_then ho9 hb8 ho9.size
              have hq8 := Below.cur hb8 hq7 hq7.lt
              have hs8 := ho10.size
              have HQ8 := Lib.hid (fun w3 (h : Below w.heap.size w8 w3) => And.intro (Below.cur h hq8 hbl) (only_then ho10 h (Nat.le_refl _)))
              clear hv7 ho9 hb8 hq7
              go_wp2_with (at_builtin; go_loud (refine wpList_append_bytes rfl (.tmp 26) (.tmp 29) 43 rfl 5 i0 Tryz.underlying43 hi hz0 hz1 hz2 _ v2 w8 w8 w.heap.size _ L U hv8 hu8 hne (Below.refl _ _) hs8 rfl rfl hl5 ?_; intro v9 w9 hv9 hb9))
              have hq9 := (HQ8.out _ hb9).1
              have ho11 := (HQ8.out _ hb9).2
              go_roundw
              case rel => exact ⟨c4, L ++ U, rfl, Lib.hid hS.out.1, hv9, hq9, ho11⟩
              case measure => exact hM.out _ _ hq9 hS.out.2
            · have h32 : y.toNat < 32 := by
                have h1 : ¬ jPl y = true := by rw [hyp]; decide
                rw [jPl_iff] at h1; omega
              have HST := Lib.hid (show JState d ((c2.past 1).bad 3) L from .no (CS.bad_fine hok3 3) hs3.1 hs3.2 (by show ¬ (3 : Int) = 0; decide) (by rw [hJ3, JT.and_e, jIn_low _ _ h32]; rfl))
              have HM2 := Lib.hid (fun w4 (h : CurT 89 w4 b ((c2.past 1).bad 3)) => hM.out w4 _ h (fun e => absurd (show (3 : Int) = 0 from e) (by decide)))
              have HF2 := Lib.hid (fun w h => fail_fresh (c := c2.past 1) (w := w) (b := b) h hern 3)
              obtain ⟨Y, hYe⟩ : ∃ Y, Y = y.toNat := ⟨_, rfl⟩
              rw [← hYe] at HB2 h34 h92
              have q2 : ((Y : Int) == 34) = false := beq_eq_false_iff_ne.mpr (by omega)
              have q3 : ((Y : Int) == 92) = false := beq_eq_false_iff_ne.mpr (by omega)
              clear hJ hJ2 hJ3 hrun hnle hdrop hnp hcl hclen hwr hu hn hTl hl3 hkn hcn hlast hck hlk hk hM hat hat2 hd1 hL hc2 hs3 hD
              clear hok hok2 hb2 hern hs2 hen2 hyp hb3 hok3 h34 h92 h32 hYe
              go_wp2_with fail
              with_reducible refine (HERR.out _ hq).mono ?_
              rintro e w3 ⟨rfl, hw⟩
              rw [hw]; clear hw
              go_wp2_with fail
              with_reducible refine HP.out.mono ?_
              rintro e w4 ⟨rfl, hq4, ho4⟩
              have hv4 := hv.only ho4 hbl
              have ho9 := ho.trans ho4
              have hs5 := ho9.size
              have hl6 : l.length + (bA (c'.bs.takeWhile jPl)).size ≤ 140737488355328 := by omega
              have HQ5 := Lib.hid (fun w3 (h : Below w.heap.size w4 w3) => And.intro (Below.cur h hq4 hbl) (only_then ho9 h (Nat.le_refl _)))
              clear hv hq ho4 ho
              go_wp2_with (first | (at_builtin; go_loud (refine wpList_append_text rfl (.tmp 12) (.tmp 14) 43 9 rfl 5 i0 Tryz.underlying43 Tryz.underlying9 hi hz0 hz1 hz2 _ w4 w4 w.heap.size l _ hv4 (Below.refl _ _) hs5 rfl rfl hl6 ?_; intro v5 w5 hv5 hb5)) | fail)
              have hq5 := (HQ5.out _ hb5).1
              have ho5 := (HQ5.out _ hb5).2
              rw [← HL.out] at hv5
              clear hb5
              with_reducible refine (HB2.out _ hq5).mono ?_
              rintro e w6 ⟨rfl, hq6, ho6⟩
              go_wp2_with fail
              with_reducible refine (HF2.out _ hq6).mono ?_
              rintro e w7 ⟨rfl, hq7, ho7⟩
              have hv7 := (hv5.only ho6 hbl).only ho7 hbl
              have ho8 := (ho5.trans ho6).trans ho7
              go_wp2
              go_roundw
              case rel => exact ⟨(c2.past 1).bad 3, L, rfl, HST, hv7, hq7, ho8⟩
              case measure => exact HM2.out _ hq7
      · have hJ2 := hrun.2 hu
        have HP := Lib.hid (jplain_bad hq hok he (by rw [hs2]; exact hss) hwr hg hu)
        have HST := Lib.hid (show ∀ j, j ≤ c'.bs.length → JState d ((c'.past j).bad 5) (l ++ (ByteArray.mk #[]).data.toList) from fun j hj => .no (CS.bad_fine (CS.past_fine hok hj) 5) hs2 hen2 (by show ¬ (5 : Int) = 0; decide) (by rw [hJ, JT.and_e, hJ2]; rfl))
        have HM2 := Lib.hid (fun w4 j (h : CurT 89 w4 b ((c'.past j).bad 5)) => hM.out w4 _ h (fun e => absurd (show (5 : Int) = 0 from e) (by decide)))
        have HB2 := Lib.hid (fun w j h (hj : j ≤ c'.bs.length) => byte_bad (c := (c'.past j).bad 5) (w := w) (b := b) h (CS.bad_fine (CS.past_fine hok hj) 5) (by show ¬ (5 : Int) = 0; decide))
        have HF2 := Lib.hid (fun w j h => fail_more (c := (c'.past j).bad 5) (w := w) (b := b) h (by show ¬ (5 : Int) = 0; decide) 3)
        have hl2 : l.length + (ByteArray.mk #[]).size ≤ 140737488355328 := by show l.length + 0 ≤ _; omega
        clear hJ hJ2 hrun hnle hdrop hnp hcl hclen hwr hu hck hlk hk hM hat hs2 hen2 hok
        go_wp2_with fail
        with_reducible refine (HERR.out _ hq).mono ?_
        rintro e w3 ⟨rfl, hw⟩
        rw [hw]; clear hw
        go_wp2_with fail
        with_reducible refine HP.out.mono ?_
        rintro e w4 ⟨rfl, ⟨j, hj, hq4⟩, ho4⟩
        have hv4 := hv.only ho4 hbl
        have ho5 := ho.trans ho4
        have hs5 := ho5.size
        have HQ5 := Lib.hid (fun w3 (h : Below w.heap.size w4 w3) => And.intro (Below.cur h hq4 hbl) (only_then ho5 h (Nat.le_refl _)))
        have HJ5 := Lib.hid hj
        clear hv hq ho4 ho hj
        go_wp2_with (first | (at_builtin; go_loud (refine wpList_append_text rfl (.tmp 12) (.tmp 14) 43 9 rfl 5 i0 Tryz.underlying43 Tryz.underlying9 hi hz0 hz1 hz2 _ w4 w4 w.heap.size l ⟨#[]⟩ hv4 (Below.refl _ _) hs5 rfl rfl hl2 ?_; intro v5 w5 hv5 hb5)) | fail)
        have hq5 := (HQ5.out _ hb5).1
        have ho6 := (HQ5.out _ hb5).2
        clear hb5
        with_reducible refine (HB2.out _ _ hq5 HJ5.out).mono ?_
        rintro e w6 ⟨rfl, hq6, ho7⟩
        go_wp2_with fail
        with_reducible refine (HF2.out _ _ hq6).mono ?_
        rintro e w7 ⟨rfl, hq7, ho8⟩
        have hv7 := (hv5.only ho7 hbl).only ho8 hbl
        have ho9 := (ho6.trans ho7).trans ho8
        go_wp2
        go_roundw
        case rel => exact ⟨_, _, rfl, Lib.hid (HST.out j HJ5.out), hv7, hq7, ho9⟩
        case measure => exact HM2.out _ _ hq7
    · have p1 : (c'.er == 0) = false := beq_eq_false_iff_ne.mpr he
      have hst1 := hst.out
      obtain ⟨hok, hs2, hen2, hst2⟩ := hst1
      have hJ : (jIn d.bs).e = c'.er := by
        rcases hst2 with ⟨h, _⟩ | ⟨_, h⟩
        · exact absurd h he
        · exact h
      have HJ := Lib.hid (show ¬ (jIn d.bs).e = 0 by rw [hJ]; exact he)
      have HA := Lib.hid (show CAt d 0 (jIn d.bs).e c' from ⟨hok, hs2, hen2, hJ.symm, fun e => absurd (hJ.symm.trans e) he⟩)
      have HERR := Lib.hid (err_any hq)
      clear hst hst2 hJ hok hs2 hen2 he hat
      go_wp2_with fail
      with_reducible refine HERR.out.mono ?_
      rintro e w3 ⟨rfl, hw⟩
      rw [hw]; clear hw
      go_wp2
      go_ret
      refine ⟨by rw [HR.out, if_neg HJ.out]; rfl, ⟨_, hq, ?_⟩, ho⟩
      rw [HR.out, if_neg HJ.out]
      exact (HFIN.out _ _ _ HA.out).1 HJ.out
theorem jread_any {b : Nat} {c : CS} {w : World} (h : CurT 89 w b c) (hc : c.ok) (hs : c.s.size ≤ 140737488352256) (ht : Hds w) (hg : 1 ≠ b) :
    Calls Tryz.prog 88 #[.pointer (some ⟨b, 0, none⟩)] w fun e w' => e = .returned (.string (bA c.jRes.t)) ∧ (∃ c', CurT 89 w' b c' ∧ CAt c c.jRes.k c.jRes.e c') ∧ Only b w w' := by
  by_cases h0 : c.er = 0
  · match hb : c.bs with
    | [] => exact jread_none h hc h0 hb
    | x :: t =>
      by_cases hx : x.toNat = 34
      · exact jread_in h hc h0 hb hx hs ht hg
      · exact jread_other h hc h0 hb hx
  · exact jread_err h hc h0
end Go.Proofs.YtnbhhnkcfbfdcaaGreatDoor
/- Package jnum's perhaps, lacks, digits. -/
namespace Go.Proofs.YtnbhhnkcfbfdcaaGreatDoor
open Go Go.RowKit
set_option linter.unusedVariables false

theorem CS.cut_bs {c : CS} (h : c.ok) {k : Nat} (hk : k ≤ c.bs.length) : c.s.extract c.at_ (c.at_ + k) = bA (c.bs.take k) := by
  have hl := CS.bs_length h
  apply ByteArray.ext
  apply Array.toList_inj.mp
  rw [ext_toList, Nat.add_sub_cancel_left]
  show _ = c.bs.take k
  unfold CS.bs
  rw [List.drop_take, List.take_take, Nat.min_eq_left (by omega)]
theorem Bts.shape {t : TypeId} {w : World} {B : Nat} {v : Value} {l : List UInt8} (h : Bts t w B v l) : ∃ ad cp, v = .slice ad l.length cp := by
  rcases h.2 with ⟨h1, h2⟩ | ⟨g, cap, cur, h1, _⟩
  · exact ⟨none, 0, by rw [h1, h2]⟩
  · exact ⟨_, cap, h1⟩
/-- How many bytes (one or none) of a cursor are passed, if the next one is one of these. -/
def CS.pk (c : CS) (ts : List UInt8) : Nat := if c.er = 0 then pL ts c.bs else 0
/-- How many digits; what is wrong. -/
def CS.dk (c : CS) : Nat := if c.er = 0 then dL c.bs else 0
def CS.de (c : CS) : Int := if c.er = 0 then dE c.bs else c.er
theorem CS.pk_le (c : CS) (ts : List UInt8) : c.pk ts ≤ c.bs.length := by
  unfold CS.pk; split
  · exact pL_len _ _
  · exact Nat.zero_le _
theorem CS.pk_one (c : CS) (ts : List UInt8) : c.pk ts ≤ 1 := by
  unfold CS.pk; split
  · exact pL_le _ _
  · exact Nat.zero_le _
theorem CS.dk_le (c : CS) : c.dk ≤ c.bs.length := by
  unfold CS.dk; split
  · exact dL_len _
  · exact Nat.zero_le _
theorem ix_lt (ts : List UInt8) (x : UInt8) : decide (Lib.indexByte ts x < 0) = !ts.contains x := by
  rw [Lib.contains_iff_indexByte, Bool.eq_iff_iff]
  simp
theorem ix_byte (ts : ByteArray) (x : UInt8) (w : World) : Calls Tryz.prog 118 #[.string ts, .int .u8 (x.toNat : Int)] w fun e w' => e = .returned (.int .i64 (Lib.indexByte ts.data.toList x)) ∧ w' = w := by
  have := Any.strings_IndexByte indexByteL ts (x.toNat : Int) w
  rw [show ((x.toNat : Int)).toNat.toUInt8 = x from by rw [Int.toNat_natCast]; exact UInt8.ofNat_toNat] at this
  exact this
theorem peek_off {b : Nat} {c : CS} {w : World} (h : CurT 89 w b c) (hc : c.ok) (hp : c.peekIs = false) :
    Calls Tryz.prog 84 #[.pointer (some ⟨b, 0, none⟩)] w fun e w' => e = .returned (.tuple #[.int .u8 0, .bool false]) ∧ CurT 89 w' b c ∧ Below w.heap.size w w' := by
  have := peek_any h hc
  rw [CS.peekB_no hp, hp] at this
  refine this.mono ?_
  rintro e w' ⟨he, n, hw⟩
  rw [hw]
  exact ⟨he, h.drewN n, drew_below w n⟩
theorem take_one {b : Nat} {c : CS} {w : World} (h : CurT 89 w b c) (hc : c.ok) (h0 : c.er = 0) {x : UInt8} {t : List UInt8} (hb : c.bs = x :: t) :
    Calls Tryz.prog 119 #[.pointer (some ⟨b, 0, none⟩), .int .i64 1] w fun e w' => e = .returned (.string (bA [x])) ∧ CurT 89 w' b (c.past 1) ∧ Only b w w' := by
  have hl := CS.bs_length hc
  rw [hb, List.length_cons] at hl
  have hy : c.why 1 = 0 := CS.why_mk h0 (by decide) (by omega)
  have := take_any h hc 1
  rw [takeS_yes hy, take_yes hy, show (1 : Int).toNat = 1 from rfl, CS.cut_bs hc (show 1 ≤ c.bs.length by rw [hb]; simp), hb] at this
  exact this
theorem pk_off {c : CS} (hc : c.ok) (hp : c.peekIs = false) (ts : List UInt8) : c.pk ts = 0 := by
  unfold CS.pk
  by_cases h0 : c.er = 0
  · rw [if_pos h0]
    have hl := CS.bs_length hc
    have h1 := of_decide_eq_false hp
    rw [List.eq_nil_of_length_eq_zero (show c.bs.length = 0 by have : ¬ c.at_ < c.en := fun h => h1 ⟨h0, h⟩; omega)]; rfl
  · rw [if_neg h0]

set_option maxRecDepth 20000 in
theorem per_any {b : Nat} {c : CS} {w : World} (h : CurT 89 w b c) (hc : c.ok) (ts : ByteArray) :
    Calls Tryz.prog 101 #[.pointer (some ⟨b, 0, none⟩), .string ts] w fun e w' => e = .returned (.string (bA (c.bs.take (c.pk ts.data.toList)))) ∧ CurT 89 w' b (c.past (c.pk ts.data.toList)) ∧ Only b w w' := by
  cases hp : c.peekIs with
  | false =>
    have HP := Lib.hid (peek_off h hc hp)
    have HR := Lib.hid (pk_off hc hp ts.data.toList)
    have hbl := h.lt
    clear hp h
    go_enter Tryz.func101, Tryz.ntmps101
    go_wp2_with (with_reducible refine HP.out.mono ?_; rintro e w1 ⟨rfl, hq1, hb1⟩)
    go_ret
    exact ⟨by rw [HR.out]; rfl, by rw [HR.out]; exact hq1, Only.of_below hb1⟩
  | true =>
    have h0 : c.er = 0 := (of_decide_eq_true hp).1
    have hne : c.bs ≠ [] := fun e => by have := (CS.bs_none hc e).1; rw [hp] at this; exact absurd this (by decide)
    obtain ⟨x, t, hd⟩ := List.exists_cons_of_ne_nil hne
    have HP := Lib.hid (peek_next h hc h0 hd)
    have HI := Lib.hid (fun w => ix_byte ts x w)
    have HX := ix_lt ts.data.toList x
    have hbl := h.lt
    by_cases hx : ts.data.toList.contains x = true
    · rw [hx] at HX
      have HR := Lib.hid (show c.pk ts.data.toList = 1 by unfold CS.pk; rw [if_pos h0, hd, pL_cons t hx])
      have HT := Lib.hid (fun w h => take_one (w := w) (b := b) h hc h0 hd)
      have HS := Lib.hid (show bA (c.bs.take 1) = bA [x] by rw [hd]; rfl)
      clear hp h hne hx hd h0
      generalize Lib.indexByte ts.data.toList x = K at *
      rw [Bool.not_true] at HX
      go_enter Tryz.func101, Tryz.ntmps101
      go_wp2_with fail
      with_reducible refine HP.out.mono ?_
      rintro e w1 ⟨rfl, hq1, hb1⟩
      go_wp2_with (go_at_call 118; with_reducible refine (HI.out _).mono ?_; rintro e w2 ⟨rfl, hw⟩; rw [hw]; clear hw)
      with_reducible refine (HT.out _ hq1).mono ?_
      rintro e w3 ⟨rfl, hq3, ho3⟩
      go_wp2
      go_ret
      exact ⟨by rw [HR.out]; exact ret_string HS.out.symm, by rw [HR.out]; exact hq3, (Only.of_below hb1).trans ho3⟩
    · rw [show ts.data.toList.contains x = false by simpa using hx] at HX
      have HR := Lib.hid (show c.pk ts.data.toList = 0 by unfold CS.pk; rw [if_pos h0, hd, pL_other t hx])
      clear hp h hne hx hd h0
      generalize Lib.indexByte ts.data.toList x = K at *
      rw [Bool.not_false] at HX
      go_enter Tryz.func101, Tryz.ntmps101
      go_wp2_with fail
      with_reducible refine HP.out.mono ?_
      rintro e w1 ⟨rfl, hq1, hb1⟩
      go_wp2_with (go_at_call 118; with_reducible refine (HI.out _).mono ?_; rintro e w2 ⟨rfl, hw⟩; rw [hw]; clear hw)
      go_ret
      exact ⟨by rw [HR.out]; rfl, by rw [HR.out]; exact hq1, Only.of_below hb1⟩

/-- What is wrong where a digit lacks. -/
def CS.lk (c : CS) : Int := if c.er = 0 then (if c.bs = [] then 1 else 3) else c.er
theorem CS.lk_ne (c : CS) : c.lk ≠ 0 := by
  unfold CS.lk
  by_cases h : c.er = 0
  · rw [if_pos h]; split <;> decide
  · rw [if_neg h]; exact h
theorem lacks_any {b : Nat} {c : CS} {w : World} (h : CurT 89 w b c) (hc : c.ok) :
    Calls Tryz.prog 120 #[.pointer (some ⟨b, 0, none⟩)] w fun e w' => e = .returned (.tuple #[]) ∧ CurT 89 w' b (c.bad c.lk) ∧ Only b w w' := by
  have hl := CS.bs_length hc
  have HL := Lib.hid (left_any h hc)
  have hbl := h.lt
  by_cases hz : c.at_ < c.en
  · have p1 : ((c.en : Int) - c.at_ == 0) = false := by simp; omega
    have HR := Lib.hid (show c.fail 3 = c.bad c.lk by
      unfold CS.lk
      by_cases h0 : c.er = 0
      · rw [CS.fail_good h0, if_pos h0, if_neg (fun e => by rw [e, List.length_nil] at hl; omega)]
      · rw [CS.fail_bad h0, if_neg h0]; rfl)
    clear hz hl
    go_enter Tryz.func120, Tryz.ntmps120
    go_wp2_with fail
    with_reducible refine HL.out.mono ?_
    rintro e w1 ⟨rfl, n, hw⟩
    have h1 : CurT 89 w1 b c := by rw [hw]; exact h.drewN n
    have ho1 : Only b w w1 := by rw [hw]; exact (Only.refl _ _).drewN n
    clear hw
    go_wp2_with fail
    with_reducible refine (fail_any h1 3).mono ?_
    rintro e w2 ⟨rfl, hq2, ho2⟩
    go_wp2
    go_end0
    exact ⟨rfl, by rw [← HR.out]; exact hq2, ho1.trans ho2⟩
  · have p1 : ((c.en : Int) - c.at_ == 0) = true := by have := hc.1; simp; omega
    have HR := Lib.hid (show (c.fail 1).fail 3 = c.bad c.lk by
      unfold CS.lk
      by_cases h0 : c.er = 0
      · rw [CS.fail_good h0, if_pos h0, if_pos (List.eq_nil_of_length_eq_zero (by omega)), CS.fail_bad (show ¬ (c.bad 1).er = 0 by show ¬ (1 : Int) = 0; decide)]
      · rw [CS.fail_bad h0, CS.fail_bad h0, if_neg h0]; rfl)
    clear hz hl
    go_enter Tryz.func120, Tryz.ntmps120
    go_wp2_with fail
    with_reducible refine HL.out.mono ?_
    rintro e w1 ⟨rfl, n, hw⟩
    have h1 : CurT 89 w1 b c := by rw [hw]; exact h.drewN n
    have ho1 : Only b w w1 := by rw [hw]; exact (Only.refl _ _).drewN n
    clear hw
    go_wp2_with fail
    with_reducible refine (fail_any h1 1).mono ?_
    rintro e w2 ⟨rfl, hq2, ho2⟩
    go_wp2_with fail
    with_reducible refine (fail_any hq2 3).mono ?_
    rintro e w3 ⟨rfl, hq3, ho3⟩
    go_wp2
    go_end0
    exact ⟨rfl, by rw [← HR.out]; exact hq3, (ho1.trans ho2).trans ho3⟩

abbrev digs : ByteArray := ⟨#[48, 49, 50, 51, 52, 53, 54, 55, 56, 57]⟩
theorem digs_all : ∀ i : Fin 256, digs.data.toList.contains (UInt8.ofNat i.val) = dIs (UInt8.ofNat i.val) := by decide +kernel
theorem digs_is (x : UInt8) : digs.data.toList.contains x = dIs x := by
  have := digs_all ⟨x.toNat, x.toNat_lt⟩
  rwa [show UInt8.ofNat x.toNat = x from UInt8.ofNat_toNat] at this

/-- Behind the goto: k digits were passed and kept. -/
def DigJ (c : CS) (b : Nat) (W : World) (a' : Act) (wr : World) : Prop :=
  ∃ (k : Nat) (v u4 u5 u6 u7 u8 u9 u10 u11 : Value), a' = { tmps := #[.pointer (some ⟨b, 0, none⟩), undef, .string ⟨#[]⟩, v, u4, u5, u6, u7, u8, u9, u10, u11, undef, undef, undef, undef, undef, undef, undef], defers := [] } ∧ k ≤ dL c.bs ∧ Bts 5 wr W.heap.size v (c.bs.take k) ∧ CurT 89 wr b (c.past k) ∧ Only b W wr
theorem dig_next {l : List UInt8} {k : Nat} (h : k < dL l) : ∃ x t, l.drop k = x :: t ∧ dIs x = true ∧ l.take (k + 1) = l.take k ++ [x] := by
  have hl := dL_len l
  have hlt : k < l.length := by omega
  refine ⟨l[k], l.drop (k + 1), List.drop_eq_getElem_cons hlt, ?_, List.take_succ_eq_append_getElem hlt⟩
  have h1 := take_dL_all l
  have h2 : (l.take (dL l))[k]'(by rw [List.length_take]; omega) = l[k] := List.getElem_take
  rw [← h2]
  exact List.all_eq_true.mp h1 _ (List.getElem_mem _)
theorem dig_stop (l : List UInt8) : pL digs.data.toList (l.drop (dL l)) = 0 := by
  have h1 : l.drop (dL l) = l.dropWhile dIs := by
    have e : (l.takeWhile dIs ++ l.dropWhile dIs).drop (dL l) = l.dropWhile dIs := by rw [List.drop_left']; rfl
    rwa [List.takeWhile_append_dropWhile] at e
  rw [h1]
  match hd : l.dropWhile dIs with
  | [] => rfl
  | x :: t =>
    have := List.head?_dropWhile_not dIs l
    rw [hd, List.head?_cons] at this
    rw [pL_other t (by rw [digs_is]; simpa using this)]
theorem dig_none {c : CS} (h0 : c.er = 0) (h : dL c.bs = 0) : c.dk = 0 ∧ c.de = c.lk := by
  unfold CS.dk CS.de CS.lk dE
  rw [if_pos h0, if_pos h0, if_pos h0, if_pos h]; exact ⟨h, rfl⟩
theorem dig_some {c : CS} (h0 : c.er = 0) (h : dL c.bs ≠ 0) : c.dk = dL c.bs ∧ c.de = 0 := by
  unfold CS.dk CS.de dE
  rw [if_pos h0, if_pos h0, if_neg h]; exact ⟨rfl, rfl⟩
set_option maxRecDepth 20000 in
set_option maxHeartbeats 2000000 in
theorem dig_good {b : Nat} {c : CS} {w : World} (h : CurT 89 w b c) (hc : c.ok) (h0 : c.er = 0) (hs : c.s.size ≤ 140737488352256) :
    Calls Tryz.prog 102 #[.pointer (some ⟨b, 0, none⟩)] w fun e w' => e = .returned (.string (bA (c.bs.take c.dk))) ∧ (∃ c', CurT 89 w' b c' ∧ CAt c c.dk c.de c') ∧ Only b w w' := by
  obtain ⟨i0, hi, hz0, hz1, hz2⟩ := info_parts info8
  have HC := Lib.hid (And.intro hc h0)
  have hbl := h.lt
  have hmax : c.bs.length ≤ 140737488352256 := by have := CS.bs_length hc; have := hc.2.1; omega
  clear hc h0
  go_enter Tryz.func102, Tryz.ntmps102
  go_wp2
  refine wp_scope_jumps 0 (DigJ c b w) (fun _ wr => c.en + 1 - atOf b wr) rfl ?_ ?_
  · obtain ⟨k, hk0⟩ : ∃ k : Nat, k = 0 := ⟨0, rfl⟩
    have hk : k ≤ dL c.bs := by omega
    have hb : Bts 5 w w.heap.size (.slice none 0 0) (c.bs.take k) := by rw [hk0]; exact World.ownsRow_nil _ _ _ _
    have hq : CurT 89 w b (c.past k) := by rw [hk0]; exact h
    have ho : Only b w w := Only.refl _ _
    have hkl : k ≤ c.bs.length := Nat.le_trans hk (dL_len _)
    have hok := Lib.hid (CS.past_fine HC.out.1 hkl)
    have hbp := CS.bs_past c k
    have hpe : (c.past k).er = 0 := HC.out.2
    have hsz := ho.size
    have HP := Lib.hid (per_any hq hok.out digs)
    by_cases hgo : k < dL c.bs
    · obtain ⟨x, t, hd, hx, hget⟩ := dig_next hgo
      have hpk : (c.past k).pk digs.data.toList = 1 := by unfold CS.pk; rw [if_pos hpe, hbp, hd, pL_cons t (by rw [digs_is]; exact hx)]
      rw [hpk, CS.past_past, hbp, hd] at HP
      obtain ⟨V, hV⟩ : ∃ V, V = bA ((x :: t).take 1) := ⟨_, rfl⟩
      rw [← hV] at HP
      have hVl : V.data.toList = [x] := by rw [hV]; rfl
      have hVz : V.size = 1 := by rw [← toList_size, hVl]; rfl
      have pE : V.toList.isEmpty = false := by rw [isEmpty_of, hVz]; rfl
      have HG := Lib.hid (show c.bs.take (k + 1) = c.bs.take k ++ V.data.toList by rw [hVl]; exact hget)
      have hl2 : (c.bs.take k).length + V.size ≤ 140737488355328 := by rw [List.length_take, hVz]; omega
      have HEN := Lib.hid (CS.bs_length HC.out.1)
      have hlt := Lib.hid (show k + 1 ≤ c.bs.length by have := dL_len c.bs; omega)
      have hgo2 := Lib.hid (show k + 1 ≤ dL c.bs by omega)
      clear hV hVl hd hx hget hpk hbp hgo hpe hVz
      go_wp2_with fail
      go_step3
      go_wp2_with fail
      with_reducible refine HP.out.mono ?_
      rintro e w1 ⟨rfl, hq1, ho1⟩
      have hv1 := hb.only ho1 hbl
      have ho2 := ho.trans ho1
      have hs2 := ho2.size
      have HQ := Lib.hid (fun w3 (h : Below w.heap.size w1 w3) => And.intro (Below.cur h hq1 hbl) (only_then ho2 h (Nat.le_refl _)))
      clear hq1 ho1 ho hq hb
      go_wp2_with (at_builtin; go_loud (refine wpList_append_text rfl (.tmp 9) (.tmp 10) 43 9 rfl 5 i0 Tryz.underlying43 Tryz.underlying9 hi hz0 hz1 hz2 _ w1 w1 w.heap.size _ V hv1 (Below.refl _ _) hs2 rfl rfl hl2 ?_; intro v4 w4 hv4 hb4))
      have hq4 := (HQ.out _ hb4).1
      have ho4 := (HQ.out _ hb4).2
      rw [← HG.out] at hv4
      go_step3
      exact ⟨rfl, k + 1, v4, _, _, _, _, _, _, _, _, rfl, hgo2.out, hv4, hq4, ho4⟩
    · have hkn : k = dL c.bs := by omega
      have hpk : (c.past k).pk digs.data.toList = 0 := by unfold CS.pk; rw [if_pos hpe, hbp, hkn, dig_stop]
      rw [hpk, CS.past_past, Nat.add_zero, List.take_zero] at HP
      have pE : (bA []).toList.isEmpty = true := by rw [isEmpty_of]; rfl
      by_cases hz : k = 0
      · have HN := Lib.hid (dig_none HC.out.2 (show dL c.bs = 0 by omega))
        have hlck : (c.past k).lk = c.lk := by rw [hz]; rfl
        have HLK := Lib.hid (fun w h => lacks_any (w := w) (b := b) h hok.out)
        rw [hlck] at HLK
        have HA := Lib.hid (CAt.bad0 HC.out.1 0 (CS.lk_ne c))
        have HK := Lib.hid hkn
        have HZ := Lib.hid hz
        clear hbp hpk hpe hgo hz hkn hlck
        go_wp2_with fail
        go_step3
        go_wp2_with fail
        with_reducible refine HP.out.mono ?_
        rintro e w1 ⟨rfl, hq1, ho1⟩
        have hv1 := hb.only ho1 hbl
        have ho2 := ho.trans ho1
        clear ho1 ho hq hb
        go_wp2_with fail
        with_reducible refine (HLK.out _ hq1).mono ?_
        rintro e w2 ⟨rfl, hq2, ho3⟩
        have htx := Lib.hid ((hv1.only ho3 hbl).text (P := Tryz.prog) (d := 9) Tryz.underlying43 Tryz.underlying5 Tryz.underlying9)
        go_wp2_with fail
        rw [htx.out]
        go_wp2
        simp only [Exit.jump]
        go_ret
        exact ⟨by rw [HN.out.1]; exact ret_string (by first | rfl | rw [HZ.out]), ⟨_, hq2, by rw [HN.out.1, HN.out.2, HZ.out, CS.past_zero]; exact HA.out⟩, ho2.trans ho3⟩
      · exact absurd hk0 hz
  · rintro a' wr ⟨k, v, u4, u5, u6, u7, u8, u9, u10, u11, rfl, hk, hb, hq, ho⟩
    have hkl : k ≤ c.bs.length := Nat.le_trans hk (dL_len _)
    have hok := Lib.hid (CS.past_fine HC.out.1 hkl)
    have hbp := CS.bs_past c k
    have hpe : (c.past k).er = 0 := HC.out.2
    have hsz := ho.size
    have hat := Lib.hid (atOf_cur hq)
    have HP := Lib.hid (per_any hq hok.out digs)
    by_cases hgo : k < dL c.bs
    · obtain ⟨x, t, hd, hx, hget⟩ := dig_next hgo
      have hpk : (c.past k).pk digs.data.toList = 1 := by unfold CS.pk; rw [if_pos hpe, hbp, hd, pL_cons t (by rw [digs_is]; exact hx)]
      rw [hpk, CS.past_past, hbp, hd] at HP
      obtain ⟨V, hV⟩ : ∃ V, V = bA ((x :: t).take 1) := ⟨_, rfl⟩
      rw [← hV] at HP
      have hVl : V.data.toList = [x] := by rw [hV]; rfl
      have hVz : V.size = 1 := by rw [← toList_size, hVl]; rfl
      have pE : V.toList.isEmpty = false := by rw [isEmpty_of, hVz]; rfl
      have HG := Lib.hid (show c.bs.take (k + 1) = c.bs.take k ++ V.data.toList by rw [hVl]; exact hget)
      have hl2 : (c.bs.take k).length + V.size ≤ 140737488355328 := by rw [List.length_take, hVz]; omega
      have HEN := Lib.hid (CS.bs_length HC.out.1)
      have hlt := Lib.hid (show k + 1 ≤ c.bs.length by have := dL_len c.bs; omega)
      have hgo2 := Lib.hid (show k + 1 ≤ dL c.bs by omega)
      have hkk := hkl
      clear hV hVl hd hx hget hpk hbp hgo hpe hVz
      go_wp2_with fail
      with_reducible refine HP.out.mono ?_
      rintro e w1 ⟨rfl, hq1, ho1⟩
      have hv1 := hb.only ho1 hbl
      have ho2 := ho.trans ho1
      have hs2 := ho2.size
      have HQ := Lib.hid (fun w3 (h : Below w.heap.size w1 w3) => And.intro (Below.cur h hq1 hbl) (only_then ho2 h (Nat.le_refl _)))
      clear hq1 ho1 ho hq hb
      go_wp2_with (at_builtin; go_loud (refine wpList_append_text rfl (.tmp 9) (.tmp 10) 43 9 rfl 5 i0 Tryz.underlying43 Tryz.underlying9 hi hz0 hz1 hz2 _ w1 w1 w.heap.size _ V hv1 (Below.refl _ _) hs2 rfl rfl hl2 ?_; intro v4 w4 hv4 hb4))
      have hq4 := (HQ.out _ hb4).1
      have ho4 := (HQ.out _ hb4).2
      rw [← HG.out] at hv4
      go_step3
      refine ⟨rfl, ⟨k + 1, v4, _, _, _, _, _, _, _, _, rfl, hgo2.out, hv4, hq4, ho4⟩, ?_⟩
      have e1 := hat.out
      have e2 := atOf_cur hq4
      have e3 := HEN.out
      have e4 := hlt.out
      have e5 := HC.out.1.1
      have e6 : (c.past k).at_ = c.at_ + k := rfl
      have e7 : (c.past (k + 1)).at_ = c.at_ + (k + 1) := rfl
      omega
    · have hkn : k = dL c.bs := by omega
      have hpk : (c.past k).pk digs.data.toList = 0 := by unfold CS.pk; rw [if_pos hpe, hbp, hkn, dig_stop]
      rw [hpk, CS.past_past, Nat.add_zero, List.take_zero] at HP
      have pE : (bA []).toList.isEmpty = true := by rw [isEmpty_of]; rfl
      obtain ⟨ad, cp, rfl⟩ := hb.shape
      have hlk : (c.bs.take k).length = k := by rw [List.length_take]; omega
      rw [hlk] at hb ⊢
      by_cases hz : k = 0
      · have HN := Lib.hid (dig_none HC.out.2 (show dL c.bs = 0 by omega))
        have hlck : (c.past k).lk = c.lk := by rw [hz]; rfl
        have HLK := Lib.hid (fun w h => lacks_any (w := w) (b := b) h hok.out)
        rw [hlck] at HLK
        have HA := Lib.hid (CAt.bad0 HC.out.1 0 (CS.lk_ne c))
        have p1 : ((k : Int) == 0) = true := by simp [hz]
        have HK := Lib.hid hkn
        have HZ := Lib.hid hz
        clear hbp hpk hpe hgo hz hkn hlck
        go_wp2_with fail
        with_reducible refine HP.out.mono ?_
        rintro e w1 ⟨rfl, hq1, ho1⟩
        have hv1 := hb.only ho1 hbl
        have ho2 := ho.trans ho1
        clear ho1 ho hq hb
        go_wp2_with fail
        with_reducible refine (HLK.out _ hq1).mono ?_
        rintro e w2 ⟨rfl, hq2, ho3⟩
        have htx := Lib.hid ((hv1.only ho3 hbl).text (P := Tryz.prog) (d := 9) Tryz.underlying43 Tryz.underlying5 Tryz.underlying9)
        go_wp2_with fail
        rw [htx.out]
        go_wp2
        simp only [Exit.jump]
        go_ret
        exact ⟨by rw [HN.out.1]; exact ret_string (by first | rfl | rw [HZ.out]), ⟨_, hq2, by rw [HN.out.1, HN.out.2, HZ.out, CS.past_zero]; exact HA.out⟩, ho2.trans ho3⟩
      · have HN := Lib.hid (dig_some HC.out.2 (show dL c.bs ≠ 0 by omega))
        have p1 : ((k : Int) == 0) = false := beq_eq_false_iff_ne.mpr (by omega)
        have HA := Lib.hid (CAt.past HC.out.1 HC.out.2 (dL_len c.bs))
        have HK := Lib.hid hkn
        have HZ := Lib.hid hz
        clear hbp hpk hpe hgo hz hkn
        go_wp2_with fail
        with_reducible refine HP.out.mono ?_
        rintro e w1 ⟨rfl, hq1, ho1⟩
        have hv1 := hb.only ho1 hbl
        have ho2 := ho.trans ho1
        clear ho1 ho hq hb
        go_wp2_with fail
        have htx := Lib.hid (hv1.text (P := Tryz.prog) (d := 9) Tryz.underlying43 Tryz.underlying5 Tryz.underlying9)
        rw [htx.out]
        go_wp2
        simp only [Exit.jump]
        go_ret
        exact ⟨by rw [HN.out.1]; exact ret_string (by rw [HK.out]), ⟨_, hq1, by rw [HN.out.1, HN.out.2, HK.out]; exact HA.out⟩, ho2⟩
set_option maxRecDepth 20000 in
theorem dig_off {b : Nat} {c : CS} {w : World} (h : CurT 89 w b c) (hc : c.ok) (h0 : ¬ c.er = 0) :
    Calls Tryz.prog 102 #[.pointer (some ⟨b, 0, none⟩)] w fun e w' => e = .returned (.string (bA (c.bs.take c.dk))) ∧ (∃ c', CurT 89 w' b c' ∧ CAt c c.dk c.de c') ∧ Only b w w' := by
  have HP := Lib.hid (per_any h hc digs)
  have hpk : c.pk digs.data.toList = 0 := by unfold CS.pk; rw [if_neg h0]
  rw [hpk, CS.past_zero, List.take_zero] at HP
  have HLK := Lib.hid (fun w h => lacks_any (w := w) (b := b) h hc)
  have pE : (bA []).toList.isEmpty = true := by rw [isEmpty_of]; rfl
  have HN := Lib.hid (show c.dk = 0 ∧ c.de = c.lk by unfold CS.dk CS.de CS.lk; rw [if_neg h0, if_neg h0, if_neg h0]; exact ⟨rfl, rfl⟩)
  have HA := Lib.hid (CAt.bad0 hc 0 (CS.lk_ne c))
  have hbl := h.lt
  clear hpk h0 hc h
  go_enter Tryz.func102, Tryz.ntmps102
  go_wp2
  go_step3
  go_wp2
  go_step3
  go_wp2_with fail
  with_reducible refine HP.out.mono ?_
  rintro e w1 ⟨rfl, hq1, ho1⟩
  go_wp2_with fail
  with_reducible refine (HLK.out _ hq1).mono ?_
  rintro e w2 ⟨rfl, hq2, ho2⟩
  have htx := Lib.hid ((show Bts 5 w2 w.heap.size (.slice none 0 0) [] from World.ownsRow_nil _ _ _ _).text (P := Tryz.prog) (t := 43) (d := 9) Tryz.underlying43 Tryz.underlying5 Tryz.underlying9)
  go_wp2_with fail
  rw [htx.out]
  go_wp2
  try rw [Exit.noGoto_ret]
  go_ret
  exact ⟨by rw [HN.out.1]; rfl, ⟨_, hq2, by rw [HN.out.1, HN.out.2]; exact HA.out⟩, ho1.trans ho2⟩
theorem dig_any {b : Nat} {c : CS} {w : World} (h : CurT 89 w b c) (hc : c.ok) (hs : c.s.size ≤ 140737488352256) :
    Calls Tryz.prog 102 #[.pointer (some ⟨b, 0, none⟩)] w fun e w' => e = .returned (.string (bA (c.bs.take c.dk))) ∧ (∃ c', CurT 89 w' b c' ∧ CAt c c.dk c.de c') ∧ Only b w w' := by
  by_cases h0 : c.er = 0
  · exact dig_good h hc h0 hs
  · exact dig_off h hc h0
end Go.Proofs.YtnbhhnkcfbfdcaaGreatDoor
/- Package jnum's Read. -/
namespace Go.Proofs.YtnbhhnkcfbfdcaaGreatDoor
open Go Go.RowKit
set_option linter.unusedVariables false

def CS.eBc (c : CS) : Int := if c.er = 0 then eB c.bs else c.er
def CS.eCc (c : CS) : Int := if c.er = 0 then eC c.bs else c.er
/-- What is wrong with the number that begins here. -/
def CS.nc (c : CS) : Int := if c.er = 0 then nCode c.bs else c.er
/-- Its text. -/
def CS.nt (c : CS) : List UInt8 := if c.nc = 0 then c.bs.take (nE c.bs) else []
/-- What a stage leaves: the text so far, and where the cursor is. -/
def NRdRel (c : CS) (b : Nat) (W : World) (k : Nat) (e : Int) (N : Nat) (v : Value) (wr : World) : Prop :=
  ∃ (T : ByteArray) (c' : CS), v = .string T ∧ (e = 0 → T = bA (c.bs.take k)) ∧ T.size ≤ N ∧ CAt c k e c' ∧ CurT 89 wr b c' ∧ Only b W wr

theorem bA_two (l : List UInt8) (k d : Nat) : bA (l.take k) ++ bA ((l.drop k).take d) = bA (l.take (k + d)) := by
  rw [bA_append, ← List.take_add]
theorem pk_yes {c : CS} {ts : List UInt8} (h : c.pk ts = 1) : c.er = 0 ∧ pL ts c.bs = 1 := by
  unfold CS.pk at h
  by_cases h0 : c.er = 0
  · rw [if_pos h0] at h; exact ⟨h0, h⟩
  · rw [if_neg h0] at h; omega
theorem pk_no {c : CS} {ts : List UInt8} (h : ¬ c.pk ts = 1) (h0 : c.er = 0) : ¬ pL ts c.bs = 1 := by
  unfold CS.pk at h
  rwa [if_pos h0] at h
theorem pk_text {c : CS} {ts : List UInt8} (h : c.pk ts = 1) : (bA (c.bs.take (c.pk ts))).size = 1 := by
  have := c.pk_le ts
  rw [bA_size, List.length_take]; omega
theorem stage1_z {c : CS} (h : (c.past (c.pk [45])).pk [48] = 1) : c.er = 0 ∧ c.eBc = 0 ∧ c.pk [45] = nA c.bs ∧ nB c.bs = c.pk [45] + 1 := by
  obtain ⟨h0, h1⟩ := pk_yes h
  have h0' : c.er = 0 := h0
  have hA : c.pk [45] = nA c.bs := by unfold CS.pk nA; rw [if_pos h0']
  rw [CS.bs_past, hA] at h1
  refine ⟨h0', ?_, hA, ?_⟩
  · unfold CS.eBc eB iE; rw [if_pos h0', if_pos h1]
  · unfold nB iL; rw [if_pos h1, hA]
theorem stage1_d {c : CS} (h : ¬ (c.past (c.pk [45])).pk [48] = 1) : (c.past (c.pk [45])).de = c.eBc ∧ (c.eBc = 0 → nB c.bs = c.pk [45] + (c.past (c.pk [45])).dk) := by
  by_cases h0 : c.er = 0
  · have hA : c.pk [45] = nA c.bs := by unfold CS.pk nA; rw [if_pos h0]
    have h0' : (c.past (c.pk [45])).er = 0 := h0
    have h1 := pk_no h h0'
    rw [CS.bs_past, hA] at h1
    refine ⟨?_, fun _ => ?_⟩
    · unfold CS.de CS.eBc eB iE; rw [if_pos h0', if_pos h0, if_neg h1, CS.bs_past, hA]
    · unfold CS.dk nB iL; rw [if_pos h0', if_neg h1, CS.bs_past, hA]
  · have h0' : ¬ (c.past (c.pk [45])).er = 0 := h0
    refine ⟨?_, fun e => ?_⟩
    · unfold CS.de CS.eBc; rw [if_neg h0', if_neg h0]; rfl
    · unfold CS.eBc at e; rw [if_neg h0] at e; exact absurd e h0
theorem CAt.zero {c c' : CS} {k : Nat} {e : Int} (h : CAt c k e c') (h0 : c'.er = 0) : e = 0 ∧ c' = c.past k ∧ c.er = 0 := by
  have he : e = 0 := h.2.2.2.1.symm.trans h0
  have h1 := h.2.2.2.2 he
  exact ⟨he, h1, by rw [h1] at h0; exact h0⟩
theorem stage2_f {c c' : CS} (hA : CAt c (nB c.bs) c.eBc c') (h : c'.pk [46] = 1) : c.eBc = 0 ∧ c' = c.past (nB c.bs) ∧ (c'.past 1).de = c.eCc ∧ (c.eCc = 0 → nC c.bs = nB c.bs + (1 + (c'.past 1).dk)) := by
  obtain ⟨h0, h1⟩ := pk_yes h
  obtain ⟨e1, e2, e3⟩ := hA.zero h0
  have h0' : (c'.past 1).er = 0 := h0
  have hb : c'.bs = c.bs.drop (nB c.bs) := by rw [e2, CS.bs_past]
  have hb1 : (c'.past 1).bs = (c.bs.drop (nB c.bs)).drop 1 := by rw [CS.bs_past, hb]
  rw [hb] at h1
  have e1' := e1
  unfold CS.eBc at e1'
  rw [if_pos e3] at e1'
  refine ⟨e1, e2, ?_, fun _ => ?_⟩
  · unfold CS.de CS.eCc eC fE; rw [if_pos h0', if_pos e3, if_pos e1', if_pos h1, hb1]
  · unfold CS.dk nC fL; rw [if_pos h0', if_pos h1, hb1]
theorem stage2_n {c c' : CS} (hA : CAt c (nB c.bs) c.eBc c') (h : ¬ c'.pk [46] = 1) : CAt c (nC c.bs) c.eCc c' ∧ (c.eCc = 0 → c.eBc = 0 ∧ nC c.bs = nB c.bs) := by
  by_cases he : c.eBc = 0
  · have h1 := hA.2.2.2.2 he
    have h0 : c'.er = 0 := hA.2.2.2.1.trans he
    obtain ⟨_, _, e3⟩ := hA.zero h0
    have hn := pk_no h h0
    rw [h1, CS.bs_past] at hn
    have e1' := he
    unfold CS.eBc at e1'
    rw [if_pos e3] at e1'
    have e4 : c.eCc = c.eBc := by
      unfold CS.eCc eC fE; rw [if_pos e3, if_pos e1', if_neg hn, he]
    have e5 : nC c.bs = nB c.bs := by unfold nC fL; rw [if_neg hn]; rfl
    rw [e4, e5]; exact ⟨hA, fun _ => ⟨he, rfl⟩⟩
  · have e4 : c.eCc = c.eBc := by
      unfold CS.eCc CS.eBc eC
      by_cases h0 : c.er = 0
      · have he' := he
        unfold CS.eBc at he'
        rw [if_pos h0] at he'
        rw [if_pos h0, if_pos h0, if_neg he']
      · rw [if_neg h0, if_neg h0]
    rw [e4]
    exact ⟨hA.no he, fun e => absurd e he⟩
theorem stage3_x {c c' : CS} (hA : CAt c (nC c.bs) c.eCc c') (h : c'.pk [101, 69] = 1) : c.eCc = 0 ∧ c' = c.past (nC c.bs) ∧ ((c'.past 1).past ((c'.past 1).pk [43, 45])).de = c.nc ∧ (c.nc = 0 → nE c.bs = nC c.bs + (1 + (c'.past 1).pk [43, 45] + ((c'.past 1).past ((c'.past 1).pk [43, 45])).dk)) := by
  obtain ⟨h0, h1⟩ := pk_yes h
  obtain ⟨e1, e2, e3⟩ := hA.zero h0
  have h0' : (c'.past 1).er = 0 := h0
  have hb : c'.bs = c.bs.drop (nC c.bs) := by rw [e2, CS.bs_past]
  have hb1 : (c'.past 1).bs = (c.bs.drop (nC c.bs)).drop 1 := by rw [CS.bs_past, hb]
  rw [hb] at h1
  have hS : 1 + (c'.past 1).pk [43, 45] = xS (c.bs.drop (nC c.bs)) := by unfold CS.pk xS; rw [if_pos h0', hb1]
  have h0'' : ((c'.past 1).past ((c'.past 1).pk [43, 45])).er = 0 := h0
  have hb2 : ((c'.past 1).past ((c'.past 1).pk [43, 45])).bs = (c.bs.drop (nC c.bs)).drop (xS (c.bs.drop (nC c.bs))) := by rw [CS.past_past, CS.bs_past, hb, hS]
  have e1' := e1
  unfold CS.eCc at e1'
  rw [if_pos e3] at e1'
  refine ⟨e1, e2, ?_, fun _ => ?_⟩
  · unfold CS.de CS.nc nCode xE; rw [if_pos h0'', if_pos e3, if_pos e1', if_pos h1, hb2]
  · unfold CS.dk nE xL; rw [if_pos h0'', if_pos h1, hb2, hS]
theorem stage3_n {c c' : CS} (hA : CAt c (nC c.bs) c.eCc c') (h : ¬ c'.pk [101, 69] = 1) : CAt c (nE c.bs) c.nc c' ∧ (c.nc = 0 → c.eCc = 0 ∧ nE c.bs = nC c.bs) := by
  by_cases he : c.eCc = 0
  · have h1 := hA.2.2.2.2 he
    have h0 : c'.er = 0 := hA.2.2.2.1.trans he
    obtain ⟨_, _, e3⟩ := hA.zero h0
    have hn := pk_no h h0
    rw [h1, CS.bs_past] at hn
    have e1' := he
    unfold CS.eCc at e1'
    rw [if_pos e3] at e1'
    have e4 : c.nc = c.eCc := by
      unfold CS.nc nCode xE; rw [if_pos e3, if_pos e1', if_neg hn, he]
    have e5 : nE c.bs = nC c.bs := by unfold nE xL; rw [if_neg hn]; rfl
    rw [e4, e5]; exact ⟨hA, fun _ => ⟨he, rfl⟩⟩
  · have e4 : c.nc = c.eCc := by
      unfold CS.nc CS.eCc nCode
      by_cases h0 : c.er = 0
      · have he' := he
        unfold CS.eCc at he'
        rw [if_pos h0] at he'
        rw [if_pos h0, if_pos h0, if_neg he']
      · rw [if_neg h0, if_neg h0]
    rw [e4]
    exact ⟨hA.no he, fun e => absurd e he⟩
theorem bs_upto {c : CS} (hc : c.ok) (hs : c.s.size ≤ 140737488352256) (k : Nat) : (bA (c.bs.take k)).size ≤ 140737488352256 := by
  have := CS.bs_length hc
  have := hc.2.1
  rw [bA_size, List.length_take]; omega
set_option maxRecDepth 20000 in
set_option maxHeartbeats 4000000 in
theorem nread_any {b : Nat} {c : CS} {w : World} (h : CurT 89 w b c) (hc : c.ok) (hs : c.s.size ≤ 140737488352256) :
    Calls Tryz.prog 89 #[.pointer (some ⟨b, 0, none⟩)] w fun e w' => e = .returned (.string (bA c.nt)) ∧ (∃ c', CurT 89 w' b c' ∧ CAt c (nE c.bs) c.nc c') ∧ Only b w w' := by
  have HC := Lib.hid (And.intro hc hs)
  have HP0 : Hid (Calls Tryz.prog 101 #[.pointer (some ⟨b, 0, none⟩), .string ⟨#[45]⟩] w fun e w' => e = .returned (.string (bA (c.bs.take (c.pk [45])))) ∧ CurT 89 w' b (c.past (c.pk [45])) ∧ Only b w w') := Lib.hid (per_any h hc ⟨#[45]⟩)
  have hM1 := bs_upto hc hs (c.pk [45])
  obtain ⟨M, hM⟩ : ∃ M, M = bA (c.bs.take (c.pk [45])) := ⟨_, rfl⟩
  have HM := Lib.hid hM
  rw [← hM] at HP0 hM1
  have hok1 := CS.past_fine hc (c.pk_le [45])
  have hbl := h.lt
  have HZ1 := Lib.hid (stage1_z (c := c))
  have HD1 := Lib.hid (stage1_d (c := c))
  obtain ⟨c1, hc1⟩ : ∃ c1, c1 = c.past (c.pk [45]) := ⟨_, rfl⟩
  have HE1 := Lib.hid hc1
  have hs1 : c1.s.size ≤ 140737488352256 := by rw [hc1]; exact hs
  rw [← hc1] at HP0 hok1 HZ1 HD1
  have hZ1 := bs_upto hok1 hs1 (c1.pk [48])
  have HP1 : Hid (∀ w, CurT 89 w b c1 → Calls Tryz.prog 101 #[.pointer (some ⟨b, 0, none⟩), .string ⟨#[48]⟩] w fun e w' => e = .returned (.string (bA (c1.bs.take (c1.pk [48])))) ∧ CurT 89 w' b (c1.past (c1.pk [48])) ∧ Only b w w') := Lib.hid (fun w h => per_any h hok1 ⟨#[48]⟩)
  have HZt := Lib.hid (pk_text (c := c1) (ts := [48]))
  have HZo := Lib.hid (c1.pk_one [48])
  obtain ⟨Z, hZ⟩ : ∃ Z, Z = bA (c1.bs.take (c1.pk [48])) := ⟨_, rfl⟩
  have HZ := Lib.hid hZ
  rw [← hZ] at HP1 HZt hZ1
  have HK1 := Lib.hid (And.intro hok1 hs1)
  clear hM hc1 hZ hok1 hs1 hc h
  go_enter Tryz.func89, Tryz.ntmps89
  go_wp2_with fail
  with_reducible refine HP0.out.mono ?_
  rintro e w1 ⟨rfl, hq1, ho1⟩
  go_wp2_with fail
  with_reducible refine (HP1.out _ hq1).mono ?_
  rintro e w2 ⟨rfl, hq2, ho2⟩
  have ho3 := ho1.trans ho2
  clear HP0 HP1 hq1 ho1 ho2
  go_upto_if 12 with fail
  go_cut [3] from 7 (fun v wr => NRdRel c b w (nB c.bs) c.eBc 422212465065984 v wr)
  case first =>
    by_cases hz : c1.pk [48] = 1
    · have pE : (!Z.toList.isEmpty) = true := by rw [isEmpty_of, HZt.out hz]; rfl
      have HR := Lib.hid (HZ1.out hz)
      have HY := Lib.hid hz
      clear hz
      rw [pE]
      go_wp2_with fail
      go_meet
      case rel =>
        obtain ⟨r1, r2, r3, r4⟩ := HR.out
        have e0 : (nB c.bs) ≤ c.bs.length := nB_len _
        refine ⟨M ++ Z, _, rfl, fun _ => ?_, by rw [ByteArray.size_append]; omega, ?_, hq2, ho3⟩
        · rw [HM.out, HZ.out, HE1.out, CS.bs_past, r4]
          rw [HE1.out] at HY
          rw [HY.out, bA_two]
        · rw [HY.out, HE1.out, CS.past_past, r2, ← r4]
          exact CAt.past HC.out.1 r1 e0
    · have pE : (!Z.toList.isEmpty) = false := by
        have h1 := HZo.out
        rw [isEmpty_of, HZ.out, bA_size, List.length_take, decide_eq_true (by omega)]; rfl
      have HR := Lib.hid (HD1.out hz)
      have hpk : c1.pk [48] = 0 := by have := HZo.out; omega
      rw [hpk, CS.past_zero] at hq2
      have hD1 := bs_upto HK1.out.1 HK1.out.2 c1.dk
      have HG := Lib.hid (dig_any hq2 HK1.out.1 HK1.out.2)
      obtain ⟨D, hD⟩ : ∃ D, D = bA (c1.bs.take c1.dk) := ⟨_, rfl⟩
      rw [← hD] at HG hD1
      have HDD := Lib.hid hD
      clear hz hpk hD
      rw [pE]
      go_wp2_with fail
      with_reducible refine HG.out.mono ?_
      rintro e w3 ⟨rfl, ⟨c3, hq3, hA3⟩, ho4⟩
      go_wp2_with fail
      go_meet
      case rel =>
        obtain ⟨r1, r2⟩ := HR.out
        have hA4 : CAt c (c.pk [45] + c1.dk) c.eBc c3 := by
          rw [← r1]
          exact CAt.more (by rw [← HE1.out]; exact hA3)
        refine ⟨M ++ D, c3, rfl, fun he => ?_, by rw [ByteArray.size_append]; omega, ?_, hq3, ho3.trans ho4⟩
        · rw [HM.out, HDD.out, r2 he, HE1.out, CS.bs_past, bA_two]
        · by_cases he : c.eBc = 0
          · rw [r2 he]; exact hA4
          · exact hA4.no he
  case rest =>
    clear HZ1 HD1 HZo HZt HZ HK1 HE1 HM hM1 hZ1 hq2 ho3
    obtain ⟨T, c3, rfl, hT, hTs, hA3, hq3, ho4⟩ := hcut
    have HT := Lib.hid hT
    have hok3 := hA3.1
    have hs3 : c3.s.size ≤ 140737488352256 := by rw [hA3.2.1]; exact hs
    have HF := Lib.hid (stage2_f hA3)
    have HN := Lib.hid (stage2_n hA3)
    have hF1 := bs_upto hok3 hs3 (c3.pk [46])
    have HP3 : Hid (Calls Tryz.prog 101 #[.pointer (some ⟨b, 0, none⟩), .string ⟨#[46]⟩] wc fun e w' => e = .returned (.string (bA (c3.bs.take (c3.pk [46])))) ∧ CurT 89 w' b (c3.past (c3.pk [46])) ∧ Only b wc w') := Lib.hid (per_any hq3 hok3 ⟨#[46]⟩)
    have HFt := Lib.hid (pk_text (c := c3) (ts := [46]))
    have HFo := Lib.hid (c3.pk_one [46])
    obtain ⟨F, hF⟩ : ∃ F, F = bA (c3.bs.take (c3.pk [46])) := ⟨_, rfl⟩
    have HFF := Lib.hid hF
    rw [← hF] at HP3 HFt hF1
    have HK3 := Lib.hid (And.intro hok3 hs3)
    have HA3 := Lib.hid hA3
    clear hF hT hok3 hs3 hA3 hq3
    go_wp2_with fail
    with_reducible refine HP3.out.mono ?_
    rintro e w5 ⟨rfl, hq5, ho5⟩
    have ho6 := ho4.trans ho5
    clear HP3 ho4 ho5
    go_upto_if 23 with fail
    go_cut [3] from 7 (fun v wr => NRdRel c b w (nC c.bs) c.eCc 985162418487296 v wr)
    case first =>
      by_cases hz : c3.pk [46] = 1
      · have pE : (!F.toList.isEmpty) = true := by rw [isEmpty_of, HFt.out hz]; rfl
        have HR := Lib.hid (HF.out hz)
        rw [hz] at hq5 HFF
        have hk1 : 1 ≤ c3.bs.length := by rw [← hz]; exact c3.pk_le _
        have hok4 := CS.past_fine HK3.out.1 hk1
        have hs4 : (c3.past 1).s.size ≤ 140737488352256 := HK3.out.2
        have hD1 := bs_upto hok4 hs4 (c3.past 1).dk
        have HG := Lib.hid (dig_any hq5 hok4 hs4)
        obtain ⟨D, hD⟩ : ∃ D, D = bA ((c3.past 1).bs.take (c3.past 1).dk) := ⟨_, rfl⟩
        rw [← hD] at HG hD1
        have HDD := Lib.hid hD
        clear hz hD hk1 hok4 hs4
        rw [pE]
        go_wp2_with fail
        with_reducible refine HG.out.mono ?_
        rintro e w6 ⟨rfl, ⟨c5, hq7, hA5⟩, ho7⟩
        go_wp2_with fail
        go_meet
        case rel =>
          obtain ⟨r1, r2, r3, r4⟩ := HR.out
          have hA6 : CAt c (nB c.bs + (1 + (c3.past 1).dk)) c.eCc c5 := by
            rw [← r3, ← Nat.add_assoc]
            refine CAt.more (j := nB c.bs + 1) ?_
            have := hA5
            rw [r2, CS.past_past] at this
            rw [r2, CS.past_past]; exact this
          refine ⟨T ++ (F ++ D), c5, rfl, fun he => ?_, by rw [ByteArray.size_append, ByteArray.size_append]; omega, ?_, hq7, ho6.trans ho7⟩
          · rw [HT.out r1, HFF.out, HDD.out, r4 he, CS.bs_past, bA_two, show c3.bs = c.bs.drop (nB c.bs) by rw [r2, CS.bs_past], bA_two]
          · by_cases he : c.eCc = 0
            · rw [r4 he]; exact hA6
            · exact hA6.no he
      · have pE : (!F.toList.isEmpty) = false := by
          have h1 := HFo.out
          rw [isEmpty_of, HFF.out, bA_size, List.length_take, decide_eq_true (by omega)]; rfl
        have HR := Lib.hid (HN.out hz)
        have hpk : c3.pk [46] = 0 := by have := HFo.out; omega
        rw [hpk, CS.past_zero] at hq5
        clear hz hpk
        rw [pE]
        go_wp2_with fail
        go_meet
        case rel =>
          obtain ⟨r1, r2⟩ := HR.out
          exact ⟨T, c3, rfl, fun he => by rw [HT.out (r2 he).1, (r2 he).2], by omega, r1, hq5, ho6⟩
    case rest =>
      clear HF HN hF1 HFt HFo HFF HK3 HA3 HT hTs hq5 ho6
      obtain ⟨U, c5, rfl, hU, hUs, hA5, hq7, ho7⟩ := hcut
      have HU := Lib.hid hU
      have hok5 := hA5.1
      have hs5 : c5.s.size ≤ 140737488352256 := by rw [hA5.2.1]; exact hs
      have HX := Lib.hid (stage3_x hA5)
      have HN := Lib.hid (stage3_n hA5)
      have hX1 := bs_upto hok5 hs5 (c5.pk [101, 69])
      have HP5 : Hid (Calls Tryz.prog 101 #[.pointer (some ⟨b, 0, none⟩), .string ⟨#[101, 69]⟩] wc fun e w' => e = .returned (.string (bA (c5.bs.take (c5.pk [101, 69])))) ∧ CurT 89 w' b (c5.past (c5.pk [101, 69])) ∧ Only b wc w') := Lib.hid (per_any hq7 hok5 ⟨#[101, 69]⟩)
      have HXt := Lib.hid (pk_text (c := c5) (ts := [101, 69]))
      have HXo := Lib.hid (c5.pk_one [101, 69])
      obtain ⟨X, hX⟩ : ∃ X, X = bA (c5.bs.take (c5.pk [101, 69])) := ⟨_, rfl⟩
      have HXX := Lib.hid hX
      rw [← hX] at HP5 HXt hX1
      have HK5 := Lib.hid (And.intro hok5 hs5)
      clear hX hU hok5 hs5 hA5 hq7
      go_wp2_with fail
      with_reducible refine HP5.out.mono ?_
      rintro e w8 ⟨rfl, hq8, ho8⟩
      have ho9 := ho7.trans ho8
      clear HP5 ho7 ho8
      go_upto_if 33 with fail
      go_cut [3] from 7 (fun v wr => NRdRel c b w (nE c.bs) c.nc 1688849860263936 v wr)
      case first =>
        by_cases hz : c5.pk [101, 69] = 1
        · have pE : (!X.toList.isEmpty) = true := by rw [isEmpty_of, HXt.out hz]; rfl
          have HR := Lib.hid (HX.out hz)
          rw [hz] at hq8 HXX
          have hk1 : 1 ≤ c5.bs.length := by rw [← hz]; exact c5.pk_le _
          have hok6 := CS.past_fine HK5.out.1 hk1
          have hs6 : (c5.past 1).s.size ≤ 140737488352256 := HK5.out.2
          obtain ⟨c6, hc6⟩ : ∃ c6, c6 = c5.past 1 := ⟨_, rfl⟩
          have H6 := Lib.hid (And.intro hc6 (show c6.bs = c5.bs.drop 1 by rw [hc6]; exact CS.bs_past _ _))
          rw [← hc6] at hok6 hs6 hq8 HR
          have hS1 := bs_upto hok6 hs6 (c6.pk [43, 45])
          have HP6 : Hid (Calls Tryz.prog 101 #[.pointer (some ⟨b, 0, none⟩), .string ⟨#[43, 45]⟩] w8 fun e w' => e = .returned (.string (bA (c6.bs.take (c6.pk [43, 45])))) ∧ CurT 89 w' b (c6.past (c6.pk [43, 45])) ∧ Only b w8 w') := Lib.hid (per_any hq8 hok6 ⟨#[43, 45]⟩)
          obtain ⟨S, hS⟩ : ∃ S, S = bA (c6.bs.take (c6.pk [43, 45])) := ⟨_, rfl⟩
          have HSS := Lib.hid hS
          rw [← hS] at HP6 hS1
          have hok7 := CS.past_fine hok6 (c6.pk_le [43, 45])
          obtain ⟨c7, hc7⟩ : ∃ c7, c7 = c6.past (c6.pk [43, 45]) := ⟨_, rfl⟩
          have hs7 : c7.s.size ≤ 140737488352256 := by rw [hc7]; exact hs6
          have H7 := Lib.hid (And.intro hc7 (show c7.bs = c6.bs.drop (c6.pk [43, 45]) by rw [hc7]; exact CS.bs_past _ _))
          rw [← hc7] at hok7 HP6 HR
          have hD1 := bs_upto hok7 hs7 c7.dk
          have HG := Lib.hid (fun w h => dig_any (w := w) (b := b) h hok7 hs7)
          obtain ⟨D, hD⟩ : ∃ D, D = bA (c7.bs.take c7.dk) := ⟨_, rfl⟩
          rw [← hD] at HG hD1
          have HDD := Lib.hid hD
          clear hz hD hk1 hok6 hs6 hc6 hS hok7 hs7 hc7 hq8
          rw [pE]
          go_wp2_with fail
          with_reducible refine HP6.out.mono ?_
          rintro e w10 ⟨rfl, hq10, ho10⟩
          go_wp2_with fail
          with_reducible refine (HG.out _ hq10).mono ?_
          rintro e w11 ⟨rfl, ⟨c8, hq11, hA8⟩, ho11⟩
          go_wp2_with fail
          go_meet
          case rel =>
            obtain ⟨r1, r2, r3, r4⟩ := HR.out
            have e6 : c6 = c.past (nC c.bs + 1) := by rw [H6.out.1, r2, CS.past_past]
            have e7 : c7 = c.past (nC c.bs + 1 + c6.pk [43, 45]) := by
              have := H7.out.1
              rw [this]
              have e8 : ∀ k, c6.past k = c.past (nC c.bs + 1 + k) := fun k => by rw [e6, CS.past_past]
              exact e8 _
            have hA9 : CAt c (nC c.bs + (1 + c6.pk [43, 45] + c7.dk)) c.nc c8 := by
              rw [← r3, ← Nat.add_assoc, ← Nat.add_assoc]
              refine CAt.more (j := nC c.bs + 1 + c6.pk [43, 45]) ?_
              rw [← e7]; exact hA8
            refine ⟨U ++ (X ++ S ++ D), c8, rfl, fun he => ?_, by rw [ByteArray.size_append, ByteArray.size_append, ByteArray.size_append]; omega, ?_, hq11, (ho9.trans ho10).trans ho11⟩
            · have b5 : c5.bs = c.bs.drop (nC c.bs) := by rw [r2, CS.bs_past]
              have b7 : c7.bs = c5.bs.drop (1 + c6.pk [43, 45]) := by rw [H7.out.2, H6.out.2, List.drop_drop]
              rw [HU.out r1, HXX.out, HSS.out, HDD.out, r4 he, H6.out.2, bA_two, b7, bA_two, b5, bA_two]
            · by_cases he : c.nc = 0
              · rw [r4 he]; exact hA9
              · exact hA9.no he
        · have pE : (!X.toList.isEmpty) = false := by
            have h1 := HXo.out
            rw [isEmpty_of, HXX.out, bA_size, List.length_take, decide_eq_true (by omega)]; rfl
          have HR := Lib.hid (HN.out hz)
          have hpk : c5.pk [101, 69] = 0 := by have := HXo.out; omega
          rw [hpk, CS.past_zero] at hq8
          clear hz hpk
          rw [pE]
          go_wp2_with fail
          go_meet
          case rel =>
            obtain ⟨r1, r2⟩ := HR.out
            exact ⟨U, c5, rfl, fun he => by rw [HU.out (r2 he).1, (r2 he).2], by omega, r1, hq8, ho9⟩
      case rest =>
        clear HX HN hX1 HXt HXo HXX HK5 HU hUs hq8 ho9
        obtain ⟨V, c8, rfl, hV, hVs, hA8, hq11, ho11⟩ := hcut
        have HE := Lib.hid (err_any hq11)
        rw [hA8.2.2.2.1] at HE
        have HA8 := Lib.hid hA8
        have HV := Lib.hid hV
        clear hA8 hV
        by_cases he : c.nc = 0
        · have p1 : (c.nc != 0) = false := by simp [he]
          have HR := Lib.hid (show V = bA c.nt by unfold CS.nt; rw [if_pos he]; exact HV.out he)
          clear he
          go_wp2_with fail
          with_reducible refine HE.out.mono ?_
          rintro e w12 ⟨rfl, hw⟩
          rw [hw]; clear hw
          go_wp2
          go_ret
          exact ⟨ret_string HR.out, ⟨c8, hq11, HA8.out⟩, ho11⟩
        · have p1 : (c.nc != 0) = true := by simp [he]
          have HR := Lib.hid (show (⟨#[]⟩ : ByteArray) = bA c.nt by unfold CS.nt; rw [if_neg he]; rfl)
          clear he
          go_wp2_with fail
          with_reducible refine HE.out.mono ?_
          rintro e w12 ⟨rfl, hw⟩
          rw [hw]; clear hw
          go_wp2
          go_ret
          exact ⟨ret_string HR.out, ⟨c8, hq11, HA8.out⟩, ho11⟩
end Go.Proofs.YtnbhhnkcfbfdcaaGreatDoor
