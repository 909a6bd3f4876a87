/- Package jstring's Read. -/
import Derived.Test.YtfighopfgllneaaGreatDoorJsPl
import Derived.Test.YtfighopfgllneaaGreatDoorZC
import Derived.LoopN
namespace Go.Proofs.YtfighopfgllneaaGreatDoor
open Go Go.RowKit
set_option linter.unusedVariables false

/-- 10.2: for which bytes the JSON stands that begins at the next byte, how many bytes it has, what is wrong. -/
def CS.jRes (c : CS) : JT := if c.er = 0 then
    (match c.bs with
    | [] => ⟨[], 0, 1⟩
    | x :: t => if x.toNat = 34 then (if (jIn t).e = 0 then ⟨(jIn t).t, (jIn t).k + 1, 0⟩ else ⟨[], 0, (jIn t).e⟩) else ⟨[], 0, 3⟩)
  else ⟨[], 0, c.er⟩
theorem CS.jRes_err {c : CS} (h : ¬ c.er = 0) : c.jRes = ⟨[], 0, c.er⟩ := by unfold CS.jRes; rw [if_neg h]
theorem CS.jRes_nil {c : CS} (h : c.er = 0) (hb : c.bs = []) : c.jRes = ⟨[], 0, 1⟩ := by unfold CS.jRes; rw [if_pos h, hb]
theorem CS.jRes_other {c : CS} (h : c.er = 0) {x : UInt8} {t : List UInt8} (hb : c.bs = x :: t) (hx : ¬ x.toNat = 34) : c.jRes = ⟨[], 0, 3⟩ := by
  unfold CS.jRes; rw [if_pos h, hb]; simp only; rw [if_neg hx]
theorem CS.jRes_in {c : CS} (h : c.er = 0) {x : UInt8} {t : List UInt8} (hb : c.bs = x :: t) (hx : x.toNat = 34) : c.jRes = if (jIn t).e = 0 then ⟨(jIn t).t, (jIn t).k + 1, 0⟩ else ⟨[], 0, (jIn t).e⟩ := by
  unfold CS.jRes; rw [if_pos h, hb]; simp only; rw [if_pos hx]
theorem uput_new (r : Int) (w : World) (ht : Hds w) :
    Calls Tryz.prog 73 #[.slice none 0 0, .int .i32 r] w fun e w' => ∃ v, e = .returned v ∧ Bts 5 w' w.heap.size v (uBI r) ∧ Below w.heap.size w w' := uput_any none 0 [] r w (by simp) (bin_none w) ht
theorem uBI_char {r : Nat} (h : uIs r = true) : uBI (r : Int) = uB r := by unfold uBI; rw [if_pos h, Int.toNat_natCast]
theorem uB_some (r : Nat) : uB r ≠ [] := fun h => by have := (uB_pos r).1; rw [h] at this; simp at this

set_option maxRecDepth 20000 in
theorem jread_err {b : Nat} {c : CS} {w : World} (h : CurT 71 w b c) (hc : c.ok) (h0 : ¬ c.er = 0) :
    Calls Tryz.prog 61 #[.pointer (some ⟨b, 0, none⟩)] w fun e w' => e = .returned (.string (bA c.jRes.t)) ∧ (∃ c', CurT 71 w' b c' ∧ CAt c c.jRes.k c.jRes.e c') ∧ Only b w w' := by
  have HR := Lib.hid (CS.jRes_err h0)
  have HB := Lib.hid (byte_bad h hc h0)
  have HF := Lib.hid (fun w h => fail_more (w := w) (b := b) h h0 3)
  have HA := Lib.hid (show CAt c 0 c.er c from ⟨hc, rfl, rfl, rfl, fun e => absurd e h0⟩)
  have p1 : (c.er == 0) = false := beq_eq_false_iff_ne.mpr h0
  clear h hc h0
  go_enter Tryz.func61, Tryz.ntmps61
  go_wp2_with fail
  with_reducible refine HB.out.mono ?_
  rintro e w1 ⟨rfl, hq1, ho1⟩
  go_wp2_with fail
  with_reducible refine (HF.out _ hq1).mono ?_
  rintro e w2 ⟨rfl, hq2, ho2⟩
  go_wp2_with fail
  refine wp_loop_rounds 1 ?_
  rw [rounds_succ]
  go_wp2_with fail
  with_reducible refine (err_any hq2).mono ?_
  rintro e w3 ⟨rfl, hw⟩
  rw [hw]; clear hw
  go_wp2
  go_ret
  exact ⟨by rw [HR.out]; rfl, ⟨_, hq2, by rw [HR.out]; exact HA.out⟩, ho1.trans ho2⟩
set_option maxRecDepth 20000 in
theorem jread_none {b : Nat} {c : CS} {w : World} (h : CurT 71 w b c) (hc : c.ok) (h0 : c.er = 0) (hb : c.bs = []) :
    Calls Tryz.prog 61 #[.pointer (some ⟨b, 0, none⟩)] w fun e w' => e = .returned (.string (bA c.jRes.t)) ∧ (∃ c', CurT 71 w' b c' ∧ CAt c c.jRes.k c.jRes.e c') ∧ Only b w w' := by
  have HR := Lib.hid (CS.jRes_nil h0 hb)
  have HB := Lib.hid (byte_lacks h hc h0 hb)
  have HF := Lib.hid (fun w h => fail_more (c := c.bad 1) (w := w) (b := b) h (by show ¬ (1 : Int) = 0; decide) 3)
  have HA := Lib.hid (CAt.bad0 hc 0 (e := 1) (by decide))
  have p1 : ((c.bad 1).er == 0) = false := rfl
  clear h hc h0
  go_enter Tryz.func61, Tryz.ntmps61
  go_wp2_with fail
  with_reducible refine HB.out.mono ?_
  rintro e w1 ⟨rfl, hq1, ho1⟩
  go_wp2_with fail
  with_reducible refine (HF.out _ hq1).mono ?_
  rintro e w2 ⟨rfl, hq2, ho2⟩
  go_wp2_with fail
  refine wp_loop_rounds 1 ?_
  rw [rounds_succ]
  go_wp2_with fail
  with_reducible refine (err_any hq2).mono ?_
  rintro e w3 ⟨rfl, hw⟩
  rw [hw]; clear hw
  go_wp2
  go_ret
  exact ⟨by rw [HR.out]; rfl, ⟨_, hq2, by rw [HR.out]; exact HA.out⟩, ho1.trans ho2⟩
set_option maxRecDepth 20000 in
theorem jread_other {b : Nat} {c : CS} {w : World} (h : CurT 71 w b c) (hc : c.ok) (h0 : c.er = 0) {x : UInt8} {t : List UInt8} (hb : c.bs = x :: t) (hx : ¬ x.toNat = 34) :
    Calls Tryz.prog 61 #[.pointer (some ⟨b, 0, none⟩)] w fun e w' => e = .returned (.string (bA c.jRes.t)) ∧ (∃ c', CurT 71 w' b c' ∧ CAt c c.jRes.k c.jRes.e c') ∧ Only b w w' := by
  have HR := Lib.hid (CS.jRes_other h0 hb hx)
  have HB := Lib.hid (byte_next h hc h0 hb)
  have HF := Lib.hid (fun w h => fail_fresh (c := c.past 1) (w := w) (b := b) h h0 3)
  have HA := Lib.hid (CAt.bad hc (j := 1) (by rw [hb]; simp) 0 (e := 3) (by decide))
  have p1 : (((c.past 1).bad 3).er == 0) = false := rfl
  obtain ⟨X, hXe⟩ : ∃ X, X = x.toNat := ⟨_, rfl⟩
  rw [← hXe] at HB hx
  have p2 : ((X : Int) != 34) = true := bne_iff_ne.mpr (by omega)
  clear h hc h0 hb hx hXe
  go_enter Tryz.func61, Tryz.ntmps61
  go_wp2_with fail
  with_reducible refine HB.out.mono ?_
  rintro e w1 ⟨rfl, hq1, ho1⟩
  go_wp2_with fail
  with_reducible refine (HF.out _ hq1).mono ?_
  rintro e w2 ⟨rfl, hq2, ho2⟩
  go_wp2_with fail
  refine wp_loop_rounds 1 ?_
  rw [rounds_succ]
  go_wp2_with fail
  with_reducible refine (err_any hq2).mono ?_
  rintro e w3 ⟨rfl, hw⟩
  rw [hw]; clear hw
  go_wp2
  go_ret
  exact ⟨by rw [HR.out]; rfl, ⟨_, hq2, by rw [HR.out]; exact HA.out⟩, ho1.trans ho2⟩
theorem jEsc_none {l : List UInt8} (h : ¬ (jEsc l).e = 0) : (jEsc l).r = 0 := by
  match l, h with
  | [], _ => rfl
  | b :: t, h =>
    simp only [jEsc] at h ⊢
    by_cases h1 : b.toNat = 117
    · rw [if_pos h1] at h ⊢
      by_cases h2 : (jNum t).e = 0
      · rw [if_pos h2] at h; exact absurd rfl h
      · rw [if_neg h2]
    · rw [if_neg h1] at h ⊢
      by_cases h2 : jSim b.toNat = 0
      · rw [if_pos h2]
      · rw [if_neg h2] at h; exact absurd rfl h
/-- Where the loop stands: nothing is wrong so far, and what is left tells the rest; or something is. -/
def JState (c c' : CS) (l : List UInt8) : Prop :=
  c'.ok ∧ c'.s = c.s ∧ c'.en = c.en ∧ ((c'.er = 0 ∧ ∃ k, c' = c.past k ∧ k ≤ c.bs.length ∧ l.length ≤ k ∧ jIn c.bs = (⟨l, k, 0⟩ : JT).and (jIn c'.bs)) ∨ (¬ c'.er = 0 ∧ (jIn c.bs).e = c'.er))
def JReadRel (c : CS) (b : Nat) (W : World) (z v : Value) (wr : World) : Prop :=
  ∃ c' l, z = .string ⟨#[]⟩ ∧ Hid (JState c c' l) ∧ Bts 5 wr W.heap.size v l ∧ CurT 71 wr b c' ∧ Only b W wr
theorem JState.no {c c' : CS} {l : List UInt8} (h : c'.ok) (h1 : c'.s = c.s) (h2 : c'.en = c.en) (h3 : ¬ c'.er = 0) (h4 : (jIn c.bs).e = c'.er) : JState c c' l := ⟨h, h1, h2, .inr ⟨h3, h4⟩⟩

set_option maxRecDepth 20000 in
set_option maxHeartbeats 2000000 in
theorem jread_in {b : Nat} {c : CS} {w : World} (h : CurT 71 w b c) (hc : c.ok) (h0 : c.er = 0) {x : UInt8} {t : List UInt8} (hb : c.bs = x :: t) (hx : x.toNat = 34) (hs : c.s.size ≤ 140737488352256) (ht : Hds w) (hg : 0 ≠ b) :
    Calls Tryz.prog 61 #[.pointer (some ⟨b, 0, none⟩)] w fun e w' => e = .returned (.string (bA c.jRes.t)) ∧ (∃ c', CurT 71 w' b c' ∧ CAt c c.jRes.k c.jRes.e c') ∧ Only b w w' := by
  obtain ⟨i0, hi, hz0, hz1, hz2⟩ := info_parts info8
  have HR := Lib.hid (CS.jRes_in h0 hb hx)
  have HB := Lib.hid (show Calls Tryz.prog 59 #[.pointer (some ⟨b, 0, none⟩)] w fun e w' => e = .returned (.int .u8 34) ∧ CurT 71 w' b (c.past 1) ∧ Only b w w' by
    have := byte_next h hc h0 hb
    rw [hx] at this; exact this)
  obtain ⟨_, _, hb1, hok1⟩ := CS.bs_some hc h0 hb
  have hbl := h.lt
  have hl1 : 1 ≤ c.bs.length := by rw [hb]; simp
  rw [← hb1] at HR
  obtain ⟨d, hd⟩ : ∃ d, d = c.past 1 := ⟨_, rfl⟩
  have hds : d.s = c.s := by rw [hd]; rfl
  have hden : d.en = c.en := by rw [hd]; rfl
  have hde : d.er = 0 := by rw [hd]; exact h0
  have HFIN := Lib.hid (show ∀ c' k e, CAt d k e c' → (e ≠ 0 → CAt c 0 e c') ∧ CAt c (k + 1) e c' from fun c' k e hA => by
    rw [hd] at hA
    have := hA.more
    rw [Nat.add_comm] at this
    exact ⟨fun he => this.no he, this⟩)
  rw [← hd] at HB hok1 HR
  have HD := Lib.hid (And.intro hok1 hde)
  have hdl := CS.bs_length hok1
  have hdlen : d.bs.length ≤ 140737488352256 := by have := hok1.2.1; rw [hds] at this; omega
  have hss : d.s.size ≤ 140737488352256 := by rw [hds]; exact hs
  have HT := Lib.hid (show ∀ w', Only b w w' → Hds w' from fun w' h => ht.only h hg)
  have HEN := Lib.hid hdl
  clear hc h0 hb hx ht hb1 h hl1 hd hds hden hde hdl hok1
  go_enter Tryz.func61, Tryz.ntmps61
  go_wp2_with fail
  with_reducible refine HB.out.mono ?_
  rintro e w1 ⟨rfl, hq1, ho1⟩
  go_wp2_with fail
  go_loopw [2, 3] (fun z v wr => JReadRel d b w z v wr) (fun _ _ wr => if erOf b wr = 0 then d.en + 1 - atOf b wr else 0)
  case atStart =>
    exact ⟨d, [], rfl, Lib.hid ⟨HD.out.1, rfl, rfl, .inl ⟨HD.out.2, 0, rfl, Nat.zero_le _, Nat.le_refl _, (nil_and _).symm⟩⟩, World.ownsRow_nil _ _ _ _, hq1, ho1⟩
  case round =>
    obtain ⟨c', l, rfl, hst, hv, hq, ho⟩ := hrel
    have hat := Lib.hid (And.intro (atOf_cur hq) (erOf_cur hq))
    have hsz := ho.size
    by_cases he : c'.er = 0
    · have hst1 := hst.out
      obtain ⟨hok, hs2, hen2, hst2⟩ := hst1
      have hst3 : ∃ k, c' = d.past k ∧ k ≤ d.bs.length ∧ l.length ≤ k ∧ jIn d.bs = (⟨l, k, 0⟩ : JT).and (jIn c'.bs) := by
        rcases hst2 with ⟨_, h⟩ | ⟨h, _⟩
        · exact h
        · exact absurd he h
      obtain ⟨k, hck, hk, hlk, hJ⟩ := hst3
      clear hst2 hst
      have p1 : (c'.er == 0) = true := by rw [he]; rfl
      have hM := Lib.hid (show ∀ w4 c4, CurT 71 w4 b c4 → (c4.er = 0 → c'.at_ < c4.at_ ∧ c4.at_ ≤ d.en) → (if erOf b w4 = 0 then d.en + 1 - atOf b w4 else 0) < (if erOf b wr = 0 then d.en + 1 - atOf b wr else 0) from fun w4 c4 hq4 hlt => by
        rw [hat.out.1, hat.out.2, if_pos he, atOf_cur hq4, erOf_cur hq4]
        have h1 := hok.1
        by_cases h4 : c4.er = 0
        · rw [if_pos h4]; have := hlt h4; omega
        · rw [if_neg h4]; omega)
      have hcl : c'.bs = d.bs.drop k := by rw [hck, CS.bs_past]
      have hclen : c'.bs.length = d.bs.length - k := by rw [hcl, List.length_drop]
      have HERR := Lib.hid (fun w h => err_any (w := w) (b := b) (c := c') h)
      have hrun := jIn_run _ (c'.bs.takeWhile jPl) (c'.bs.dropWhile jPl) rfl (fun y hy => by
        have := List.all_takeWhile (p := jPl) (l := c'.bs)
        exact List.all_eq_true.mp this y hy) (fun y u hy => by
        have h1 := List.head?_dropWhile_not jPl c'.bs
        rw [hy] at h1
        simpa using h1)
      rw [List.takeWhile_append_dropWhile] at hrun
      have hnle : (c'.bs.takeWhile jPl).length + (c'.bs.dropWhile jPl).length = c'.bs.length := by
        rw [← List.length_append, List.takeWhile_append_dropWhile]
      have hdrop : c'.bs.drop (c'.bs.takeWhile jPl).length = c'.bs.dropWhile jPl := by
        have h1 : (c'.bs.takeWhile jPl ++ c'.bs.dropWhile jPl).drop (c'.bs.takeWhile jPl).length = c'.bs.dropWhile jPl := List.drop_left
        rwa [List.takeWhile_append_dropWhile] at h1
      have hnp : ∀ y u, c'.bs.dropWhile jPl = y :: u → jPl y = false := fun y u hy => by
        have h1 := List.head?_dropWhile_not jPl c'.bs
        rw [hy] at h1
        simpa using h1
      have hwr := HT.out _ ho
      by_cases hu : UOk (c'.bs.takeWhile jPl)
      · have hJ2 := hrun.1 hu
        have HP := Lib.hid (jplain_good hq hok he (by rw [hs2]; exact hss) hwr hg hu)
        obtain ⟨n, hn⟩ : ∃ n, n = (c'.bs.takeWhile jPl).length := ⟨_, rfl⟩
        have hok2 : (c'.past n).ok := CS.past_fine hok (by omega)
        have hb2 : (c'.past n).bs = c'.bs.dropWhile jPl := by rw [CS.bs_past, hn, hdrop]
        rw [← hn] at HP
        have hl2 : l.length + (bA (c'.bs.takeWhile jPl)).size ≤ 140737488352256 := by rw [bA_size]; omega
        have hTl : (bA (c'.bs.takeWhile jPl)).data.toList = c'.bs.takeWhile jPl := rfl
        have hJ3 : jIn d.bs = (⟨l ++ c'.bs.takeWhile jPl, k + n, 0⟩ : JT).and (jIn (c'.past n).bs) := by
          rw [hJ, hJ2, ← JT.and_and _ _ _ rfl, hb2, ← hn]
          rfl
        have hl3 : (l ++ c'.bs.takeWhile jPl).length = l.length + n := by rw [List.length_append, ← hn]
        have hkn : k + n ≤ d.bs.length := by omega
        have hcn : c'.past n = d.past (k + n) := by rw [hck, CS.past_past]
        have hern : (c'.past n).er = 0 := he
        have hlast : (c'.bs.dropWhile jPl).length = d.bs.length - (k + n) := by omega
        have HX := Lib.hid (CS.bs_length HD.out.1)
        rw [← hTl] at hl3 hJ3
        obtain ⟨L, hL⟩ : ∃ L, L = l ++ (bA (c'.bs.takeWhile jPl)).data.toList := ⟨_, rfl⟩
        rw [← hL] at hl3 hJ3
        obtain ⟨c2, hc2⟩ : ∃ c2, c2 = c'.past n := ⟨_, rfl⟩
        have hs3 : c2.s = d.s ∧ c2.en = d.en := by rw [hc2]; exact ⟨hs2, hen2⟩
        have hat2 : c2.at_ = c'.at_ + n := by rw [hc2]; rfl
        rw [← hc2] at HP hok2 hb2 hJ3 hcn hern
        have HL := Lib.hid hL
        have hd1 : c'.at_ ≤ d.en := by rw [← hen2]; exact hok.1
        match hD : c'.bs.dropWhile jPl with
        | [] =>
          rw [hD] at hb2
          have HB2 := Lib.hid (fun w h => byte_lacks (w := w) (b := b) h hok2 hern hb2)
          have HF2 := Lib.hid (fun w h => fail_more (c := c2.bad 1) (w := w) (b := b) h (by show ¬ (1 : Int) = 0; decide) 3)
          have HST := Lib.hid (show JState d (c2.bad 1) L from .no (CS.bad_fine hok2 1) hs3.1 hs3.2 (by show ¬ (1 : Int) = 0; decide) (by rw [hJ3, JT.and_e, hb2]; rfl))
          have HM2 := Lib.hid (fun w4 (h : CurT 71 w4 b (c2.bad 1)) => hM.out w4 _ h (fun e => absurd (show (1 : Int) = 0 from e) (by decide)))
          clear hJ hJ2 hJ3 hrun hnle hdrop hnp hcl hclen hwr hu hn hTl hl3 hkn hcn hlast hck hlk hk hM hat hat2 hd1 hL hc2 hs3 hD
          clear hok hok2 hb2 hern hs2 hen2
          go_wp2_with fail
          with_reducible refine (HERR.out _ hq).mono ?_
          rintro e w3 ⟨rfl, hw⟩
          rw [hw]; clear hw
          go_wp2_with fail
          with_reducible refine HP.out.mono ?_
          rintro e w4 ⟨rfl, hq4, ho4⟩
          have hv4 := hv.only ho4 hbl
          have ho9 := ho.trans ho4
          have hs5 := ho9.size
          have hl6 : l.length + (bA (c'.bs.takeWhile jPl)).size ≤ 140737488355328 := by omega
          have HQ5 := Lib.hid (fun w3 (h : Below w.heap.size w4 w3) => And.intro (Below.cur h hq4 hbl) (only_then ho9 h (Nat.le_refl _)))
          clear hv hq ho4 ho
          go_wp2_with (first | (at_builtin; go_loud (refine wpList_append_text rfl (.tmp 12) (.tmp 14) 32 9 rfl 5 i0 Tryz.underlying32 Tryz.underlying9 hi hz0 hz1 hz2 _ w4 w4 w.heap.size l _ hv4 (Below.refl _ _) hs5 rfl rfl hl6 ?_; intro v5 w5 hv5 hb5)) | fail)
          have hq5 := (HQ5.out _ hb5).1
          have ho5 := (HQ5.out _ hb5).2
          rw [← HL.out] at hv5
          clear hb5
          with_reducible refine (HB2.out _ hq5).mono ?_
          rintro e w6 ⟨rfl, hq6, ho6⟩
          go_wp2_with fail
          with_reducible refine (HF2.out _ hq6).mono ?_
          rintro e w7 ⟨rfl, hq7, ho7⟩
          have hv7 := (hv5.only ho6 hbl).only ho7 hbl
          have ho8 := (ho5.trans ho6).trans ho7
          go_wp2
          go_roundw
          case rel => exact ⟨c2.bad 1, L, rfl, HST, hv7, hq7, ho8⟩
          case measure => exact HM2.out _ hq7
        | y :: u =>
          rw [hD] at hb2 hlast
          rw [List.length_cons] at hlast
          have hyp := hnp y u hD
          have HB2 := Lib.hid (fun w h => byte_next (w := w) (b := b) h hok2 hern hb2)
          obtain ⟨_, _, hb3, hok3⟩ := CS.bs_some hok2 hern hb2
          rw [hb2] at hJ3
          by_cases h34 : y.toNat = 34
          · have HB3 := Lib.hid (show ∀ w, CurT 71 w b c2 → Calls Tryz.prog 59 #[.pointer (some ⟨b, 0, none⟩)] w fun e w' => e = .returned (.int .u8 34) ∧ CurT 71 w' b (c2.past 1) ∧ Only b w w' from fun w h => by
              have := HB2.out w h
              rw [h34] at this; exact this)
            have HJ := Lib.hid (show jIn d.bs = ⟨L, k + n + 1, 0⟩ by rw [hJ3, jIn_quote _ _ h34, JT.and_yes _ rfl]; simp)
            have HA := Lib.hid (show CAt d (k + n + 1) 0 (c2.past 1) by
              rw [hcn, CS.past_past]
              exact CAt.past HD.out.1 HD.out.2 (by omega))
            clear hJ hJ2 hJ3 hrun hnle hdrop hnp hcl hclen hwr hu hn hTl hl3 hkn hcn hlast hck hlk hk hM hat hat2 hd1 hL hc2 hs3 hD
            clear hok hok2 hb2 hern hs2 hen2 hyp hb3 hok3 h34
            go_wp2_with fail
            with_reducible refine (HERR.out _ hq).mono ?_
            rintro e w3 ⟨rfl, hw⟩
            rw [hw]; clear hw
            go_wp2_with fail
            with_reducible refine HP.out.mono ?_
            rintro e w4 ⟨rfl, hq4, ho4⟩
            have hv4 := hv.only ho4 hbl
            have ho9 := ho.trans ho4
            have hs5 := ho9.size
            have hl6 : l.length + (bA (c'.bs.takeWhile jPl)).size ≤ 140737488355328 := by omega
            have HQ5 := Lib.hid (fun w3 (h : Below w.heap.size w4 w3) => And.intro (Below.cur h hq4 hbl) (only_then ho9 h (Nat.le_refl _)))
            clear hv hq ho4 ho
            go_wp2_with (first | (at_builtin; go_loud (refine wpList_append_text rfl (.tmp 12) (.tmp 14) 32 9 rfl 5 i0 Tryz.underlying32 Tryz.underlying9 hi hz0 hz1 hz2 _ w4 w4 w.heap.size l _ hv4 (Below.refl _ _) hs5 rfl rfl hl6 ?_; intro v5 w5 hv5 hb5)) | fail)
            have hq5 := (HQ5.out _ hb5).1
            have ho5 := (HQ5.out _ hb5).2
            rw [← HL.out] at hv5
            clear hb5
            with_reducible refine (HB3.out _ hq5).mono ?_
            rintro e w6 ⟨rfl, hq6, ho6⟩
            have htx := Lib.hid ((hv5.only ho6 hbl).text (P := Tryz.prog) (d := 9) Tryz.underlying32 Tryz.underlying5 Tryz.underlying9)
            have ho8 := ho5.trans ho6
            go_wp2_with fail
            rw [htx.out]
            go_wp2
            go_ret
            refine ⟨by rw [HR.out, HJ.out]; rfl, ⟨_, hq6, ?_⟩, ho8⟩
            rw [HR.out, HJ.out]
            exact (HFIN.out _ _ _ HA.out).2
          · by_cases h92 : y.toNat = 92
            · have HB3 := Lib.hid (show ∀ w, CurT 71 w b c2 → Calls Tryz.prog 59 #[.pointer (some ⟨b, 0, none⟩)] w fun e w' => e = .returned (.int .u8 92) ∧ CurT 71 w' b (c2.past 1) ∧ Only b w w' from fun w h => by
                have := HB2.out w h
                rw [h92] at this; exact this)
              have HE0 := fun w h => jescaped_any (w := w) (b := b) (c := c2.past 1) h hok3 hern
              rw [hb3] at HE0
              have HE := Lib.hid HE0
              have hre : ∃ rr, rr = (jEsc u).r := ⟨_, rfl⟩
              obtain ⟨rr, hrr⟩ := hre
              rw [jIn_esc _ _ h92] at hJ3
              have HSTEP := Lib.hid (show ∀ c4, CAt (c2.past 1) (jEsc u).k (jEsc u).e c4 → JState d c4 (L ++ uBI (rr : Int)) ∧ (c4.er = 0 → c'.at_ < c4.at_ ∧ c4.at_ ≤ d.en) from fun c4 hA => by
                obtain ⟨a1, a2, a3, a4, a5⟩ := hA
                by_cases hee : (jEsc u).e = 0
                · rw [if_pos hee] at hJ3
                  obtain ⟨f1, f2, f3, f4⟩ := jEsc_fine hee
                  have hc4 := a5 hee
                  have h1 : c4 = d.past (k + n + ((jEsc u).k + 1)) := by rw [hc4, hcn, CS.past_past, CS.past_past, Nat.add_comm 1]
                  have h2 : c4.bs = u.drop (jEsc u).k := by rw [hc4, CS.bs_past, hb3]
                  have h3 : k + n + ((jEsc u).k + 1) ≤ d.bs.length := by omega
                  refine ⟨⟨a1, a2.trans hs3.1, a3.trans hs3.2, .inl ⟨by rw [a4]; exact hee, _, h1, h3, ?_, ?_⟩⟩, fun _ => ?_⟩
                  · rw [hrr, uBI_char f1, List.length_append]; omega
                  · rw [h2, hJ3, ← JT.and_and _ _ _ rfl, hrr, uBI_char f1]; rfl
                  · have e1 : c4.at_ = c2.at_ + 1 + (jEsc u).k := by rw [hc4]; rfl
                    have e2 := a1.1
                    rw [a3] at e2
                    have e3 : (c2.past 1).en = d.en := hs3.2
                    omega
                · rw [if_neg hee, JT.and_no _ (by exact hee)] at hJ3
                  exact ⟨.no a1 (a2.trans hs3.1) (a3.trans hs3.2) (by rw [a4]; exact hee) (by rw [hJ3, a4]), fun e => absurd (a4.symm.trans e) hee⟩)
              have HU := Lib.hid (fun w ht => uput_new (rr : Int) w ht)
              have hne : uBI (rr : Int) ≠ [] := by
                by_cases hee : (jEsc u).e = 0
                · rw [hrr, uBI_char (jEsc_fine hee).1]; exact uB_some _
                · rw [hrr, jEsc_none hee]; decide
              have hul : (uBI (rr : Int)).length ≤ 4 := by rw [uBI_len]; exact uW_le _
              have hl5 : L.length + (uBI (rr : Int)).length ≤ 140737488355328 := by omega
              rw [← hrr] at HE
              generalize uBI (rr : Int) = U at *
              clear hJ hJ2 hJ3 hrun hnle hdrop hnp hcl hclen hwr hu hn hTl hl3 hkn hcn hlast hck hlk hk hat hat2 hd1 hL hc2 hs3 hD HE0
              clear hok hok2 hb2 hern hs2 hen2 hyp hb3 hok3 h34 h92 hrr hul
              go_wp2_with fail
              with_reducible refine (HERR.out _ hq).mono ?_
              rintro e w3 ⟨rfl, hw⟩
              rw [hw]; clear hw
              go_wp2_with fail
              with_reducible refine HP.out.mono ?_
              rintro e w4 ⟨rfl, hq4, ho4⟩
              have hv4 := hv.only ho4 hbl
              have ho9 := ho.trans ho4
              have hs5 := ho9.size
              have hl6 : l.length + (bA (c'.bs.takeWhile jPl)).size ≤ 140737488355328 := by omega
              have HQ5 := Lib.hid (fun w3 (h : Below w.heap.size w4 w3) => And.intro (Below.cur h hq4 hbl) (only_then ho9 h (Nat.le_refl _)))
              clear hv hq ho4 ho
              go_wp2_with (first | (at_builtin; go_loud (refine wpList_append_text rfl (.tmp 12) (.tmp 14) 32 9 rfl 5 i0 Tryz.underlying32 Tryz.underlying9 hi hz0 hz1 hz2 _ w4 w4 w.heap.size l _ hv4 (Below.refl _ _) hs5 rfl rfl hl6 ?_; intro v5 w5 hv5 hb5)) | fail)
              have hq5 := (HQ5.out _ hb5).1
              have ho5 := (HQ5.out _ hb5).2
              rw [← HL.out] at hv5
              clear hb5
              with_reducible refine (HB3.out _ hq5).mono ?_
              rintro e w6 ⟨rfl, hq6, ho6⟩
              have hv6 := hv5.only ho6 hbl
              have ho8 := ho5.trans ho6
              clear hv5 hq5 ho6 ho5
              go_wp2_with fail
              with_reducible refine (HE.out _ hq6).mono ?_
              rintro e w7 ⟨rfl, ⟨c4, hq7, hA⟩, ho7⟩
              have hv7 := hv6.only ho7 hbl
              have ho9 := ho8.trans ho7
              have hS := Lib.hid (HSTEP.out _ hA)
              clear hv6 hq6 ho7 ho8 hA
              go_wp2_with fail
              with_reducible refine (HU.out _ (HT.out _ ho9)).mono ?_
              rintro e w8 ⟨v2, rfl, hu8, hb8⟩
              have hv8 := hv7.below hb8 (Nat.le_refl _)
              have ho10 := only_then ho9 hb8 ho9.size
              have hq8 := Below.cur hb8 hq7 hq7.lt
              have hs8 := ho10.size
              have HQ8 := Lib.hid (fun w3 (h : Below w.heap.size w8 w3) => And.intro (Below.cur h hq8 hbl) (only_then ho10 h (Nat.le_refl _)))
              clear hv7 ho9 hb8 hq7
              go_wp2_with (at_builtin; go_loud (refine wpList_append_bytes rfl (.tmp 26) (.tmp 29) 32 rfl 5 i0 Tryz.underlying32 hi hz0 hz1 hz2 _ v2 w8 w8 w.heap.size _ L U hv8 hu8 hne (Below.refl _ _) hs8 rfl rfl hl5 ?_; intro v9 w9 hv9 hb9))
              have hq9 := (HQ8.out _ hb9).1
              have ho11 := (HQ8.out _ hb9).2
              go_roundw
              case rel => exact ⟨c4, L ++ U, rfl, Lib.hid hS.out.1, hv9, hq9, ho11⟩
              case measure => exact hM.out _ _ hq9 hS.out.2
            · have h32 : y.toNat < 32 := by
                have h1 : ¬ jPl y = true := by rw [hyp]; decide
                rw [jPl_iff] at h1; omega
              have HST := Lib.hid (show JState d ((c2.past 1).bad 3) L from .no (CS.bad_fine hok3 3) hs3.1 hs3.2 (by show ¬ (3 : Int) = 0; decide) (by rw [hJ3, JT.and_e, jIn_low _ _ h32]; rfl))
              have HM2 := Lib.hid (fun w4 (h : CurT 71 w4 b ((c2.past 1).bad 3)) => hM.out w4 _ h (fun e => absurd (show (3 : Int) = 0 from e) (by decide)))
              have HF2 := Lib.hid (fun w h => fail_fresh (c := c2.past 1) (w := w) (b := b) h hern 3)
              obtain ⟨Y, hYe⟩ : ∃ Y, Y = y.toNat := ⟨_, rfl⟩
              rw [← hYe] at HB2 h34 h92
              have q2 : ((Y : Int) == 34) = false := beq_eq_false_iff_ne.mpr (by omega)
              have q3 : ((Y : Int) == 92) = false := beq_eq_false_iff_ne.mpr (by omega)
              clear hJ hJ2 hJ3 hrun hnle hdrop hnp hcl hclen hwr hu hn hTl hl3 hkn hcn hlast hck hlk hk hM hat hat2 hd1 hL hc2 hs3 hD
              clear hok hok2 hb2 hern hs2 hen2 hyp hb3 hok3 h34 h92 h32 hYe
              go_wp2_with fail
              with_reducible refine (HERR.out _ hq).mono ?_
              rintro e w3 ⟨rfl, hw⟩
              rw [hw]; clear hw
              go_wp2_with fail
              with_reducible refine HP.out.mono ?_
              rintro e w4 ⟨rfl, hq4, ho4⟩
              have hv4 := hv.only ho4 hbl
              have ho9 := ho.trans ho4
              have hs5 := ho9.size
              have hl6 : l.length + (bA (c'.bs.takeWhile jPl)).size ≤ 140737488355328 := by omega
              have HQ5 := Lib.hid (fun w3 (h : Below w.heap.size w4 w3) => And.intro (Below.cur h hq4 hbl) (only_then ho9 h (Nat.le_refl _)))
              clear hv hq ho4 ho
              go_wp2_with (first | (at_builtin; go_loud (refine wpList_append_text rfl (.tmp 12) (.tmp 14) 32 9 rfl 5 i0 Tryz.underlying32 Tryz.underlying9 hi hz0 hz1 hz2 _ w4 w4 w.heap.size l _ hv4 (Below.refl _ _) hs5 rfl rfl hl6 ?_; intro v5 w5 hv5 hb5)) | fail)
              have hq5 := (HQ5.out _ hb5).1
              have ho5 := (HQ5.out _ hb5).2
              rw [← HL.out] at hv5
              clear hb5
              with_reducible refine (HB2.out _ hq5).mono ?_
              rintro e w6 ⟨rfl, hq6, ho6⟩
              go_wp2_with fail
              with_reducible refine (HF2.out _ hq6).mono ?_
              rintro e w7 ⟨rfl, hq7, ho7⟩
              have hv7 := (hv5.only ho6 hbl).only ho7 hbl
              have ho8 := (ho5.trans ho6).trans ho7
              go_wp2
              go_roundw
              case rel => exact ⟨(c2.past 1).bad 3, L, rfl, HST, hv7, hq7, ho8⟩
              case measure => exact HM2.out _ hq7
      · have hJ2 := hrun.2 hu
        have HP := Lib.hid (jplain_bad hq hok he (by rw [hs2]; exact hss) hwr hg hu)
        have HST := Lib.hid (show ∀ j, j ≤ c'.bs.length → JState d ((c'.past j).bad 5) (l ++ (ByteArray.mk #[]).data.toList) from fun j hj => .no (CS.bad_fine (CS.past_fine hok hj) 5) hs2 hen2 (by show ¬ (5 : Int) = 0; decide) (by rw [hJ, JT.and_e, hJ2]; rfl))
        have HM2 := Lib.hid (fun w4 j (h : CurT 71 w4 b ((c'.past j).bad 5)) => hM.out w4 _ h (fun e => absurd (show (5 : Int) = 0 from e) (by decide)))
        have HB2 := Lib.hid (fun w j h (hj : j ≤ c'.bs.length) => byte_bad (c := (c'.past j).bad 5) (w := w) (b := b) h (CS.bad_fine (CS.past_fine hok hj) 5) (by show ¬ (5 : Int) = 0; decide))
        have HF2 := Lib.hid (fun w j h => fail_more (c := (c'.past j).bad 5) (w := w) (b := b) h (by show ¬ (5 : Int) = 0; decide) 3)
        have hl2 : l.length + (ByteArray.mk #[]).size ≤ 140737488355328 := by show l.length + 0 ≤ _; omega
        clear hJ hJ2 hrun hnle hdrop hnp hcl hclen hwr hu hck hlk hk hM hat hs2 hen2 hok
        go_wp2_with fail
        with_reducible refine (HERR.out _ hq).mono ?_
        rintro e w3 ⟨rfl, hw⟩
        rw [hw]; clear hw
        go_wp2_with fail
        with_reducible refine HP.out.mono ?_
        rintro e w4 ⟨rfl, ⟨j, hj, hq4⟩, ho4⟩
        have hv4 := hv.only ho4 hbl
        have ho5 := ho.trans ho4
        have hs5 := ho5.size
        have HQ5 := Lib.hid (fun w3 (h : Below w.heap.size w4 w3) => And.intro (Below.cur h hq4 hbl) (only_then ho5 h (Nat.le_refl _)))
        have HJ5 := Lib.hid hj
        clear hv hq ho4 ho hj
        go_wp2_with (first | (at_builtin; go_loud (refine wpList_append_text rfl (.tmp 12) (.tmp 14) 32 9 rfl 5 i0 Tryz.underlying32 Tryz.underlying9 hi hz0 hz1 hz2 _ w4 w4 w.heap.size l ⟨#[]⟩ hv4 (Below.refl _ _) hs5 rfl rfl hl2 ?_; intro v5 w5 hv5 hb5)) | fail)
        have hq5 := (HQ5.out _ hb5).1
        have ho6 := (HQ5.out _ hb5).2
        clear hb5
        with_reducible refine (HB2.out _ _ hq5 HJ5.out).mono ?_
        rintro e w6 ⟨rfl, hq6, ho7⟩
        go_wp2_with fail
        with_reducible refine (HF2.out _ _ hq6).mono ?_
        rintro e w7 ⟨rfl, hq7, ho8⟩
        have hv7 := (hv5.only ho7 hbl).only ho8 hbl
        have ho9 := (ho6.trans ho7).trans ho8
        go_wp2
        go_roundw
        case rel => exact ⟨_, _, rfl, Lib.hid (HST.out j HJ5.out), hv7, hq7, ho9⟩
        case measure => exact HM2.out _ _ hq7
    · have p1 : (c'.er == 0) = false := beq_eq_false_iff_ne.mpr he
      have hst1 := hst.out
      obtain ⟨hok, hs2, hen2, hst2⟩ := hst1
      have hJ : (jIn d.bs).e = c'.er := by
        rcases hst2 with ⟨h, _⟩ | ⟨_, h⟩
        · exact absurd h he
        · exact h
      have HJ := Lib.hid (show ¬ (jIn d.bs).e = 0 by rw [hJ]; exact he)
      have HA := Lib.hid (show CAt d 0 (jIn d.bs).e c' from ⟨hok, hs2, hen2, hJ.symm, fun e => absurd (hJ.symm.trans e) he⟩)
      have HERR := Lib.hid (err_any hq)
      clear hst hst2 hJ hok hs2 hen2 he hat
      go_wp2_with fail
      with_reducible refine HERR.out.mono ?_
      rintro e w3 ⟨rfl, hw⟩
      rw [hw]; clear hw
      go_wp2
      go_ret
      refine ⟨by rw [HR.out, if_neg HJ.out]; rfl, ⟨_, hq, ?_⟩, ho⟩
      rw [HR.out, if_neg HJ.out]
      exact (HFIN.out _ _ _ HA.out).1 HJ.out
theorem jread_any {b : Nat} {c : CS} {w : World} (h : CurT 71 w b c) (hc : c.ok) (hs : c.s.size ≤ 140737488352256) (ht : Hds w) (hg : 0 ≠ b) :
    Calls Tryz.prog 61 #[.pointer (some ⟨b, 0, none⟩)] w fun e w' => e = .returned (.string (bA c.jRes.t)) ∧ (∃ c', CurT 71 w' b c' ∧ CAt c c.jRes.k c.jRes.e c') ∧ Only b w w' := by
  by_cases h0 : c.er = 0
  · match hb : c.bs with
    | [] => exact jread_none h hc h0 hb
    | x :: t =>
      by_cases hx : x.toNat = 34
      · exact jread_in h hc h0 hb hx hs ht hg
      · exact jread_other h hc h0 hb hx
  · exact jread_err h hc h0
end Go.Proofs.YtfighopfgllneaaGreatDoor
