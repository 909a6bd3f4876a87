/- Package jstring's plain. -/
import Derived.Test.YtnbhhnkcfbfdcaaGreatDoorZI
import Derived.Test.YtnbhhnkcfbfdcaaGreatDoorZW
import Derived.Test.YtnbhhnkcfbfdcaaGreatDoorApp
namespace Go.Proofs.YtnbhhnkcfbfdcaaGreatDoor
open Go Go.RowKit
set_option linter.unusedVariables false

def JPlainRel (c : CS) (b : Nat) (W : World) (v : Value) (wr : World) : Prop :=
  ∃ k, k ≤ c.bs.length ∧ Hid (∀ x ∈ c.bs.take k, jPl x = true) ∧ Bts 5 wr W.heap.size v (c.bs.take k) ∧ CurT 89 wr b (c.past k) ∧ Only b W wr
set_option maxRecDepth 20000 in
set_option maxHeartbeats 1000000 in
theorem jplain_run {b : Nat} {c : CS} {w : World} (h : CurT 89 w b c) (hc : c.ok) (h0 : c.er = 0) (hs : c.s.size ≤ 140737488352256) (ht : Hds w) (hg : 1 ≠ b) :
    Calls Tryz.prog 98 #[.pointer (some ⟨b, 0, none⟩)] w fun e w' => ∃ k, k ≤ c.bs.length ∧ (∀ x ∈ c.bs.take k, jPl x = true) ∧ (∀ x t, c.bs.drop k = x :: t → jPl x = false) ∧
      ((UOk (c.bs.take k) ∧ e = .returned (.string (bA (c.bs.take k))) ∧ CurT 89 w' b (c.past k)) ∨ (¬ UOk (c.bs.take k) ∧ e = .returned (.string ⟨#[]⟩) ∧ CurT 89 w' b ((c.past k).bad 5))) ∧ Only b w w' := by
  obtain ⟨i0, hi, hz0, hz1, hz2⟩ := info_parts info8
  have HC := Lib.hid (And.intro hc h0)
  have hbl := h.lt
  have hlen := CS.bs_length hc
  have hmax : c.bs.length ≤ 140737488352256 := by have := hc.2.1; omega
  have HT := Lib.hid (And.intro ht hg)
  clear hc h0 hlen ht hg
  go_enter Tryz.func98, Tryz.ntmps98
  go_wp2_with fail
  go_loopw [3] (fun v wr => JPlainRel c b w v wr) (fun _ wr => c.en + 1 - atOf b wr)
  case atStart => exact ⟨0, Nat.zero_le _, Lib.hid (fun x hx => by simp at hx), World.ownsRow_nil _ _ _ _, h, Only.refl _ _⟩
  case round =>
    obtain ⟨k, hk, hall, hb, hq, ho⟩ := hrel
    have hok := Lib.hid (CS.past_fine HC.out.1 hk)
    have hat := Lib.hid (atOf_cur hq)
    have hbp := CS.bs_past c k
    have hsz := ho.size
    by_cases hgo : ∃ x t, c.bs.drop k = x :: t ∧ jPl x = true
    · obtain ⟨x, t, hd, hx⟩ := hgo
      have HP := Lib.hid (peek_next hq hok.out HC.out.2 (hbp.trans hd))
      have HB := Lib.hid (fun w h => byte_next (w := w) (b := b) h hok.out HC.out.2 (hbp.trans hd))
      rw [CS.past_past] at HB
      have hlt : k < c.bs.length := by
        have := congrArg List.length hd
        rw [List.length_drop, List.length_cons] at this; omega
      have hget : c.bs.take (k + 1) = c.bs.take k ++ [x] := by
        rw [List.take_succ_eq_append_getElem hlt]
        congr 1
        have := List.drop_eq_getElem_cons hlt
        rw [hd] at this
        rw [(List.cons.inj this).1]
      have hx2 := jPl_iff.mp hx
      have HG := Lib.hid hget
      have hall2 := Lib.hid (show ∀ y ∈ c.bs.take (k + 1), jPl y = true by
        intro y hy
        rw [hget, List.mem_append] at hy
        rcases hy with hy | hy
        · exact hall.out y hy
        · rw [List.mem_singleton.mp hy]; exact hx)
      have hl2 : (c.bs.take k).length + 1 ≤ 140737488355328 := by rw [List.length_take]; omega
      obtain ⟨X, hXe⟩ : ∃ X, X = x.toNat := ⟨_, rfl⟩
      have hXz := Lib.hid (show ((X : Nat) : Int) = (x.toNat : Int) by rw [hXe])
      rw [← hXe] at HP HB hx2
      have q1 : decide ((X : Int) < 32) = false := decide_eq_false (by omega)
      have q2 : ((X : Int) == 34) = false := beq_eq_false_iff_ne.mpr (by omega)
      have q3 : ((X : Int) == 92) = false := beq_eq_false_iff_ne.mpr (by omega)
      have hkw : IntKind.i64.wrap ((k : Int) + 1) = (k : Int) + 1 := i64_small (by omega) (by omega)
      have HEN := Lib.hid (CS.bs_length HC.out.1)
      clear hget hd hx hx2 hXe hbp hall
      go_wp2_with fail
      with_reducible refine HP.out.mono ?_
      rintro e w1 ⟨rfl, hq1, hb1⟩
      have ho1 := only_then ho hb1 hsz
      have hv1 := hb.below hb1 (Nat.le_refl _)
      clear hb1 hb hq
      go_wp2_with fail
      with_reducible refine (HB.out _ hq1).mono ?_
      rintro e w2 ⟨rfl, hq2, ho2⟩
      have hv2 := hv1.only ho2 hbl
      have ho3 := ho1.trans ho2
      have hs3 := ho3.size
      have HQ := Lib.hid (fun w3 (h : Below w.heap.size w2 w3) => And.intro (Below.cur h hq2 hbl) (only_then ho3 h (Nat.le_refl _)))
      clear hv1 hq1 ho1 ho2
      go_wp2_with (at_builtin; go_loud (refine wpList_append_byte rfl (.tmp 25) (.tmp 28) 43 rfl 5 i0 Tryz.underlying43 hi hz0 hz1 hz2 _ w2 w2 w.heap.size (c.bs.take k) hv2 (Below.refl _ _) hs3 rfl _ _ hXz.out rfl hl2 ?_; intro v4 w4 hv4 hb4))
      have hq4 := (HQ.out _ hb4).1
      have ho4 := (HQ.out _ hb4).2
      go_roundw
      case rel => exact ⟨k + 1, by omega, hall2, by rw [HG.out]; exact hv4, hq4, ho4⟩
      case measure =>
        have := HEN.out
        have h1 := HC.out.1.1
        rw [atOf_cur hq4, hat.out]
        show c.en + 1 - (c.at_ + (k + 1)) < c.en + 1 - (c.at_ + k)
        omega
    · have hstop := Lib.hid (show ∀ x t, c.bs.drop k = x :: t → jPl x = false from fun x t e => by
        cases hx : jPl x with
        | false => rfl
        | true => exact absurd ⟨x, t, e, hx⟩ hgo)
      have hP : ∃ (X : Nat) (I : Bool), (I = false ∨ (I = true ∧ X < 32) ∨ (I = true ∧ X = 34) ∨ (I = true ∧ X = 92)) ∧ (Calls Tryz.prog 84 #[.pointer (some ⟨b, 0, none⟩)] wr fun e w' => e = .returned (.tuple #[.int .u8 (X : Int), .bool I]) ∧ CurT 89 w' b (c.past k) ∧ Below wr.heap.size wr w') := by
        match hd : c.bs.drop k with
        | [] => exact ⟨0, false, .inl rfl, peek_none hq hok.out (hbp.trans hd)⟩
        | x :: t =>
          refine ⟨x.toNat, true, .inr ?_, peek_next hq hok.out HC.out.2 (hbp.trans hd)⟩
          have h1 : ¬ jPl x = true := fun h => hgo ⟨x, t, hd, h⟩
          rw [jPl_iff] at h1
          rcases Nat.lt_or_ge x.toNat 32 with h2 | h2
          · exact .inl ⟨rfl, h2⟩
          · rcases Nat.decEq x.toNat 34 with h3 | h3
            · exact .inr (.inr ⟨rfl, by omega⟩)
            · exact .inr (.inl ⟨rfl, h3⟩)
      obtain ⟨X, I, hXI, HP0⟩ := hP
      have HP := Lib.hid HP0
      have HK := Lib.hid (fun (w1 : World) (hb1 : Below wr.heap.size wr w1) => (hb.below hb1 (Nat.le_refl _)).text (P := Tryz.prog) (d := 9) Tryz.underlying43 Tryz.underlying5 Tryz.underlying9)
      have HO := Lib.hid (show ∀ (w1 : World), Below wr.heap.size wr w1 → Only b w w1 from fun w1 hb1 => only_then ho hb1 hsz)
      have HH := Lib.hid (show ∀ (w1 : World), Only b w w1 → Hds w1 from fun w1 h => HT.out.1.only h HT.out.2)
      have hRs : (bA (c.bs.take k)).size ≤ 1125899906842624 := by rw [bA_size, List.length_take]; omega
      have HU := Lib.hid (fun w ht => ucheck_any (bA (c.bs.take k)) w hRs ht)
      have HE := Lib.hid (show (c.past k).er = 0 from HC.out.2)
      have HF := Lib.hid (And.intro hk hall.out)
      clear hgo hbp HP0 hb hq ho hall hk hRs
      by_cases hu : UOk (c.bs.take k)
      · have HUo := Lib.hid hu
        rw [uCheck_ok.mpr ((uOk_bA _).mpr hu)] at HU
        clear hu
        rcases hXI with hI | ⟨hI, hX⟩ | ⟨hI, hX⟩ | ⟨hI, hX⟩
        · subst hI
          go_wp2_with fail
          with_reducible refine HP.out.mono ?_
          rintro e w1 ⟨rfl, hq1, hb1⟩
          have ho1 := Lib.hid (HO.out _ hb1)
          have hk1 := Lib.hid (HK.out _ hb1)
          go_wp2_with fail
          rw [hk1.out]
          go_wp2_with fail
          with_reducible refine (HU.out _ (HH.out _ ho1.out)).mono ?_
          rintro e w2 ⟨rfl, m, hw⟩
          have hb2 := Lib.hid (show Below wr.heap.size wr w2 by rw [hw]; exact Below.drewN hb1 m)
          have hq2 := Lib.hid (show CurT 89 w2 b (c.past k) by rw [hw]; exact hq1.drewN m)
          have hk2 := Lib.hid (HK.out _ hb2.out)
          clear hw hb1 hq1
          go_wp2_with fail
          rw [hk2.out]
          go_wp2
          go_ret
          exact ⟨k, HF.out.1, HF.out.2, hstop.out, .inl ⟨HUo.out, rfl, hq2.out⟩, HO.out _ hb2.out⟩
        · subst hI
          have q1 : decide ((X : Int) < 32) = true := decide_eq_true (by omega)
          clear hX
          go_wp2_with fail
          with_reducible refine HP.out.mono ?_
          rintro e w1 ⟨rfl, hq1, hb1⟩
          have ho1 := Lib.hid (HO.out _ hb1)
          have hk1 := Lib.hid (HK.out _ hb1)
          go_wp2_with fail
          rw [hk1.out]
          go_wp2_with fail
          with_reducible refine (HU.out _ (HH.out _ ho1.out)).mono ?_
          rintro e w2 ⟨rfl, m, hw⟩
          have hb2 := Lib.hid (show Below wr.heap.size wr w2 by rw [hw]; exact Below.drewN hb1 m)
          have hq2 := Lib.hid (show CurT 89 w2 b (c.past k) by rw [hw]; exact hq1.drewN m)
          have hk2 := Lib.hid (HK.out _ hb2.out)
          clear hw hb1 hq1
          go_wp2_with fail
          rw [hk2.out]
          go_wp2
          go_ret
          exact ⟨k, HF.out.1, HF.out.2, hstop.out, .inl ⟨HUo.out, rfl, hq2.out⟩, HO.out _ hb2.out⟩
        · subst hI
          have q1 : decide ((X : Int) < 32) = false := decide_eq_false (by omega)
          have q2 : ((X : Int) == 34) = true := beq_iff_eq.mpr (by omega)
          clear hX
          go_wp2_with fail
          with_reducible refine HP.out.mono ?_
          rintro e w1 ⟨rfl, hq1, hb1⟩
          have ho1 := Lib.hid (HO.out _ hb1)
          have hk1 := Lib.hid (HK.out _ hb1)
          go_wp2_with fail
          rw [hk1.out]
          go_wp2_with fail
          with_reducible refine (HU.out _ (HH.out _ ho1.out)).mono ?_
          rintro e w2 ⟨rfl, m, hw⟩
          have hb2 := Lib.hid (show Below wr.heap.size wr w2 by rw [hw]; exact Below.drewN hb1 m)
          have hq2 := Lib.hid (show CurT 89 w2 b (c.past k) by rw [hw]; exact hq1.drewN m)
          have hk2 := Lib.hid (HK.out _ hb2.out)
          clear hw hb1 hq1
          go_wp2_with fail
          rw [hk2.out]
          go_wp2
          go_ret
          exact ⟨k, HF.out.1, HF.out.2, hstop.out, .inl ⟨HUo.out, rfl, hq2.out⟩, HO.out _ hb2.out⟩
        · subst hI
          have q1 : decide ((X : Int) < 32) = false := decide_eq_false (by omega)
          have q2 : ((X : Int) == 34) = false := beq_eq_false_iff_ne.mpr (by omega)
          have q3 : ((X : Int) == 92) = true := beq_iff_eq.mpr (by omega)
          clear hX
          go_wp2_with fail
          with_reducible refine HP.out.mono ?_
          rintro e w1 ⟨rfl, hq1, hb1⟩
          have ho1 := Lib.hid (HO.out _ hb1)
          have hk1 := Lib.hid (HK.out _ hb1)
          go_wp2_with fail
          rw [hk1.out]
          go_wp2_with fail
          with_reducible refine (HU.out _ (HH.out _ ho1.out)).mono ?_
          rintro e w2 ⟨rfl, m, hw⟩
          have hb2 := Lib.hid (show Below wr.heap.size wr w2 by rw [hw]; exact Below.drewN hb1 m)
          have hq2 := Lib.hid (show CurT 89 w2 b (c.past k) by rw [hw]; exact hq1.drewN m)
          have hk2 := Lib.hid (HK.out _ hb2.out)
          clear hw hb1 hq1
          go_wp2_with fail
          rw [hk2.out]
          go_wp2
          go_ret
          exact ⟨k, HF.out.1, HF.out.2, hstop.out, .inl ⟨HUo.out, rfl, hq2.out⟩, HO.out _ hb2.out⟩
      · have HUo := Lib.hid hu
        have hz : (uCheck (bA (c.bs.take k)) != -1) = true := bne_iff_ne.mpr (fun e => hu ((uOk_bA _).mp (uCheck_ok.mp e)))
        generalize uCheck (bA (c.bs.take k)) = Z at *
        clear hu
        rcases hXI with hI | ⟨hI, hX⟩ | ⟨hI, hX⟩ | ⟨hI, hX⟩
        · subst hI
          go_wp2_with fail
          with_reducible refine HP.out.mono ?_
          rintro e w1 ⟨rfl, hq1, hb1⟩
          have ho1 := Lib.hid (HO.out _ hb1)
          have hk1 := Lib.hid (HK.out _ hb1)
          go_wp2_with fail
          rw [hk1.out]
          go_wp2_with fail
          with_reducible refine (HU.out _ (HH.out _ ho1.out)).mono ?_
          rintro e w2 ⟨rfl, m, hw⟩
          have hb2 := Lib.hid (show Below wr.heap.size wr w2 by rw [hw]; exact Below.drewN hb1 m)
          have hq2 := show CurT 89 w2 b (c.past k) by rw [hw]; exact hq1.drewN m
          clear hw hb1 hq1
          go_wp2_with fail
          with_reducible refine (fail_fresh hq2 HE.out 5).mono ?_
          rintro e w3 ⟨rfl, hq3, ho3⟩
          go_wp2
          go_ret
          exact ⟨k, HF.out.1, HF.out.2, hstop.out, .inr ⟨HUo.out, rfl, hq3⟩, (HO.out _ hb2.out).trans ho3⟩
        · subst hI
          have q1 : decide ((X : Int) < 32) = true := decide_eq_true (by omega)
          clear hX
          go_wp2_with fail
          with_reducible refine HP.out.mono ?_
          rintro e w1 ⟨rfl, hq1, hb1⟩
          have ho1 := Lib.hid (HO.out _ hb1)
          have hk1 := Lib.hid (HK.out _ hb1)
          go_wp2_with fail
          rw [hk1.out]
          go_wp2_with fail
          with_reducible refine (HU.out _ (HH.out _ ho1.out)).mono ?_
          rintro e w2 ⟨rfl, m, hw⟩
          have hb2 := Lib.hid (show Below wr.heap.size wr w2 by rw [hw]; exact Below.drewN hb1 m)
          have hq2 := show CurT 89 w2 b (c.past k) by rw [hw]; exact hq1.drewN m
          clear hw hb1 hq1
          go_wp2_with fail
          with_reducible refine (fail_fresh hq2 HE.out 5).mono ?_
          rintro e w3 ⟨rfl, hq3, ho3⟩
          go_wp2
          go_ret
          exact ⟨k, HF.out.1, HF.out.2, hstop.out, .inr ⟨HUo.out, rfl, hq3⟩, (HO.out _ hb2.out).trans ho3⟩
        · subst hI
          have q1 : decide ((X : Int) < 32) = false := decide_eq_false (by omega)
          have q2 : ((X : Int) == 34) = true := beq_iff_eq.mpr (by omega)
          clear hX
          go_wp2_with fail
          with_reducible refine HP.out.mono ?_
          rintro e w1 ⟨rfl, hq1, hb1⟩
          have ho1 := Lib.hid (HO.out _ hb1)
          have hk1 := Lib.hid (HK.out _ hb1)
          go_wp2_with fail
          rw [hk1.out]
          go_wp2_with fail
          with_reducible refine (HU.out _ (HH.out _ ho1.out)).mono ?_
          rintro e w2 ⟨rfl, m, hw⟩
          have hb2 := Lib.hid (show Below wr.heap.size wr w2 by rw [hw]; exact Below.drewN hb1 m)
          have hq2 := show CurT 89 w2 b (c.past k) by rw [hw]; exact hq1.drewN m
          clear hw hb1 hq1
          go_wp2_with fail
          with_reducible refine (fail_fresh hq2 HE.out 5).mono ?_
          rintro e w3 ⟨rfl, hq3, ho3⟩
          go_wp2
          go_ret
          exact ⟨k, HF.out.1, HF.out.2, hstop.out, .inr ⟨HUo.out, rfl, hq3⟩, (HO.out _ hb2.out).trans ho3⟩
        · subst hI
          have q1 : decide ((X : Int) < 32) = false := decide_eq_false (by omega)
          have q2 : ((X : Int) == 34) = false := beq_eq_false_iff_ne.mpr (by omega)
          have q3 : ((X : Int) == 92) = true := beq_iff_eq.mpr (by omega)
          clear hX
          go_wp2_with fail
          with_reducible refine HP.out.mono ?_
          rintro e w1 ⟨rfl, hq1, hb1⟩
          have ho1 := Lib.hid (HO.out _ hb1)
          have hk1 := Lib.hid (HK.out _ hb1)
          go_wp2_with fail
          rw [hk1.out]
          go_wp2_with fail
          with_reducible refine (HU.out _ (HH.out _ ho1.out)).mono ?_
          rintro e w2 ⟨rfl, m, hw⟩
          have hb2 := Lib.hid (show Below wr.heap.size wr w2 by rw [hw]; exact Below.drewN hb1 m)
          have hq2 := show CurT 89 w2 b (c.past k) by rw [hw]; exact hq1.drewN m
          clear hw hb1 hq1
          go_wp2_with fail
          with_reducible refine (fail_fresh hq2 HE.out 5).mono ?_
          rintro e w3 ⟨rfl, hq3, ho3⟩
          go_wp2
          go_ret
          exact ⟨k, HF.out.1, HF.out.2, hstop.out, .inr ⟨HUo.out, rfl, hq3⟩, (HO.out _ hb2.out).trans ho3⟩
theorem jplain_good {b : Nat} {c : CS} {w : World} (h : CurT 89 w b c) (hc : c.ok) (h0 : c.er = 0) (hs : c.s.size ≤ 140737488352256) (ht : Hds w) (hg : 1 ≠ b) (hu : UOk (c.bs.takeWhile jPl)) :
    Calls Tryz.prog 98 #[.pointer (some ⟨b, 0, none⟩)] w fun e w' => e = .returned (.string (bA (c.bs.takeWhile jPl))) ∧ CurT 89 w' b (c.past (c.bs.takeWhile jPl).length) ∧ Only b w w' := by
  refine (jplain_run h hc h0 hs ht hg).mono ?_
  rintro e w' ⟨k, hk, h1, h2, h3, ho⟩
  obtain ⟨e1, e2⟩ := tw_eq hk h1 h2
  rw [e2]
  rw [e1] at hu ⊢
  rcases h3 with ⟨_, h3, h4⟩ | ⟨h3, _⟩
  · exact ⟨h3, h4, ho⟩
  · exact absurd hu h3
theorem jplain_bad {b : Nat} {c : CS} {w : World} (h : CurT 89 w b c) (hc : c.ok) (h0 : c.er = 0) (hs : c.s.size ≤ 140737488352256) (ht : Hds w) (hg : 1 ≠ b) (hu : ¬ UOk (c.bs.takeWhile jPl)) :
    Calls Tryz.prog 98 #[.pointer (some ⟨b, 0, none⟩)] w fun e w' => e = .returned (.string ⟨#[]⟩) ∧ (∃ k, k ≤ c.bs.length ∧ CurT 89 w' b ((c.past k).bad 5)) ∧ Only b w w' := by
  refine (jplain_run h hc h0 hs ht hg).mono ?_
  rintro e w' ⟨k, hk, h1, h2, h3, ho⟩
  obtain ⟨e1, e2⟩ := tw_eq hk h1 h2
  rw [e1] at hu
  rcases h3 with ⟨h3, _⟩ | ⟨_, h3, h4⟩
  · exact absurd h3 hu
  · exact ⟨h3, ⟨k, hk, h4⟩, ho⟩
end Go.Proofs.YtnbhhnkcfbfdcaaGreatDoor
