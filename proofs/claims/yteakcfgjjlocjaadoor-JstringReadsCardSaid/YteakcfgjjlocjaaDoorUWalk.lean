/- Package utf's walk, Check, Count, Cut. -/
import Derived.Test.YteakcfgjjlocjaaDoorURune
namespace Go.Proofs.YteakcfgjjlocjaaDoor
open Go Go.RowKit
set_option linter.unusedVariables false

def UWalkRel (s : ByteArray) (n : Int) (W : World) (e c : Value) (wr : World) : Prop :=
  ∃ E C m : Nat, e = .int .i64 (E : Nat) ∧ c = .int .i64 (C : Nat) ∧ WPre s n E C ∧ wr = W.drewN m
set_option maxRecDepth 20000 in
theorem uwalk_any (s : ByteArray) (n : Int) (w : World) (hs : s.size ≤ 1125899906842624) (ht : Hds w) :
    Calls Tryd.prog 39 #[.string s, .int .i64 n] w fun e w' => e = .returned (.tuple #[.int .i64 ((wk s n).1 : Nat), .int .i64 ((wk s n).2 : Nat)]) ∧ ∃ m, w' = w.drewN m := by
  have HR := Lib.hid (fun (a : Nat) (w : World) (h : a ≤ 1125899906842624) (ht : Hds w) => urune_any s a w hs (by omega) (by omega) ht)
  have HT := Lib.hid ht
  clear ht
  go_enter Tryd.func39, Tryd.ntmps39
  go_wp2_with fail
  go_loopw [4, 5] (fun e c wr => UWalkRel s n w e c wr) (fun e _ _ => s.size + 1 - (intOf e).toNat)
  case atStart => exact ⟨0, 0, 0, rfl, rfl, WPre.zero s n, rfl⟩
  case round =>
    obtain ⟨E, C, m, rfl, rfl, hp, rfl⟩ := hrel
    have hE := hp.le
    have hC := hp.count
    have HRE := Lib.hid (HR.out E (w.drewN m) (by omega) (HT.out.drewN m))
    rw [uR_at] at HRE
    have hst := Lib.hid (fun h => wk_of hp (n := n) h)
    have hnx := Lib.hid (fun h => hp.step (n := n) h)
    have hle := dAt_le (s := s) (e := E)
    unfold WStop at hst hnx
    generalize (dAt s E).1 = R at *
    obtain ⟨z, hz⟩ : ∃ z, z = (dAt s E).2 := ⟨_, rfl⟩
    rw [← hz] at HRE hst hnx hle
    clear hz
    have z1 : IntKind.i64.wrap ((E : Int) + (z : Int)) = (E : Int) + (z : Int) := IntWalk.i64_in _ (by omega)
    have z2 : IntKind.i64.wrap ((C : Int) + 1) = (C : Int) + 1 := IntWalk.i64_in _ (by omega)
    by_cases h0 : z = 0
    · have p1 : ((z : Int) == 0) = true := by rw [h0]; rfl
      have HK := Lib.hid (hst.out (.inl h0))
      clear hst hnx hle hp h0
      go_wp2_with fail
      with_reducible refine HRE.out.mono ?_
      rintro e w' ⟨rfl, m2, hw⟩
      rw [hw]; clear hw
      go_wp2
      go_ret2
      exact ⟨by rw [HK.out]; rfl, m + m2, rfl⟩
    · have p1 : ((z : Int) == 0) = false := beq_eq_false_iff_ne.mpr (by omega)
      by_cases h1 : n < (E : Int) + (z : Int)
      · have p2 : decide (n < (E : Int) + (z : Int)) = true := decide_eq_true h1
        have HK := Lib.hid (hst.out (.inr h1))
        clear hst hnx hle hp h0 h1
        go_wp2_with fail
        with_reducible refine HRE.out.mono ?_
        rintro e w' ⟨rfl, m2, hw⟩
        rw [hw]; clear hw
        go_wp2
        go_ret2
        exact ⟨by rw [HK.out]; rfl, m + m2, rfl⟩
      · have p2 : decide (n < (E : Int) + (z : Int)) = false := decide_eq_false h1
        have HP := Lib.hid (hnx.out (fun h => by rcases h with h | h <;> omega))
        have hle2 := hle (by omega)
        clear hst hnx hle hp h1
        go_wp2_with fail
        with_reducible refine HRE.out.mono ?_
        rintro e w' ⟨rfl, m2, hw⟩
        rw [hw]; clear hw
        go_wp2
        go_roundw
        case rel => exact ⟨E + z, C + 1, m + m2, by go_num, by go_num, HP.out, rfl⟩
        case measure => simp [intOf]; omega

theorem ucheck_any (s : ByteArray) (w : World) (hs : s.size ≤ 1125899906842624) (ht : Hds w) :
    Calls Tryd.prog 32 #[.string s] w fun e w' => e = .returned (.int .i64 (uCheck s)) ∧ ∃ m, w' = w.drewN m := by
  have HK := Lib.hid (uwalk_any s s.size w hs ht)
  have hle := wk_le s s.size
  by_cases h : (wk s s.size).1 = s.size
  · have hC := Lib.hid (show uCheck s = -1 by unfold uCheck; rw [if_pos h])
    rw [h] at HK
    generalize (wk s s.size).2 = C at *
    clear h hle ht
    go_enter Tryd.func32, Tryd.ntmps32
    go_wp2_with fail
    with_reducible refine HK.out.mono ?_
    rintro e w' ⟨rfl, m2, hw⟩
    rw [hw]; clear hw
    go_wp2
    go_ret
    exact ⟨by rw [hC.out]; rfl, _, rfl⟩
  · have hC := Lib.hid (show uCheck s = (wk s s.size).1 by unfold uCheck; rw [if_neg h])
    generalize (wk s s.size).2 = C at *
    generalize (wk s s.size).1 = E at *
    have p1 : ((E : Int) == (s.size : Int)) = false := beq_eq_false_iff_ne.mpr (by omega)
    clear h hle ht
    go_enter Tryd.func32, Tryd.ntmps32
    go_wp2_with fail
    with_reducible refine HK.out.mono ?_
    rintro e w' ⟨rfl, m2, hw⟩
    rw [hw]; clear hw
    go_wp2
    go_ret
    exact ⟨by rw [hC.out]; rfl, _, rfl⟩


end Go.Proofs.YteakcfgjjlocjaaDoor
