/- Several texts in one (JrRi, JsRefA, JsRefB): each begins with its own words. -/
import Derived.Test.YtnbhhnkcfbfdcaaGreatDoorZP
import Derived.Test.YtnbhhnkcfbfdcaaGreatDoorJrRh
import Derived.Deep.Cut
import Derived.Deep.CutRange
import Derived.Test.YtnbhhnkcfbfdcaaGreatDoorZC
import Derived.Test.YtnbhhnkcfbfdcaaGreatDoorZE
import Derived.Test.YtnbhhnkcfbfdcaaGreatDoorZW
import Derived.LoopN
import Derived.Test.YtnbhhnkcfbfdcaaGreatDoorZI
/- The document's inner (package truchmanref13): the parts of either. -/
namespace Go.Proofs.YtnbhhnkcfbfdcaaGreatDoor
open Go Go.RowKit
set_option linter.unusedVariables false

/-- inner, when value is known of less. -/
theorem inner_up {la : Int} {f : Nat} (hV : ∀ g, g + 2 ≤ f → ValR la g) : InR la f := by
  intro ob a cap ts d w hin hcap hs hd hf hl
  match ts with
  | [] =>
    have h0 : ∀ g, g + 2 ≤ 2 → ValR la g := fun g hg => value_none (by omega)
    cases ob
    · exact inner_cutL a cap la d w h0 hin hcap hs hd (by simp) (Nat.le_refl _) (by simp)
    · exact inner_cutO a cap la d w h0 hin hcap hs hd (by simp) (Nat.le_refl _) (by simp)
  | x :: ts1 =>
    have hf2 : 2 ≤ f := by rw [List.length_cons] at hf; omega
    show Calls Tryz.prog 45 _ w (RVp a (x :: ts1) la (if x.1 = cls ob then ⟨[], ts1, 0⟩ else mTr (eE (some la)) f ob x d [] ts1) w)
    by_cases h : x.1 = cls ob
    · rw [if_pos h]
      cases ob
      · exact inner_closeL x ts1 a cap la d w _ rfl h hin hcap hl
      · exact inner_closeO x ts1 a cap la d w _ rfl h hin hcap hl
    · rw [if_neg h]
      cases ob
      · exact inner_someL x ts1 h a cap la d w hV hin hcap hs hd hf hf2 hl
      · exact inner_someO x ts1 h a cap la d w hV hin hcap hs hd hf hf2 hl
/-- Both, of any tokens. -/
theorem trees_any (la : Int) : ∀ f, ValR la f ∧ InR la f := by
  intro f
  induction f using Nat.strongRecOn with
  | _ f ih =>
    refine ⟨?_, inner_up fun g hg => (ih g (by omega)).1⟩
    match f, ih with
    | 0, _ => exact value_none (by omega)
    | 1, _ => exact value_none (by omega)
    | f + 2, ih => exact value_up (ih f (by omega)).2
end Go.Proofs.YtnbhhnkcfbfdcaaGreatDoor
/- The document's own jstring (package truchmanref10): digits, simple. -/
namespace Go.Proofs.YtnbhhnkcfbfdcaaGreatDoor
open Go Go.RowKit
set_option linter.unusedVariables false

theorem ret_txt {a b : ByteArray} (h : a = b) : Ending.returned (.string a) = .returned (.string b) := by rw [h]
def RDigRel (s : ByteArray) (a : Nat) (W : World) (x y n i : Value) (wr : World) : Prop :=
  ∃ k R I : Nat, k ≤ 4 ∧ I = a + k ∧ x = .int .i64 0 ∧ y = .int .i64 0 ∧ n = .int .i64 (R : Nat) ∧ i = .int .i64 (I : Nat) ∧ R < 16 ^ k ∧ Hid (jDg (4 - k) R (s.data.toList.drop I) = jDg 4 0 (s.data.toList.drop a)) ∧ wr = W
set_option maxRecDepth 20000 in
theorem rdigits_any (s : ByteArray) (a : Nat) (w : World) (hs : s.size ≤ 1125899906842624) (ha : a ≤ 1125899906842624) :
    Calls Tryz.prog 108 #[.string s, .int .i64 a] w fun e w' => e = .returned (.tuple #[.int .i64 ((jDg 4 0 (s.data.toList.drop a)).1 : Nat), .int .i64 (jDg 4 0 (s.data.toList.drop a)).2]) ∧ w' = w := by
  have za : IntKind.i64.wrap ((a : Int) + 4) = (a : Int) + 4 := i64_small (by omega) (by omega)
  go_enter Tryz.func108, Tryz.ntmps108
  go_wp2_with fail
  go_loopw [4, 5, 6, 7] (fun x y n i wr => RDigRel s a w x y n i wr) (fun _ _ _ i _ => a + 4 - (intOf i).toNat)
  case atStart => exact ⟨0, 0, a, by omega, rfl, rfl, rfl, rfl, rfl, by omega, Lib.hid rfl, rfl⟩
  case round =>
    obtain ⟨k, R, I, hk, hIk, rfl, rfl, rfl, rfl, hR, hJ, rfl⟩ := hrel
    by_cases hlt : k < 4
    · have p1 : decide ((I : Int) < (a : Int) + 4) = true := decide_eq_true (by omega)
      have hR2 : R < 4096 := Nat.lt_of_lt_of_le hR (Nat.le_trans (Nat.pow_le_pow_right (by decide) (show k ≤ 3 by omega)) (by decide))
      have e4 : 4 - k = (3 - k) + 1 := by omega
      have zi : IntKind.i64.wrap ((I : Int) + 1) = (I : Int) + 1 := i64_small (by omega) (by omega)
      by_cases hin : I < s.size
      · have p2 : decide (s.size ≤ I) = false := decide_eq_false (by omega)
        have ik0 : (0 : Int) ≤ (I : Int) := by omega
        have ik1 : (I : Int) < (s.size : Int) := by omega
        have hdr := drop_at s I hin
        have hX := s[I].toNat_lt
        have HJ : jDg (4 - k) R (s.data.toList.drop I) = if nibIs (jLow s[I].toNat) = true then jDg (3 - k) (16 * R + nibV (jLow s[I].toNat)) (s.data.toList.drop (I + 1)) else (0, 6) := by rw [hdr, e4]; rfl
        rw [hJ.out] at HJ
        obtain ⟨X, hXe⟩ : ∃ X, X = s[I].toNat := ⟨_, rfl⟩
        have hXi : (s[I].toNat : Int) = (X : Int) := by omega
        rw [← hXe] at hX HJ
        clear hXe
        by_cases hup : 65 ≤ X ∧ X ≤ 70
        · obtain ⟨Y, hXY⟩ : ∃ Y, Y = X + 32 := ⟨_, rfl⟩
          rw [show jLow X = Y by unfold jLow; rw [if_pos hup, hXY]] at HJ
          have q1 : decide ((65 : Int) ≤ (X : Int)) = true := decide_eq_true (by omega)
          have q2 : decide ((X : Int) ≤ 70) = true := decide_eq_true (by omega)
          have z0 : IntKind.u8.wrap ((X : Int) + 32) = (Y : Int) := by rw [IntWalk.u8_in _ (by omega)]; omega
          have HN := Lib.hid (fun w => rnibble_any Y w (by omega))
          have hV := nibV_lt Y
          by_cases hI : nibIs Y = true
          · rw [if_pos hI] at HJ
            rw [hI] at HN
            generalize nibV Y = N at *
            obtain ⟨R2, hR3⟩ : ∃ R2, R2 = 16 * R + N := ⟨_, rfl⟩
            have z1 : IntKind.i64.wrap (16 * (R : Int)) = 16 * (R : Int) := i64_small (by omega) (by omega)
            have z3 : IntKind.i64.wrap (16 * (R : Int) + (N : Int)) = (R2 : Int) := by rw [i64_small (by omega) (by omega)]; omega
            have hR4 : R2 < 16 ^ (k + 1) := by rw [Nat.pow_succ]; omega
            have HJ2 := Lib.hid (show jDg (4 - (k + 1)) R2 (s.data.toList.drop (I + 1)) = jDg 4 0 (s.data.toList.drop a) by rw [hR3, show 4 - (k + 1) = 3 - k by omega]; exact HJ.symm)
            have HIk := Lib.hid hIk
            clear hR hJ HJ hI hR3 hdr e4 hXY hIk
            go_wp2_with fail
            with_reducible refine (HN.out _).mono ?_
            rintro e w2 ⟨rfl, hw⟩
            rw [hw]; clear hw
            go_wp2
            go_roundw
            case rel => exact ⟨k + 1, R2, I + 1, by omega, by have := HIk.out; omega, rfl, rfl, rfl, by go_num, hR4, HJ2, rfl⟩
            case measure => have := HIk.out; simp [intOf]; omega
          · rw [if_neg hI] at HJ
            rw [show nibIs Y = false by simpa using hI] at HN
            generalize nibV Y = N at *
            have HR := Lib.hid HJ
            clear hR hJ HJ hI hdr e4 hXY hIk
            go_wp2_with fail
            with_reducible refine (HN.out _).mono ?_
            rintro e w2 ⟨rfl, hw⟩
            rw [hw]; clear hw
            go_wp2
            go_ret2
            exact ⟨by rw [HR.out]; rfl, rfl⟩
        · by_cases hlo : 65 ≤ X
          · obtain ⟨Y, hXY⟩ : ∃ Y, Y = X := ⟨_, rfl⟩
            rw [show jLow X = X by unfold jLow; rw [if_neg hup]] at HJ
            have q1 : decide ((65 : Int) ≤ (X : Int)) = true := decide_eq_true (by omega)
            have q2 : decide ((X : Int) ≤ 70) = false := decide_eq_false (by omega)
            have HN := Lib.hid (fun w => rnibble_any X w (by omega))
            have hV := nibV_lt X
            by_cases hI : nibIs X = true
            · rw [if_pos hI] at HJ
              rw [hI] at HN
              generalize nibV X = N at *
              obtain ⟨R2, hR3⟩ : ∃ R2, R2 = 16 * R + N := ⟨_, rfl⟩
              have z1 : IntKind.i64.wrap (16 * (R : Int)) = 16 * (R : Int) := i64_small (by omega) (by omega)
              have z3 : IntKind.i64.wrap (16 * (R : Int) + (N : Int)) = (R2 : Int) := by rw [i64_small (by omega) (by omega)]; omega
              have hR4 : R2 < 16 ^ (k + 1) := by rw [Nat.pow_succ]; omega
              have HJ2 := Lib.hid (show jDg (4 - (k + 1)) R2 (s.data.toList.drop (I + 1)) = jDg 4 0 (s.data.toList.drop a) by rw [hR3, show 4 - (k + 1) = 3 - k by omega]; exact HJ.symm)
              have HIk := Lib.hid hIk
              clear hR hJ HJ hI hR3 hdr e4 hXY hIk
              go_wp2_with fail
              with_reducible refine (HN.out _).mono ?_
              rintro e w2 ⟨rfl, hw⟩
              rw [hw]; clear hw
              go_wp2
              go_roundw
              case rel => exact ⟨k + 1, R2, I + 1, by omega, by have := HIk.out; omega, rfl, rfl, rfl, by go_num, hR4, HJ2, rfl⟩
              case measure => have := HIk.out; simp [intOf]; omega
            · rw [if_neg hI] at HJ
              rw [show nibIs X = false by simpa using hI] at HN
              generalize nibV X = N at *
              have HR := Lib.hid HJ
              clear hR hJ HJ hI hdr e4 hXY hIk
              go_wp2_with fail
              with_reducible refine (HN.out _).mono ?_
              rintro e w2 ⟨rfl, hw⟩
              rw [hw]; clear hw
              go_wp2
              go_ret2
              exact ⟨by rw [HR.out]; rfl, rfl⟩
          · obtain ⟨Y, hXY⟩ : ∃ Y, Y = X := ⟨_, rfl⟩
            rw [show jLow X = X by unfold jLow; rw [if_neg hup]] at HJ
            have q1 : decide ((65 : Int) ≤ (X : Int)) = false := decide_eq_false (by omega)
            have HN := Lib.hid (fun w => rnibble_any X w (by omega))
            have hV := nibV_lt X
            by_cases hI : nibIs X = true
            · rw [if_pos hI] at HJ
              rw [hI] at HN
              generalize nibV X = N at *
              obtain ⟨R2, hR3⟩ : ∃ R2, R2 = 16 * R + N := ⟨_, rfl⟩
              have z1 : IntKind.i64.wrap (16 * (R : Int)) = 16 * (R : Int) := i64_small (by omega) (by omega)
              have z3 : IntKind.i64.wrap (16 * (R : Int) + (N : Int)) = (R2 : Int) := by rw [i64_small (by omega) (by omega)]; omega
              have hR4 : R2 < 16 ^ (k + 1) := by rw [Nat.pow_succ]; omega
              have HJ2 := Lib.hid (show jDg (4 - (k + 1)) R2 (s.data.toList.drop (I + 1)) = jDg 4 0 (s.data.toList.drop a) by rw [hR3, show 4 - (k + 1) = 3 - k by omega]; exact HJ.symm)
              have HIk := Lib.hid hIk
              clear hR hJ HJ hI hR3 hdr e4 hXY hIk
              go_wp2_with fail
              with_reducible refine (HN.out _).mono ?_
              rintro e w2 ⟨rfl, hw⟩
              rw [hw]; clear hw
              go_wp2
              go_roundw
              case rel => exact ⟨k + 1, R2, I + 1, by omega, by have := HIk.out; omega, rfl, rfl, rfl, by go_num, hR4, HJ2, rfl⟩
              case measure => have := HIk.out; simp [intOf]; omega
            · rw [if_neg hI] at HJ
              rw [show nibIs X = false by simpa using hI] at HN
              generalize nibV X = N at *
              have HR := Lib.hid HJ
              clear hR hJ HJ hI hdr e4 hXY hIk
              go_wp2_with fail
              with_reducible refine (HN.out _).mono ?_
              rintro e w2 ⟨rfl, hw⟩
              rw [hw]; clear hw
              go_wp2
              go_ret2
              exact ⟨by rw [HR.out]; rfl, rfl⟩
      · have p2 : decide (s.size ≤ I) = true := decide_eq_true (by omega)
        have hdr : s.data.toList.drop I = [] := List.drop_eq_nil_of_le (by rw [toList_size]; omega)
        have HR := Lib.hid (show jDg 4 0 (s.data.toList.drop a) = (0, 1) by rw [← hJ.out, hdr, e4]; rfl)
        clear hJ hdr e4 hR hIk
        go_wp2
        go_ret2
        exact ⟨by rw [HR.out]; rfl, rfl⟩
    · have p1 : decide ((I : Int) < (a : Int) + 4) = false := decide_eq_false (by omega)
      have hk4 : k = 4 := by omega
      subst hk4
      have HR := Lib.hid (show jDg 4 0 (s.data.toList.drop a) = (R, 0) by rw [← hJ.out]; rfl)
      clear hJ hR hIk
      go_wp2
      go_ret2
      exact ⟨by rw [HR.out]; rfl, rfl⟩
theorem rsim_34 (w : World) : Calls Tryz.prog 107 #[.int .u8 34] w fun e w' => e = .returned (.string (bA [34])) ∧ w' = w := by
  go_enter Tryz.func107, Tryz.ntmps107
  go_wp2_with fail
  refine wp_loop_rounds 1 ?_
  rw [rounds_succ]
  go_wp2
  go_ret
  exact ⟨ret_txt (by decide +kernel), rfl⟩
theorem rsim_92 (w : World) : Calls Tryz.prog 107 #[.int .u8 92] w fun e w' => e = .returned (.string (bA [92])) ∧ w' = w := by
  go_enter Tryz.func107, Tryz.ntmps107
  go_wp2_with fail
  refine wp_loop_rounds 2 ?_
  rw [rounds_succ]
  go_wp2
  rw [rounds_succ]
  go_wp2
  go_ret
  exact ⟨ret_txt (by decide +kernel), rfl⟩
theorem rsim_47 (w : World) : Calls Tryz.prog 107 #[.int .u8 47] w fun e w' => e = .returned (.string (bA [47])) ∧ w' = w := by
  go_enter Tryz.func107, Tryz.ntmps107
  go_wp2_with fail
  refine wp_loop_rounds 3 ?_
  rw [rounds_succ]
  go_wp2
  rw [rounds_succ]
  go_wp2
  rw [rounds_succ]
  go_wp2
  go_ret
  exact ⟨ret_txt (by decide +kernel), rfl⟩
theorem rsim_98 (w : World) : Calls Tryz.prog 107 #[.int .u8 98] w fun e w' => e = .returned (.string (bA [8])) ∧ w' = w := by
  go_enter Tryz.func107, Tryz.ntmps107
  go_wp2_with fail
  refine wp_loop_rounds 4 ?_
  rw [rounds_succ]
  go_wp2
  rw [rounds_succ]
  go_wp2
  rw [rounds_succ]
  go_wp2
  rw [rounds_succ]
  go_wp2
  go_ret
  exact ⟨ret_txt (by decide +kernel), rfl⟩
theorem rsim_102 (w : World) : Calls Tryz.prog 107 #[.int .u8 102] w fun e w' => e = .returned (.string (bA [12])) ∧ w' = w := by
  go_enter Tryz.func107, Tryz.ntmps107
  go_wp2_with fail
  refine wp_loop_rounds 5 ?_
  rw [rounds_succ]
  go_wp2
  rw [rounds_succ]
  go_wp2
  rw [rounds_succ]
  go_wp2
  rw [rounds_succ]
  go_wp2
  rw [rounds_succ]
  go_wp2
  go_ret
  exact ⟨ret_txt (by decide +kernel), rfl⟩
theorem rsim_110 (w : World) : Calls Tryz.prog 107 #[.int .u8 110] w fun e w' => e = .returned (.string (bA [10])) ∧ w' = w := by
  go_enter Tryz.func107, Tryz.ntmps107
  go_wp2_with fail
  refine wp_loop_rounds 6 ?_
  rw [rounds_succ]
  go_wp2
  rw [rounds_succ]
  go_wp2
  rw [rounds_succ]
  go_wp2
  rw [rounds_succ]
  go_wp2
  rw [rounds_succ]
  go_wp2
  rw [rounds_succ]
  go_wp2
  go_ret
  exact ⟨ret_txt (by decide +kernel), rfl⟩
theorem rsim_114 (w : World) : Calls Tryz.prog 107 #[.int .u8 114] w fun e w' => e = .returned (.string (bA [13])) ∧ w' = w := by
  go_enter Tryz.func107, Tryz.ntmps107
  go_wp2_with fail
  refine wp_loop_rounds 7 ?_
  rw [rounds_succ]
  go_wp2
  rw [rounds_succ]
  go_wp2
  rw [rounds_succ]
  go_wp2
  rw [rounds_succ]
  go_wp2
  rw [rounds_succ]
  go_wp2
  rw [rounds_succ]
  go_wp2
  rw [rounds_succ]
  go_wp2
  go_ret
  exact ⟨ret_txt (by decide +kernel), rfl⟩
theorem rsim_116 (w : World) : Calls Tryz.prog 107 #[.int .u8 116] w fun e w' => e = .returned (.string (bA [9])) ∧ w' = w := by
  go_enter Tryz.func107, Tryz.ntmps107
  go_wp2_with fail
  refine wp_loop_rounds 8 ?_
  rw [rounds_succ]
  go_wp2
  rw [rounds_succ]
  go_wp2
  rw [rounds_succ]
  go_wp2
  rw [rounds_succ]
  go_wp2
  rw [rounds_succ]
  go_wp2
  rw [rounds_succ]
  go_wp2
  rw [rounds_succ]
  go_wp2
  rw [rounds_succ]
  go_wp2
  go_ret
  exact ⟨ret_txt (by decide +kernel), rfl⟩
theorem rsim_none (X : Nat) (w : World) (h : jSim X = 0) : Calls Tryz.prog 107 #[.int .u8 X] w fun e w' => e = .returned (.string ⟨#[]⟩) ∧ w' = w := by
  have n34 : ¬ X = 34 := fun e => by rw [e] at h; exact absurd h (by decide)
  have n92 : ¬ X = 92 := fun e => by rw [e] at h; exact absurd h (by decide)
  have n47 : ¬ X = 47 := fun e => by rw [e] at h; exact absurd h (by decide)
  have n98 : ¬ X = 98 := fun e => by rw [e] at h; exact absurd h (by decide)
  have n102 : ¬ X = 102 := fun e => by rw [e] at h; exact absurd h (by decide)
  have n110 : ¬ X = 110 := fun e => by rw [e] at h; exact absurd h (by decide)
  have n114 : ¬ X = 114 := fun e => by rw [e] at h; exact absurd h (by decide)
  have n116 : ¬ X = 116 := fun e => by rw [e] at h; exact absurd h (by decide)
  have p34 : ((((ByteArray.mk #[34, 92, 47, 98, 102, 110, 114, 116])[0]'(by decide)).toNat : Int) == (X : Int)) = false := beq_eq_false_iff_ne.mpr (by show ((34 : Nat) : Int) ≠ (X : Int); omega)
  have p92 : ((((ByteArray.mk #[34, 92, 47, 98, 102, 110, 114, 116])[1]'(by decide)).toNat : Int) == (X : Int)) = false := beq_eq_false_iff_ne.mpr (by show ((92 : Nat) : Int) ≠ (X : Int); omega)
  have p47 : ((((ByteArray.mk #[34, 92, 47, 98, 102, 110, 114, 116])[2]'(by decide)).toNat : Int) == (X : Int)) = false := beq_eq_false_iff_ne.mpr (by show ((47 : Nat) : Int) ≠ (X : Int); omega)
  have p98 : ((((ByteArray.mk #[34, 92, 47, 98, 102, 110, 114, 116])[3]'(by decide)).toNat : Int) == (X : Int)) = false := beq_eq_false_iff_ne.mpr (by show ((98 : Nat) : Int) ≠ (X : Int); omega)
  have p102 : ((((ByteArray.mk #[34, 92, 47, 98, 102, 110, 114, 116])[4]'(by decide)).toNat : Int) == (X : Int)) = false := beq_eq_false_iff_ne.mpr (by show ((102 : Nat) : Int) ≠ (X : Int); omega)
  have p110 : ((((ByteArray.mk #[34, 92, 47, 98, 102, 110, 114, 116])[5]'(by decide)).toNat : Int) == (X : Int)) = false := beq_eq_false_iff_ne.mpr (by show ((110 : Nat) : Int) ≠ (X : Int); omega)
  have p114 : ((((ByteArray.mk #[34, 92, 47, 98, 102, 110, 114, 116])[6]'(by decide)).toNat : Int) == (X : Int)) = false := beq_eq_false_iff_ne.mpr (by show ((114 : Nat) : Int) ≠ (X : Int); omega)
  have p116 : ((((ByteArray.mk #[34, 92, 47, 98, 102, 110, 114, 116])[7]'(by decide)).toNat : Int) == (X : Int)) = false := beq_eq_false_iff_ne.mpr (by show ((116 : Nat) : Int) ≠ (X : Int); omega)
  clear h n34 n92 n47 n98 n102 n110 n114 n116
  go_enter Tryz.func107, Tryz.ntmps107
  go_wp2_with fail
  refine wp_loop_rounds 9 ?_
  rw [rounds_succ]
  go_wp2
  rw [rounds_succ]
  go_wp2
  rw [rounds_succ]
  go_wp2
  rw [rounds_succ]
  go_wp2
  rw [rounds_succ]
  go_wp2
  rw [rounds_succ]
  go_wp2
  rw [rounds_succ]
  go_wp2
  rw [rounds_succ]
  go_wp2
  rw [rounds_succ]
  go_wp2
  go_ret
  exact ⟨rfl, rfl⟩
end Go.Proofs.YtnbhhnkcfbfdcaaGreatDoor
/- The document's own jstring (package truchmanref10): pair. -/
namespace Go.Proofs.YtnbhhnkcfbfdcaaGreatDoor
open Go Go.RowKit
set_option linter.unusedVariables false

def rTx (p : JA) : ByteArray := if p.e = 0 then bA (uB p.r) else ⟨#[]⟩
def rPl (a : Nat) (p : JA) : Nat := if p.e = 0 then a + p.k else 0
theorem ret_ja {p q : JA} {a : Nat} (h : q = p) : Ending.returned (.tuple #[.string (rTx p), .int .i64 (rPl a p : Nat), .int .i64 p.e]) = .returned (.tuple #[.string (rTx q), .int .i64 (rPl a q : Nat), .int .i64 q.e]) := by rw [h]
theorem drop_none (s : ByteArray) (a : Nat) (h : s.size ≤ a) : s.data.toList.drop a = [] := List.drop_eq_nil_of_le (by rw [toList_size]; exact h)
theorem ja_no {a : Nat} {e : Int} (he : e ≠ 0) : Ending.returned (.tuple #[.string ⟨#[]⟩, .int .i64 0, .int .i64 e]) = .returned (.tuple #[.string (rTx ⟨0, 0, e⟩), .int .i64 (rPl a ⟨0, 0, e⟩ : Nat), .int .i64 e]) := by
  have h1 : rTx ⟨0, 0, e⟩ = ⟨#[]⟩ := by unfold rTx; rw [if_neg he]
  have h2 : rPl a ⟨0, 0, e⟩ = 0 := by unfold rPl; rw [if_neg he]
  rw [h1, h2]; rfl

set_option maxRecDepth 100000 in
theorem rpair_end (s : ByteArray) (a n : Nat) (w : World) (hs : s.size ≤ 1125899906842624) (ha : a ≤ 1125899906842624) (hn : 55296 ≤ n) (hn2 : n ≤ 56319) (h1 : s.size ≤ a) :
    Calls Tryz.prog 109 #[.string s, .int .i64 a, .int .i64 n] w fun e w' => e = .returned (.tuple #[.string (rTx (jPair n (s.data.toList.drop a))), .int .i64 (rPl a (jPair n (s.data.toList.drop a)) : Nat), .int .i64 (jPair n (s.data.toList.drop a)).e]) ∧ Below w.heap.size w w' := by
  have z0 : IntKind.i64.wrap ((a : Int) + 0) = (a : Int) := i64_small (by omega) (by omega)
  have z1 : IntKind.i64.wrap ((a : Int) + 1) = (a : Int) + 1 := i64_small (by omega) (by omega)
  have p1 : decide (s.size ≤ a) = true := decide_eq_true h1
  have HR := Lib.hid (show jPair n (s.data.toList.drop a) = ⟨0, 0, 1⟩ by rw [drop_none s a h1]; rfl)
  clear h1
  go_enter Tryz.func109, Tryz.ntmps109
  go_wp2_with fail
  refine wp_loop_rounds 1 ?_
  rw [rounds_succ]
  go_wp2
  go_ret3
  exact ⟨by rw [HR.out]; exact ja_no (by decide), by first | exact drew_below _ _ | exact Below.drewN (drew_below _ _) _ | go_grown⟩
set_option maxRecDepth 100000 in
theorem rpair_x (s : ByteArray) (a n : Nat) (w : World) (hs : s.size ≤ 1125899906842624) (ha : a ≤ 1125899906842624) (hn : 55296 ≤ n) (hn2 : n ≤ 56319) (h1 : a < s.size) (hx : ¬ s[a].toNat = 92) :
    Calls Tryz.prog 109 #[.string s, .int .i64 a, .int .i64 n] w fun e w' => e = .returned (.tuple #[.string (rTx (jPair n (s.data.toList.drop a))), .int .i64 (rPl a (jPair n (s.data.toList.drop a)) : Nat), .int .i64 (jPair n (s.data.toList.drop a)).e]) ∧ Below w.heap.size w w' := by
  have z0 : IntKind.i64.wrap ((a : Int) + 0) = (a : Int) := i64_small (by omega) (by omega)
  have z1 : IntKind.i64.wrap ((a : Int) + 1) = (a : Int) + 1 := i64_small (by omega) (by omega)
  have p1 : decide (s.size ≤ a) = false := decide_eq_false (by omega)
  have ik0 : (0 : Int) ≤ (a : Int) := by omega
  have ik1 : (a : Int) < (s.size : Int) := by omega
  have hd := drop_at s a h1
  have HR := Lib.hid (show jPair n (s.data.toList.drop a) = ⟨0, 0, 6⟩ by rw [hd, jPair_x hx])
  have hX := s[a].toNat_lt
  obtain ⟨X, hXe⟩ : ∃ X, X = s[a].toNat := ⟨_, rfl⟩
  have hXi : (s[a].toNat : Int) = (X : Int) := by omega
  rw [← hXe] at hx
  have q1 : ((X : Int) != (((ByteArray.mk #[92, 117])[0]'(by decide)).toNat : Int)) = true := bne_iff_ne.mpr (by show (X : Int) ≠ ((92 : Nat) : Int); omega)
  clear hx hXe hd hX
  go_enter Tryz.func109, Tryz.ntmps109
  go_wp2_with fail
  refine wp_loop_rounds 1 ?_
  rw [rounds_succ]
  go_wp2
  go_quiet (fail)
  go_wp2
  go_ret3
  exact ⟨by rw [HR.out]; exact ja_no (by decide), by first | exact drew_below _ _ | exact Below.drewN (drew_below _ _) _ | go_grown⟩
set_option maxRecDepth 100000 in
theorem rpair_end2 (s : ByteArray) (a n : Nat) (w : World) (hs : s.size ≤ 1125899906842624) (ha : a ≤ 1125899906842624) (hn : 55296 ≤ n) (hn2 : n ≤ 56319) (h1 : a < s.size) (hx : s[a].toNat = 92) (h2 : s.size = a + 1) :
    Calls Tryz.prog 109 #[.string s, .int .i64 a, .int .i64 n] w fun e w' => e = .returned (.tuple #[.string (rTx (jPair n (s.data.toList.drop a))), .int .i64 (rPl a (jPair n (s.data.toList.drop a)) : Nat), .int .i64 (jPair n (s.data.toList.drop a)).e]) ∧ Below w.heap.size w w' := by
  have z0 : IntKind.i64.wrap ((a : Int) + 0) = (a : Int) := i64_small (by omega) (by omega)
  have z1 : IntKind.i64.wrap ((a : Int) + 1) = (a : Int) + 1 := i64_small (by omega) (by omega)
  have p1 : decide (s.size ≤ a) = false := decide_eq_false (by omega)
  have ik0 : (0 : Int) ≤ (a : Int) := by omega
  have ik1 : (a : Int) < (s.size : Int) := by omega
  have hd := drop_at s a h1
  have hXi : (s[a].toNat : Int) = 92 := by rw [hx]; rfl
  have c1 : ((92 : Int) != (((ByteArray.mk #[92, 117])[0]'(by decide)).toNat : Int)) = false := by decide +kernel
  have j0 : (0 : Int) ≤ (a : Int) + 1 := by omega
  have HR := Lib.hid (show jPair n (s.data.toList.drop a) = ⟨0, 0, 1⟩ by rw [hd, drop_none s (a + 1) (by omega), jPair_1 hx])
  have p2 : decide ((s.size : Int) ≤ (a : Int) + 1) = true := decide_eq_true (by omega)
  clear hd h2 hx
  go_enter Tryz.func109, Tryz.ntmps109
  go_wp2_with fail
  refine wp_loop_rounds 2 ?_
  rw [rounds_succ]
  go_wp2
  go_quiet (fail)
  go_wp2
  rw [rounds_succ]
  go_wp2
  go_ret3
  exact ⟨by rw [HR.out]; exact ja_no (by decide), by first | exact drew_below _ _ | exact Below.drewN (drew_below _ _) _ | go_grown⟩
set_option maxRecDepth 100000 in
theorem rpair_y (s : ByteArray) (a n : Nat) (w : World) (hs : s.size ≤ 1125899906842624) (ha : a ≤ 1125899906842624) (hn : 55296 ≤ n) (hn2 : n ≤ 56319) (h1 : a < s.size) (hx : s[a].toNat = 92) (h2 : a + 1 < s.size) (hy : ¬ s[a + 1].toNat = 117) :
    Calls Tryz.prog 109 #[.string s, .int .i64 a, .int .i64 n] w fun e w' => e = .returned (.tuple #[.string (rTx (jPair n (s.data.toList.drop a))), .int .i64 (rPl a (jPair n (s.data.toList.drop a)) : Nat), .int .i64 (jPair n (s.data.toList.drop a)).e]) ∧ Below w.heap.size w w' := by
  have z0 : IntKind.i64.wrap ((a : Int) + 0) = (a : Int) := i64_small (by omega) (by omega)
  have z1 : IntKind.i64.wrap ((a : Int) + 1) = (a : Int) + 1 := i64_small (by omega) (by omega)
  have p1 : decide (s.size ≤ a) = false := decide_eq_false (by omega)
  have ik0 : (0 : Int) ≤ (a : Int) := by omega
  have ik1 : (a : Int) < (s.size : Int) := by omega
  have hd := drop_at s a h1
  have hXi : (s[a].toNat : Int) = 92 := by rw [hx]; rfl
  have c1 : ((92 : Int) != (((ByteArray.mk #[92, 117])[0]'(by decide)).toNat : Int)) = false := by decide +kernel
  have j0 : (0 : Int) ≤ (a : Int) + 1 := by omega
  have p2 : decide ((s.size : Int) ≤ (a : Int) + 1) = false := decide_eq_false (by omega)
  have j1 : (a : Int) + 1 < (s.size : Int) := by omega
  have hd2 := drop_at s (a + 1) h2
  have HR := Lib.hid (show jPair n (s.data.toList.drop a) = ⟨0, 0, 6⟩ by rw [hd, hd2, jPair_y hx hy])
  have hY := s[a + 1].toNat_lt
  obtain ⟨Y, hYe⟩ : ∃ Y, Y = s[a + 1].toNat := ⟨_, rfl⟩
  have hYi : (s[a + 1].toNat : Int) = (Y : Int) := by omega
  rw [← hYe] at hy
  have q1 : ((Y : Int) != (((ByteArray.mk #[92, 117])[1]'(by decide)).toNat : Int)) = true := bne_iff_ne.mpr (by show (Y : Int) ≠ ((117 : Nat) : Int); omega)
  clear hd hd2 hx hy hY hYe
  go_enter Tryz.func109, Tryz.ntmps109
  go_wp2_with fail
  refine wp_loop_rounds 2 ?_
  rw [rounds_succ]
  go_wp2
  go_quiet (fail)
  go_wp2
  rw [rounds_succ]
  go_wp2
  go_quiet (fail)
  go_wp2
  go_ret3
  exact ⟨by rw [HR.out]; exact ja_no (by decide), by first | exact drew_below _ _ | exact Below.drewN (drew_below _ _) _ | go_grown⟩
set_option maxRecDepth 100000 in
theorem rpair_bad (s : ByteArray) (a n : Nat) (w : World) (hs : s.size ≤ 1125899906842624) (ha : a ≤ 1125899906842624) (hn : 55296 ≤ n) (hn2 : n ≤ 56319) (h1 : a < s.size) (hx : s[a].toNat = 92) (h2 : a + 1 < s.size) (hy : s[a + 1].toNat = 117) (h3 : ¬ (jDg 4 0 (s.data.toList.drop (a + 2))).2 = 0) :
    Calls Tryz.prog 109 #[.string s, .int .i64 a, .int .i64 n] w fun e w' => e = .returned (.tuple #[.string (rTx (jPair n (s.data.toList.drop a))), .int .i64 (rPl a (jPair n (s.data.toList.drop a)) : Nat), .int .i64 (jPair n (s.data.toList.drop a)).e]) ∧ Below w.heap.size w w' := by
  have z0 : IntKind.i64.wrap ((a : Int) + 0) = (a : Int) := i64_small (by omega) (by omega)
  have z1 : IntKind.i64.wrap ((a : Int) + 1) = (a : Int) + 1 := i64_small (by omega) (by omega)
  have p1 : decide (s.size ≤ a) = false := decide_eq_false (by omega)
  have ik0 : (0 : Int) ≤ (a : Int) := by omega
  have ik1 : (a : Int) < (s.size : Int) := by omega
  have hd := drop_at s a h1
  have hXi : (s[a].toNat : Int) = 92 := by rw [hx]; rfl
  have c1 : ((92 : Int) != (((ByteArray.mk #[92, 117])[0]'(by decide)).toNat : Int)) = false := by decide +kernel
  have j0 : (0 : Int) ≤ (a : Int) + 1 := by omega
  have p2 : decide ((s.size : Int) ≤ (a : Int) + 1) = false := decide_eq_false (by omega)
  have j1 : (a : Int) + 1 < (s.size : Int) := by omega
  have hd2 := drop_at s (a + 1) h2
  have hYi : (s[a + 1].toNat : Int) = 117 := by rw [hy]; rfl
  have c2 : ((117 : Int) != (((ByteArray.mk #[92, 117])[1]'(by decide)).toNat : Int)) = false := by decide +kernel
  have z2 : IntKind.i64.wrap ((a : Int) + 2) = (a : Int) + 2 := i64_small (by omega) (by omega)
  have hda : s.data.toList.drop (a + 1 + 1) = s.data.toList.drop (a + 2) := rfl
  have HD := Lib.hid (fun w => show Calls Tryz.prog 108 #[.string s, .int .i64 ((a : Int) + 2)] w fun e w' => e = .returned (.tuple #[.int .i64 ((jDg 4 0 (s.data.toList.drop (a + 2))).1 : Nat), .int .i64 (jDg 4 0 (s.data.toList.drop (a + 2))).2]) ∧ w' = w from rdigits_any s (a + 2) w hs (by omega))
  have HR := Lib.hid (show jPair n (s.data.toList.drop a) = ⟨0, 0, (jDg 4 0 (s.data.toList.drop (a + 2))).2⟩ by rw [hd, hd2, jPair_bad hx hy (by rw [hda]; exact h3)])
  have HE := Lib.hid h3
  have q1 : ((jDg 4 0 (s.data.toList.drop (a + 2))).2 != 0) = true := bne_iff_ne.mpr h3
  generalize jDg 4 0 (s.data.toList.drop (a + 2)) = Z at *
  clear hd hd2 hx hy h3 hda
  go_enter Tryz.func109, Tryz.ntmps109
  go_wp2_with fail
  refine wp_loop_rounds 3 ?_
  rw [rounds_succ]
  go_wp2
  go_quiet (fail)
  go_wp2
  rw [rounds_succ]
  go_wp2
  go_quiet (fail)
  go_wp2
  rw [rounds_succ]
  go_wp2_with fail
  with_reducible refine (HD.out _).mono ?_
  rintro e w1 ⟨rfl, hw⟩
  rw [hw]; clear hw
  go_wp2
  go_ret3
  exact ⟨by rw [HR.out]; exact ja_no HE.out, by first | exact drew_below _ _ | exact Below.drewN (drew_below _ _) _ | go_grown⟩
set_option maxRecDepth 100000 in
theorem rpair_least (s : ByteArray) (a n : Nat) (w : World) (hs : s.size ≤ 1125899906842624) (ha : a ≤ 1125899906842624) (hn : 55296 ≤ n) (hn2 : n ≤ 56319) (h1 : a < s.size) (hx : s[a].toNat = 92) (h2 : a + 1 < s.size) (hy : s[a + 1].toNat = 117) (h3 : (jDg 4 0 (s.data.toList.drop (a + 2))).2 = 0) (h4 : (jDg 4 0 (s.data.toList.drop (a + 2))).1 < 56320) :
    Calls Tryz.prog 109 #[.string s, .int .i64 a, .int .i64 n] w fun e w' => e = .returned (.tuple #[.string (rTx (jPair n (s.data.toList.drop a))), .int .i64 (rPl a (jPair n (s.data.toList.drop a)) : Nat), .int .i64 (jPair n (s.data.toList.drop a)).e]) ∧ Below w.heap.size w w' := by
  have z0 : IntKind.i64.wrap ((a : Int) + 0) = (a : Int) := i64_small (by omega) (by omega)
  have z1 : IntKind.i64.wrap ((a : Int) + 1) = (a : Int) + 1 := i64_small (by omega) (by omega)
  have p1 : decide (s.size ≤ a) = false := decide_eq_false (by omega)
  have ik0 : (0 : Int) ≤ (a : Int) := by omega
  have ik1 : (a : Int) < (s.size : Int) := by omega
  have hd := drop_at s a h1
  have hXi : (s[a].toNat : Int) = 92 := by rw [hx]; rfl
  have c1 : ((92 : Int) != (((ByteArray.mk #[92, 117])[0]'(by decide)).toNat : Int)) = false := by decide +kernel
  have j0 : (0 : Int) ≤ (a : Int) + 1 := by omega
  have p2 : decide ((s.size : Int) ≤ (a : Int) + 1) = false := decide_eq_false (by omega)
  have j1 : (a : Int) + 1 < (s.size : Int) := by omega
  have hd2 := drop_at s (a + 1) h2
  have hYi : (s[a + 1].toNat : Int) = 117 := by rw [hy]; rfl
  have c2 : ((117 : Int) != (((ByteArray.mk #[92, 117])[1]'(by decide)).toNat : Int)) = false := by decide +kernel
  have z2 : IntKind.i64.wrap ((a : Int) + 2) = (a : Int) + 2 := i64_small (by omega) (by omega)
  have hda : s.data.toList.drop (a + 1 + 1) = s.data.toList.drop (a + 2) := rfl
  have HD := Lib.hid (fun w => show Calls Tryz.prog 108 #[.string s, .int .i64 ((a : Int) + 2)] w fun e w' => e = .returned (.tuple #[.int .i64 ((jDg 4 0 (s.data.toList.drop (a + 2))).1 : Nat), .int .i64 (jDg 4 0 (s.data.toList.drop (a + 2))).2]) ∧ w' = w from rdigits_any s (a + 2) w hs (by omega))
  obtain ⟨M, hM⟩ : ∃ M, M = (jDg 4 0 (s.data.toList.drop (a + 2))).1 := ⟨_, rfl⟩
  have hm := jDg4_lt (s.data.toList.drop (a + 2))
  rw [h3, ← hM] at HD
  rw [← hM] at hm
  have HR := Lib.hid (show jPair n (s.data.toList.drop a) = ⟨0, 0, 6⟩ by rw [hd, hd2, jPair_out hx hy (by rw [hda]; exact h3) (.inl (by rw [hda]; exact h4))])
  rw [← hM] at h4
  have q2 : decide ((M : Int) < 56320) = true := decide_eq_true (by omega)
  clear hd hd2 hx hy h3 hda h4 hM
  go_enter Tryz.func109, Tryz.ntmps109
  go_wp2_with fail
  refine wp_loop_rounds 3 ?_
  rw [rounds_succ]
  go_wp2
  go_quiet (fail)
  go_wp2
  rw [rounds_succ]
  go_wp2
  go_quiet (fail)
  go_wp2
  rw [rounds_succ]
  go_wp2_with fail
  with_reducible refine (HD.out _).mono ?_
  rintro e w1 ⟨rfl, hw⟩
  rw [hw]; clear hw
  go_wp2
  go_ret3
  exact ⟨by rw [HR.out]; exact ja_no (by decide), by first | exact drew_below _ _ | exact Below.drewN (drew_below _ _) _ | go_grown⟩
set_option maxRecDepth 100000 in
theorem rpair_great (s : ByteArray) (a n : Nat) (w : World) (hs : s.size ≤ 1125899906842624) (ha : a ≤ 1125899906842624) (hn : 55296 ≤ n) (hn2 : n ≤ 56319) (h1 : a < s.size) (hx : s[a].toNat = 92) (h2 : a + 1 < s.size) (hy : s[a + 1].toNat = 117) (h3 : (jDg 4 0 (s.data.toList.drop (a + 2))).2 = 0) (h4 : 57343 < (jDg 4 0 (s.data.toList.drop (a + 2))).1) :
    Calls Tryz.prog 109 #[.string s, .int .i64 a, .int .i64 n] w fun e w' => e = .returned (.tuple #[.string (rTx (jPair n (s.data.toList.drop a))), .int .i64 (rPl a (jPair n (s.data.toList.drop a)) : Nat), .int .i64 (jPair n (s.data.toList.drop a)).e]) ∧ Below w.heap.size w w' := by
  have z0 : IntKind.i64.wrap ((a : Int) + 0) = (a : Int) := i64_small (by omega) (by omega)
  have z1 : IntKind.i64.wrap ((a : Int) + 1) = (a : Int) + 1 := i64_small (by omega) (by omega)
  have p1 : decide (s.size ≤ a) = false := decide_eq_false (by omega)
  have ik0 : (0 : Int) ≤ (a : Int) := by omega
  have ik1 : (a : Int) < (s.size : Int) := by omega
  have hd := drop_at s a h1
  have hXi : (s[a].toNat : Int) = 92 := by rw [hx]; rfl
  have c1 : ((92 : Int) != (((ByteArray.mk #[92, 117])[0]'(by decide)).toNat : Int)) = false := by decide +kernel
  have j0 : (0 : Int) ≤ (a : Int) + 1 := by omega
  have p2 : decide ((s.size : Int) ≤ (a : Int) + 1) = false := decide_eq_false (by omega)
  have j1 : (a : Int) + 1 < (s.size : Int) := by omega
  have hd2 := drop_at s (a + 1) h2
  have hYi : (s[a + 1].toNat : Int) = 117 := by rw [hy]; rfl
  have c2 : ((117 : Int) != (((ByteArray.mk #[92, 117])[1]'(by decide)).toNat : Int)) = false := by decide +kernel
  have z2 : IntKind.i64.wrap ((a : Int) + 2) = (a : Int) + 2 := i64_small (by omega) (by omega)
  have hda : s.data.toList.drop (a + 1 + 1) = s.data.toList.drop (a + 2) := rfl
  have HD := Lib.hid (fun w => show Calls Tryz.prog 108 #[.string s, .int .i64 ((a : Int) + 2)] w fun e w' => e = .returned (.tuple #[.int .i64 ((jDg 4 0 (s.data.toList.drop (a + 2))).1 : Nat), .int .i64 (jDg 4 0 (s.data.toList.drop (a + 2))).2]) ∧ w' = w from rdigits_any s (a + 2) w hs (by omega))
  obtain ⟨M, hM⟩ : ∃ M, M = (jDg 4 0 (s.data.toList.drop (a + 2))).1 := ⟨_, rfl⟩
  have hm := jDg4_lt (s.data.toList.drop (a + 2))
  rw [h3, ← hM] at HD
  rw [← hM] at hm
  have HR := Lib.hid (show jPair n (s.data.toList.drop a) = ⟨0, 0, 6⟩ by rw [hd, hd2, jPair_out hx hy (by rw [hda]; exact h3) (.inr (by rw [hda]; exact h4))])
  rw [← hM] at h4
  have q2 : decide ((M : Int) < 56320) = false := decide_eq_false (by omega)
  have q3 : decide ((57343 : Int) < (M : Int)) = true := decide_eq_true (by omega)
  clear hd hd2 hx hy h3 hda h4 hM
  go_enter Tryz.func109, Tryz.ntmps109
  go_wp2_with fail
  refine wp_loop_rounds 3 ?_
  rw [rounds_succ]
  go_wp2
  go_quiet (fail)
  go_wp2
  rw [rounds_succ]
  go_wp2
  go_quiet (fail)
  go_wp2
  rw [rounds_succ]
  go_wp2_with fail
  with_reducible refine (HD.out _).mono ?_
  rintro e w1 ⟨rfl, hw⟩
  rw [hw]; clear hw
  go_wp2
  go_ret3
  exact ⟨by rw [HR.out]; exact ja_no (by decide), by first | exact drew_below _ _ | exact Below.drewN (drew_below _ _) _ | go_grown⟩
set_option maxRecDepth 100000 in
theorem rpair_good (s : ByteArray) (a n : Nat) (w : World) (hs : s.size ≤ 1125899906842624) (ha : a ≤ 1125899906842624) (hn : 55296 ≤ n) (hn2 : n ≤ 56319) (h1 : a < s.size) (hx : s[a].toNat = 92) (h2 : a + 1 < s.size) (hy : s[a + 1].toNat = 117) (h3 : (jDg 4 0 (s.data.toList.drop (a + 2))).2 = 0) (h4 : ¬ (jDg 4 0 (s.data.toList.drop (a + 2))).1 < 56320) (h5 : ¬ 57343 < (jDg 4 0 (s.data.toList.drop (a + 2))).1) :
    Calls Tryz.prog 109 #[.string s, .int .i64 a, .int .i64 n] w fun e w' => e = .returned (.tuple #[.string (rTx (jPair n (s.data.toList.drop a))), .int .i64 (rPl a (jPair n (s.data.toList.drop a)) : Nat), .int .i64 (jPair n (s.data.toList.drop a)).e]) ∧ Below w.heap.size w w' := by
  have z0 : IntKind.i64.wrap ((a : Int) + 0) = (a : Int) := i64_small (by omega) (by omega)
  have z1 : IntKind.i64.wrap ((a : Int) + 1) = (a : Int) + 1 := i64_small (by omega) (by omega)
  have p1 : decide (s.size ≤ a) = false := decide_eq_false (by omega)
  have ik0 : (0 : Int) ≤ (a : Int) := by omega
  have ik1 : (a : Int) < (s.size : Int) := by omega
  have hd := drop_at s a h1
  have hXi : (s[a].toNat : Int) = 92 := by rw [hx]; rfl
  have c1 : ((92 : Int) != (((ByteArray.mk #[92, 117])[0]'(by decide)).toNat : Int)) = false := by decide +kernel
  have j0 : (0 : Int) ≤ (a : Int) + 1 := by omega
  have p2 : decide ((s.size : Int) ≤ (a : Int) + 1) = false := decide_eq_false (by omega)
  have j1 : (a : Int) + 1 < (s.size : Int) := by omega
  have hd2 := drop_at s (a + 1) h2
  have hYi : (s[a + 1].toNat : Int) = 117 := by rw [hy]; rfl
  have c2 : ((117 : Int) != (((ByteArray.mk #[92, 117])[1]'(by decide)).toNat : Int)) = false := by decide +kernel
  have z2 : IntKind.i64.wrap ((a : Int) + 2) = (a : Int) + 2 := i64_small (by omega) (by omega)
  have hda : s.data.toList.drop (a + 1 + 1) = s.data.toList.drop (a + 2) := rfl
  have HD := Lib.hid (fun w => show Calls Tryz.prog 108 #[.string s, .int .i64 ((a : Int) + 2)] w fun e w' => e = .returned (.tuple #[.int .i64 ((jDg 4 0 (s.data.toList.drop (a + 2))).1 : Nat), .int .i64 (jDg 4 0 (s.data.toList.drop (a + 2))).2]) ∧ w' = w from rdigits_any s (a + 2) w hs (by omega))
  obtain ⟨M, hM⟩ : ∃ M, M = (jDg 4 0 (s.data.toList.drop (a + 2))).1 := ⟨_, rfl⟩
  have hm := jDg4_lt (s.data.toList.drop (a + 2))
  rw [h3, ← hM] at HD
  rw [← hM] at hm
  have hR := jPair_in (n := n) (t := s.data.toList.drop (a + 1 + 1)) hx hy (by rw [hda]; exact h3) (by rw [hda]; exact h4) (by rw [hda]; exact h5)
  rw [← hd2, ← hd, hda, ← hM] at hR
  rw [← hM] at h4 h5
  obtain ⟨d, hdd⟩ : ∃ d, d = n - 55296 := ⟨_, rfl⟩
  obtain ⟨V, hV⟩ : ∃ V, V = 65536 + 1024 * d + (M - 56320) := ⟨_, rfl⟩
  rw [← hdd, ← hV] at hR
  have HR := Lib.hid hR
  have q2 : decide ((M : Int) < 56320) = false := decide_eq_false (by omega)
  have q3 : decide ((57343 : Int) < (M : Int)) = false := decide_eq_false (by omega)
  have y1 : IntKind.i64.wrap ((n : Int) - 55296) = (d : Int) := by rw [i64_small (by omega) (by omega)]; omega
  have y2 : IntKind.i64.wrap (1024 * (d : Int)) = 1024 * (d : Int) := i64_small (by omega) (by omega)
  have y3 : IntKind.i64.wrap (65536 + 1024 * (d : Int)) = 65536 + 1024 * (d : Int) := i64_small (by omega) (by omega)
  have y4 : IntKind.i64.wrap (65536 + 1024 * (d : Int) + (M : Int)) = 65536 + 1024 * (d : Int) + (M : Int) := i64_small (by omega) (by omega)
  have y5 : IntKind.i64.wrap (65536 + 1024 * (d : Int) + (M : Int) - 56320) = (V : Int) := by rw [i64_small (by omega) (by omega)]; omega
  have y6 : IntKind.i32.wrap (V : Int) = (V : Int) := IntWalk.i32_in _ (by omega)
  have z6 : IntKind.i64.wrap ((a : Int) + 6) = (a : Int) + 6 := i64_small (by omega) (by omega)
  have HB := Lib.hid (fun w => rbytes_any V w (by omega))
  have HT := Lib.hid (show ((bA (uB V) : ByteArray), (a : Int) + 6) = (rTx ⟨V, 6, 0⟩, ((rPl a ⟨V, 6, 0⟩ : Nat) : Int)) from rfl)
  generalize bA (uB V) = X at *
  clear hd hd2 hx hy h3 hda h4 hM h5 hdd hV hR
  go_enter Tryz.func109, Tryz.ntmps109
  go_wp2_with fail
  refine wp_loop_rounds 3 ?_
  rw [rounds_succ]
  go_wp2
  go_quiet (fail)
  go_wp2
  rw [rounds_succ]
  go_wp2
  go_quiet (fail)
  go_wp2
  rw [rounds_succ]
  go_wp2_with fail
  with_reducible refine (HD.out _).mono ?_
  rintro e w1 ⟨rfl, hw⟩
  rw [hw]; clear hw
  go_wp2_with fail
  with_reducible refine (HB.out _).mono ?_
  rintro e w2 ⟨rfl, hb2⟩
  go_wp2
  go_ret3
  rw [HR.out]
  have e1 := congrArg Prod.fst HT.out
  have e2 := congrArg Prod.snd HT.out
  simp only at e1 e2
  refine ⟨?_, by first | exact grown_then (drew_below _ _) hb2 | exact grown_then (Below.drewN (drew_below _ _) _) hb2 | exact hb2⟩
  rw [← e1, ← e2]; rfl
set_option maxRecDepth 100000 in
theorem rpair_any (s : ByteArray) (a n : Nat) (w : World) (hs : s.size ≤ 1125899906842624) (ha : a ≤ 1125899906842624) (hn : 55296 ≤ n) (hn2 : n ≤ 56319) :
    Calls Tryz.prog 109 #[.string s, .int .i64 a, .int .i64 n] w fun e w' => e = .returned (.tuple #[.string (rTx (jPair n (s.data.toList.drop a))), .int .i64 (rPl a (jPair n (s.data.toList.drop a)) : Nat), .int .i64 (jPair n (s.data.toList.drop a)).e]) ∧ Below w.heap.size w w' := by
  by_cases h1 : a < s.size
  · by_cases hx : s[a].toNat = 92
    · by_cases h2 : a + 1 < s.size
      · by_cases hy : s[a + 1].toNat = 117
        · by_cases h3 : (jDg 4 0 (s.data.toList.drop (a + 2))).2 = 0
          · by_cases h4 : (jDg 4 0 (s.data.toList.drop (a + 2))).1 < 56320
            · exact rpair_least s a n w hs ha hn hn2 h1 hx h2 hy h3 h4
            · by_cases h5 : 57343 < (jDg 4 0 (s.data.toList.drop (a + 2))).1
              · exact rpair_great s a n w hs ha hn hn2 h1 hx h2 hy h3 h5
              · exact rpair_good s a n w hs ha hn hn2 h1 hx h2 hy h3 h4 h5
          · exact rpair_bad s a n w hs ha hn hn2 h1 hx h2 hy h3
        · exact rpair_y s a n w hs ha hn hn2 h1 hx h2 hy
      · exact rpair_end2 s a n w hs ha hn hn2 h1 hx (by omega)
    · exact rpair_x s a n w hs ha hn hn2 h1 hx
  · exact rpair_end s a n w hs ha hn hn2 (by omega)
end Go.Proofs.YtnbhhnkcfbfdcaaGreatDoor
