/- The document's own jstring (package truchmanref10): digits, simple. -/
import Derived.Test.YtfighopfgllneaaGreatDoorZE
import Derived.Test.YtfighopfgllneaaGreatDoorZC
import Derived.Test.YtfighopfgllneaaGreatDoorURefB
import Derived.LoopN
namespace Go.Proofs.YtfighopfgllneaaGreatDoor
open Go Go.RowKit
set_option linter.unusedVariables false

theorem ret_txt {a b : ByteArray} (h : a = b) : Ending.returned (.string a) = .returned (.string b) := by rw [h]
def RDigRel (s : ByteArray) (a : Nat) (W : World) (x y n i : Value) (wr : World) : Prop :=
  ∃ k R I : Nat, k ≤ 4 ∧ I = a + k ∧ x = .int .i64 0 ∧ y = .int .i64 0 ∧ n = .int .i64 (R : Nat) ∧ i = .int .i64 (I : Nat) ∧ R < 16 ^ k ∧ Hid (jDg (4 - k) R (s.data.toList.drop I) = jDg 4 0 (s.data.toList.drop a)) ∧ wr = W
set_option maxRecDepth 20000 in
theorem rdigits_any (s : ByteArray) (a : Nat) (w : World) (hs : s.size ≤ 1125899906842624) (ha : a ≤ 1125899906842624) :
    Calls Tryz.prog 79 #[.string s, .int .i64 a] w fun e w' => e = .returned (.tuple #[.int .i64 ((jDg 4 0 (s.data.toList.drop a)).1 : Nat), .int .i64 (jDg 4 0 (s.data.toList.drop a)).2]) ∧ w' = w := by
  have za : IntKind.i64.wrap ((a : Int) + 4) = (a : Int) + 4 := i64_small (by omega) (by omega)
  go_enter Tryz.func79, Tryz.ntmps79
  go_wp2_with fail
  go_loopw [4, 5, 6, 7] (fun x y n i wr => RDigRel s a w x y n i wr) (fun _ _ _ i _ => a + 4 - (intOf i).toNat)
  case atStart => exact ⟨0, 0, a, by omega, rfl, rfl, rfl, rfl, rfl, by omega, Lib.hid rfl, rfl⟩
  case round =>
    obtain ⟨k, R, I, hk, hIk, rfl, rfl, rfl, rfl, hR, hJ, rfl⟩ := hrel
    by_cases hlt : k < 4
    · have p1 : decide ((I : Int) < (a : Int) + 4) = true := decide_eq_true (by omega)
      have hR2 : R < 4096 := Nat.lt_of_lt_of_le hR (Nat.le_trans (Nat.pow_le_pow_right (by decide) (show k ≤ 3 by omega)) (by decide))
      have e4 : 4 - k = (3 - k) + 1 := by omega
      have zi : IntKind.i64.wrap ((I : Int) + 1) = (I : Int) + 1 := i64_small (by omega) (by omega)
      by_cases hin : I < s.size
      · have p2 : decide (s.size ≤ I) = false := decide_eq_false (by omega)
        have ik0 : (0 : Int) ≤ (I : Int) := by omega
        have ik1 : (I : Int) < (s.size : Int) := by omega
        have hdr := drop_at s I hin
        have hX := s[I].toNat_lt
        have HJ : jDg (4 - k) R (s.data.toList.drop I) = if nibIs (jLow s[I].toNat) = true then jDg (3 - k) (16 * R + nibV (jLow s[I].toNat)) (s.data.toList.drop (I + 1)) else (0, 6) := by rw [hdr, e4]; rfl
        rw [hJ.out] at HJ
        obtain ⟨X, hXe⟩ : ∃ X, X = s[I].toNat := ⟨_, rfl⟩
        have hXi : (s[I].toNat : Int) = (X : Int) := by omega
        rw [← hXe] at hX HJ
        clear hXe
        by_cases hup : 65 ≤ X ∧ X ≤ 70
        · obtain ⟨Y, hXY⟩ : ∃ Y, Y = X + 32 := ⟨_, rfl⟩
          rw [show jLow X = Y by unfold jLow; rw [if_pos hup, hXY]] at HJ
          have q1 : decide ((65 : Int) ≤ (X : Int)) = true := decide_eq_true (by omega)
          have q2 : decide ((X : Int) ≤ 70) = true := decide_eq_true (by omega)
          have z0 : IntKind.u8.wrap ((X : Int) + 32) = (Y : Int) := by rw [IntWalk.u8_in _ (by omega)]; omega
          have HN := Lib.hid (fun w => rnibble_any Y w (by omega))
          have hV := nibV_lt Y
          by_cases hI : nibIs Y = true
          · rw [if_pos hI] at HJ
            rw [hI] at HN
            generalize nibV Y = N at *
            obtain ⟨R2, hR3⟩ : ∃ R2, R2 = 16 * R + N := ⟨_, rfl⟩
            have z1 : IntKind.i64.wrap (16 * (R : Int)) = 16 * (R : Int) := i64_small (by omega) (by omega)
            have z3 : IntKind.i64.wrap (16 * (R : Int) + (N : Int)) = (R2 : Int) := by rw [i64_small (by omega) (by omega)]; omega
            have hR4 : R2 < 16 ^ (k + 1) := by rw [Nat.pow_succ]; omega
            have HJ2 := Lib.hid (show jDg (4 - (k + 1)) R2 (s.data.toList.drop (I + 1)) = jDg 4 0 (s.data.toList.drop a) by rw [hR3, show 4 - (k + 1) = 3 - k by omega]; exact HJ.symm)
            have HIk := Lib.hid hIk
            clear hR hJ HJ hI hR3 hdr e4 hXY hIk
            go_wp2_with fail
            with_reducible refine (HN.out _).mono ?_
            rintro e w2 ⟨rfl, hw⟩
            rw [hw]; clear hw
            go_wp2
            go_roundw
            case rel => exact ⟨k + 1, R2, I + 1, by omega, by have := HIk.out; omega, rfl, rfl, rfl, by go_num, hR4, HJ2, rfl⟩
            case measure => have := HIk.out; simp [intOf]; omega
          · rw [if_neg hI] at HJ
            rw [show nibIs Y = false by simpa using hI] at HN
            generalize nibV Y = N at *
            have HR := Lib.hid HJ
            clear hR hJ HJ hI hdr e4 hXY hIk
            go_wp2_with fail
            with_reducible refine (HN.out _).mono ?_
            rintro e w2 ⟨rfl, hw⟩
            rw [hw]; clear hw
            go_wp2
            go_ret2
            exact ⟨by rw [HR.out]; rfl, rfl⟩
        · by_cases hlo : 65 ≤ X
          · obtain ⟨Y, hXY⟩ : ∃ Y, Y = X := ⟨_, rfl⟩
            rw [show jLow X = X by unfold jLow; rw [if_neg hup]] at HJ
            have q1 : decide ((65 : Int) ≤ (X : Int)) = true := decide_eq_true (by omega)
            have q2 : decide ((X : Int) ≤ 70) = false := decide_eq_false (by omega)
            have HN := Lib.hid (fun w => rnibble_any X w (by omega))
            have hV := nibV_lt X
            by_cases hI : nibIs X = true
            · rw [if_pos hI] at HJ
              rw [hI] at HN
              generalize nibV X = N at *
              obtain ⟨R2, hR3⟩ : ∃ R2, R2 = 16 * R + N := ⟨_, rfl⟩
              have z1 : IntKind.i64.wrap (16 * (R : Int)) = 16 * (R : Int) := i64_small (by omega) (by omega)
              have z3 : IntKind.i64.wrap (16 * (R : Int) + (N : Int)) = (R2 : Int) := by rw [i64_small (by omega) (by omega)]; omega
              have hR4 : R2 < 16 ^ (k + 1) := by rw [Nat.pow_succ]; omega
              have HJ2 := Lib.hid (show jDg (4 - (k + 1)) R2 (s.data.toList.drop (I + 1)) = jDg 4 0 (s.data.toList.drop a) by rw [hR3, show 4 - (k + 1) = 3 - k by omega]; exact HJ.symm)
              have HIk := Lib.hid hIk
              clear hR hJ HJ hI hR3 hdr e4 hXY hIk
              go_wp2_with fail
              with_reducible refine (HN.out _).mono ?_
              rintro e w2 ⟨rfl, hw⟩
              rw [hw]; clear hw
              go_wp2
              go_roundw
              case rel => exact ⟨k + 1, R2, I + 1, by omega, by have := HIk.out; omega, rfl, rfl, rfl, by go_num, hR4, HJ2, rfl⟩
              case measure => have := HIk.out; simp [intOf]; omega
            · rw [if_neg hI] at HJ
              rw [show nibIs X = false by simpa using hI] at HN
              generalize nibV X = N at *
              have HR := Lib.hid HJ
              clear hR hJ HJ hI hdr e4 hXY hIk
              go_wp2_with fail
              with_reducible refine (HN.out _).mono ?_
              rintro e w2 ⟨rfl, hw⟩
              rw [hw]; clear hw
              go_wp2
              go_ret2
              exact ⟨by rw [HR.out]; rfl, rfl⟩
          · obtain ⟨Y, hXY⟩ : ∃ Y, Y = X := ⟨_, rfl⟩
            rw [show jLow X = X by unfold jLow; rw [if_neg hup]] at HJ
            have q1 : decide ((65 : Int) ≤ (X : Int)) = false := decide_eq_false (by omega)
            have HN := Lib.hid (fun w => rnibble_any X w (by omega))
            have hV := nibV_lt X
            by_cases hI : nibIs X = true
            · rw [if_pos hI] at HJ
              rw [hI] at HN
              generalize nibV X = N at *
              obtain ⟨R2, hR3⟩ : ∃ R2, R2 = 16 * R + N := ⟨_, rfl⟩
              have z1 : IntKind.i64.wrap (16 * (R : Int)) = 16 * (R : Int) := i64_small (by omega) (by omega)
              have z3 : IntKind.i64.wrap (16 * (R : Int) + (N : Int)) = (R2 : Int) := by rw [i64_small (by omega) (by omega)]; omega
              have hR4 : R2 < 16 ^ (k + 1) := by rw [Nat.pow_succ]; omega
              have HJ2 := Lib.hid (show jDg (4 - (k + 1)) R2 (s.data.toList.drop (I + 1)) = jDg 4 0 (s.data.toList.drop a) by rw [hR3, show 4 - (k + 1) = 3 - k by omega]; exact HJ.symm)
              have HIk := Lib.hid hIk
              clear hR hJ HJ hI hR3 hdr e4 hXY hIk
              go_wp2_with fail
              with_reducible refine (HN.out _).mono ?_
              rintro e w2 ⟨rfl, hw⟩
              rw [hw]; clear hw
              go_wp2
              go_roundw
              case rel => exact ⟨k + 1, R2, I + 1, by omega, by have := HIk.out; omega, rfl, rfl, rfl, by go_num, hR4, HJ2, rfl⟩
              case measure => have := HIk.out; simp [intOf]; omega
            · rw [if_neg hI] at HJ
              rw [show nibIs X = false by simpa using hI] at HN
              generalize nibV X = N at *
              have HR := Lib.hid HJ
              clear hR hJ HJ hI hdr e4 hXY hIk
              go_wp2_with fail
              with_reducible refine (HN.out _).mono ?_
              rintro e w2 ⟨rfl, hw⟩
              rw [hw]; clear hw
              go_wp2
              go_ret2
              exact ⟨by rw [HR.out]; rfl, rfl⟩
      · have p2 : decide (s.size ≤ I) = true := decide_eq_true (by omega)
        have hdr : s.data.toList.drop I = [] := List.drop_eq_nil_of_le (by rw [toList_size]; omega)
        have HR := Lib.hid (show jDg 4 0 (s.data.toList.drop a) = (0, 1) by rw [← hJ.out, hdr, e4]; rfl)
        clear hJ hdr e4 hR hIk
        go_wp2
        go_ret2
        exact ⟨by rw [HR.out]; rfl, rfl⟩
    · have p1 : decide ((I : Int) < (a : Int) + 4) = false := decide_eq_false (by omega)
      have hk4 : k = 4 := by omega
      subst hk4
      have HR := Lib.hid (show jDg 4 0 (s.data.toList.drop a) = (R, 0) by rw [← hJ.out]; rfl)
      clear hJ hR hIk
      go_wp2
      go_ret2
      exact ⟨by rw [HR.out]; rfl, rfl⟩
theorem rsim_34 (w : World) : Calls Tryz.prog 78 #[.int .u8 34] w fun e w' => e = .returned (.string (bA [34])) ∧ w' = w := by
  go_enter Tryz.func78, Tryz.ntmps78
  go_wp2_with fail
  refine wp_loop_rounds 1 ?_
  rw [rounds_succ]
  go_wp2
  go_ret
  exact ⟨ret_txt (by decide +kernel), rfl⟩
theorem rsim_92 (w : World) : Calls Tryz.prog 78 #[.int .u8 92] w fun e w' => e = .returned (.string (bA [92])) ∧ w' = w := by
  go_enter Tryz.func78, Tryz.ntmps78
  go_wp2_with fail
  refine wp_loop_rounds 2 ?_
  rw [rounds_succ]
  go_wp2
  rw [rounds_succ]
  go_wp2
  go_ret
  exact ⟨ret_txt (by decide +kernel), rfl⟩
theorem rsim_47 (w : World) : Calls Tryz.prog 78 #[.int .u8 47] w fun e w' => e = .returned (.string (bA [47])) ∧ w' = w := by
  go_enter Tryz.func78, Tryz.ntmps78
  go_wp2_with fail
  refine wp_loop_rounds 3 ?_
  rw [rounds_succ]
  go_wp2
  rw [rounds_succ]
  go_wp2
  rw [rounds_succ]
  go_wp2
  go_ret
  exact ⟨ret_txt (by decide +kernel), rfl⟩
theorem rsim_98 (w : World) : Calls Tryz.prog 78 #[.int .u8 98] w fun e w' => e = .returned (.string (bA [8])) ∧ w' = w := by
  go_enter Tryz.func78, Tryz.ntmps78
  go_wp2_with fail
  refine wp_loop_rounds 4 ?_
  rw [rounds_succ]
  go_wp2
  rw [rounds_succ]
  go_wp2
  rw [rounds_succ]
  go_wp2
  rw [rounds_succ]
  go_wp2
  go_ret
  exact ⟨ret_txt (by decide +kernel), rfl⟩
theorem rsim_102 (w : World) : Calls Tryz.prog 78 #[.int .u8 102] w fun e w' => e = .returned (.string (bA [12])) ∧ w' = w := by
  go_enter Tryz.func78, Tryz.ntmps78
  go_wp2_with fail
  refine wp_loop_rounds 5 ?_
  rw [rounds_succ]
  go_wp2
  rw [rounds_succ]
  go_wp2
  rw [rounds_succ]
  go_wp2
  rw [rounds_succ]
  go_wp2
  rw [rounds_succ]
  go_wp2
  go_ret
  exact ⟨ret_txt (by decide +kernel), rfl⟩
theorem rsim_110 (w : World) : Calls Tryz.prog 78 #[.int .u8 110] w fun e w' => e = .returned (.string (bA [10])) ∧ w' = w := by
  go_enter Tryz.func78, Tryz.ntmps78
  go_wp2_with fail
  refine wp_loop_rounds 6 ?_
  rw [rounds_succ]
  go_wp2
  rw [rounds_succ]
  go_wp2
  rw [rounds_succ]
  go_wp2
  rw [rounds_succ]
  go_wp2
  rw [rounds_succ]
  go_wp2
  rw [rounds_succ]
  go_wp2
  go_ret
  exact ⟨ret_txt (by decide +kernel), rfl⟩
theorem rsim_114 (w : World) : Calls Tryz.prog 78 #[.int .u8 114] w fun e w' => e = .returned (.string (bA [13])) ∧ w' = w := by
  go_enter Tryz.func78, Tryz.ntmps78
  go_wp2_with fail
  refine wp_loop_rounds 7 ?_
  rw [rounds_succ]
  go_wp2
  rw [rounds_succ]
  go_wp2
  rw [rounds_succ]
  go_wp2
  rw [rounds_succ]
  go_wp2
  rw [rounds_succ]
  go_wp2
  rw [rounds_succ]
  go_wp2
  rw [rounds_succ]
  go_wp2
  go_ret
  exact ⟨ret_txt (by decide +kernel), rfl⟩
theorem rsim_116 (w : World) : Calls Tryz.prog 78 #[.int .u8 116] w fun e w' => e = .returned (.string (bA [9])) ∧ w' = w := by
  go_enter Tryz.func78, Tryz.ntmps78
  go_wp2_with fail
  refine wp_loop_rounds 8 ?_
  rw [rounds_succ]
  go_wp2
  rw [rounds_succ]
  go_wp2
  rw [rounds_succ]
  go_wp2
  rw [rounds_succ]
  go_wp2
  rw [rounds_succ]
  go_wp2
  rw [rounds_succ]
  go_wp2
  rw [rounds_succ]
  go_wp2
  rw [rounds_succ]
  go_wp2
  go_ret
  exact ⟨ret_txt (by decide +kernel), rfl⟩
theorem rsim_none (X : Nat) (w : World) (h : jSim X = 0) : Calls Tryz.prog 78 #[.int .u8 X] w fun e w' => e = .returned (.string ⟨#[]⟩) ∧ w' = w := by
  have n34 : ¬ X = 34 := fun e => by rw [e] at h; exact absurd h (by decide)
  have n92 : ¬ X = 92 := fun e => by rw [e] at h; exact absurd h (by decide)
  have n47 : ¬ X = 47 := fun e => by rw [e] at h; exact absurd h (by decide)
  have n98 : ¬ X = 98 := fun e => by rw [e] at h; exact absurd h (by decide)
  have n102 : ¬ X = 102 := fun e => by rw [e] at h; exact absurd h (by decide)
  have n110 : ¬ X = 110 := fun e => by rw [e] at h; exact absurd h (by decide)
  have n114 : ¬ X = 114 := fun e => by rw [e] at h; exact absurd h (by decide)
  have n116 : ¬ X = 116 := fun e => by rw [e] at h; exact absurd h (by decide)
  have p34 : ((((ByteArray.mk #[34, 92, 47, 98, 102, 110, 114, 116])[0]'(by decide)).toNat : Int) == (X : Int)) = false := beq_eq_false_iff_ne.mpr (by show ((34 : Nat) : Int) ≠ (X : Int); omega)
  have p92 : ((((ByteArray.mk #[34, 92, 47, 98, 102, 110, 114, 116])[1]'(by decide)).toNat : Int) == (X : Int)) = false := beq_eq_false_iff_ne.mpr (by show ((92 : Nat) : Int) ≠ (X : Int); omega)
  have p47 : ((((ByteArray.mk #[34, 92, 47, 98, 102, 110, 114, 116])[2]'(by decide)).toNat : Int) == (X : Int)) = false := beq_eq_false_iff_ne.mpr (by show ((47 : Nat) : Int) ≠ (X : Int); omega)
  have p98 : ((((ByteArray.mk #[34, 92, 47, 98, 102, 110, 114, 116])[3]'(by decide)).toNat : Int) == (X : Int)) = false := beq_eq_false_iff_ne.mpr (by show ((98 : Nat) : Int) ≠ (X : Int); omega)
  have p102 : ((((ByteArray.mk #[34, 92, 47, 98, 102, 110, 114, 116])[4]'(by decide)).toNat : Int) == (X : Int)) = false := beq_eq_false_iff_ne.mpr (by show ((102 : Nat) : Int) ≠ (X : Int); omega)
  have p110 : ((((ByteArray.mk #[34, 92, 47, 98, 102, 110, 114, 116])[5]'(by decide)).toNat : Int) == (X : Int)) = false := beq_eq_false_iff_ne.mpr (by show ((110 : Nat) : Int) ≠ (X : Int); omega)
  have p114 : ((((ByteArray.mk #[34, 92, 47, 98, 102, 110, 114, 116])[6]'(by decide)).toNat : Int) == (X : Int)) = false := beq_eq_false_iff_ne.mpr (by show ((114 : Nat) : Int) ≠ (X : Int); omega)
  have p116 : ((((ByteArray.mk #[34, 92, 47, 98, 102, 110, 114, 116])[7]'(by decide)).toNat : Int) == (X : Int)) = false := beq_eq_false_iff_ne.mpr (by show ((116 : Nat) : Int) ≠ (X : Int); omega)
  clear h n34 n92 n47 n98 n102 n110 n114 n116
  go_enter Tryz.func78, Tryz.ntmps78
  go_wp2_with fail
  refine wp_loop_rounds 9 ?_
  rw [rounds_succ]
  go_wp2
  rw [rounds_succ]
  go_wp2
  rw [rounds_succ]
  go_wp2
  rw [rounds_succ]
  go_wp2
  rw [rounds_succ]
  go_wp2
  rw [rounds_succ]
  go_wp2
  rw [rounds_succ]
  go_wp2
  rw [rounds_succ]
  go_wp2
  rw [rounds_succ]
  go_wp2
  go_ret
  exact ⟨rfl, rfl⟩
end Go.Proofs.YtfighopfgllneaaGreatDoor
