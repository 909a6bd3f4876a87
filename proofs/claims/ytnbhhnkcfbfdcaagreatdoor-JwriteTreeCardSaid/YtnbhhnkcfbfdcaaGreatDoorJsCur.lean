/- Package jstring's lower, number. -/
import Derived.Test.YtnbhhnkcfbfdcaaGreatDoorZC
import Derived.Test.YtnbhhnkcfbfdcaaGreatDoorZG
import Derived.Test.YtnbhhnkcfbfdcaaGreatDoorZE
namespace Go.Proofs.YtnbhhnkcfbfdcaaGreatDoor
open Go Go.RowKit
set_option linter.unusedVariables false

theorem jlower_any (r : Nat) (w : World) (hr : r < 256) :
    Calls Tryz.prog 137 #[.int .u8 r] w fun e w' => e = .returned (.int .u8 (jLow r : Nat)) ∧ w' = w := by
  by_cases h1 : 65 ≤ r
  · by_cases h2 : r ≤ 70
    · have p1 : decide ((65 : Int) ≤ (r : Int)) = true := decide_eq_true (by omega)
      have p2 : decide ((r : Int) ≤ 70) = true := decide_eq_true (by omega)
      have z1 : IntKind.u8.wrap ((r : Int) - 65) = (r : Int) - 65 := IntWalk.u8_in _ (by omega)
      have z2 : IntKind.u8.wrap ((r : Int) - 65 + 97) = (r : Int) - 65 + 97 := IntWalk.u8_in _ (by omega)
      have HR := Lib.hid (show (r : Int) - 65 + 97 = (jLow r : Nat) by unfold jLow; rw [if_pos ⟨h1, h2⟩]; omega)
      go_enter Tryz.func137, Tryz.ntmps137
      go_wp2
      go_ret
      exact ⟨ret_i HR.out, rfl⟩
    · have p1 : decide ((65 : Int) ≤ (r : Int)) = true := decide_eq_true (by omega)
      have p2 : decide ((r : Int) ≤ 70) = false := decide_eq_false (by omega)
      have HR := Lib.hid (show (r : Int) = (jLow r : Nat) by unfold jLow; rw [if_neg (fun h => h2 h.2)])
      clear h2
      go_enter Tryz.func137, Tryz.ntmps137
      go_wp2
      go_ret
      exact ⟨ret_i HR.out, rfl⟩
  · have p1 : decide ((65 : Int) ≤ (r : Int)) = false := decide_eq_false (by omega)
    have HR := Lib.hid (show (r : Int) = (jLow r : Nat) by unfold jLow; rw [if_neg (fun h => h1 h.1)])
    clear h1
    go_enter Tryz.func137, Tryz.ntmps137
    go_wp2
    go_ret
    exact ⟨ret_i HR.out, rfl⟩
theorem jLow_lt {r : Nat} (h : r < 256) : jLow r < 256 := by
  unfold jLow; split <;> omega

def JNumRel (c : CS) (b : Nat) (W : World) (z r i : Value) (wr : World) : Prop :=
  ∃ k R : Nat, k ≤ 4 ∧ z = .int .i32 0 ∧ r = .int .i32 (R : Nat) ∧ i = .int .i64 (k : Nat) ∧ R < 16 ^ k ∧ Hid (jDg (4 - k) R (c.bs.drop k) = jDg 4 0 c.bs ∧ k ≤ c.bs.length) ∧ CurT 89 wr b (c.past k) ∧ Only b W wr
set_option maxRecDepth 20000 in
theorem jnumber_any {b : Nat} {c : CS} {w : World} (h : CurT 89 w b c) (hc : c.ok) (h0 : c.er = 0) :
    Calls Tryz.prog 129 #[.pointer (some ⟨b, 0, none⟩)] w fun e w' => e = .returned (.int .i32 ((jDg 4 0 c.bs).1 : Nat)) ∧ (∃ c', CurT 89 w' b c' ∧ CAt c 4 (jDg 4 0 c.bs).2 c') ∧ Only b w w' := by
  have HC := Lib.hid (And.intro hc h0)
  clear hc h0
  go_enter Tryz.func129, Tryz.ntmps129
  go_wp2_with fail
  go_loopw [2, 3, 6] (fun z r i wr => JNumRel c b w z r i wr) (fun _ _ i _ => 4 - (intOf i).toNat)
  case atStart => exact ⟨0, 0, by omega, rfl, rfl, rfl, by omega, Lib.hid ⟨rfl, Nat.zero_le _⟩, h, Only.refl _ _⟩
  case round =>
    obtain ⟨k, R, hk, rfl, rfl, rfl, hR, hJ, hq, ho⟩ := hrel
    have hok := Lib.hid (CS.past_fine HC.out.1 hJ.out.2)
    by_cases hlt : k < 4
    · have p1 : decide ((k : Int) < 4) = true := decide_eq_true (by omega)
      have hR2 : R < 4096 := Nat.lt_of_lt_of_le hR (Nat.le_trans (Nat.pow_le_pow_right (by decide) (show k ≤ 3 by omega)) (by decide))
      have e4 : 4 - k = (3 - k) + 1 := by omega
      have hbp := CS.bs_past c k
      match hd : c.bs.drop k with
      | [] =>
        have HB := Lib.hid (byte_lacks hq hok.out HC.out.2 (hbp.trans hd))
        have HL := Lib.hid (show ∀ w, Calls Tryz.prog 137 #[.int .u8 0] w fun e w' => e = .returned (.int .u8 0) ∧ w' = w from fun w => jlower_any 0 w (by omega))
        have HN := Lib.hid (show ∀ w, Calls Tryz.prog 136 #[.int .u8 0] w fun e w' => e = .returned (.tuple #[.int .i64 0, .bool false]) ∧ w' = w from fun w => nibble_any 0 w (by omega))
        have HR := Lib.hid (show jDg 4 0 c.bs = (0, 1) by rw [← hJ.out.1, hd, e4]; rfl)
        have HA := Lib.hid (CAt.bad HC.out.1 hJ.out.2 4 (e := 1) (by decide))
        have hne : ¬ ((c.past k).bad 1).er = 0 := by show ¬ (1 : Int) = 0; decide
        have HNE := Lib.hid hne
        clear hd hbp e4 hR hR2 hJ hne
        go_wp2_with fail
        with_reducible refine HB.out.mono ?_
        rintro e w1 ⟨rfl, hq1, ho1⟩
        go_wp2_with fail
        with_reducible refine (HL.out _).mono ?_
        rintro e w2 ⟨rfl, hw⟩
        rw [hw]; clear hw
        go_wp2_with fail
        with_reducible refine (HN.out _).mono ?_
        rintro e w2 ⟨rfl, hw⟩
        rw [hw]; clear hw
        go_wp2_with fail
        with_reducible refine (fail_more hq1 HNE.out 6).mono ?_
        rintro e w3 ⟨rfl, hq3, ho3⟩
        go_wp2
        go_ret
        exact ⟨by rw [HR.out]; rfl, ⟨_, hq3, by rw [HR.out]; exact HA.out⟩, (ho.trans ho1).trans ho3⟩
      | x :: t =>
        have HB := Lib.hid (byte_next hq hok.out HC.out.2 (hbp.trans hd))
        rw [CS.past_past] at HB
        have hX := x.toNat_lt
        have hlen : k + 1 ≤ c.bs.length := by
          have := congrArg List.length hd
          rw [List.length_drop, List.length_cons] at this; omega
        have hd2 : c.bs.drop (k + 1) = t := by
          rw [← List.drop_drop, hd]; rfl
        have HJ : jDg (4 - k) R (c.bs.drop k) = if nibIs (jLow x.toNat) = true then jDg (3 - k) (16 * R + nibV (jLow x.toNat)) t else (0, 6) := by rw [hd, e4]; rfl
        rw [hJ.out.1] at HJ
        obtain ⟨X, hXe⟩ : ∃ X, X = x.toNat := ⟨_, rfl⟩
        rw [← hXe] at HB hX HJ
        have HL := Lib.hid (fun w => jlower_any X w (by omega))
        have hY := jLow_lt (r := X) (by omega)
        generalize jLow X = Y at *
        have HN := Lib.hid (fun w => nibble_any Y w hY)
        have hV := nibV_lt Y
        by_cases hI : nibIs Y = true
        · rw [if_pos hI, ← hd2] at HJ
          rw [hI] at HN
          generalize nibV Y = N at *
          obtain ⟨R2, hR3⟩ : ∃ R2, R2 = 16 * R + N := ⟨_, rfl⟩
          have z1 : IntKind.i32.wrap (16 * (R : Int)) = 16 * (R : Int) := IntWalk.i32_in _ (by omega)
          have z2 : IntKind.i32.wrap (N : Int) = (N : Int) := IntWalk.i32_in _ (by omega)
          have z3 : IntKind.i32.wrap (16 * (R : Int) + (N : Int)) = (R2 : Int) := by rw [IntWalk.i32_in _ (by omega)]; omega
          have z4 : IntKind.i64.wrap ((k : Int) + 1) = (k : Int) + 1 := IntWalk.i64_in _ (by omega)
          have hR4 : R2 < 16 ^ (k + 1) := by rw [Nat.pow_succ]; omega
          have HJ2 := Lib.hid (show jDg (4 - (k + 1)) R2 (c.bs.drop (k + 1)) = jDg 4 0 c.bs ∧ k + 1 ≤ c.bs.length from ⟨by rw [hR3, show 4 - (k + 1) = 3 - k by omega]; exact HJ.symm, hlen⟩)
          clear hd hbp e4 hR hJ HJ hd2 hlen hXe hI hR3
          go_wp2_with fail
          with_reducible refine HB.out.mono ?_
          rintro e w1 ⟨rfl, hq1, ho1⟩
          go_wp2_with fail
          with_reducible refine (HL.out _).mono ?_
          rintro e w2 ⟨rfl, hw⟩
          rw [hw]; clear hw
          go_wp2_with fail
          with_reducible refine (HN.out _).mono ?_
          rintro e w2 ⟨rfl, hw⟩
          rw [hw]; clear hw
          go_wp2
          go_roundw
          case rel => exact ⟨k + 1, R2, by omega, rfl, rfl, by go_num, hR4, HJ2, hq1, ho.trans ho1⟩
          case measure => simp [intOf]; omega
        · rw [if_neg hI] at HJ
          rw [show nibIs Y = false by simpa using hI] at HN
          generalize nibV Y = N at *
          have HR := Lib.hid HJ
          have HA := Lib.hid (CAt.bad HC.out.1 hlen 4 (e := 6) (by decide))
          have HE := Lib.hid (show (c.past (k + 1)).er = 0 from HC.out.2)
          clear hd hbp e4 hR hJ HJ hd2 hlen hXe hI
          go_wp2_with fail
          with_reducible refine HB.out.mono ?_
          rintro e w1 ⟨rfl, hq1, ho1⟩
          go_wp2_with fail
          with_reducible refine (HL.out _).mono ?_
          rintro e w2 ⟨rfl, hw⟩
          rw [hw]; clear hw
          go_wp2_with fail
          with_reducible refine (HN.out _).mono ?_
          rintro e w2 ⟨rfl, hw⟩
          rw [hw]; clear hw
          go_wp2_with fail
          with_reducible refine (fail_fresh hq1 HE.out 6).mono ?_
          rintro e w3 ⟨rfl, hq3, ho3⟩
          go_wp2
          go_ret
          exact ⟨by rw [HR.out]; rfl, ⟨_, hq3, by rw [HR.out]; exact HA.out⟩, (ho.trans ho1).trans ho3⟩
    · have p1 : decide ((k : Int) < 4) = false := decide_eq_false (by omega)
      have hk4 : k = 4 := by omega
      subst hk4
      have HR := Lib.hid (show jDg 4 0 c.bs = (R, 0) by rw [← hJ.out.1]; rfl)
      have HA := Lib.hid (CAt.past HC.out.1 HC.out.2 hJ.out.2)
      clear hJ hR
      go_wp2
      go_ret
      exact ⟨by rw [HR.out]; rfl, ⟨_, hq, by rw [HR.out]; exact HA.out⟩, ho⟩
end Go.Proofs.YtnbhhnkcfbfdcaaGreatDoor
