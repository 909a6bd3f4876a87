/- The document's own digits: TextU, Text. -/
import Derived.Test.YtnbhhnkcfbfdcaaDoorZH
namespace Go.Proofs.YtnbhhnkcfbfdcaaDoor
open Go Go.RowKit
set_option linter.unusedVariables false

theorem dig_slice_all : ∀ r : Fin 10, (ByteArray.mk #[48, 49, 50, 51, 52, 53, 54, 55, 56, 57]).extract r.val (r.val + 1) = bA [UInt8.ofNat (48 + r.val)] := by decide +kernel
theorem dig_slice (r : Nat) (h : r < 10) : (ByteArray.mk #[48, 49, 50, 51, 52, 53, 54, 55, 56, 57]).extract r (r + 1) = bA [UInt8.ofNat (48 + r)] := dig_slice_all ⟨r, h⟩
set_option maxRecDepth 20000 in
theorem rtextU (u : Nat) : ∀ (w : World) (hu : u < 18446744073709551616),
    Calls Tryd.prog 43 #[.int .u64 u] w fun e w' => e = .returned (.string (bA (Lib.decDigits u))) ∧ w' = w := by
  induction u using Nat.strongRecOn with
  | ind u ih =>
    intro w hu
    obtain ⟨r, hr⟩ : ∃ r, r = u % 10 := ⟨_, rfl⟩
    obtain ⟨q, hq⟩ : ∃ q, q = u / 10 := ⟨_, rfl⟩
    have m1 : (u : Int).tmod 10 = (r : Int) := by rw [Int.tmod_eq_emod_of_nonneg (by omega)]; omega
    have m2 : (u : Int) % 10 = (r : Int) := by omega
    have m3 : (u : Int).tdiv 10 = (q : Int) := by rw [Int.tdiv_eq_ediv_of_nonneg (by omega)]; omega
    have m4 : (u : Int) / 10 = (q : Int) := by omega
    have hr10 : r < 10 := by omega
    have m5 : IntKind.u64.wrap (r : Int) = (r : Int) := IntWalk.u64_in _ (by omega)
    have m6 : IntKind.u64.wrap ((r : Int) + 1) = (r : Int) + 1 := IntWalk.u64_in _ (by omega)
    have m7 : IntKind.u64.wrap (q : Int) = (q : Int) := IntWalk.u64_in _ (by omega)
    have HS := Lib.hid (dig_slice r hr10)
    by_cases h : u < 10
    · have p1 : decide ((u : Int) < 10) = true := decide_eq_true (by omega)
      have HE := Lib.hid (show Lib.decDigits u = [UInt8.ofNat (48 + r)] by rw [dec_small h, hr, Nat.mod_eq_of_lt h])
      clear hr hq ih
      go_enter Tryd.func43, Tryd.ntmps43
      go_wp2
      go_ret
      exact ⟨by rw [HE.out, ← HS.out]; rfl, rfl⟩
    · have p1 : decide ((u : Int) < 10) = false := decide_eq_false (by omega)
      have HE := Lib.hid (show bA (Lib.decDigits u) = bA (Lib.decDigits q) ++ (ByteArray.mk #[48, 49, 50, 51, 52, 53, 54, 55, 56, 57]).extract r (r + 1) by rw [dec_big h, hr, hq, ← bA_append, dig_slice _ (by omega)])
      have HI := Lib.hid (fun w => ih q (by omega) w (by omega))
      have hT : (bA (Lib.decDigits q)).size ≤ 20 := by rw [bA_size]; exact dec_len q (by omega)
      generalize bA (Lib.decDigits q) = T at *
      clear hr hq ih HS
      go_enter Tryd.func43, Tryd.ntmps43
      go_wp2_with (go_at_call 43; refine (HI.out _).mono ?_; rintro e w1 ⟨rfl, hw⟩; rw [hw]; clear hw)
      go_ret
      exact ⟨by rw [HE.out]; rfl, rfl⟩
set_option maxRecDepth 20000 in
theorem rtext_neg (m : Nat) : ∀ (w : World) (h1 : 1 ≤ m) (hm : m ≤ 9223372036854775808),
    Calls Tryd.prog 37 #[.int .i64 (-(m : Int))] w fun e w' => e = .returned (.string (bA (45 :: Lib.decDigits m))) ∧ w' = w := by
  induction m using Nat.strongRecOn with
  | ind m ih =>
    intro w h1 hm
    obtain ⟨N, hN⟩ : ∃ N, N = -(m : Int) := ⟨_, rfl⟩
    rw [← hN]
    have p0 : decide (0 ≤ N) = false := decide_eq_false (by omega)
    by_cases h : m < 10
    · have p1 : decide (-10 < N) = true := decide_eq_true (by omega)
      have m1 : IntKind.i64.wrap (-N) = (m : Int) := by rw [i64_small (by omega) (by omega)]; omega
      have m2 : IntKind.u64.wrap (m : Int) = (m : Int) := IntWalk.u64_in _ (by omega)
      have HT := Lib.hid (fun w => rtextU m w (by omega))
      have hT : (bA (Lib.decDigits m)).size ≤ 20 := by rw [bA_size]; exact dec_len m (by omega)
      have HE := Lib.hid (show bA (45 :: Lib.decDigits m) = ⟨#[45]⟩ ++ bA (Lib.decDigits m) by rw [show (45 :: Lib.decDigits m) = [45] ++ Lib.decDigits m from rfl, ← bA_append]; rfl)
      generalize bA (Lib.decDigits m) = T at *
      clear ih hN
      go_enter Tryd.func37, Tryd.ntmps37
      go_wp2_with (go_at_call 43; refine (HT.out _).mono ?_; rintro e w1 ⟨rfl, hw⟩; rw [hw]; clear hw)
      go_ret
      exact ⟨by rw [HE.out]; rfl, rfl⟩
    · have p1 : decide (-10 < N) = false := decide_eq_false (by omega)
      obtain ⟨r, hr⟩ : ∃ r, r = m % 10 := ⟨_, rfl⟩
      obtain ⟨q, hq⟩ : ∃ q, q = m / 10 := ⟨_, rfl⟩
      obtain ⟨Q, hQ⟩ : ∃ Q, Q = -(q : Int) := ⟨_, rfl⟩
      obtain ⟨R, hR⟩ : ∃ R, R = -(r : Int) := ⟨_, rfl⟩
      have m1 : N.tdiv 10 = Q := by rw [hN, Int.neg_tdiv, Int.tdiv_eq_ediv_of_nonneg (by omega)]; omega
      have m2 : IntKind.i64.wrap Q = Q := i64_small (by omega) (by omega)
      have m3 : N.tmod 10 = R := by rw [hN, Int.neg_tmod, Int.tmod_eq_emod_of_nonneg (by omega)]; omega
      have m4 : IntKind.i64.wrap R = R := i64_small (by omega) (by omega)
      have m5 : IntKind.i64.wrap (-R) = (r : Int) := by rw [i64_small (by omega) (by omega)]; omega
      have m6 : IntKind.u64.wrap (r : Int) = (r : Int) := IntWalk.u64_in _ (by omega)
      have HT := Lib.hid (fun w => rtextU r w (by omega))
      have HI := Lib.hid (fun w => ih q (by omega) w (by omega) (by omega))
      rw [← hQ] at HI
      have hT : (bA (45 :: Lib.decDigits q)).size ≤ 21 := by rw [bA_size, List.length_cons]; have := dec_len q (by omega); omega
      have hT2 : (bA (Lib.decDigits r)).size ≤ 20 := by rw [bA_size]; exact dec_len r (by omega)
      have HE := Lib.hid (show bA (45 :: Lib.decDigits m) = bA (45 :: Lib.decDigits q) ++ bA (Lib.decDigits r) by rw [dec_big h, hq, dec_small (u := r) (by omega), hr, bA_append, List.cons_append])
      generalize bA (45 :: Lib.decDigits q) = T at *
      generalize bA (Lib.decDigits r) = T2 at *
      clear ih hN hr hq hQ hR
      go_enter Tryd.func37, Tryd.ntmps37
      go_wp2_with (first
        | (go_at_call 43; refine (HT.out _).mono ?_; rintro e w1 ⟨rfl, hw⟩; rw [hw]; clear hw)
        | (go_at_call 37; refine (HI.out _).mono ?_; rintro e w1 ⟨rfl, hw⟩; rw [hw]; clear hw))
      go_ret
      exact ⟨by rw [HE.out]; rfl, rfl⟩
set_option maxRecDepth 20000 in
theorem rdtext_any (n : Int) (h0 : -9223372036854775808 ≤ n) (h1 : n ≤ 9223372036854775807) (w : World) :
    Calls Tryd.prog 37 #[.int .i64 n] w fun e w' => e = .returned (.string (bA (Lib.itoa n))) ∧ w' = w := by
  by_cases h : n < 0
  · have := rtext_neg n.natAbs w (by omega) (by omega)
    rw [show -(n.natAbs : Int) = n by omega] at this
    rw [show Lib.itoa n = 45 :: Lib.decDigits n.natAbs by unfold Lib.itoa; rw [if_pos h]]
    exact this
  · obtain ⟨m, rfl⟩ : ∃ m : Nat, n = m := ⟨n.toNat, by omega⟩
    have p0 : decide ((0 : Int) ≤ (m : Int)) = true := decide_eq_true (by omega)
    have m2 : IntKind.u64.wrap (m : Int) = (m : Int) := IntWalk.u64_in _ (by omega)
    have HT := Lib.hid (fun w => rtextU m w (by omega))
    have HE := Lib.hid (show Lib.itoa (m : Int) = Lib.decDigits m by unfold Lib.itoa; rw [if_neg h]; rfl)
    clear h
    go_enter Tryd.func37, Tryd.ntmps37
    go_wp2_with (go_at_call 43; refine (HT.out _).mono ?_; rintro e w1 ⟨rfl, hw⟩; rw [hw]; clear hw)
    go_ret
    exact ⟨by rw [HE.out]; rfl, rfl⟩
end Go.Proofs.YtnbhhnkcfbfdcaaDoor
