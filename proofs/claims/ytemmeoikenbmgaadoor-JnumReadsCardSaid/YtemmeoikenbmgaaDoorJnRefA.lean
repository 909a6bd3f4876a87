/- The document's own numbers (package truchmanref11): run, one, need. -/
import Derived.Test.YtemmeoikenbmgaaDoorJnNum
import Derived.Test.YtemmeoikenbmgaaDoorBts
import Derived.OwnWalk
namespace Go.Proofs.YtemmeoikenbmgaaDoor
open Go Go.RowKit
set_option linter.unusedVariables false

theorem drop_at {s : ByteArray} {j : Nat} (h : j < s.size) : s.data.toList.drop j = s[j] :: s.data.toList.drop (j + 1) := by
  have h' : j < s.data.toList.length := by rw [toList_size]; exact h
  rw [List.drop_eq_getElem_cons h', byte_at s j h h']
theorem drop_end {s : ByteArray} {j : Nat} (h : s.size ≤ j) : s.data.toList.drop j = [] := List.drop_eq_nil_of_le (by rw [toList_size]; exact h)
theorem dL_yes {x : UInt8} (t : List UInt8) (h : dIs x = true) : dL (x :: t) = dL t + 1 := by unfold dL; rw [List.takeWhile_cons, if_pos h, List.length_cons]
theorem dL_no {x : UInt8} (t : List UInt8) (h : ¬ dIs x = true) : dL (x :: t) = 0 := by unfold dL; rw [List.takeWhile_cons, if_neg h]; rfl
theorem pL_dup (x : UInt8) (r : List UInt8) : pL [x, x] r = pL [x] r := by
  match r with
  | [] => rfl
  | y :: t => rw [pL_at, pL_at]; simp

def RRunRel (s : ByteArray) (a : Nat) (w : World) (v : Value) (wr : World) : Prop := ∃ k : Nat, v = .int .i64 ((a + k : Nat) : Int) ∧ a + k ≤ s.size ∧ wr = w ∧ Hid (dL (s.data.toList.drop a) = k + dL (s.data.toList.drop (a + k)))
set_option maxRecDepth 20000 in
theorem rrun (s : ByteArray) (a : Nat) (w : World) (ha : a ≤ s.size) (hs : s.size ≤ 1125899906842624) :
    Calls Tryd.prog 56 #[.string s, .int .i64 (a : Nat)] w fun e w' => e = .returned (.int .i64 ((a + dL (s.data.toList.drop a) : Nat) : Int)) ∧ w' = w := by
  go_enter Tryd.func56, Tryd.ntmps56
  go_wp2_with fail
  go_loopw [1] (fun v wr => RRunRel s a w v wr) (fun v _ => s.size + 1 - (intOf v).toNat)
  case atStart => exact ⟨0, rfl, ha, rfl, Lib.hid (Nat.zero_add _).symm⟩
  case round =>
    obtain ⟨k, rfl, hk, hww, hal⟩ := hrel
    rw [hww]
    clear hww
    obtain ⟨j, hj⟩ : ∃ j, j = a + k := ⟨_, rfl⟩
    have HJ := Lib.hid hj
    rw [← hj] at hk hal ⊢
    clear hj
    by_cases hlt : j < s.size
    · have p1 : decide ((j : Int) < (s.size : Int)) = true := decide_eq_true (by omega)
      have hk0 : (0 : Int) ≤ (j : Int) := by omega
      have hk1 : (j : Int) < (s.size : Int) := by omega
      have y4 : IntKind.i64.wrap ((j : Int) + 1) = (j : Int) + 1 := i64_small (by omega) (by omega)
      have hd := drop_at hlt
      by_cases hdg : dIs s[j] = true
      · have HT := Lib.hid (show dL (s.data.toList.drop a) = (k + 1) + dL (s.data.toList.drop (j + 1)) by rw [hal.out, hd, dL_yes _ hdg]; omega)
        have hb := dIs_iff.mp hdg
        obtain ⟨B, hB⟩ : ∃ B, B = s[j].toNat := ⟨_, rfl⟩
        have hBi : (s[j].toNat : Int) = (B : Int) := by omega
        rw [← hB] at hb
        have q1 : decide ((48 : Int) ≤ (B : Int)) = true := decide_eq_true (by omega)
        have q2 : decide ((B : Int) ≤ 57) = true := decide_eq_true (by omega)
        clear hB hal hd hdg
        go_wp2
        go_roundw
        case rel =>
          have e := HJ.out
          exact ⟨k + 1, by rw [← Nat.add_assoc, ← e]; go_num, by omega, rfl, Lib.hid (by rw [← Nat.add_assoc, ← e]; exact HT.out)⟩
        case measure => simp [intOf]; omega
      · have HT := Lib.hid (show dL (s.data.toList.drop a) = k by rw [hal.out, hd, dL_no _ hdg]; omega)
        have hb : ¬ (48 ≤ s[j].toNat ∧ s[j].toNat ≤ 57) := fun h => hdg (dIs_iff.mpr h)
        obtain ⟨B, hB⟩ : ∃ B, B = s[j].toNat := ⟨_, rfl⟩
        have hBi : (s[j].toNat : Int) = (B : Int) := by omega
        rw [← hB] at hb
        by_cases hlo : B < 48
        · have q1 : decide ((48 : Int) ≤ (B : Int)) = false := decide_eq_false (by omega)
          clear hB hal hd hdg
          go_wp2
          go_ret
          exact ⟨ret_i (by rw [HT.out, HJ.out]), rfl⟩
        · have q1 : decide ((48 : Int) ≤ (B : Int)) = true := decide_eq_true (by omega)
          have q2 : decide ((B : Int) ≤ 57) = false := decide_eq_false (by omega)
          clear hB hal hd hdg
          go_wp2
          go_ret
          exact ⟨ret_i (by rw [HT.out, HJ.out]), rfl⟩
    · have p1 : decide ((j : Int) < (s.size : Int)) = false := decide_eq_false (by omega)
      have HT := Lib.hid (show dL (s.data.toList.drop a) = k by rw [hal.out, drop_end (by omega)]; rfl)
      clear hal
      go_wp2
      go_ret
      exact ⟨ret_i (by rw [HT.out, HJ.out]), rfl⟩

set_option maxRecDepth 20000 in
theorem rone (s : ByteArray) (a : Nat) (x y : UInt8) (w : World) (ha : a ≤ s.size) (hs : s.size ≤ 1125899906842624) :
    Calls Tryd.prog 34 #[.string s, .int .i64 (a : Nat), .int .u8 (x.toNat : Int), .int .u8 (y.toNat : Int)] w fun e w' => e = .returned (.bool (decide (pL [x, y] (s.data.toList.drop a) = 1))) ∧ w' = w := by
  by_cases hlt : a < s.size
  · have p1 : decide ((a : Int) < (s.size : Int)) = true := decide_eq_true (by omega)
    have hk0 : (0 : Int) ≤ (a : Int) := by omega
    have hk1 : (a : Int) < (s.size : Int) := by omega
    have hd := drop_at hlt
    obtain ⟨B, hB⟩ : ∃ B, B = s[a] := ⟨_, rfl⟩
    have hBi : (s[a].toNat : Int) = (B.toNat : Int) := by rw [hB]
    rw [← hB] at hd
    have hx : ((B.toNat : Int) == (x.toNat : Int)) = decide (B = x) := by
      rw [Bool.eq_iff_iff, beq_iff_eq, decide_eq_true_iff, ← UInt8.toNat_inj]; omega
    have hy : ((B.toNat : Int) == (y.toNat : Int)) = decide (B = y) := by
      rw [Bool.eq_iff_iff, beq_iff_eq, decide_eq_true_iff, ← UInt8.toNat_inj]; omega
    by_cases h1 : B = x
    · rw [decide_eq_true h1] at hx
      have HR := Lib.hid (show decide (pL [x, y] (s.data.toList.drop a) = 1) = true by rw [hd, pL_cons _ (by rw [h1]; simp)]; rfl)
      clear hd hB h1 hy
      generalize B.toNat = BB at *
      go_enter Tryd.func34, Tryd.ntmps34
      go_wp2
      go_ret
      exact ⟨by rw [HR.out]; rfl, rfl⟩
    · rw [decide_eq_false h1] at hx
      by_cases h2 : B = y
      · rw [decide_eq_true h2] at hy
        have HR := Lib.hid (show decide (pL [x, y] (s.data.toList.drop a) = 1) = true by rw [hd, pL_cons _ (by rw [h2]; simp)]; rfl)
        clear hd hB h1 h2
        generalize B.toNat = BB at *
        go_enter Tryd.func34, Tryd.ntmps34
        go_wp2
        go_ret
        exact ⟨by rw [HR.out]; rfl, rfl⟩
      · rw [decide_eq_false h2] at hy
        have HR := Lib.hid (show decide (pL [x, y] (s.data.toList.drop a) = 1) = false by rw [hd, pL_other _ (by simp [h1, h2])]; rfl)
        clear hd hB h1 h2
        generalize B.toNat = BB at *
        go_enter Tryd.func34, Tryd.ntmps34
        go_wp2
        go_ret
        exact ⟨by rw [HR.out]; rfl, rfl⟩
  · have p1 : decide ((a : Int) < (s.size : Int)) = false := decide_eq_false (by omega)
    have HR := Lib.hid (show decide (pL [x, y] (s.data.toList.drop a) = 1) = false by rw [drop_end (by omega)]; rfl)
    go_enter Tryd.func34, Tryd.ntmps34
    go_wp2
    go_ret
    exact ⟨by rw [HR.out]; rfl, rfl⟩

set_option maxRecDepth 20000 in
theorem rneed (s : ByteArray) (a : Nat) (w : World) (ha : a ≤ s.size) (hs : s.size ≤ 1125899906842624) :
    Calls Tryd.prog 35 #[.string s, .int .i64 (a : Nat)] w fun e w' => e = .returned (.tuple #[.int .i64 ((a + dL (s.data.toList.drop a) : Nat) : Int), .int .i64 (dE (s.data.toList.drop a))]) ∧ w' = w := by
  have HU := Lib.hid (rrun s a w ha hs)
  have hle := dL_len (s.data.toList.drop a)
  by_cases h0 : dL (s.data.toList.drop a) = 0
  · rw [h0, Nat.add_zero] at HU
    have p1 : decide ((a : Int) < (a : Int)) = false := decide_eq_false (by omega)
    by_cases he : a = s.size
    · have p2 : ((a : Int) == (s.size : Int)) = true := by simp [he]
      have HR := Lib.hid (show a + dL (s.data.toList.drop a) = a ∧ dE (s.data.toList.drop a) = 1 by
        refine ⟨by rw [h0]; rfl, ?_⟩
        unfold dE; rw [if_pos h0, if_pos (drop_end (by omega))])
      clear h0 he hle
      go_enter Tryd.func35, Tryd.ntmps35
      go_wp2_with fail
      with_reducible refine HU.out.mono ?_
      rintro e w1 ⟨rfl, hw⟩
      rw [hw]; clear hw
      go_wp2
      go_ret2
      exact ⟨ret_ii (by rw [HR.out.1]) HR.out.2.symm, rfl⟩
    · have p2 : ((a : Int) == (s.size : Int)) = false := beq_eq_false_iff_ne.mpr (by omega)
      have HR := Lib.hid (show a + dL (s.data.toList.drop a) = a ∧ dE (s.data.toList.drop a) = 3 by
        refine ⟨by rw [h0]; rfl, ?_⟩
        unfold dE; rw [if_pos h0, if_neg (fun e => by have := congrArg List.length e; rw [List.length_drop, toList_size, List.length_nil] at this; omega)])
      clear h0 he hle
      go_enter Tryd.func35, Tryd.ntmps35
      go_wp2_with fail
      with_reducible refine HU.out.mono ?_
      rintro e w1 ⟨rfl, hw⟩
      rw [hw]; clear hw
      go_wp2
      go_ret2
      exact ⟨ret_ii (by rw [HR.out.1]) HR.out.2.symm, rfl⟩
  · have HR := Lib.hid (dE_ok h0)
    obtain ⟨D, hD⟩ : ∃ D, D = a + dL (s.data.toList.drop a) := ⟨_, rfl⟩
    rw [← hD] at HU ⊢
    have p1 : decide (a < D) = true := decide_eq_true (by omega)
    have p3 : a < D := by omega
    clear h0 hle hD
    go_enter Tryd.func35, Tryd.ntmps35
    go_wp2_with fail
    with_reducible refine HU.out.mono ?_
    rintro e w1 ⟨rfl, hw⟩
    rw [hw]; clear hw
    go_wp2
    go_ret2
    exact ⟨ret_ii rfl HR.out.symm, rfl⟩
end Go.Proofs.YtemmeoikenbmgaaDoor
