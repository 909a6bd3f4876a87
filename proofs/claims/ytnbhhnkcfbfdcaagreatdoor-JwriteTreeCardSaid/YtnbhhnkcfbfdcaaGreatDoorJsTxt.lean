/- The document's own jstring (package truchmanref10): Text. -/
import Derived.Test.YtnbhhnkcfbfdcaaGreatDoorZC
import Derived.Test.YtnbhhnkcfbfdcaaGreatDoorZE
import Derived.Test.YtnbhhnkcfbfdcaaGreatDoorZW
namespace Go.Proofs.YtnbhhnkcfbfdcaaGreatDoor
open Go Go.RowKit
set_option linter.unusedVariables false

theorem one_at (s : ByteArray) (k : Nat) (h : k < s.size) : (s.extract k (k + 1)).data.toList = [s[k]] := by
  rw [ext_toList, show k + 1 - k = 1 by omega, drop_at s k h]; rfl
theorem one_size (s : ByteArray) (k : Nat) (h : k < s.size) : (s.extract k (k + 1)).size = 1 := by
  rw [← toList_size, one_at s k h]; rfl
theorem one_is (s : ByteArray) (k : Nat) (h : k < s.size) (b : UInt8) : ((s.extract k (k + 1)).toList == [b]) = decide (s[k].toNat = b.toNat) := by
  rw [lit_is, one_at s k h]
  by_cases e : s[k].toNat = b.toNat
  · rw [decide_eq_true e, decide_eq_true]
    rw [UInt8.toNat_inj.mp e]
  · rw [decide_eq_false e, decide_eq_false]
    intro h2
    exact e (by rw [List.cons.injEq] at h2; rw [h2.1])
theorem jT_more (l : List UInt8) (k : Nat) (h : k < l.length) : (jT (l.take k)).length + (jTb l[k]).length ≤ (jT l).length := by
  have h1 := jT_take l k h
  have h2 := congrArg List.length (congrArg jT (List.take_append_drop (k + 1) l))
  rw [jT_append, List.length_append, h1, List.length_append] at h2
  omega
theorem jTb_quote {b : UInt8} (h : b.toNat = 34 ∨ b.toNat = 92) : jTb b = [92, b] := by unfold jTb; rw [if_pos h]
theorem jTb_low {b : UInt8} (h : b.toNat < 32) : jTb b = [92, 117, 48, 48] ++ hx [b] := by unfold jTb; rw [if_neg (by omega), if_pos h, hx_one]; rfl
theorem jTb_self {b : UInt8} (h : ¬ (b.toNat = 34 ∨ b.toNat = 92)) (h2 : ¬ b.toNat < 32) : jTb b = [b] := by unfold jTb; rw [if_neg h, if_neg h2]
def RTxRel (s : ByteArray) (W : World) (t i : Value) (wr : World) : Prop :=
  ∃ k : Nat, k ≤ s.size ∧ i = .int .i64 k ∧ t = .string (bA (34 :: jT (s.data.toList.take k))) ∧ Below W.heap.size W wr
set_option maxRecDepth 20000 in
set_option maxHeartbeats 1000000 in
theorem rjtext_any (s : ByteArray) (w : World) (hs : s.size ≤ 1099511627776) :
    Calls Tryz.prog 57 #[.string s] w fun e w' => e = .returned (.string (bA (jText s.data.toList))) ∧ Below w.heap.size w w' := by
  go_enter Tryz.func57, Tryz.ntmps57
  go_wp2_with fail
  go_loopw [3, 4] (fun t i wr => RTxRel s w t i wr) (fun _ i _ => s.size - (intOf i).toNat)
  case atStart => exact ⟨0, Nat.zero_le _, rfl, rfl, Below.refl _ _⟩
  case round =>
    obtain ⟨k, hk, rfl, rfl, hbe⟩ := hrel
    have hTs : (bA (34 :: jT (s.data.toList.take k))).size ≤ 6597069766657 := by
      have := (jT_len (s.data.toList.take k)).2
      rw [List.length_take] at this
      rw [bA_size, List.length_cons]; omega
    by_cases hlt : k < s.size
    · have p1 : decide (k < s.size) = true := decide_eq_true hlt
      have p1' : decide ((k : Int) < (s.size : Int)) = true := decide_eq_true (by omega)
      have hk0 : (0 : Int) ≤ (k : Int) := by omega
      have hk1 : (k : Int) < (s.size : Int) := by omega
      have hk2 : (k : Int) ≤ (k : Int) + 1 := by omega
      have hk3 : (k : Int) + 1 ≤ (s.size : Int) := by omega
      have zk : IntKind.i64.wrap ((k : Int) + 1) = (k : Int) + 1 := i64_small (by omega) (by omega)
      have h' : k < s.data.toList.length := by rw [toList_size]; exact hlt
      have hO := one_size s k hlt
      have hOl := one_at s k hlt
      have hTk := jT_take s.data.toList k h'
      rw [byte_at s k hlt h'] at hTk
      have hOb : bA [s[k]] = s.extract k (k + 1) := by rw [← hOl, bA_of]
      obtain ⟨X, hXe⟩ : ∃ X, X = s[k].toNat := ⟨_, rfl⟩
      have hXi : (s[k].toNat : Int) = (X : Int) := by omega
      have hXl := s[k].toNat_lt
      by_cases hq : X = 34 ∨ X = 92
      · have HT := Lib.hid (show bA (34 :: jT (s.data.toList.take (k + 1))) = bA (34 :: jT (s.data.toList.take k)) ++ ⟨#[92]⟩ ++ s.extract k (k + 1) by
          rw [hTk, jTb_quote (by rw [← hXe]; exact hq), ← hOb, show (ByteArray.mk #[92]) = bA [92] from rfl, bA_append, bA_append]
          simp)
        have q3 : decide ((X : Int) < 32) = false := decide_eq_false (by omega)
        generalize bA (34 :: jT (s.data.toList.take k)) = T at *
        clear hTk hOl hOb hXe hXl
        by_cases h34 : X = 34
        · have q1 : ((X : Int) == 34) = true := beq_iff_eq.mpr (by omega)
          clear hq h34
          go_wp2
          go_roundw
          case rel => exact ⟨k + 1, by omega, by go_num, by rw [HT.out], hbe⟩
          case measure => simp [intOf]; omega
        · have q1 : ((X : Int) == 34) = false := beq_eq_false_iff_ne.mpr (by omega)
          have q2 : ((X : Int) == 92) = true := beq_iff_eq.mpr (by omega)
          clear hq h34
          go_wp2
          go_roundw
          case rel => exact ⟨k + 1, by omega, by go_num, by rw [HT.out], hbe⟩
          case measure => simp [intOf]; omega
      · have q1 : ((X : Int) == 34) = false := beq_eq_false_iff_ne.mpr (by omega)
        have q2 : ((X : Int) == 92) = false := beq_eq_false_iff_ne.mpr (by omega)
        by_cases hlow : X < 32
        · have q3 : decide ((X : Int) < 32) = true := decide_eq_true (by omega)
          have HT := Lib.hid (show bA (34 :: jT (s.data.toList.take (k + 1))) = bA (34 :: jT (s.data.toList.take k)) ++ ⟨#[92, 117, 48, 48]⟩ ++ bA (hx [s[k]]) by
            rw [hTk, jTb_low (by rw [← hXe]; exact hlow), show (ByteArray.mk #[92, 117, 48, 48]) = bA [92, 117, 48, 48] from rfl, bA_append, bA_append]
            simp)
          have HX0 := fun w => rtext_any (s.extract k (k + 1)) w (by rw [hO]; decide)
          rw [hOl] at HX0
          have hxs : (bA (hx [s[k]])).size = 2 := by rw [bA_size, hx_length]; rfl
          have HX := Lib.hid HX0
          generalize bA (hx [s[k]]) = U at *
          generalize bA (34 :: jT (s.data.toList.take k)) = T at *
          clear hTk hOl hOb hXe hXl hq hlow HX0
          go_wp2_with fail
          with_reducible refine (HX.out _).mono ?_
          rintro e w1 ⟨rfl, hb1⟩
          have hbe2 := grown_then hbe hb1
          clear hb1 hbe
          go_wp2
          go_roundw
          case rel => exact ⟨k + 1, by omega, by go_num, by rw [HT.out], hbe2⟩
          case measure => simp [intOf]; omega
        · have q3 : decide ((X : Int) < 32) = false := decide_eq_false (by omega)
          have HT := Lib.hid (show bA (34 :: jT (s.data.toList.take (k + 1))) = bA (34 :: jT (s.data.toList.take k)) ++ s.extract k (k + 1) by
            rw [hTk, jTb_self (by rw [← hXe]; exact hq) (by rw [← hXe]; exact hlow), ← hOb, bA_append]
            simp)
          generalize bA (34 :: jT (s.data.toList.take k)) = T at *
          clear hTk hOl hOb hXe hXl hq hlow
          go_wp2
          go_roundw
          case rel => exact ⟨k + 1, by omega, by go_num, by rw [HT.out], hbe⟩
          case measure => simp [intOf]; omega
    · have p1 : decide (k < s.size) = false := decide_eq_false hlt
      have p1' : decide ((k : Int) < (s.size : Int)) = false := decide_eq_false (by omega)
      have hkn : k = s.size := by omega
      subst hkn
      have HT := Lib.hid (show bA (jText s.data.toList) = bA (34 :: jT (s.data.toList.take s.size)) ++ ⟨#[34]⟩ by
        rw [List.take_of_length_le (by rw [toList_size]; exact Nat.le_refl _), show (ByteArray.mk #[34]) = bA [34] from rfl, bA_append]
        rfl)
      generalize bA (34 :: jT (s.data.toList.take s.size)) = T at *
      go_wp2
      go_ret
      exact ⟨by rw [HT.out]; rfl, hbe⟩
end Go.Proofs.YtnbhhnkcfbfdcaaGreatDoor
