/- CskipDeep, walked. -/
import Derived.Test.YtmaojbhpnflbcaaSkWork
namespace Go.Proofs.Ytmaojbhpnflbcaa
open Go Go.RowKit
set_option linter.unusedVariables false

theorem byte_past {c : CS} (hc : c.ok) (h0 : c.er = 0) {x : UInt8} {t : List UInt8} (hr : c.rest = x :: t) : c.byte = c.past 1 ∧ c.pB = x.toNat ∧ (c.past 1).ok ∧ (c.past 1).er = 0 ∧ (c.past 1).rest = t := by
  have hl := CS.rest_length hc
  rw [hr, List.length_cons] at hl
  have hp : c.peekIs = true := decide_eq_true ⟨h0, by omega⟩
  exact ⟨CS.byte_yes hp, CS.pB_rest hc h0 hr, CS.past_ok2 hc (by rw [hr]; simp), h0, by rw [CS.rest_past hc (by rw [hr]; simp), hr]; rfl⟩
/-- Lists within one another, each of one thing: as many as may be are gone past. -/
theorem deep_lists : ∀ (r j : Nat) (c : CS) (R : List UInt8), c.ok → c.er = 0 → c.rest = List.replicate j 25 ++ 19 :: 7 :: R →
    (j < r → inTo r 9 c = c.past (j + 2)) ∧ (r ≤ j → (inTo r 9 c).er = 33)
  | 0, j, c, R, hc, h0, hr => ⟨fun h => absurd h (Nat.not_lt_zero _), fun _ => by rw [inTo_deep rfl, CS.fail_er h0]⟩
  | r + 1, 0, c, R, hc, h0, hr => by
    have hr' : c.rest = 19 :: 7 :: R := by rw [hr]; rfl
    obtain ⟨b1, b2, b3, b4, b5⟩ := byte_past hc h0 hr'
    obtain ⟨l1, l2, l3⟩ := CS.l_short (c := c) (by rw [b1]; exact b4) (by rw [b2]; decide) (by rw [b2]; decide)
    have e : inTo (r + 1) 9 c = inTo r 3 (c.past 1) := by
      rw [inTo_hold rfl, list_more (by decide) (by decide), l1, l2, l3, b1, b2]
      rfl
    obtain ⟨d1, d2, d3, d4, d5⟩ := byte_past b3 b4 b5
    refine ⟨fun _ => ?_, fun h => absurd h (by omega)⟩
    rw [e, inTo_flat rfl]
    show (c.past 1).byte = _
    rw [d1, CS.past_past]
  | r + 1, j + 1, c, R, hc, h0, hr => by
    have hr' : c.rest = 25 :: (List.replicate j 25 ++ 19 :: 7 :: R) := by rw [hr, List.replicate_succ]; rfl
    obtain ⟨b1, b2, b3, b4, b5⟩ := byte_past hc h0 hr'
    obtain ⟨l1, l2, l3⟩ := CS.l_short (c := c) (by rw [b1]; exact b4) (by rw [b2]; decide) (by rw [b2]; decide)
    have e : inTo (r + 1) 9 c = inTo r 9 (c.past 1) := by
      rw [inTo_hold rfl, list_more (by decide) (by decide), l1, l2, l3, b1, b2]
      rfl
    obtain ⟨i1, i2⟩ := deep_lists r j (c.past 1) R b3 b4 b5
    rw [e]
    refine ⟨fun h => ?_, fun h => i2 (by omega)⟩
    rw [i1 (by omega), CS.past_past]
    congr 1; omega
def dpS (j : Nat) : ByteArray := bA (List.replicate j 25)
theorem dp_nil : dpS 0 = ⟨#[]⟩ := rfl
theorem dp_more (j : Nat) : dpS j ++ ⟨#[25]⟩ = dpS (j + 1) := by
  unfold dpS bA
  apply ByteArray.ext
  rw [ByteArray.data_append]
  apply Array.toList_inj.mp
  rw [Array.toList_append, List.replicate_succ']
theorem dp_size (j : Nat) : (dpS j).size = j := by unfold dpS; rw [bA_size]; simp
def dpF (j : Nat) (rest : ByteArray) : ByteArray := dpS j ++ ⟨#[19, 7]⟩ ++ rest
theorem dpF_size (j : Nat) (rest : ByteArray) : (dpF j rest).size = j + 2 + rest.size := by
  unfold dpF
  rw [ByteArray.size_append, ByteArray.size_append, dp_size]; rfl
theorem dpF_rest (j : Nat) (rest : ByteArray) : (CS.new (dpF j rest)).rest = List.replicate j 25 ++ 19 :: 7 :: rest.data.toList := by
  rw [new_rest]
  unfold dpF dpS bA
  rw [ByteArray.data_append, ByteArray.data_append, Array.toList_append, Array.toList_append]
  simp
def DpRel (k : Nat) (w : World) (s i : Value) (wr : World) : Prop := ∃ j : Nat, j ≤ k - 1 ∧ s = .string (dpS j) ∧ i = .int .i64 ((j + 1 : Nat) : Int) ∧ Below w.heap.size w wr
set_option maxRecDepth 100000 in
set_option maxHeartbeats 2000000 in
theorem skd_any (n : Int) (rest : ByteArray) (w : World) (h1 : 0 ≤ n) (h2 : n ≤ 255) (h3 : rest.size ≤ 140737488351232) :
    Calls Try.prog 5 #[.int .u8 n, .string rest] w fun e w' => e = .returned (.bool true) ∧ Below w.heap.size w w' := by
  obtain ⟨m, rfl⟩ := Int.eq_ofNat_of_zero_le h1
  obtain ⟨k, hk⟩ : ∃ k, k = m % 60 := ⟨_, rfl⟩
  have hk60 : k < 60 := by omega
  have m1 : (m : Int).tmod 60 = (k : Int) := by rw [Int.tmod_eq_emod_of_nonneg (by omega)]; omega
  have m1' : (m : Int) % 60 = (k : Int) := by omega
  have m2 : IntKind.u8.wrap (k : Int) = (k : Int) := IntWalk.u8_in _ (by omega)
  have m3 : IntKind.i64.wrap (k : Int) = (k : Int) := IntWalk.i64_in _ (by omega)
  have m4 : m % 60 = k := hk.symm
  have HK := Lib.hid (show k < 60 from hk60)
  have H3 := Lib.hid h3
  clear hk
  go_enter Try.func5, Try.ntmps5
  go_wp2_with fail
  go_loopw [6, 7] (fun s i wr => DpRel k w s i wr) (fun _ i _ => k - (intOf i).toNat)
  case atStart => exact ⟨0, Nat.zero_le _, rfl, rfl, Below.refl _ _⟩
  case round =>
    obtain ⟨j, hj, rfl, rfl, hB⟩ := hrel
    by_cases hlt : j + 1 < k
    · have p1 : decide (((j + 1 : Nat) : Int) < (k : Int)) = true := decide_eq_true (by omega)
      have hz := dp_size j
      have hs : (dpS j).size + 1 ≤ 9223372036854775807 := by omega
      have HM := Lib.hid (dp_more j)
      go_wp2
      go_roundw
      case rel => exact ⟨j + 1, by omega, by rw [← HM.out], by go_num, hB⟩
      case measure => simp [intOf]; omega
    · have p1 : decide ((j : Int) + 1 < (k : Int)) = false := decide_eq_false (by omega)
      have p1' : decide (j + 1 < k) = false := decide_eq_false hlt
      have hz := dp_size j
      have hs : (dpS j).size + 2 ≤ 9223372036854775807 := by omega
      have hF0 := dpF_size j rest
      have hs2 : (dpS j ++ ⟨#[19, 7]⟩).size + rest.size ≤ 9223372036854775807 := by
        rw [ByteArray.size_append, hz]; show j + 2 + rest.size ≤ _; omega
      obtain ⟨F, hF⟩ : ∃ F, F = dpF j rest := ⟨_, rfl⟩
      have HF := Lib.hid (show dpS j ++ ⟨#[19, 7]⟩ ++ rest = F from hF.symm)
      have hrest := dpF_rest j rest
      rw [← hF] at hF0 hrest
      have hok := CS.new_ok (s := F) (by omega)
      obtain ⟨g1, g2⟩ := deep_lists 32 j (CS.new F) rest.data.toList hok rfl hrest
      have HN := Lib.hid (fun w => new_cur F w (by omega))
      obtain ⟨D, hD⟩ : ∃ D, D = inTo 32 9 (CS.new F) := ⟨_, rfl⟩
      have HV0 := (fun b w (h : CurT 37 w b (CS.new F)) => skip_value 9 0 (by decide) (by decide) h hok)
      have HV : Hid (∀ b w, CurT 37 w b (CS.new F) → Calls Try.prog 8 #[.pointer (some ⟨b, 0, none⟩), .int .u8 9, .int .i64 0] w fun e w' => e = .returned (.tuple #[]) ∧ CurT 37 w' b D ∧ Only b w w') := Lib.hid fun b w h => by
        have := HV0 b w h
        rw [hD]; exact this
      have HE := Lib.hid (fun b w (h : CurT 37 w b D) => err_any h)
      clear HV0
      by_cases hk32 : 32 < k
      · have p3 : decide ((32 : Int) < (k : Int)) = true := decide_eq_true (by omega)
        have p3' : decide (32 < k) = true := decide_eq_true hk32
        have hG : D.er = 33 := by rw [hD]; exact g2 (by omega)
        rw [hG] at HE
        clear hF hD g1 g2 hk32 HK
        clear hG hF0 hok hrest h1 h2 hk60 hj hlt
        go_wp2_with fail
        rw [HF.out]
        refine (HN.out _).mono ?_
        rintro e w1 ⟨b, rfl, hb, b1, k1⟩
        have B1 := hB.trans (k1.mono hB.size)
        have hb2 : w.heap.size ≤ b := by have := hB.size; omega
        clear k1 hB hb
        go_wp2_with fail
        with_reducible refine (HV.out _ _ b1).mono ?_
        rintro e w2 ⟨rfl, b2, o2⟩
        have B2 := Lib.hid (B1.trans (o2.below hb2 B1.size))
        clear b1 B1 o2 hb2
        go_wp2_with fail
        with_reducible refine (HE.out _ _ b2).mono ?_
        rintro e w3 ⟨rfl, rfl⟩
        go_wp2_with fail
        with_reducible refine (works21_any _).mono ?_
        rintro e w4 ⟨rfl, k4⟩
        go_wp2
        go_ret
        exact ⟨rfl, grown_then B2.out k4⟩
      · have p3 : decide ((32 : Int) < (k : Int)) = false := decide_eq_false (by omega)
        have p3' : decide (32 < k) = false := decide_eq_false hk32
        have hG : D = ⟨F, j + 2, F.size, 0⟩ := by
          rw [hD, g1 (by omega)]
          show (⟨F, 0 + (j + 2), F.size, 0⟩ : CS) = _
          rw [Nat.zero_add]
        have HL := Lib.hid (fun b w (h : CurT 37 w b D) => left_any h (by rw [hG]; exact ⟨by show j + 2 ≤ F.size; omega, Nat.le_refl _, by show F.size ≤ _; omega⟩))
        have hen : (D.en : Int) - D.at_ = (rest.size : Int) := by rw [hG]; show ((F.size : Nat) : Int) - ((j + 2 : Nat) : Int) = _; omega
        rw [show D.er = 0 by rw [hG]] at HE
        rw [hen] at HL
        have p4 : ((rest.size : Int) == (rest.size : Int)) = true := by simp
        clear hen
        clear hF hD g1 g2 hk32 HK
        clear hG hF0 hok hrest h1 h2 hk60 hj hlt
        go_wp2_with fail
        rw [HF.out]
        refine (HN.out _).mono ?_
        rintro e w1 ⟨b, rfl, hb, b1, k1⟩
        have B1 := hB.trans (k1.mono hB.size)
        have hb2 : w.heap.size ≤ b := by have := hB.size; omega
        clear k1 hB hb
        go_wp2_with fail
        with_reducible refine (HV.out _ _ b1).mono ?_
        rintro e w2 ⟨rfl, b2, o2⟩
        have B2 := Lib.hid (B1.trans (o2.below hb2 B1.size))
        clear b1 B1 o2 hb2
        go_wp2_with fail
        with_reducible refine (HE.out _ _ b2).mono ?_
        rintro e w3 ⟨rfl, rfl⟩
        go_wp2_with fail
        with_reducible refine (HL.out _ _ b2).mono ?_
        rintro e w5 ⟨rfl, n, rfl⟩
        go_wp2_with fail
        with_reducible refine (works21_any _).mono ?_
        rintro e w4 ⟨rfl, k4⟩
        go_wp2
        go_ret
        exact ⟨rfl, B2.out.trans ((drew_below _ n).trans (k4.mono (by simp)) |>.mono B2.out.size)⟩
theorem skd_law (n : Int) (rest : ByteArray) (w : World) (h1 : 0 ≤ n) (h2 : n ≤ 255) (h3 : rest.size ≤ 140737488351232) :
    Calls Try.prog 5 #[.int .u8 n, .string rest] w fun e w' => e = .returned (.bool true) ∧ Below w.heap.size w w' := skd_any n rest w h1 h2 h3
end Go.Proofs.Ytmaojbhpnflbcaa
