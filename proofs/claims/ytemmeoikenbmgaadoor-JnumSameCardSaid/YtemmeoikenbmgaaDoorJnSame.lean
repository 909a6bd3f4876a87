/- JnumSame, walked. -/
import Derived.Test.YtemmeoikenbmgaaDoorJnWork
import Derived.Test.YtemmeoikenbmgaaDoorJnSameN
namespace Go.Proofs.YtemmeoikenbmgaaDoor
open Go Go.RowKit
set_option linter.unusedVariables false

def SmRel (k : Nat) (w : World) (v i : Value) (wr : World) : Prop := ∃ (T : ByteArray) (j : Nat), v = .string T ∧ i = .int .i64 (j : Nat) ∧ j ≤ k ∧ wr = w ∧ T.size = j ∧ Hid (T.data.toList = List.replicate j 48)
theorem whole_of (t : ByteArray) {l : List UInt8} (hl : t.data.toList = l) (n k : Int) (h : wEnd l = (n, k)) (hz : t.size ≤ 1048576) (w : World) (hm : MaxL w) :
    Calls Tryd.prog 13 #[.string t] w fun e w' => e = .returned (.tuple #[.int .i64 n, .int .i64 k]) ∧ Below w.heap.size w w' := n11_w t n k (by rw [hl]; exact h) hz w hm
set_option maxRecDepth 100000 in
set_option maxHeartbeats 4000000 in
theorem nsame_k (n : Int) (z k : Nat) (w : World) (h0 : -9223372036854775808 ≤ n) (h1 : n ≤ 9223372036854775807) (hz : z ≤ 255) (hk : k = z % 40) (hm : MaxL w) :
    Calls Tryd.prog 5 #[.int .i64 n, .int .u8 (z : Nat)] w fun e w' => e = .returned (.bool true) ∧ Below w.heap.size w w' := by
  have HM := Lib.hid (fun w' h => hm.below (w' := w') h hm.lt)
  have hk40 : k < 40 := by omega
  have m1 : (z : Int).tmod 40 = (k : Int) := by rw [Int.tmod_eq_emod_of_nonneg (by omega)]; omega
  have m2 : (z : Int) % 40 = (k : Int) := by omega
  have m3 : IntKind.u8.wrap (k : Int) = (k : Int) := IntWalk.u8_in _ (by omega)
  have m4 : IntKind.i64.wrap (k : Int) = (k : Int) := i64_small (by omega) (by omega)
  have HT := Lib.hid (fun w => rtext_any n h0 h1 w)
  have HU := Lib.hid (fun w => rtext_any (k : Int) (by omega) (by omega) w)
  have sS := bA_size (Lib.itoa n)
  have hSl := itoa_len n h0 h1
  have sU := bA_size (Lib.itoa (k : Int))
  have hUl := itoa_len (k : Int) (by omega) (by omega)
  have lS : (bA (Lib.itoa n)).data.toList = Lib.itoa n := bA_data _
  have lU : (bA (Lib.itoa (k : Int))).data.toList = Lib.decDigits k := by rw [bA_data]; unfold Lib.itoa; rw [if_neg (by omega)]; rfl
  obtain ⟨S, hS⟩ : ∃ S, S = bA (Lib.itoa n) := ⟨_, rfl⟩
  obtain ⟨U, hU⟩ : ∃ U, U = bA (Lib.itoa (k : Int)) := ⟨_, rfl⟩
  rw [← hS] at HT sS lS
  rw [← hU] at HU sU lU
  have zS : S.size ≤ 21 := by omega
  have zU : U.size ≤ 21 := by omega
  have HLS := Lib.hid lS
  have HLU := Lib.hid lU
  have HK := Lib.hid (And.intro h0 h1)
  have HA := Lib.hid (fun w hm => whole_of S HLS.out n 0 (by
    have := same_wEnd (n := n) (a := 0) (b := 0) (F := []) (X := []) (P := []) HK.out.1 HK.out.2 (.inl ⟨rfl, rfl⟩) (.inl ⟨rfl, rfl⟩) rfl (.inr rfl)
    simpa using this) (by omega) w hm)
  have HB := Lib.hid (fun (T : ByteArray) (hT : T.data.toList = List.replicate k 48) (hTs : T.size = k) w hm => whole_of (S ++ ⟨#[46]⟩ ++ T ++ ⟨#[48]⟩) (l := Lib.itoa n ++ (List.replicate 0 48 ++ ((46 :: List.replicate (k + 1) 48) ++ []))) (by
    rw [toList_append, toList_append, toList_append, HLS.out, hT, List.replicate_succ']; simp) n 0
    (same_wEnd (n := n) (a := 0) (b := k + 1) (X := []) (P := []) HK.out.1 HK.out.2 (.inr ⟨rfl, by simp, rep_all _⟩) (.inl ⟨rfl, rfl⟩) rfl (.inr rfl)) (by
    rw [ByteArray.size_append, ByteArray.size_append, ByteArray.size_append, hTs]; show _ + 1 + _ + 1 ≤ _; omega) w hm)
  have HDl := Lib.hid (fun w hm => whole_of (S ++ ⟨#[46, 48, 69, 43, 48]⟩) (l := Lib.itoa n ++ (List.replicate 0 48 ++ ((46 :: List.replicate 1 48) ++ [69, 43, 48]))) (by
    rw [toList_append, HLS.out]; rfl) n 0
    (same_wEnd (n := n) (a := 0) (b := 1) (P := [43, 48]) HK.out.1 HK.out.2 (.inr ⟨rfl, by simp, rep_all _⟩) (.inr ⟨69, [43], [48], .inr rfl, rfl, rfl, .inr (.inl rfl), by simp, by decide⟩) (by decide +kernel) (.inr rfl)) (by
    rw [ByteArray.size_append]; show _ + 5 ≤ _; omega) w hm)
  have HCl := Lib.hid (fun (T : ByteArray) (hT : T.data.toList = List.replicate k 48) => (show (S ++ T ++ ⟨#[101, 45]⟩ ++ U).data.toList = Lib.itoa n ++ (List.replicate k 48 ++ ([] ++ (101 :: ([45] ++ Lib.decDigits k)))) by
    rw [toList_append, toList_append, toList_append, HLS.out, HLU.out, hT]; simp))
  have HCz := Lib.hid (fun (T : ByteArray) (hTs : T.size = k) => (show (S ++ T ++ ⟨#[101, 45]⟩ ++ U).size ≤ 1048576 by
    rw [ByteArray.size_append, ByteArray.size_append, ByteArray.size_append, hTs]; show _ + _ + 2 + _ ≤ _; omega))
  have HCn := Lib.hid (fun (hn : n ≠ 0) => same_wEnd (n := n) (a := k) (b := 0) (F := []) (X := 101 :: ([45] ++ Lib.decDigits k)) (P := [45] ++ Lib.decDigits k) HK.out.1 HK.out.2 (.inl ⟨rfl, rfl⟩) (.inr ⟨101, [45], Lib.decDigits k, .inl rfl, rfl, rfl, .inr (.inr rfl), dec_ne k, dec_all k⟩) (pw_minus k) (.inl hn))
  clear lS lU hS hU sS sU hSl hUl hk h0 h1 hm
  go_enter Tryd.func5, Tryd.ntmps5
  go_wp2_with fail
  with_reducible refine (HT.out _).mono ?_
  rintro r w1 ⟨rfl, hw⟩
  rw [hw]; clear hw
  go_wp2_with fail
  go_loopw [7, 8] (fun v i wr => SmRel k w v i wr) (fun _ i _ => k + 1 - (intOf i).toNat)
  case atStart => exact ⟨⟨#[]⟩, 0, rfl, rfl, Nat.zero_le _, rfl, rfl, Lib.hid rfl⟩
  case round =>
    obtain ⟨T, j, rfl, rfl, hj, hww, hTs, hT⟩ := hrel
    rw [hww]
    clear hww
    have hTz : T.size ≤ 40 := by omega
    by_cases hlt : j < k
    · have p0 : decide (j < k) = true := decide_eq_true hlt
      have y3 := next_wrap (a := j) (by omega)
      have HT2 := Lib.hid (show (T ++ ⟨#[48]⟩).data.toList = List.replicate (j + 1) 48 by rw [toList_append, hT.out, List.replicate_succ'])
      have HT3 := Lib.hid (show (T ++ ⟨#[48]⟩).size = j + 1 by rw [ByteArray.size_append, hTs]; rfl)
      clear hT
      go_wp2
      go_roundw
      case rel => exact ⟨T ++ ⟨#[48]⟩, j + 1, rfl, by go_num, by omega, rfl, HT3.out, HT2⟩
      case measure => simp [intOf]; omega
    · have p0 : decide (j < k) = false := decide_eq_false hlt
      have hjk : j = k := by omega
      have hT2 := hT.out
      rw [hjk] at hT2
      have HB2 := Lib.hid (HB.out T hT2 (hTs.trans hjk))
      have hC2 := HCl.out T hT2
      have hC3 := HCz.out T (hTs.trans hjk)
      have m5 := Lib.hid (HM.out _ (Below.refl _ w))
      by_cases hn : n = 0
      · have HC2 := Lib.hid (fun w hm => nwhole_any (S ++ T ++ ⟨#[101, 45]⟩ ++ U) w hC3 hm)
        generalize wEnd (S ++ T ++ ⟨#[101, 45]⟩ ++ U).data.toList = E at *
        have p5 : (n == 0) = true := by simp [hn]
        have p6 : ((0 : Int) == n) = true := by simp [hn]
        clear hn
        clear hT2 hC2 hC3 hT hjk hlt HB HCl HCz HCn HT
        go_wp2_with fail
        with_reducible refine (HA.out _ m5.out).mono ?_
        rintro r w2 ⟨rfl, b2⟩
        have m6 := Lib.hid (HM.out _ b2)
        go_wp2_with fail
        with_reducible refine (HB2.out _ m6.out).mono ?_
        rintro r w3 ⟨rfl, h3⟩
        have b3 := grown_then b2 h3
        have m7 := Lib.hid (HM.out _ b3)
        clear b2 h3 m5 m6
        go_wp2_with fail
        with_reducible refine (HU.out _).mono ?_
        rintro r w4 ⟨rfl, hw⟩
        rw [hw]; clear hw
        go_wp2_with fail
        with_reducible refine (HC2.out _ m7.out).mono ?_
        rintro r w5 ⟨rfl, h5⟩
        have b5 := grown_then b3 h5
        have m8 := Lib.hid (HM.out _ b5)
        clear b3 h5 m7
        go_wp2_with fail
        with_reducible refine (HDl.out _ m8.out).mono ?_
        rintro r w6 ⟨rfl, h6⟩
        have b6 := grown_then b5 h6
        have m9 := Lib.hid (HM.out _ b6)
        clear b5 h6 m8
        go_wp2_with fail
        with_reducible refine (works11_any _ m9.out).mono ?_
        rintro r w7 ⟨rfl, h7⟩
        go_wp2
        go_ret
        exact ⟨rfl, grown_then b6 h7⟩
      · have HC2 := Lib.hid (fun w hm => whole_of (S ++ T ++ ⟨#[101, 45]⟩ ++ U) hC2 n 0 (HCn.out hn) hC3 w hm)
        have p5 : (n == 0) = false := by simp [hn]
        clear hn
        clear hT2 hC2 hC3 hT hjk hlt HB HCl HCz HCn HT
        go_wp2_with fail
        with_reducible refine (HA.out _ m5.out).mono ?_
        rintro r w2 ⟨rfl, b2⟩
        have m6 := Lib.hid (HM.out _ b2)
        go_wp2_with fail
        with_reducible refine (HB2.out _ m6.out).mono ?_
        rintro r w3 ⟨rfl, h3⟩
        have b3 := grown_then b2 h3
        have m7 := Lib.hid (HM.out _ b3)
        clear b2 h3 m5 m6
        go_wp2_with fail
        with_reducible refine (HU.out _).mono ?_
        rintro r w4 ⟨rfl, hw⟩
        rw [hw]; clear hw
        go_wp2_with fail
        with_reducible refine (HC2.out _ m7.out).mono ?_
        rintro r w5 ⟨rfl, h5⟩
        have b5 := grown_then b3 h5
        have m8 := Lib.hid (HM.out _ b5)
        clear b3 h5 m7
        go_wp2_with fail
        with_reducible refine (HDl.out _ m8.out).mono ?_
        rintro r w6 ⟨rfl, h6⟩
        have b6 := grown_then b5 h6
        have m9 := Lib.hid (HM.out _ b6)
        clear b5 h6 m8
        go_wp2_with fail
        with_reducible refine (works11_any _ m9.out).mono ?_
        rintro r w7 ⟨rfl, h7⟩
        go_wp2
        go_ret
        exact ⟨rfl, grown_then b6 h7⟩
theorem nsame_any (n z : Int) (w : World) (h0 : -9223372036854775808 ≤ n) (h1 : n ≤ 9223372036854775807) (hz0 : 0 ≤ z) (hz : z ≤ 255) (hm : MaxL w) :
    Calls Tryd.prog 5 #[.int .i64 n, .int .u8 z] w fun e w' => e = .returned (.bool true) ∧ Below w.heap.size w w' := by
  obtain ⟨m, rfl⟩ : ∃ m : Nat, z = m := ⟨z.toNat, by omega⟩
  exact nsame_k n m (m % 40) w h0 h1 (by omega) rfl hm
end Go.Proofs.YtemmeoikenbmgaaDoor
