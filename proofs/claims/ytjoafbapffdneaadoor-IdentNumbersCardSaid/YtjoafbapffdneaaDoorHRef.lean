/- The document's own hexa (package truchmanref04): Text, Read. -/
import Derived.Test.YtjoafbapffdneaaDoorHRead
import Derived.Deep.QuietTactic
namespace Go.Proofs.YtjoafbapffdneaaDoor
open Go Go.RowKit
set_option linter.unusedVariables false

def RTextRel (s : ByteArray) (W : World) (t i : Value) (wr : World) : Prop :=
  ∃ k : Nat, k ≤ s.size ∧ i = .int .i64 k ∧ t = .string (bA (hx (s.data.toList.take k))) ∧ Below W.heap.size W wr
theorem digit_cut (n : Nat) (h : n < 16) : (ByteArray.mk #[48, 49, 50, 51, 52, 53, 54, 55, 56, 57, 97, 98, 99, 100, 101, 102]).extract n (n + 1) = bA [hd n] := by
  have : ∀ m : Fin 16, (ByteArray.mk #[48, 49, 50, 51, 52, 53, 54, 55, 56, 57, 97, 98, 99, 100, 101, 102]).extract m.val (m.val + 1) = bA [hd m.val] := by decide +kernel
  exact this ⟨n, h⟩
theorem bA_nil : bA [] = ⟨#[]⟩ := rfl
set_option maxRecDepth 20000 in
theorem rtext_any (s : ByteArray) (w : World) (hs : s.size ≤ 140737488351232) :
    Calls Tryd.prog 21 #[.string s] w fun e w' => e = .returned (.string (bA (hx s.data.toList))) ∧ Below w.heap.size w w' := by
  go_enter Tryd.func21, Tryd.ntmps21
  go_wp2_with fail
  go_loopw [3, 4] (fun t i wr => RTextRel s w t i wr) (fun _ i _ => s.size - (intOf i).toNat)
  case atStart => exact ⟨0, Nat.zero_le _, rfl, rfl, Below.refl _ _⟩
  case round =>
    obtain ⟨k, hk, rfl, rfl, hbe⟩ := hrel
    by_cases hlt : k < s.size
    · have p1 : decide ((k : Int) < (s.size : Int)) = true := decide_eq_true (by omega)
      have hk0 : (0 : Int) ≤ (k : Int) := by omega
      have hk1 : (k : Int) < (s.size : Int) := by omega
      have h' : k < s.data.toList.length := by rw [toList_size]; exact hlt
      have HT := Lib.hid (show bA (hx (s.data.toList.take (k + 1))) = bA (hx (s.data.toList.take k)) ++ bA [hd (s[k].toNat / 16)] ++ bA [hd (s[k].toNat % 16)] by
        rw [hx_take _ k h', byte_at s k hlt h', bA_append, bA_append, List.append_assoc]; rfl)
      have hlen : (bA (hx (s.data.toList.take k))).size + 2 ≤ 9223372036854775807 := by
        rw [bA_size, hx_length, List.length_take, Nat.min_eq_left (by omega)]; omega
      have hB := s[k].toNat_lt
      obtain ⟨B, hBe⟩ : ∃ B, B = s[k].toNat := ⟨_, rfl⟩
      rw [← hBe] at HT hB
      obtain ⟨q, hq⟩ : ∃ q, q = B / 16 := ⟨_, rfl⟩
      obtain ⟨r, hr⟩ : ∃ r, r = B % 16 := ⟨_, rfl⟩
      rw [← hq, ← hr] at HT
      have m1 : (B : Int) / 16 = (q : Int) := by omega
      have m2 : (B : Int).tmod 16 = (r : Int) := by rw [Int.tmod_eq_emod_of_nonneg (by omega)]; omega
      have m3 : (B : Int).tdiv 16 = (q : Int) := by rw [Int.tdiv_eq_ediv_of_nonneg (by omega)]; omega
      have m4 : (B : Int) % 16 = (r : Int) := by omega
      have q16 : q < 16 := by omega
      have r16 : r < 16 := by omega
      have m5 : IntKind.u8.wrap (q : Int) = (q : Int) := IntWalk.u8_in _ (by omega)
      have m6 : IntKind.u8.wrap (r : Int) = (r : Int) := IntWalk.u8_in _ (by omega)
      have m7 : IntKind.u8.wrap ((q : Int) + 1) = (q : Int) + 1 := IntWalk.u8_in _ (by omega)
      have m8 : IntKind.u8.wrap ((r : Int) + 1) = (r : Int) + 1 := IntWalk.u8_in _ (by omega)
      have hBe' : (s[k].toNat : Int) = (B : Int) := by omega
      have iq0 : (0 : Int) ≤ (q : Int) := by omega
      have ir0 : (0 : Int) ≤ (r : Int) := by omega
      have iq1 : (q : Int) < 16 := by omega
      have ir1 : (r : Int) < 16 := by omega
      have dq := digit_cut q q16
      have dr := digit_cut r r16
      have sq : (bA [hd q]).size = 1 := rfl
      have sr : (bA [hd r]).size = 1 := rfl
      clear hq hr hBe
      generalize bA [hd q] = X at *
      generalize bA [hd r] = Y at *
      generalize bA (hx (s.data.toList.take k)) = T at *
      go_wp2
      go_quiet (fail)
      go_wp2
      go_roundw
      case rel => exact ⟨k + 1, by omega, by go_num, by rw [HT.out], Below.drewN hbe _⟩
      case measure => simp [intOf]; omega
    · have p1 : decide ((k : Int) < (s.size : Int)) = false := decide_eq_false (by omega)
      have hkn : k = s.size := by omega
      subst hkn
      have hall := Lib.hid (show s.data.toList.take s.size = s.data.toList by rw [List.take_of_length_le]; rw [toList_size]; exact Nat.le_refl _)
      go_wp2
      go_ret
      exact ⟨by rw [hall.out]; rfl, hbe⟩

theorem bytes_bA (l : List UInt8) : (bA l).data.toList = l := rfl
def RReadRel (t : TypeId) (W : World) (s : ByteArray) (v i : Value) (wr : World) : Prop :=
  ∃ k : Nat, 2 * k ≤ s.size ∧ i = .int .i64 ((2 * k : Nat) : Int) ∧ Bts t wr W.heap.size v (uh (s.data.toList.take (2 * k))) ∧ Below W.heap.size W wr
set_option maxRecDepth 20000 in
theorem rread_any (s : ByteArray) (w : World) (hs : s.size ≤ 140737488351232) :
    Calls Tryd.prog 40 #[.string s] w fun e w' => e = .returned (.tuple #[.string (hT s), .int .i64 (hC s)]) ∧ Below w.heap.size w w' := by
  obtain ⟨i0, hi, hz0, hz1, hz2⟩ := info_parts info8
  go_enter Tryd.func40, Tryd.ntmps40
  go_wp2_with fail
  go_loopw [4, 5] (fun v i wr => RReadRel 5 w s v i wr) (fun _ i _ => s.size + 1 - (intOf i).toNat)
  case atStart => exact ⟨0, Nat.zero_le _, rfl, World.ownsRow_nil _ _ _ _, Below.refl _ _⟩
  case round =>
    obtain ⟨k, hk, rfl, hb, hbe⟩ := hrel
    have hsz := hbe.size
    obtain ⟨j, hj⟩ : ∃ j, j = 2 * k := ⟨_, rfl⟩
    have z0 : IntKind.i64.wrap ((j : Int) + 1) = (j : Int) + 1 := IntWalk.i64_in _ (by omega)
    rw [← hj] at hb hk ⊢
    have he2 : j % 2 = 0 := by omega
    by_cases hlt : j + 1 < s.size
    · have p1 : decide ((j : Int) + 1 < (s.size : Int)) = true := decide_eq_true (by omega)
      have h0' : j < s.data.toList.length := by rw [toList_size]; omega
      have h1' : j + 1 < s.data.toList.length := by rw [toList_size]; omega
      have hlt0 : j < s.size := by omega
      have ik0 : (0 : Int) ≤ (j : Int) := by omega
      have ik1 : (j : Int) < (s.size : Int) := by omega
      have ik2 : (j : Int) + 1 < (s.size : Int) := by omega
      have hup := Lib.hid (show uh (s.data.toList.take (j + 2)) = uh (s.data.toList.take j) ++ [UInt8.ofNat (16 * nibV s[j].toNat + nibV s[j + 1].toNat)] by
        rw [uh_take _ j h1' he2, byte_at s (j + 1) hlt h1', byte_at s j hlt0 h0'])
      have hlen : (uh (s.data.toList.take j)).length + 1 ≤ 140737488355328 := by
        have := uh_length (s.data.toList.take j)
        rw [List.length_take, Nat.min_eq_left (by omega)] at this
        omega
      have hB0 := s[j].toNat_lt
      have hB1 := s[j + 1].toNat_lt
      have HN0 := Lib.hid (rnibble_any s[j].toNat wr (by omega))
      have HN1 := Lib.hid (rnibble_any s[j + 1].toNat wr (by omega))
      have hF := nibV_lt s[j].toNat
      have hG := nibV_lt s[j + 1].toNat
      generalize nibV s[j].toNat = F at *
      generalize nibV s[j + 1].toNat = N at *
      obtain ⟨b, hb16⟩ : ∃ b, b = 16 * F + N := ⟨_, rfl⟩
      rw [← hb16] at hup
      have b256 : b < 256 := by omega
      have z1 : IntKind.i64.wrap (16 * (F : Int)) = 16 * (F : Int) := IntWalk.i64_in _ (by omega)
      have z2 : IntKind.i64.wrap (16 * (F : Int) + (N : Int)) = (b : Int) := by rw [IntWalk.i64_in _ (by omega)]; omega
      have z3 : IntKind.u8.wrap (b : Int) = (b : Int) := IntWalk.u8_in _ (by omega)
      have z4 : IntKind.i64.wrap ((j : Int) + 2) = (j : Int) + 2 := IntWalk.i64_in _ (by omega)
      have hz := Lib.hid (byte_ofNat b256)
      have HJ := Lib.hid hj
      clear hb16 hj he2
      go_wp2_with fail
      with_reducible refine HN0.out.mono ?_
      rintro e w3 ⟨rfl, hw3⟩
      rw [hw3]
      clear hw3
      go_wp2_with fail
      with_reducible refine HN1.out.mono ?_
      rintro e w3 ⟨rfl, hw3⟩
      rw [hw3]
      clear hw3
      go_wp2_with (at_builtin; go_loud (refine wpList_append_byte rfl (.tmp 32) (.tmp 38) 55 rfl 5 i0 Tryd.underlying55 hi hz0 hz1 hz2 _ w wr w.heap.size (uh (s.data.toList.take j)) hb hbe hsz rfl _ _ hz.out rfl hlen ?_; intro v2 w2 hb3 hbe3))
      go_roundw
      case rel =>
        have hjj := HJ.out
        refine ⟨k + 1, by omega, by simp; omega, ?_, hbe3⟩
        rw [show 2 * (k + 1) = j + 2 by omega, hup.out]; exact hb3
      case measure => simp [intOf]; omega
    · have p1 : decide ((j : Int) + 1 < (s.size : Int)) = false := decide_eq_false (by omega)
      have hU : uh (s.data.toList.take j) = uh s.data.toList := by
        rcases Nat.lt_or_ge j s.size with h | h
        · have hl' : j < s.data.toList.length := by rw [toList_size]; exact h
          rw [← uh_take_odd _ j hl' he2, List.take_of_length_le]; rw [toList_size]; omega
        · rw [List.take_of_length_le]; rw [toList_size]; exact h
      rw [hU] at hb
      have hcv := Lib.hid (hb.text (P := Tryd.prog) Tryd.underlying55 Tryd.underlying5 Tryd.underlying9)
      have hus : (bA (uh s.data.toList)).size ≤ s.size := by
        have := uh_length s.data.toList
        rw [toList_size] at this
        rw [bA_size]; omega
      have HX := Lib.hid (fun w => rtext_any (bA (uh s.data.toList)) w (by omega))
      rw [bytes_bA] at HX
      have HT2 := Lib.hid (fun (w2 : World) (hbq : Below wr.heap.size wr w2) => (hb.below hbq (Nat.le_refl _)).text (P := Tryd.prog) Tryd.underlying55 Tryd.underlying5 Tryd.underlying9)
      by_cases hok : hOK s.data.toList = true
      · have HR := Lib.hid (And.intro (hT_yes hok) (hC_yes hok))
        have heq : ((bA (hx (uh s.data.toList))).toList == s.toList) = true := by
          rw [text_eq, hx_uh _ hok, bA_of]; exact decide_eq_true rfl
        clear hok hus hU hb hj he2
        generalize bA (hx (uh s.data.toList)) = X at *
        generalize bA (uh s.data.toList) = Y at *
        go_wp2_with fail
        rw [hcv.out]
        go_wp2_with fail
        with_reducible refine (HX.out _).mono ?_
        rintro e w3 ⟨rfl, hbq⟩
        have hcv2 := Lib.hid (HT2.out _ hbq)
        have hbe3 := Lib.hid (hbe.trans (hbq.mono hsz))
        clear hbq
        go_wp2_with fail
        rw [hcv2.out]
        go_wp2
        go_ret2
        exact ⟨ret_read HR.out.1.symm HR.out.2.symm, hbe3.out⟩
      · have HR := Lib.hid (And.intro (hT_no hok) (hC_no hok))
        have heq : ((bA (hx (uh s.data.toList))).toList == s.toList) = false := by
          rw [text_eq]
          refine decide_eq_false (fun e => hok ((hOK_iff _).mpr ?_))
          have := congrArg (fun x : ByteArray => x.data.toList) e
          exact this
        clear hok hus hU hb hj he2
        generalize bA (hx (uh s.data.toList)) = X at *
        generalize bA (uh s.data.toList) = Y at *
        go_wp2_with fail
        rw [hcv.out]
        go_wp2_with fail
        with_reducible refine (HX.out _).mono ?_
        rintro e w3 ⟨rfl, hbq⟩
        have hbe3 := Lib.hid (hbe.trans (hbq.mono hsz))
        clear hbq
        go_wp2
        go_ret2
        exact ⟨ret_read HR.out.1.symm HR.out.2.symm, hbe3.out⟩
end Go.Proofs.YtjoafbapffdneaaDoor
