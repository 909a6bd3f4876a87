/- The document's own hexa (package truchmanref04): Text, Read. -/
import Derived.Test.YteakcfgjjlocjaaDoorHRead
import Derived.Deep.QuietTactic
namespace Go.Proofs.YteakcfgjjlocjaaDoor
open Go Go.RowKit
set_option linter.unusedVariables false

def RTextRel (s : ByteArray) (W : World) (t i : Value) (wr : World) : Prop :=
  ∃ k : Nat, k ≤ s.size ∧ i = .int .i64 k ∧ t = .string (bA (hx (s.data.toList.take k))) ∧ Below W.heap.size W wr
theorem digit_cut (n : Nat) (h : n < 16) : (ByteArray.mk #[48, 49, 50, 51, 52, 53, 54, 55, 56, 57, 97, 98, 99, 100, 101, 102]).extract n (n + 1) = bA [hd n] := by
  have : ∀ m : Fin 16, (ByteArray.mk #[48, 49, 50, 51, 52, 53, 54, 55, 56, 57, 97, 98, 99, 100, 101, 102]).extract m.val (m.val + 1) = bA [hd m.val] := by decide +kernel
  exact this ⟨n, h⟩
theorem bA_nil : bA [] = ⟨#[]⟩ := rfl
set_option maxRecDepth 20000 in
theorem rtext_any (s : ByteArray) (w : World) (hs : s.size ≤ 140737488351232) :
    Calls Tryd.prog 28 #[.string s] w fun e w' => e = .returned (.string (bA (hx s.data.toList))) ∧ Below w.heap.size w w' := by
  go_enter Tryd.func28, Tryd.ntmps28
  go_wp2_with fail
  go_loopw [3, 4] (fun t i wr => RTextRel s w t i wr) (fun _ i _ => s.size - (intOf i).toNat)
  case atStart => exact ⟨0, Nat.zero_le _, rfl, rfl, Below.refl _ _⟩
  case round =>
    obtain ⟨k, hk, rfl, rfl, hbe⟩ := hrel
    by_cases hlt : k < s.size
    · have p1 : decide ((k : Int) < (s.size : Int)) = true := decide_eq_true (by omega)
      have hk0 : (0 : Int) ≤ (k : Int) := by omega
      have hk1 : (k : Int) < (s.size : Int) := by omega
      have h' : k < s.data.toList.length := by rw [toList_size]; exact hlt
      have HT := Lib.hid (show bA (hx (s.data.toList.take (k + 1))) = bA (hx (s.data.toList.take k)) ++ bA [hd (s[k].toNat / 16)] ++ bA [hd (s[k].toNat % 16)] by
        rw [hx_take _ k h', byte_at s k hlt h', bA_append, bA_append, List.append_assoc]; rfl)
      have hlen : (bA (hx (s.data.toList.take k))).size + 2 ≤ 9223372036854775807 := by
        rw [bA_size, hx_length, List.length_take, Nat.min_eq_left (by omega)]; omega
      have hB := s[k].toNat_lt
      obtain ⟨B, hBe⟩ : ∃ B, B = s[k].toNat := ⟨_, rfl⟩
      rw [← hBe] at HT hB
      obtain ⟨q, hq⟩ : ∃ q, q = B / 16 := ⟨_, rfl⟩
      obtain ⟨r, hr⟩ : ∃ r, r = B % 16 := ⟨_, rfl⟩
      rw [← hq, ← hr] at HT
      have m1 : (B : Int) / 16 = (q : Int) := by omega
      have m2 : (B : Int).tmod 16 = (r : Int) := by rw [Int.tmod_eq_emod_of_nonneg (by omega)]; omega
      have m3 : (B : Int).tdiv 16 = (q : Int) := by rw [Int.tdiv_eq_ediv_of_nonneg (by omega)]; omega
      have m4 : (B : Int) % 16 = (r : Int) := by omega
      have q16 : q < 16 := by omega
      have r16 : r < 16 := by omega
      have m5 : IntKind.u8.wrap (q : Int) = (q : Int) := IntWalk.u8_in _ (by omega)
      have m6 : IntKind.u8.wrap (r : Int) = (r : Int) := IntWalk.u8_in _ (by omega)
      have m7 : IntKind.u8.wrap ((q : Int) + 1) = (q : Int) + 1 := IntWalk.u8_in _ (by omega)
      have m8 : IntKind.u8.wrap ((r : Int) + 1) = (r : Int) + 1 := IntWalk.u8_in _ (by omega)
      have hBe' : (s[k].toNat : Int) = (B : Int) := by omega
      have iq0 : (0 : Int) ≤ (q : Int) := by omega
      have ir0 : (0 : Int) ≤ (r : Int) := by omega
      have iq1 : (q : Int) < 16 := by omega
      have ir1 : (r : Int) < 16 := by omega
      have dq := digit_cut q q16
      have dr := digit_cut r r16
      have sq : (bA [hd q]).size = 1 := rfl
      have sr : (bA [hd r]).size = 1 := rfl
      clear hq hr hBe
      generalize bA [hd q] = X at *
      generalize bA [hd r] = Y at *
      generalize bA (hx (s.data.toList.take k)) = T at *
      go_wp2
      go_quiet (fail)
      go_wp2
      go_roundw
      case rel => exact ⟨k + 1, by omega, by go_num, by rw [HT.out], Below.drewN hbe _⟩
      case measure => simp [intOf]; omega
    · have p1 : decide ((k : Int) < (s.size : Int)) = false := decide_eq_false (by omega)
      have hkn : k = s.size := by omega
      subst hkn
      have hall := Lib.hid (show s.data.toList.take s.size = s.data.toList by rw [List.take_of_length_le]; rw [toList_size]; exact Nat.le_refl _)
      go_wp2
      go_ret
      exact ⟨by rw [hall.out]; rfl, hbe⟩

theorem bytes_bA (l : List UInt8) : (bA l).data.toList = l := rfl
def RReadRel (t : TypeId) (W : World) (s : ByteArray) (v i : Value) (wr : World) : Prop :=
  ∃ k : Nat, 2 * k ≤ s.size ∧ i = .int .i64 ((2 * k : Nat) : Int) ∧ Bts t wr W.heap.size v (uh (s.data.toList.take (2 * k))) ∧ Below W.heap.size W wr
end Go.Proofs.YteakcfgjjlocjaaDoor
