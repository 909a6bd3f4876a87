/- HexaReads, walked. -/
import Derived.Test.YtjifkfacngppoaaHWork
namespace Go.Proofs.Ytjifkfacngppoaa
open Go Go.RowKit
set_option linter.unusedVariables false

def HReadsRel (s : ByteArray) (W : World) (i : Value) (wr : World) : Prop := ∃ k : Nat, k ≤ s.size ∧ i = .int .i64 k ∧ wr = W
set_option maxRecDepth 20000 in
theorem hreads_any (s : ByteArray) (w : World) (hs : s.size ≤ 140737488351232) :
    Calls Try.prog 3 #[.string s] w fun e w' => e = .returned (.bool true) ∧ Below w.heap.size w w' := by
  have R1 := Lib.hid (fun w => hread_any s w hs)
  have R2 := Lib.hid (fun w => rread_any s w hs)
  go_enter Try.func3, Try.ntmps3
  generalize hT s = T at *
  generalize hC s = C at *
  go_wp2_with fail
  with_reducible refine (R1.out _).mono ?_
  rintro e w1 ⟨rfl, h1⟩
  go_wp2_with fail
  with_reducible refine (R2.out _).mono ?_
  rintro e w2 ⟨rfl, h2⟩
  have k2 := Lib.hid (grown_then h1 h2)
  clear h1 h2 R1 R2
  go_wp2_with fail
  go_loopw [7] (fun i wr => HReadsRel s w2 i wr) (fun i _ => s.size - (intOf i).toNat)
  case atStart => exact ⟨0, Nat.zero_le _, rfl, rfl⟩
  case round =>
    obtain ⟨k, hk, rfl, rfl⟩ := hrel
    by_cases hlt : k < s.size
    · have p1 : decide ((k : Int) < (s.size : Int)) = true := decide_eq_true (by omega)
      have hk0 : (0 : Int) ≤ (k : Int) := by omega
      have hk1 : (k : Int) < (s.size : Int) := by omega
      have hB := s[k].toNat_lt
      have N1 := Lib.hid (fun w => nibble_any s[k].toNat w (by omega))
      have N2 := Lib.hid (fun w => rnibble_any s[k].toNat w (by omega))
      generalize nibV s[k].toNat = V at *
      generalize nibIs s[k].toNat = I at *
      go_wp2_with fail
      with_reducible refine (N1.out _).mono ?_
      rintro e w3 ⟨rfl, hw3⟩
      rw [hw3]
      clear hw3
      go_wp2_with fail
      with_reducible refine (N2.out _).mono ?_
      rintro e w3 ⟨rfl, hw3⟩
      rw [hw3]
      clear hw3
      go_wp2
      go_roundw
      case rel => exact ⟨k + 1, by omega, by go_num, rfl⟩
      case measure => simp [intOf]; omega
    · have p1 : decide ((k : Int) < (s.size : Int)) = false := decide_eq_false (by omega)
      go_wp2_with fail
      with_reducible refine (works4_any _).mono ?_
      rintro e w3 ⟨rfl, h3⟩
      have k3 := Lib.hid (grown_then k2.out h3)
      clear h3
      go_wp2
      go_ret
      exact ⟨rfl, k3.out⟩
end Go.Proofs.Ytjifkfacngppoaa
