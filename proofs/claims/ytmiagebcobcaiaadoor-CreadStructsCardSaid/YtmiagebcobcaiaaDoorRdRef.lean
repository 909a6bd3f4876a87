/- The document's own readers (package truchmanref02): OfLow, ReadLow, ReadHigh. -/
import Derived.Test.YtmiagebcobcaiaaDoorLayC
import Derived.Test.YtmiagebcobcaiaaDoorRefA
import Derived.Deep.RegionWith
namespace Go.Proofs.YtmiagebcobcaiaaDoor
open Go Go.RowKit
set_option linter.unusedVariables false

theorem ret_num3 {k : IntKind} {a b : Int} (h : a = b) : Ending.returned (.int k a) = .returned (.int k b) := by rw [h]

def OfRel (s : ByteArray) (W : World) (u i : Value) (wr : World) : Prop :=
  ∃ j : Nat, j ≤ s.size ∧ i = .int .i64 ((j : Int) - 1) ∧ u = .int .u64 ((valL (s.data.toList.drop j) : Nat) : Int) ∧ wr = W

theorem ofLow_any (s : ByteArray) (w : World) (hs : s.size ≤ 8) :
    Calls Tryd.prog 60 #[.string s] w fun e w' => e = .returned (.int .u64 ((valL s.data.toList : Nat) : Int)) ∧ w' = w := by
  have e1 : IntKind.i64.wrap ((s.size : Int) - 1) = (s.size : Int) - 1 := IntWalk.i64_in _ (by omega)
  go_enter Tryd.func60, Tryd.ntmps60
  go_wp2_with fail
  go_loopw [3, 4] (fun u i wr => OfRel s w u i wr) (fun _ i _ => (intOf i + 1).toNat)
  case atStart => exact ⟨s.size, Nat.le_refl _, rfl, by rw [List.drop_of_length_le (by rw [toList_size]; exact Nat.le_refl _)]; rfl, rfl⟩
  case round =>
    obtain ⟨j, hj, rfl, rfl, rfl⟩ := hrel
    match j, hj with
    | 0, hj =>
      go_wp2
      go_ret
      exact ⟨rfl, rfl⟩
    | i + 1, hj =>
      have hij : ((i + 1 : Nat) : Int) - 1 = (i : Nat) := by omega
      have his : i < s.size := by omega
      have p1 : decide ((0 : Int) ≤ (i : Nat)) = true := by simp
      have hl : i < s.data.toList.length := by rw [toList_size]; exact his
      have hv := valL_drop s.data.toList i hl
      rw [byte_at s i his hl] at hv
      have hlt : valL (s.data.toList.drop (i + 1)) < 256 ^ 7 := by
        have := valL_lt (s.data.toList.drop (i + 1))
        rw [List.length_drop, toList_size] at this
        exact Nat.lt_of_lt_of_le this (p256 (by omega))
      have hb := (s[i]).toNat_lt
      have HV := Lib.hid hv
      clear hv
      generalize valL (s.data.toList.drop (i + 1)) = V at *
      have hV2 : 256 ^ 7 = 72057594037927936 := by decide
      rw [hV2] at hlt
      rw [hij]
      go_wp2
      go_roundw
      case rel => exact ⟨i, by omega, rfl, by rw [HV.out]; go_num, rfl⟩
      case measure => first | (simp [intOf]; done) | (simp [intOf]; omega)



def HiRel (s : ByteArray) (W : World) (u i : Value) (wr : World) : Prop :=
  ∃ k : Nat, k ≤ s.size ∧ i = .int .i64 (k : Nat) ∧ u = .int .u64 ((valL (s.data.toList.take k).reverse : Nat) : Int) ∧ wr = W


end Go.Proofs.YtmiagebcobcaiaaDoor
