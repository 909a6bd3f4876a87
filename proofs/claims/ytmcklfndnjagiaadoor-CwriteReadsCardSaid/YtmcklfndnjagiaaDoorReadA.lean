/- Package word's readers: readLow, ReadLow32, ReadLow64, ReadHigh64. -/
import Derived.Test.YtmcklfndnjagiaaDoorLayC
import Derived.Test.YtmcklfndnjagiaaDoorCur4
namespace Go.Proofs.YtmcklfndnjagiaaDoor
open Go Go.RowKit
set_option linter.unusedVariables false

theorem ret_num2 {k : IntKind} {a b : Int} (h : a = b) : Ending.returned (.int k a) = .returned (.int k b) := by rw [h]

def RdRel (s : ByteArray) (W : World) (u i : Value) (wr : World) : Prop :=
  ∃ k m, k ≤ s.size ∧ i = .int .i64 (k : Nat) ∧ u = .int .u64 ((valL (s.data.toList.take k) : Nat) : Int) ∧ wr = W.drewN m

theorem takeS_size (c : CS) (n : Nat) (hc : c.ok) : (c.takeS n).size ≤ n := by
  by_cases hy : c.why n = 0
  · rw [takeS_yes hy]; simp; omega
  · rw [takeS_no hy]; simp [ByteArray.size]

theorem readLow_any {b : Nat} {c : CS} {w : World} (h : CurT 105 w b c) (hc : c.ok) (n : Nat) (hn : n ≤ 8) (ht : Tab w) (hg : 0 ≠ b) :
    Calls Tryd.prog 81 #[.pointer (some ⟨b, 0, none⟩), .int .i64 n] w fun e w' => e = .returned (.int .u64 ((valL (c.takeS n).data.toList : Nat) : Int)) ∧ CurT 105 w' b (c.take n) ∧ Only b w w' := by
  have hT := Lib.hid (take_any h hc n)
  have hs := takeS_size c n hc
  have HT := Lib.hid ht
  generalize c.takeS n = s at *
  clear ht
  go_enter Tryd.func81, Tryd.ntmps81
  go_wp2_with fail
  refine hT.out.mono ?_
  rintro e w1 ⟨rfl, hq, ho⟩
  have ht1 : Tab w1 := fun k hk => by
    have := ho.block 0 HT.out.lt hg
    rw [World.cell?_of_block (w := w) this]; exact HT.out k hk
  have HT1 := Lib.hid ht1
  clear ht1
  go_wp2_with fail
  go_loopw [6, 13] (fun u i wr => RdRel s w1 u i wr) (fun _ i _ => s.size - (intOf i).toNat)
  case atStart => exact ⟨0, 0, Nat.zero_le _, rfl, rfl, rfl⟩
  case round =>
    obtain ⟨k, m, hk, rfl, rfl, rfl⟩ := hrel
    by_cases hlt : k < s.size
    · have p1 : decide ((k : Int) < s.size) = true := by simp; omega
      have hk8 : (k : Int) < 8 := by omega
      have hl : k < s.data.toList.length := by rw [toList_size]; exact hlt
      have hv := valL_take s.data.toList k hl
      rw [byte_at s k hlt hl] at hv
      have hV : valL (s.data.toList.take k) < 256 ^ k := by
        have := valL_lt (s.data.toList.take k)
        rwa [List.length_take, Nat.min_eq_left (Nat.le_of_lt hl)] at this
      have HV := Lib.hid (show bits .or .u64 ((valL (s.data.toList.take k) : Nat) : Int) (IntKind.u64.wrap (IntKind.u64.wrap (s[k].toNat : Int) * 2 ^ (8 * k))) = ((valL (s.data.toList.take (k + 1)) : Nat) : Int) by
        have hb := (s[k]).toNat_lt
        rw [hv, IntWalk.u64_in (s[k].toNat : Int) (by omega)]
        exact or_byte _ _ _ hV (by omega) (by omega))
      clear hv hV
      have hcell : w1.cell? ⟨0, k, none⟩ = some (.int .u64 (8 * (k : Int))) := HT1.out k (by omega)
      go_wp2
      go_quiet (fail)
      go_wp2
      go_roundw
      case rel => exact ⟨k + 1, m + nq, by omega, by go_num, by rw [HV.out], rfl⟩
      case measure => simp [intOf]; omega
    · have p1 : decide ((k : Int) < s.size) = false := by simp; omega
      have hkn : k = s.size := by omega
      subst hkn
      go_wp2
      go_ret
      refine ⟨ret_num2 (by rw [List.take_of_length_le (by rw [toList_size]; exact Nat.le_refl _)]), hq.drewN m, ho.drewN m⟩


theorem readLow64_any {b : Nat} {c : CS} {w : World} (h : CurT 105 w b c) (hc : c.ok) (ht : Tab w) (hg : 0 ≠ b) :
    Calls Tryd.prog 66 #[.pointer (some ⟨b, 0, none⟩)] w fun e w' => e = .returned (.int .u64 ((valL (c.takeS (8 : Nat)).data.toList : Nat) : Int)) ∧ CurT 105 w' b (c.take (8 : Nat)) ∧ Only b w w' := by
  have hT := Lib.hid (show Calls Tryd.prog 81 #[.pointer (some ⟨b, 0, none⟩), .int .i64 8] w fun e w' => e = .returned (.int .u64 ((valL (c.takeS (8 : Nat)).data.toList : Nat) : Int)) ∧ CurT 105 w' b (c.take (8 : Nat)) ∧ Only b w w' from readLow_any h hc 8 (by omega) ht hg)
  go_enter Tryd.func66, Tryd.ntmps66
  go_wp2_with fail
  refine hT.out.mono ?_
  rintro e w1 ⟨rfl, hq, ho⟩
  go_wp2
  go_ret
  exact ⟨rfl, hq, ho⟩

end Go.Proofs.YtmcklfndnjagiaaDoor
