/- Package word's ReadHigh64. -/
import Derived.Test.YtjoafbapffdneaaDoorReadA
namespace Go.Proofs.YtjoafbapffdneaaDoor
open Go Go.RowKit
set_option linter.unusedVariables false

theorem takeS_sizes (c : CS) (n : Nat) (hc : c.ok) : (c.takeS n).size = n ∨ (c.takeS n).size = 0 := by
  by_cases hy : c.why n = 0
  · obtain ⟨_, _, y3⟩ := CS.why_zero hy
    have := hc.2.1
    rw [takeS_yes hy]; left; simp; omega
  · rw [takeS_no hy]; right; rfl

/-- A byte that is laid below those above it. -/
theorem or_byte_below (V b m : Nat) (hV : V * 256 ^ (m + 1) < 18446744073709551616) (hb : b < 256) (hm : m < 8) :
    bits .or .u64 ((V * 256 ^ (m + 1) : Nat) : Int) (IntKind.u64.wrap ((b : Int) * 2 ^ (8 * m))) = (((b + 256 * V) * 256 ^ m : Nat) : Int) := by
  have h1 : (256 : Nat) ^ m = 2 ^ (8 * m) := by rw [Nat.pow_mul]
  have h0 : (256 : Nat) ^ (m + 1) = 2 ^ (8 * (m + 1)) := by rw [Nat.pow_mul]
  have hlt : b * 256 ^ m < 256 ^ (m + 1) := by
    rw [Nat.pow_succ, Nat.mul_comm (256 ^ m)]
    exact Nat.mul_lt_mul_of_pos_right hb (Nat.pow_pos (by decide))
  have h2 : b * 256 ^ m < 18446744073709551616 := by
    have h3 : 256 ^ (m + 1) ≤ 256 ^ 8 := p256 (by omega)
    have h5 : 256 ^ 8 = 18446744073709551616 := by decide
    omega
  have h6 : ((b : Int) * 2 ^ (8 * m)) = ((b * 256 ^ m : Nat) : Int) := by rw [h1, Int.natCast_mul, Int.natCast_pow]; rfl
  have h8 : (b + 256 * V) * 256 ^ m = b * 256 ^ m + V * 256 ^ (m + 1) := by
    rw [Nat.add_mul, Nat.pow_succ, Nat.mul_comm 256 V, Nat.mul_assoc, Nat.mul_comm 256]
  rw [h6, IntWalk.u64_in _ (by omega), u64_or_nat _ _ hV h2, Nat.or_comm, h8]
  rw [h0] at hlt ⊢
  rw [or_shift _ _ _ hlt]

def RhRel (s : ByteArray) (W : World) (u i : Value) (wr : World) : Prop :=
  ∃ k m, k ≤ s.size ∧ i = .int .i64 (k : Nat) ∧ u = .int .u64 ((valL (s.data.toList.take k).reverse * 256 ^ (8 - k) : Nat) : Int) ∧ wr = W.drewN m

theorem readHigh64_any {b : Nat} {c : CS} {w : World} (h : CurT 72 w b c) (hc : c.ok) (ht : Tab w) (hg : 0 ≠ b) :
    Calls Tryd.prog 35 #[.pointer (some ⟨b, 0, none⟩)] w fun e w' => e = .returned (.int .u64 ((valL (c.takeS (8 : Nat)).data.toList.reverse : Nat) : Int)) ∧ CurT 72 w' b (c.take (8 : Nat)) ∧ Only b w w' := by
  have hT := Lib.hid (show Calls Tryd.prog 42 #[.pointer (some ⟨b, 0, none⟩), .int .i64 8] w fun e w' => e = .returned (.string (c.takeS (8 : Nat))) ∧ CurT 72 w' b (c.take (8 : Nat)) ∧ Only b w w' from take_any h hc (8 : Nat))
  have hs := takeS_size c 8 hc
  have hss := takeS_sizes c 8 hc
  have HT := Lib.hid ht
  generalize c.takeS (8 : Nat) = s at *
  clear ht
  go_enter Tryd.func35, Tryd.ntmps35
  go_wp2_with fail
  refine hT.out.mono ?_
  rintro e w1 ⟨rfl, hq, ho⟩
  have ht1 : Tab w1 := fun k hk => by
    have := ho.block 0 HT.out.lt hg
    rw [World.cell?_of_block (w := w) this]; exact HT.out k hk
  have HT1 := Lib.hid ht1
  clear ht1
  go_wp2_with fail
  go_loopw [4, 10] (fun u i wr => RhRel s w1 u i wr) (fun _ i _ => s.size - (intOf i).toNat)
  case atStart => exact ⟨0, 0, Nat.zero_le _, rfl, by simp [valL], rfl⟩
  case round =>
    obtain ⟨k, m, hk, rfl, rfl, rfl⟩ := hrel
    by_cases hlt : k < s.size
    · have p1 : decide ((k : Int) < s.size) = true := by simp; omega
      obtain ⟨j, hj⟩ : ∃ j, j + k = 7 := ⟨7 - k, by omega⟩
      have hw7 : IntKind.i64.wrap (7 - (k : Int)) = ((j : Nat) : Int) := by rw [IntWalk.i64_in _ (by omega)]; omega
      have hw8 : (7 - (k : Int)) = ((j : Nat) : Int) := by omega
      have hj8 : (j : Int) < 8 := by omega
      have hl : k < s.data.toList.length := by rw [toList_size]; exact hlt
      have hv : valL (s.data.toList.take (k + 1)).reverse = s[k].toNat + 256 * valL (s.data.toList.take k).reverse := by
        rw [List.take_succ_eq_append_getElem hl, List.reverse_append, byte_at s k hlt hl]; rfl
      have hV : valL (s.data.toList.take k).reverse * 256 ^ (j + 1) < 18446744073709551616 := by
        have h1 := valL_lt (s.data.toList.take k).reverse
        rw [List.length_reverse, List.length_take, Nat.min_eq_left (Nat.le_of_lt hl)] at h1
        have h2 := Nat.mul_lt_mul_of_pos_right h1 (show 0 < 256 ^ (j + 1) from Nat.pow_pos (by decide))
        rw [← Nat.pow_add, show k + (j + 1) = 8 by omega] at h2
        exact h2
      have hkj : 8 - k = j + 1 := by omega
      have HV := Lib.hid (show bits .or .u64 ((valL (s.data.toList.take k).reverse * 256 ^ (j + 1) : Nat) : Int) (IntKind.u64.wrap (IntKind.u64.wrap (s[k].toNat : Int) * 2 ^ (8 * j))) = ((valL (s.data.toList.take (k + 1)).reverse * 256 ^ (8 - (k + 1)) : Nat) : Int) by
        have hb := (s[k]).toNat_lt
        rw [hv, IntWalk.u64_in (s[k].toNat : Int) (by omega), show 8 - (k + 1) = j by omega]
        exact or_byte_below _ _ _ hV (by omega) (by omega))
      rw [hkj]
      clear hv hkj
      generalize hVV : valL (s.data.toList.take k).reverse * 256 ^ (j + 1) = V at *
      have hcell : w1.cell? ⟨0, j, none⟩ = some (.int .u64 (8 * (j : Int))) := HT1.out j (by omega)
      go_wp2
      go_quiet (fail)
      go_wp2
      go_roundw
      case rel => exact ⟨k + 1, m + nq, by omega, by go_num, by rw [HV.out], rfl⟩
      case measure => simp [intOf]; omega
    · have p1 : decide ((k : Int) < s.size) = false := by simp; omega
      have hkn : k = s.size := by omega
      subst hkn
      have hv : (s.data.toList.take s.size) = s.data.toList := List.take_of_length_le (by rw [toList_size]; exact Nat.le_refl _)
      have hend : valL (s.data.toList.take s.size).reverse * 256 ^ (8 - s.size) = valL s.data.toList.reverse := by
        rcases hss with h8 | h0
        · rw [hv, h8]; simp
        · have : s.data.toList = [] := List.eq_nil_of_length_eq_zero (by rw [toList_size]; exact h0)
          rw [this]; simp [valL]
      rw [hend]
      go_wp2
      go_ret
      exact ⟨rfl, hq.drewN m, ho.drewN m⟩

end Go.Proofs.YtjoafbapffdneaaDoor
