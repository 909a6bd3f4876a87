/- Package varint's Put. -/
import Derived.Test.YtmcklfndnjagiaaDoorBts
import Derived.Test.YtmcklfndnjagiaaDoorVarRd
namespace Go.Proofs.YtmcklfndnjagiaaDoor
open Go Go.RowKit
set_option linter.unusedVariables false

def PutRel (t : TypeId) (W : World) (l : List UInt8) (u0 B : Nat) (u v : Value) (wr : World) : Prop :=
  ∃ (uk : Nat) (A : List UInt8), u = .int .u64 uk ∧ uk < 18446744073709551616 ∧ A ++ vB uk = vB u0 ∧ Bts t wr B v (l ++ A) ∧ Below B W wr ∧ B ≤ wr.heap.size

set_option maxRecDepth 10000 in
theorem vput_wide (a : Option Addr) (cap : Nat) (l : List UInt8) (u : Nat) (w : World) (hl : l.length ≤ 140737488354000) (hu : u < 18446744073709551616) (hin : BIn w a l) :
    Calls Tryd.prog 41 #[.slice a l.length cap, .int .u64 u] w fun e w' => ∃ v, e = .returned v ∧ Bts 5 w' w.heap.size v (l ++ vB u) ∧ Below w.heap.size w w' := by
  obtain ⟨i0, hi, hz0, hz1, hz2⟩ := info_parts info8
  have h10 := vB_le10 hu
  have hmk := Lib.hid (fun w => make_bytes l.length (vB u).length w (by omega))
  have hsz := Lib.hid (fun w => vsize_any u w hu)
  obtain ⟨w2, hcp0, hbt, hbel⟩ := copy_fact Tryd.prog 52 5 3 i0 Tryd.underlying52 size8 w a cap (vB u).length l hin (by unfold maxLen; omega)
  have hcp := Lib.hid hcp0
  have hA0 := Lib.hid (show [] ++ vB u = vB u from rfl)
  clear hin hcp0
  have hw : IntKind.i64.wrap ((l.length : Int) + (vB u).length) = (l.length : Int) + (vB u).length := IntWalk.i64_in _ (by omega)
  generalize (vB u).length = n at *
  go_enter Tryd.func41, Tryd.ntmps41
  go_wp2_with ((with_reducible refine (hsz.out _).mono ?_); rintro e w' ⟨rfl, hww⟩; rw [hww]; clear hww)
  rw [hmk.out]
  go_wp2_with fail
  rw [hcp.out]
  go_wp2_with fail
  go_loopw [1, 5] (fun u' v wr => PutRel 5 w l u w.heap.size u' v wr) (fun u' _ _ => (intOf u').toNat)
  case atStart => exact ⟨u, [], rfl, hu, rfl, by rw [List.append_nil]; exact hbt, hbel, hbel.size⟩
  case round =>
    obtain ⟨uk, A, rfl, hu2, hA, hb, hbe, hB⟩ := hrel
    have hA10 : A.length ≤ 10 := by
      have := congrArg List.length hA
      rw [List.length_append] at this
      have := vB_le10 hu
      omega
    by_cases hs : uk < 128
    · have p1 : decide ((128 : Int) ≤ (uk : Int)) = false := decide_eq_false (by omega)
      have hz := Lib.hid (show (uk : Int) = ((UInt8.ofNat uk).toNat : Int) by rw [toNat_ofNat8 (by omega)])
      have hend := Lib.hid (show (l ++ A) ++ [UInt8.ofNat uk] = l ++ vB u by rw [← hA, vB_small hs, List.append_assoc])
      go_wp2_with (at_builtin; refine wpList_append_byte rfl (.tmp 28) (.tmp 31) 52 rfl 5 i0 Tryd.underlying52 hi hz0 hz1 hz2 _ w wr w.heap.size (l ++ A) hb hbe hB rfl _ _ hz.out rfl (by rw [List.length_append]; omega) ?_; intro v2 w2 hb2 hbe2)
      go_ret
      exact ⟨_, rfl, by rw [← hend.out]; exact hb2, hbe2⟩
    · have p1 : decide ((128 : Int) ≤ (uk : Int)) = true := decide_eq_true (by omega)
      have hz := Lib.hid (show (uk : Int) % 128 + 128 = ((UInt8.ofNat (128 + uk % 128)).toNat : Int) by rw [toNat_ofNat8 (by omega)]; omega)
      have hend := Lib.hid (show (A ++ [UInt8.ofNat (128 + uk % 128)]) ++ vB (uk / 128) = vB u by rw [← hA, vB_great hs, List.append_assoc]; rfl)
      have hend2 := Lib.hid (List.append_assoc l A [UInt8.ofNat (128 + uk % 128)])
      go_wp2_with (at_builtin; go_loud (refine wpList_append_byte rfl (.tmp 19) (.tmp 24) 52 rfl 5 i0 Tryd.underlying52 hi hz0 hz1 hz2 _ w wr w.heap.size (l ++ A) hb hbe hB rfl _ _ hz.out rfl (by rw [List.length_append]; omega) ?_; intro v2 w2 hb2 hbe2))
      go_roundw
      case rel => exact ⟨uk / 128, A ++ [UInt8.ofNat (128 + uk % 128)], by go_num, by omega, hend.out, by rw [← hend2.out]; exact hb2, hbe2, hbe2.size⟩
      case measure => simp [intOf]; omega
theorem vput_any (a : Option Addr) (cap : Nat) (l : List UInt8) (u : Nat) (w : World) (hl : l.length ≤ 140737488351232) (hu : u < 18446744073709551616) (hin : BIn w a l) :
    Calls Tryd.prog 41 #[.slice a l.length cap, .int .u64 u] w fun e w' => ∃ v, e = .returned v ∧ Bts 5 w' w.heap.size v (l ++ vB u) ∧ Below w.heap.size w w' :=
  vput_wide a cap l u w (by omega) hu hin
end Go.Proofs.YtmcklfndnjagiaaDoor
