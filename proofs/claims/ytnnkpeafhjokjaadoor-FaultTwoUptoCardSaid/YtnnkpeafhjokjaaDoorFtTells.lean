/- FaultTells, walked. -/
import Derived.Test.YtnnkpeafhjokjaaDoorFtKinds
import Derived.Deep.QuietTactic
import Derived.BigQuiet
namespace Go.Proofs.YtnnkpeafhjokjaaDoor
open Go Go.RowKit
set_option linter.unusedVariables false

theorem ftells_many (c : Int) (a : Option Addr) (len cap : Nat) (h : 30 < len) (w : World) (hX : Hid (LW w w)) :
    Calls Tryd.prog 3 #[.int .i64 c, .slice a len cap] w fun e w' => e = .returned (.bool true) ∧ Below w.heap.size w w' := by
  have p1 : decide (30 < (len : Int)) = true := decide_eq_true (by omega)
  clear h
  go_enter Tryd.func3, Tryd.ntmps3
  go_wp2_with (go_at_call 6; with_reducible refine hX.out.works.mono ?_; rintro r w1 ⟨rfl, hb⟩)
  go_ret
  exact ⟨rfl, hb⟩
set_option maxRecDepth 100000 in
theorem ftells_ok (a : Option Addr) (len cap : Nat) (h : ¬ 30 < len) (w : World) (hX0 : Hid (LW w w)) (KM : Hid (∀ w', Below w.heap.size w w' → Calls Tryd.prog 7 #[.int .i64 0, .slice a len cap] w' fun e w'' => e = .returned .nilIface ∧ w'' = w')) :
    Calls Tryd.prog 3 #[.int .i64 0, .slice a len cap] w fun e w' => e = .returned (.bool true) ∧ Below w.heap.size w w' := by
  have p1 : decide (30 < (len : Int)) = false := decide_eq_false (by omega)
  have hX := hX0
  have K1 := Lib.hid fpath_nil
  have K2 := Lib.hid fof_nil
  have K3 := Lib.hid ftext_nil
  clear h
  go_enter Tryd.func3, Tryd.ntmps3
  go_wp2_with (first
    | (go_at_call 7; with_reducible refine (KM.out _ hX.out.grown).mono ?_; rintro r w1 ⟨rfl, hw⟩; rw [hw]; clear hw)
    | (go_at_call 8; with_reducible refine (K1.out _).mono ?_; rintro r w1 ⟨rfl, hb⟩; replace hX := Lib.hid (hX.out.next hb); clear hb)
    | (go_at_call 9; with_reducible refine (K2.out _).mono ?_; rintro r w1 ⟨rfl, hb⟩; replace hX := Lib.hid (hX.out.next hb); clear hb)
    | (go_at_call 10; with_reducible refine (K3.out _).mono ?_; rintro r w1 ⟨rfl, hw⟩; rw [hw]; clear hw)
    | (go_at_call 6; with_reducible refine hX.out.works.mono ?_; rintro r w1 ⟨rfl, hb⟩))
  go_ret
  exact ⟨rfl, hb⟩
def TellsRel (n : Nat) (W : World) (i : Value) (wr : World) : Prop := ∃ k : Nat, k ≤ n ∧ i = .int .i64 k ∧ Below W.heap.size W wr
set_option maxRecDepth 100000 in
set_option maxHeartbeats 4000000 in
theorem ftells_walk (c : Int) (hc : (c == 0) = false) (ps : List ByteArray) (a : Option Addr) (cap : Nat) (h : ¬ 30 < ps.length) (ti : TypeId) (vi : Value) (T : ByteArray) (w : World) (hX0 : Hid (LW w w)) (hin : Hid (SIn w a ps))
    (KM : Hid (∀ w', Below w.heap.size w w' → Calls Tryd.prog 7 #[.int .i64 c, .slice a ps.length cap] w' fun e w'' => e = .returned (.iface ti vi) ∧ w'' = w'))
    (K1 : Hid (∀ w, ErrT w → Calls Tryd.prog 8 #[.iface ti vi] w fun e w' => ∃ v, e = .returned v ∧ SBts w' (w.heap.size + 1) v ps ∧ Below w.heap.size w w'))
    (K2 : Hid (∀ w, ErrT w → Calls Tryd.prog 9 #[.iface ti vi] w fun e w' => e = .returned (.int .i64 c) ∧ Below w.heap.size w w'))
    (K3 : Hid (∀ w, ErrT w → P10 w → Calls Tryd.prog 10 #[.iface ti vi] w fun e w' => e = .returned (.string T) ∧ Below w.heap.size w w'))
    (K4 : Hid (∀ w', Below w.heap.size w w' → Calls Tryd.prog 11 #[.int .i64 c, .slice a ps.length cap] w' fun e w'' => e = .returned (.string T) ∧ w'' = w')) :
    Calls Tryd.prog 3 #[.int .i64 c, .slice a ps.length cap] w fun e w' => e = .returned (.bool true) ∧ Below w.heap.size w w' := by
  have p1 : decide (30 < (ps.length : Int)) = false := decide_eq_false (by omega)
  have p2 : (c == c) = true := by simp
  have p3 : (T.toList == T.toList) = true := by simp
  have nn := neq_nil_right
  have hL := Lib.hid h
  clear h
  go_enter Tryd.func3, Tryd.ntmps3
  go_wp2_with (go_at_call 7; with_reducible refine (KM.out _ hX0.out.grown).mono ?_; rintro r w1 ⟨rfl, hw⟩; rw [hw]; clear hw)
  refine (K1.out _ hX0.out.err).mono ?_
  rintro r w1 ⟨v, rfl, hv, hb⟩
  obtain ⟨a1, cap1, rfl, hin1⟩ := hv.inn
  have HI1 := Lib.hid hin1
  have HI := Lib.hid (hin.out.below hb)
  have hX := Lib.hid (hX0.out.next hb)
  clear hv hb hin1
  go_wp2_with fail
  go_loopw [4, 7] (fun r i wr => TellsRel ps.length w1 i wr) (fun _ i _ => ps.length - (intOf i).toNat)
  case atStart => exact ⟨0, Nat.zero_le _, rfl, Below.refl _ _⟩
  case round =>
    obtain ⟨k, hk, rfl, hbe⟩ := hrel
    by_cases hlt : k < ps.length
    · obtain ⟨g, off, ha, hgl, hcl⟩ := HI.out.below hbe k hlt
      obtain ⟨g1, off1, ha1, hgl1, hcl1⟩ := HI1.out.below hbe k hlt
      subst ha ha1
      have q1 : decide ((k : Int) < (ps.length : Int)) = true := decide_eq_true (by omega)
      have i0 : (0 : Int) ≤ (k : Int) := by omega
      have i1 : (k : Int) < (ps.length : Int) := by omega
      have wk : IntKind.i64.wrap ((k : Int) + 1) = (k : Int) + 1 := i64_small (by have := hL.out; omega) (by have := hL.out; omega)
      have q2 : (ps[k].toList == ps[k].toList) = true := by simp
      have HE := Lib.hid hbe
      have HK := Lib.hid hlt
      generalize ps[k] = P at *
      clear hlt hbe hgl hgl1
      go_wp2_with fail
      go_quiet (fail)
      go_wp2
      go_roundw
      case rel => exact ⟨k + 1, by have := HK.out; omega, by go_num, Below.drewN HE.out _⟩
      case measure => simp [intOf]; have := HK.out; omega
    · have hke : k = ps.length := by omega
      subst hke
      have q1 : decide ((ps.length : Int) < (ps.length : Int)) = false := by simp
      have hX3 := Lib.hid (hX.out.next hbe)
      have HY := hX3
      clear hlt hbe
      go_wp2_with (first
        | (go_at_call 9; with_reducible refine (K2.out _ HY.out.err).mono ?_; rintro r w4 ⟨rfl, hb⟩; replace HY := Lib.hid (HY.out.next hb); clear hb)
        | (go_at_call 10; with_reducible refine (K3.out _ HY.out.err HY.out.pow).mono ?_; rintro r w4 ⟨rfl, hb⟩; replace HY := Lib.hid (HY.out.next hb); clear hb)
        | (go_at_call 11; with_reducible refine (K4.out _ HY.out.grown).mono ?_; rintro r w4 ⟨rfl, hw⟩; rw [hw]; clear hw)
        | (go_at_call 6; with_reducible refine HY.out.works.mono ?_; rintro r w4 ⟨rfl, hb⟩))
      go_ret
      exact ⟨rfl, hb⟩
theorem ftells_any (c : Int) (h0 : -9223372036854775808 ≤ c) (h1 : c ≤ 9223372036854775807) (a : Option Addr) (cap : Nat) (ps : List ByteArray) (hlen : (fpre ps).length ≤ 100000000000000) (w : World) (hin : SIn w a ps) (hg : ErrT w) (hp : P10 w) :
    Calls Tryd.prog 3 #[.int .i64 c, .slice a ps.length cap] w fun e w' => e = .returned (.bool true) ∧ Below w.heap.size w w' := by
  have hX := Lib.hid (LW.mk (Below.refl w.heap.size w) hg hp)
  by_cases h : 30 < ps.length
  · exact ftells_many c a ps.length cap h w hX
  · have KM := fun w' (hb : Below w.heap.size w w') => made_any c a cap ps w' (hin.below hb) (by omega)
    unfold mkV at KM
    by_cases hc : c = 0
    · subst hc
      rw [if_pos rfl] at KM
      exact ftells_ok a ps.length cap h w hX (Lib.hid KM)
    · rw [if_neg hc] at KM
      have K1 := fun w h1 => fpath_any c ps w h1 (by omega)
      have K2 := fof_any c ps
      have K3 := fun w hg hp => ftext_any c ps w h0 h1 hg hp (by omega) hlen
      obtain ⟨ti, vi, hti⟩ := eV_iface c ps
      rw [hti] at KM K1 K2 K3
      exact ftells_walk c (by simp [hc]) ps a cap h ti vi (bA (ftx c ps)) w hX (Lib.hid hin) (Lib.hid KM) (Lib.hid K1) (Lib.hid K2) (Lib.hid K3) (Lib.hid fun w' hb => rftext_any c hc h0 h1 a cap ps w' (hin.below hb) (by omega) hlen)
theorem ftells_t (c : Int) (a : Option Addr) (cap : Nat) (ps : List ByteArray) (w : World) (h0 : -9223372036854775808 ≤ c) (h1 : c ≤ 9223372036854775807) (hin : SIn w a ps) (hlen : (fpre ps).length ≤ 2097152) (hg : ErrT w) (hp : P10 w) :
    Calls Tryd.prog 3 #[.int .i64 c, .slice a ps.length cap] w fun e w' => e = .returned (.bool true) ∧ Below w.heap.size w w' := ftells_any c h0 h1 a cap ps (by omega) w hin hg hp
end Go.Proofs.YtnnkpeafhjokjaaDoor
