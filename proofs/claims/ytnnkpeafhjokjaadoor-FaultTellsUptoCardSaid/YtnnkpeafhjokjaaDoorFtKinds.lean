/- FaultKinds, walked. -/
import Derived.Test.YtnnkpeafhjokjaaDoorFtD
namespace Go.Proofs.YtnnkpeafhjokjaaDoor
open Go Go.RowKit
set_option linter.unusedVariables false

theorem LW.works {w0 w : World} (h : LW w0 w) : Calls Tryd.prog 6 #[] w fun e w' => e = .returned (.bool true) ∧ Below w0.heap.size w0 w' :=
  (works9_any w h.err h.pow).mono fun e w' ⟨he, hb⟩ => ⟨he, h.grown.trans (hb.mono h.grown.size)⟩
set_option maxRecDepth 100000 in
set_option maxHeartbeats 2000000 in
theorem fkinds_walk (c : Int) (nz q : Bool) (hnz : Hid ((c != 0) = nz)) (d : Int) (hq : Hid ((c == d) = q)) (v E : Value) (n : Int) (hn : Hid (decide (30 < n) = false)) (w : World) (hX0 : Hid (LW w w))
    (k : Int) (a : Option Addr) (len cap : Nat) (hlen : Hid ((len : Int) = n))
    (KM : Hid (∀ w', Below w.heap.size w w' → Calls Tryd.prog 7 #[.int .i64 c, .slice a len cap] w' fun e w'' => e = .returned E ∧ w'' = w'))
    (KH : Hid (∀ w, Calls Tryd.prog 12 #[E, .int .i64 d] w fun e w' => e = .returned (.bool (nz && q)) ∧ Below w.heap.size w w'))
    (KN : Hid (∀ w, Calls Tryd.prog 12 #[.nilIface, .int .i64 c] w fun e w' => e = .returned (.bool false) ∧ w' = w))
    (KC : Hid (∀ w, Calls Tryd.prog 13 #[.int .i64 c] w fun e w' => e = .returned (.int .i64 k) ∧ w' = w))
    (KR : Hid (∀ w, Calls Tryd.prog 14 #[.int .i64 c] w fun e w' => e = .returned (.int .i64 k) ∧ w' = w)) :
    Calls Tryd.prog 4 #[.int .i64 c, .slice a len cap, .int .i64 d] w fun e w' => e = .returned (.bool true) ∧ Below w.heap.size w w' := by
  have p1 : decide (30 < (len : Int)) = false := by rw [hlen.out]; exact hn.out
  have p2 := hnz.out
  have p3 := hq.out
  have hX := hX0
  cases nz
  · go_enter Tryd.func4, Tryd.ntmps4
    go_wp2_with (first
      | (go_at_call 7; with_reducible refine (KM.out _ hX.out.grown).mono ?_; rintro r w1 ⟨rfl, hw⟩; rw [hw]; clear hw)
      | (go_at_call 12; (first | (with_reducible refine (KH.out _).mono ?_; rintro r w1 ⟨rfl, hb⟩; replace hX := Lib.hid (hX.out.next hb); clear hb) | (with_reducible refine (KN.out _).mono ?_; rintro r w1 ⟨rfl, hw⟩; rw [hw]; clear hw)))
      | (go_at_call 13; with_reducible refine (KC.out _).mono ?_; rintro r w1 ⟨rfl, hw⟩; rw [hw]; clear hw)
      | (go_at_call 14; with_reducible refine (KR.out _).mono ?_; rintro r w1 ⟨rfl, hw⟩; rw [hw]; clear hw)
      | (go_at_call 6; with_reducible refine hX.out.works.mono ?_; rintro r w1 ⟨rfl, hb⟩))
    go_ret
    exact ⟨rfl, hb⟩
  · cases q
    all_goals (
      go_enter Tryd.func4, Tryd.ntmps4
      go_wp2_with (first
        | (go_at_call 7; with_reducible refine (KM.out _ hX.out.grown).mono ?_; rintro r w1 ⟨rfl, hw⟩; rw [hw]; clear hw)
        | (go_at_call 12; (first | (with_reducible refine (KH.out _).mono ?_; rintro r w1 ⟨rfl, hb⟩; replace hX := Lib.hid (hX.out.next hb); clear hb) | (with_reducible refine (KN.out _).mono ?_; rintro r w1 ⟨rfl, hw⟩; rw [hw]; clear hw)))
        | (go_at_call 13; with_reducible refine (KC.out _).mono ?_; rintro r w1 ⟨rfl, hw⟩; rw [hw]; clear hw)
        | (go_at_call 14; with_reducible refine (KR.out _).mono ?_; rintro r w1 ⟨rfl, hw⟩; rw [hw]; clear hw)
        | (go_at_call 6; with_reducible refine hX.out.works.mono ?_; rintro r w1 ⟨rfl, hb⟩))
      go_ret
      exact ⟨rfl, hb⟩)
theorem fkinds_many (c d : Int) (a : Option Addr) (len cap : Nat) (h : 30 < len) (w : World) (hX : Hid (LW w w)) :
    Calls Tryd.prog 4 #[.int .i64 c, .slice a len cap, .int .i64 d] w fun e w' => e = .returned (.bool true) ∧ Below w.heap.size w w' := by
  have p1 : decide (30 < (len : Int)) = true := decide_eq_true (by omega)
  clear h
  go_enter Tryd.func4, Tryd.ntmps4
  go_wp2_with (go_at_call 6; with_reducible refine hX.out.works.mono ?_; rintro r w1 ⟨rfl, hb⟩)
  go_ret
  exact ⟨rfl, hb⟩
theorem fhas_mk (c : Int) (ps : List ByteArray) (d : Int) (w : World) : Calls Tryd.prog 12 #[mkV c ps, .int .i64 d] w fun e w' => e = .returned (.bool ((c != 0) && (c == d))) ∧ Below w.heap.size w w' := by
  unfold mkV
  by_cases h : c = 0
  · rw [if_pos h]
    subst h
    exact (fhas_nil d w).mono fun e w' ⟨he, hw⟩ => ⟨he, by rw [hw]; exact Below.refl _ _⟩
  · rw [if_neg h, show (c != 0) = true by simp [h], Bool.true_and]
    exact fhas_any c h ps d w
theorem fkinds_any (c : Int) (a : Option Addr) (cap : Nat) (ps : List ByteArray) (d : Int) (w : World) (hin : SIn w a ps) (hg : ErrT w) (hp : P10 w) :
    Calls Tryd.prog 4 #[.int .i64 c, .slice a ps.length cap, .int .i64 d] w fun e w' => e = .returned (.bool true) ∧ Below w.heap.size w w' := by
  have hX := Lib.hid (LW.mk (Below.refl w.heap.size w) hg hp)
  by_cases h : 30 < ps.length
  · exact fkinds_many c d a ps.length cap h w hX
  · exact fkinds_walk c (c != 0) (c == d) (Lib.hid rfl) d (Lib.hid rfl) .nilIface (mkV c ps) ps.length (Lib.hid (decide_eq_false (by omega))) w hX (clsI c) a ps.length cap (Lib.hid rfl)
      (Lib.hid fun w' hb => made_any c a cap ps w' (hin.below hb) (by omega)) (Lib.hid (fhas_mk c ps d)) (Lib.hid (fhas_nil c)) (Lib.hid (fclass_any c)) (Lib.hid (rclass_any c))
theorem fkinds_t (c : Int) (a : Option Addr) (cap : Nat) (ps : List ByteArray) (d : Int) (w : World) (_ : -9223372036854775808 ≤ c) (_ : c ≤ 9223372036854775807) (hin : SIn w a ps) (_ : -9223372036854775808 ≤ d) (_ : d ≤ 9223372036854775807) (hg : ErrT w) (hp : P10 w) :
    Calls Tryd.prog 4 #[.int .i64 c, .slice a ps.length cap, .int .i64 d] w fun e w' => e = .returned (.bool true) ∧ Below w.heap.size w w' := fkinds_any c a cap ps d w hin hg hp
end Go.Proofs.YtnnkpeafhjokjaaDoor
