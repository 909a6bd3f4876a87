/- Sub, and the calls at a nil cursor. -/
import Derived.Test.YtikjckdeciagiaaCur3
namespace Go.Proofs.Ytikjckdeciagiaa
open Go Go.RowKit
set_option linter.unusedVariables false

theorem sub_any {b : Nat} {c : CS} {w : World} (h : CurT 53 w b c) (hc : c.ok) (n : Int) (hy : c.why n = 0) :
    Calls Try.prog 17 #[.pointer (some ⟨b, 0, none⟩), .int .i64 n] w fun e w' => ∃ b', e = .returned (.pointer (some ⟨b', 0, none⟩)) ∧ w.heap.size ≤ b' ∧ CurT 53 w' b' (c.sub n) ∧ CurT 53 w' b (c.take n) ∧ Only b w w' := by
  have hmf : ∀ (fn : Fn) (first cap : Array Value) (w : World), (Instr.makeFunc fn first cap).run Try.prog w = .ok (.func fn first cap) w := fun _ _ _ _ => rfl
  have HA := allows_any h hc n
  obtain ⟨y1, y2, y3⟩ := CS.why_zero hy
  obtain ⟨m, rfl⟩ := Int.eq_ofNat_of_zero_le y2
  have hm : c.at_ + m ≤ c.en := by have := hc.1; omega
  have HR := Lib.hid (take_yes hy)
  have HS := Lib.hid (sub_yes hy)
  rw [Int.toNat_natCast] at HR HS
  have hs : c.subIs (m : Int) = true := by unfold CS.subIs; simp [hy]
  rw [hs, allow_yes hy] at HA
  clear hy y1 y2 y3 hs
  go_enter Try.func17, Try.ntmps17
  go_wp2_with (first | ((with_reducible refine HA.mono ?_); rintro e w1 ⟨rfl, hq, ho⟩) | ((with_reducible refine (passCursor_any hq hc m hm).mono ?_); rintro e w2 ⟨rfl, hq1, hq2, ho2⟩) | go_in)
  go_ret
  exact ⟨_, rfl, ho.size, by rw [HS.out]; exact hq1, by rw [HR.out]; exact hq2, ho.trans ho2⟩

theorem sub_no {b : Nat} {c : CS} {w : World} (h : CurT 53 w b c) (hc : c.ok) (n : Int) (hy : ¬ c.why n = 0) :
    Calls Try.prog 17 #[.pointer (some ⟨b, 0, none⟩), .int .i64 n] w fun e w' => e = .returned (.pointer none) ∧ CurT 53 w' b (c.take n) ∧ Only b w w' := by
  have hmf : ∀ (fn : Fn) (first cap : Array Value) (w : World), (Instr.makeFunc fn first cap).run Try.prog w = .ok (.func fn first cap) w := fun _ _ _ _ => rfl
  have HA := allows_any h hc n
  have HR := Lib.hid (take_no hy)
  have hs : c.subIs n = false := by unfold CS.subIs; simp [hy]
  rw [hs] at HA
  clear hy hs
  go_enter Try.func17, Try.ntmps17
  go_wp2_with (first | ((with_reducible refine HA.mono ?_); rintro e w1 ⟨rfl, hq, ho⟩) | go_in)
  go_ret
  exact ⟨rfl, by rw [HR.out]; exact hq, ho⟩

theorem allows_nil (w : World) :
    Calls Try.prog 29 #[.pointer none, .int .i64 0] w fun e w' => e = .returned (.bool false) ∧ w' = w := by
  go_enter Try.func29, Try.ntmps29
  go_wp2_with (first | ((with_reducible refine (left_nil _).mono ?_); rintro e w1 ⟨rfl, rfl⟩) | ((with_reducible refine (err_nil _).mono ?_); rintro e w1 ⟨rfl, rfl⟩))
  go_ret
  exact ⟨rfl, rfl⟩

theorem take_nil (w : World) :
    Calls Try.prog 13 #[.pointer none, .int .i64 0] w fun e w' => e = .returned (.string ⟨#[]⟩) ∧ w' = w := by
  have hmf : ∀ (fn : Fn) (first cap : Array Value) (w : World), (Instr.makeFunc fn first cap).run Try.prog w = .ok (.func fn first cap) w := fun _ _ _ _ => rfl
  go_enter Try.func13, Try.ntmps13
  go_wp2_with (first | ((with_reducible refine (allows_nil _).mono ?_); rintro e w1 ⟨rfl, rfl⟩) | go_in)
  go_ret
  exact ⟨rfl, rfl⟩

theorem sub_nil (w : World) :
    Calls Try.prog 17 #[.pointer none, .int .i64 0] w fun e w' => e = .returned (.pointer none) ∧ w' = w := by
  have hmf : ∀ (fn : Fn) (first cap : Array Value) (w : World), (Instr.makeFunc fn first cap).run Try.prog w = .ok (.func fn first cap) w := fun _ _ _ _ => rfl
  go_enter Try.func17, Try.ntmps17
  go_wp2_with (first | ((with_reducible refine (allows_nil _).mono ?_); rintro e w1 ⟨rfl, rfl⟩) | go_in)
  go_ret
  exact ⟨rfl, rfl⟩

end Go.Proofs.Ytikjckdeciagiaa
