/- The calls of package cursor, each as a contract over the cursor's block. -/
import Derived.Test.YtmcklfndnjagiaaDoorRows
import Derived.Test.YtmcklfndnjagiaaDoorPlain
import Derived.Deep.QuietTactic
import Derived.BigQuiet
import Derived.Handy
import Derived.WalkSpells
import Derived.WalkLawsBesides
namespace Go.Proofs.YtmcklfndnjagiaaDoor
open Go Go.RowKit
set_option linter.unusedVariables false

theorem ret_int {k : IntKind} {a b : Int} (h : a = b) : Ending.returned (.int k a) = .returned (.int k b) := by rw [h]

theorem new_any (s : ByteArray) (w : World) (hs : s.size ≤ 9223372036854775807) :
    Calls Tryd.prog 56 #[.string s] w fun e w' => e = .returned (.pointer (some ⟨w.heap.size, 0, none⟩)) ∧ w' = w.alloc (.cells #[.string s, .int .i64 0, .int .i64 s.size, .int .i64 0] 105) := by
  go_enter Tryd.func56, Tryd.ntmps56
  go_wp2
  go_ret
  exact ⟨rfl, rfl⟩

theorem at_any {b : Nat} {c : CS} {w : World} (h : CurT 105 w b c) (hc : c.ok) :
    Calls Tryd.prog 33 #[.pointer (some ⟨b, 0, none⟩)] w fun e w' => e = .returned (.int .i64 c.at_) ∧ w' = w := by
  have h1 := h.c1
  go_enter Tryd.func33, Tryd.ntmps33
  go_wp2
  go_ret
  exact ⟨rfl, rfl⟩

theorem err_any {b : Nat} {c : CS} {w : World} (h : CurT 105 w b c) :
    Calls Tryd.prog 32 #[.pointer (some ⟨b, 0, none⟩)] w fun e w' => e = .returned (.int .i64 c.er) ∧ w' = w := by
  have h1 := h.c3
  go_enter Tryd.func32, Tryd.ntmps32
  go_wp2
  go_ret
  exact ⟨rfl, rfl⟩

theorem err_nil (w : World) :
    Calls Tryd.prog 32 #[.pointer none] w fun e w' => e = .returned (.int .i64 9) ∧ w' = w := by
  go_enter Tryd.func32, Tryd.ntmps32
  go_wp2
  go_ret
  exact ⟨rfl, rfl⟩

theorem left_nil (w : World) :
    Calls Tryd.prog 82 #[.pointer none] w fun e w' => e = .returned (.int .i64 0) ∧ w' = w := by
  go_enter Tryd.func82, Tryd.ntmps82
  go_wp2
  go_ret
  exact ⟨rfl, rfl⟩

theorem left_any {b : Nat} {c : CS} {w : World} (h : CurT 105 w b c) (hc : c.ok) :
    Calls Tryd.prog 82 #[.pointer (some ⟨b, 0, none⟩)] w fun e w' => e = .returned (.int .i64 ((c.en : Int) - c.at_)) ∧ ∃ n, w' = w.drewN n := by
  obtain ⟨k1, k2, k3⟩ := hc
  have h1 := h.c1
  have h2 := h.c2
  have hw : IntKind.i64.wrap ((c.en : Int) - c.at_) = (c.en : Int) - c.at_ := IntWalk.i64_in _ (by omega)
  go_enter Tryd.func82, Tryd.ntmps82
  go_wp2
  go_quiet (fail)
  go_wp2
  go_ret
  exact ⟨rfl, _, rfl⟩

theorem fail_any {b : Nat} {c : CS} {w : World} (h : CurT 105 w b c) (k : Int) :
    Calls Tryd.prog 57 #[.pointer (some ⟨b, 0, none⟩), .int .i64 k] w fun e w' => e = .returned (.tuple #[]) ∧ CurT 105 w' b (c.fail k) ∧ Only b w w' := by
  have h3 := h.c3
  have f3 := h.fr 3
  by_cases h0 : c.er = 0
  · have hb : (c.er == 0) = true := by simp [h0]
    have HR := Lib.hid (show CurT 105 (w.setCell ⟨b, 3, none⟩ (.int .i64 k)) b (c.fail k) from by unfold CS.fail; rw [if_pos h0]; exact h.setEr k)
    clear h0
    go_enter Tryd.func57, Tryd.ntmps57
    go_wp2_with ((with_reducible refine (err_any h).mono ?_); rintro e w' ⟨rfl, rfl⟩)
    go_end0
    exact ⟨rfl, HR.out, (Only.refl _ _).setCell _ _⟩
  · have hb : (c.er == 0) = false := by simp [h0]
    have HR := Lib.hid (show CurT 105 w b (c.fail k) from by unfold CS.fail; rw [if_neg h0]; exact h)
    clear h0
    go_enter Tryd.func57, Tryd.ntmps57
    go_wp2_with ((with_reducible refine (err_any h).mono ?_); rintro e w' ⟨rfl, rfl⟩)
    go_end0
    exact ⟨rfl, HR.out, Only.refl _ _⟩

theorem fail_nil (w : World) (k : Int) :
    Calls Tryd.prog 57 #[.pointer none, .int .i64 k] w fun e w' => e = .returned (.tuple #[]) ∧ w' = w := by
  go_enter Tryd.func57, Tryd.ntmps57
  go_wp2_with ((with_reducible refine (err_nil _).mono ?_); rintro e w' ⟨rfl, rfl⟩)
  go_end0
  exact ⟨rfl, rfl⟩

end Go.Proofs.YtmcklfndnjagiaaDoor
