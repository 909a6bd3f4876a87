/- Package fault's New, In, Has, Of, Class, Path; the document's Class. -/
import Derived.Test.YtnnkpeafhjokjaaDoorFtAy
import Derived.Test.YtnnkpeafhjokjaaDoorFtIs
import Derived.Test.YtnnkpeafhjokjaaDoorFtM
namespace Go.Proofs.YtnnkpeafhjokjaaDoor
open Go Go.RowKit
set_option linter.unusedVariables false

theorem fnew_ok (w : World) : Calls Tryd.prog 16 #[.int .i64 0] w fun e w' => e = .returned .nilIface ∧ w' = w := by
  go_enter Tryd.func16, Tryd.ntmps16
  go_wp2
  go_ret
  exact ⟨rfl, rfl⟩
theorem fnew_any (c : Int) (hc : ¬ c = 0) (w : World) : Calls Tryd.prog 16 #[.int .i64 c] w fun e w' => e = .returned (eB c) ∧ w' = w := by
  have p : (c == 0) = false := by simp [hc]
  clear hc
  go_enter Tryd.func16, Tryd.ntmps16
  go_wp2
  go_ret
  exact ⟨rfl, rfl⟩
theorem fin_nil (p : ByteArray) (w : World) : Calls Tryd.prog 15 #[.string p, .nilIface] w fun e w' => e = .returned .nilIface ∧ w' = w := by
  go_enter Tryd.func15, Tryd.ntmps15
  go_wp2
  go_ret
  exact ⟨rfl, rfl⟩
theorem fin_any (p : ByteArray) (c : Int) (ps : List ByteArray) (w : World) : Calls Tryd.prog 15 #[.string p, eV c ps] w fun e w' => e = .returned (eV c (p :: ps)) ∧ w' = w := by
  have n := eql_nil_right
  rw [eV_cons]
  unfold eW
  obtain ⟨ti, vi, hti⟩ := eV_iface c ps
  rw [hti]
  clear hti
  go_enter Tryd.func15, Tryd.ntmps15
  go_wp2
  go_ret
  exact ⟨rfl, rfl⟩
theorem fof_nil (w : World) : Calls Tryd.prog 9 #[.nilIface] w fun e w' => e = .returned (.int .i64 0) ∧ Below w.heap.size w w' := by
  have hb := Lib.hid (show Below w.heap.size w (w.alloc (.cells #[.int .i64 0] 46)) from (Below.refl _ _).alloc (Nat.le_refl _) _)
  go_enter Tryd.func9, Tryd.ntmps9
  go_wp2_with (go_at_call 17; refine (as_nil _ _).mono ?_; rintro r w1 ⟨rfl, hw⟩; rw [hw]; clear hw)
  go_ret
  exact ⟨rfl, hb.out⟩
theorem fof_any (c : Int) (ps : List ByteArray) (w : World) (hg : ErrT w) : Calls Tryd.prog 9 #[eV c ps] w fun e w' => e = .returned (.int .i64 c) ∧ Below w.heap.size w w' := by
  obtain ⟨W, hW⟩ : ∃ W, W = w.alloc (.cells #[.int .i64 0] 46) := ⟨_, rfl⟩
  have hb : Below w.heap.size w W := by rw [hW]; exact (Below.refl _ _).alloc (Nat.le_refl _) _
  have hbare : BareAt W w.heap.size 0 := by rw [hW]; exact heap_alloc_new w _
  have HA := Lib.hid (as_bare c 0 ps w.heap.size W (hg.below hb) hbare)
  have HB := Lib.hid hb
  have HW := Lib.hid hW
  have hs := Lib.hid (show w.heap.size ≤ W.heap.size from hb.size)
  clear hg hW hb hbare
  go_enter Tryd.func9, Tryd.ntmps9
  go_wp2_with fail
  rw [← HW.out]
  refine HA.out.mono ?_
  rintro r w1 ⟨rfl, h1, h2⟩
  have c0 := h1.at0
  go_wp2
  go_ret
  exact ⟨rfl, HB.out.trans (h2.below (Nat.le_refl _) hs.out)⟩
theorem fhas_nil (d : Int) (w : World) : Calls Tryd.prog 12 #[.nilIface, .int .i64 d] w fun e w' => e = .returned (.bool false) ∧ w' = w := by
  go_enter Tryd.func12, Tryd.ntmps12
  go_wp2
  go_ret
  exact ⟨rfl, rfl⟩
theorem neq_nil_right (t : TypeId) (v : Value) (w : World) : (binOp .neq 26 (.iface t v) .nilIface).run Tryd.prog w = .ok (.bool true) w := by
  have h : ∀ d : Nat, (Op.equalIn (d + 1) 26 (.iface t v) .nilIface).run Tryd.prog w = .ok false w := fun d => by simp [Op.equalIn, run_underlying Tryd.underlying26]
  simp only [binOp]
  simp [Op.equal, Op.maxDepth, h 9999]
theorem fhas_any (c : Int) (hc : ¬ c = 0) (ps : List ByteArray) (d : Int) (w : World) : Calls Tryd.prog 12 #[eV c ps, .int .i64 d] w fun e w' => e = .returned (.bool (c == d)) ∧ Below w.heap.size w w' := by
  have n := neq_nil_right
  by_cases hd : d = 0
  · subst hd
    have hr := Lib.hid (show (c == 0) = false by simp [hc])
    have HN := Lib.hid fnew_ok
    have HI := Lib.hid (is_nil c ps)
    clear hc
    obtain ⟨ti, vi, hti⟩ := eV_iface c ps
    rw [hti] at HI
    rw [hti]
    clear hti
    go_enter Tryd.func12, Tryd.ntmps12
    go_wp2_with (first
      | (go_at_call 16; refine (HN.out _).mono ?_; rintro r w1 ⟨rfl, hw⟩; rw [hw]; clear hw)
      | (go_at_call 23; refine (HI.out _).mono ?_; rintro r w1 ⟨rfl, hw⟩; rw [hw]; clear hw))
    go_ret
    exact ⟨by rw [hr.out]; rfl, Below.refl _ _⟩
  · have HN := Lib.hid (fnew_any d hd)
    have HI := Lib.hid (is_any c d ps)
    clear hc hd
    obtain ⟨ti, vi, hti⟩ := eV_iface c ps
    rw [hti] at HI
    rw [hti]
    clear hti
    generalize (c == d) = r at *
    go_enter Tryd.func12, Tryd.ntmps12
    go_wp2_with (first
      | (go_at_call 16; refine (HN.out _).mono ?_; rintro r w1 ⟨rfl, hw⟩; rw [hw]; clear hw)
      | (go_at_call 23; refine (HI.out _).mono ?_; rintro r w1 ⟨rfl, h1⟩))
    go_ret
    exact ⟨rfl, h1⟩
end Go.Proofs.YtnnkpeafhjokjaaDoor
