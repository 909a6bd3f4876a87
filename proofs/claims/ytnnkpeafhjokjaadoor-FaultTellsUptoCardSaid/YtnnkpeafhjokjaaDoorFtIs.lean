/- The library's errors.is and errors.Is, asked of a fault within parts. -/
import Derived.Test.YtnnkpeafhjokjaaDoorFtAt
namespace Go.Proofs.YtnnkpeafhjokjaaDoor
open Go Go.RowKit Go.Extern.Stop Go.Stop Go.Extern
set_option linter.unusedVariables false

set_option maxHeartbeats 4000000 in
set_option maxRecDepth 100000 in
theorem isin_any (c d : Int) (ps : List ByteArray) (w : World) :
    Calls Tryd.prog 33 #[eV c ps, eB d, .bool true] w fun r w' => r = .returned (.bool (c == d)) ∧ Below w.heap.size w w' := by
  have g1 := eql_bare
  have g2 := eql_with
  have n0 := noIsW
  have n1 := noIsB
  have n2 := hasUnwrapW
  have n3 := mUnwrap
  have n4 := eql_nil_right
  have n5 := noUnwrapB
  have n6 := noUnwrapsB
  have hU := Lib.hid unwrap_any
  unfold eB
  go_enter Tryd.func33, Tryd.ntmps33
  go_wp2
  go_loopw [0, 6, 7, 8, 9] (fun e r a b x wr => AsRel c w e wr) (fun e _ _ _ _ _ => SizeOf.sizeOf e)
  case atStart => exact ⟨ps, rfl, Below.refl _ _⟩
  case round =>
    obtain ⟨qs, rfl, hbe⟩ := hrel
    cases qs with
    | nil =>
      have HB := Lib.hid hbe
      clear hbe
      rw [eV_nil]
      unfold eB
      by_cases h : c = d
      · have hcd : (c == d) = true := by simp [h]
        clear h

        go_wp2
        go_ret
        exact ⟨by rw [hcd]; rfl, HB.out⟩
      · have hcd : (c == d) = false := by simp [h]
        clear h

        go_wp2
        go_ret
        exact ⟨by rw [hcd]; rfl, HB.out⟩
    | cons p qs =>
      obtain ⟨ti, vi, hti⟩ := eV_iface c qs
      have hsz := Lib.hid (eW_size p (eV c qs))
      have hq := Lib.hid (show ∀ w1, Below wr.heap.size wr w1 → AsRel c w (eV c qs) w1 from fun w1 h1 => ⟨qs, rfl, hbe.trans (h1.mono hbe.size)⟩)
      clear hbe
      rw [eV_cons]
      unfold eW
      rw [hti]
      rw [hti] at hq hsz
      go_wp2_with (go_at_call 68; refine (hU.out _ _ _).mono ?_; rintro r w1 ⟨rfl, hb1⟩)
      go_roundw
      case rel => exact hq.out _ hb1
      case measure => exact hsz.out

set_option maxRecDepth 100000 in
theorem is_any (c d : Int) (ps : List ByteArray) (w : World) :
    Calls Tryd.prog 23 #[eV c ps, eB d] w fun r w' => r = .returned (.bool (c == d)) ∧ Below w.heap.size w w' := by
  have f1 := @run_callFunc_extern Tryd.prog 32 _ ReflectliteType.typeOf Tryd.func32 (by kernel_rfl) (by kernel_rfl) (by kernel_rfl) (by kernel_rfl)
  have f2 : ∀ w, (callFunc 76 #[.agg #[hT 46]]).run Tryd.prog w = .ok (.value (.bool true)) w := fun w => by
    rw [@run_callFunc_extern Tryd.prog 76 _ (ReflectliteType.method fun t => do Rtype.noPackHeld "Comparable" t; pure (.bool (← typeInfo t).comparable)) Tryd.func76 (by kernel_rfl) (by kernel_rfl) (by kernel_rfl) (by kernel_rfl), comparableB]; rfl
  have g1 := typeOfB
  have g2 := mComparable
  have n1 := eql_nil_right
  have HI := Lib.hid (isin_any c d ps w)
  obtain ⟨ti, vi, hti⟩ := eV_iface c ps
  rw [hti] at HI
  rw [hti]
  clear hti
  unfold eB at HI
  unfold eB
  generalize (c == d) = r at *
  go_enter Tryd.func23, Tryd.ntmps23
  go_wp2_with (go_at_call 33; refine HI.out.mono ?_; rintro r w1 ⟨rfl, h2⟩)
  go_ret
  exact ⟨rfl, h2⟩
theorem is_nil (c : Int) (ps : List ByteArray) (w : World) :
    Calls Tryd.prog 23 #[eV c ps, .nilIface] w fun r w' => r = .returned (.bool false) ∧ w' = w := by
  have n1 := eql_nil_right
  obtain ⟨ti, vi, hti⟩ := eV_iface c ps
  rw [hti]
  clear hti
  go_enter Tryd.func23, Tryd.ntmps23
  go_wp2
  go_ret
  exact ⟨rfl, rfl⟩
end Go.Proofs.YtnnkpeafhjokjaaDoor
