/- The library's errors.as asked for a fault within a part; errors.As. -/
import Derived.Test.YtnnkpeafhjokjaaDoorFtAs
namespace Go.Proofs.YtnnkpeafhjokjaaDoor
open Go Go.RowKit Go.Extern.Stop Go.Stop Go.Extern
set_option linter.unusedVariables false

/-- The library's variable with the type 'error' stands as its text lays it. -/
def ErrT (w : World) : Prop := w.cell? ⟨0, 0, none⟩ = some (.iface 78 (.agg #[hT 26]))
theorem ErrT.below {w w' : World} (h : ErrT w) (hb : Below w.heap.size w w') : ErrT w' := (hb.cell (p := ⟨0, 0, none⟩) (cell_lt h)).trans h
theorem ErrT.only {b : Nat} {w w' : World} (h : ErrT w) (ho : Only b w w') (hb : b ≠ 0) : ErrT w' := by
  unfold ErrT
  rw [World.cell?_of_block (w := w) (ho.block 0 (cell_lt h) (Ne.symm hb))]; exact h

set_option maxHeartbeats 4000000 in
set_option maxRecDepth 100000 in
theorem asin_hit (p q : ByteArray) (e d : Value) (he : e.oneCell' = true) (t vb : Nat) (w : World) (hv : w.cell? ⟨vb, 0, none⟩ = some (.pointer (some ⟨t, 0, none⟩))) (ht : WithAt w t q d) :
    Calls Tryd.prog 27 #[eW p e, .iface 44 (.pointer (some ⟨t, 0, none⟩)), .agg #[hT 44, .pointer (some ⟨vb, 0, none⟩), .int .u64 150], .iface 78 (.agg #[hT 42])] w fun r w' => r = .returned (.bool true) ∧ WithAt w' t p e ∧ Only t w w' := by
  have f1 := @run_callFunc_extern Tryd.prog 32 _ ReflectliteType.typeOf Tryd.func32 (by kernel_rfl) (by kernel_rfl) (by kernel_rfl) (by kernel_rfl)
  have f2 := @run_callFunc_extern Tryd.prog 75 _ (ReflectliteType.relation "AssignableTo" ReflectliteType.assignableTo) Tryd.func75 (by kernel_rfl) (by kernel_rfl) (by kernel_rfl) (by kernel_rfl)
  have f3 := @run_callFunc_extern Tryd.prog 34 _ (ReflectliteValue.method (ReflectliteValue.valueError "reflectlite.Value.Elem" 0) ReflectliteValue.elem) Tryd.func34 (by kernel_rfl) (by kernel_rfl) (by kernel_rfl) (by kernel_rfl)
  have f4 := @run_callFunc_extern Tryd.prog 24 _ (fun args => ReflectliteValue.unpack (args.getD 0 (.tuple #[]))) Tryd.func24 (by kernel_rfl) (by kernel_rfl) (by kernel_rfl) (by kernel_rfl)
  have f5 := @run_callFunc_extern Tryd.prog 35 _ ReflectliteValue.set Tryd.func35 (by kernel_rfl) (by kernel_rfl) (by kernel_rfl) (by kernel_rfl)
  have g2 := typeOfW
  have g3 := mAssignableTo
  have g4 := assignWW
  have g6 := valueOfW
  obtain ⟨W, hW⟩ : ∃ W, W = w.alloc (.cells #[hT 44, .pointer (some ⟨vb, 0, none⟩), .int .u64 150] 62) := ⟨_, rfl⟩
  have hbW : Below w.heap.size w W := by rw [hW]; exact (Below.refl _ _).alloc (Nat.le_refl _) _
  have k0 : W.cell? ⟨w.heap.size, 0, none⟩ = some (hT 44) := by rw [hW]; simp
  have k1 : W.cell? ⟨w.heap.size, 1, none⟩ = some (.pointer (some ⟨vb, 0, none⟩)) := by rw [hW]; simp
  have k2 : W.cell? ⟨w.heap.size, 2, none⟩ = some (.int .u64 150) := by rw [hW]; simp
  have hvW : W.cell? ⟨vb, 0, none⟩ = some (.pointer (some ⟨t, 0, none⟩)) := (hbW.cell (p := ⟨vb, 0, none⟩) (cell_lt hv)).trans hv
  have htW := ht.below hbW ht.lt
  have el := elemVW ⟨vb, 0, none⟩ ⟨t, 0, none⟩ W hvW
  have qt : WithAt (W.alloc (.cells #[.string p, e] 42)) t q d := htW.below ((Below.refl W.heap.size _).alloc (Nat.le_refl _) _) htW.lt
  have st := setW t W.heap.size p e (.string q) d (W.alloc (.cells #[.string p, e] 42)) he (by simp) (by simp) qt.at0 (qt.fr 0) (qt.set0 p).at1 ((qt.set0 p).fr 1)
  have HE := Lib.hid ((qt.set0 p).set1 e)
  have HO := Lib.hid ((((Only.of_below (b := t) hbW).alloc (.cells #[.string p, e] 42)).setCell 0 (.string p)).setCell 1 e)
  have HW := Lib.hid hW
  clear hv ht hW hbW hvW htW qt
  unfold eW
  go_enter Tryd.func27, Tryd.ntmps27
  go_wp2
  rw [← HW.out]
  refine wp_loop_rounds 1 ?_
  rw [rounds_succ]
  go_wp2
  go_ret
  exact ⟨rfl, HE.out, HO.out⟩

set_option maxHeartbeats 4000000 in
set_option maxRecDepth 100000 in
theorem asin_miss (c : Int) (x : Value) (vb : Nat) (w : World) :
    Calls Tryd.prog 27 #[eB c, x, .agg #[hT 44, .pointer (some ⟨vb, 0, none⟩), .int .u64 150], .iface 78 (.agg #[hT 42])] w fun r w' => r = .returned (.bool false) ∧ Below w.heap.size w w' := by
  have f1 := @run_callFunc_extern Tryd.prog 32 _ ReflectliteType.typeOf Tryd.func32 (by kernel_rfl) (by kernel_rfl) (by kernel_rfl) (by kernel_rfl)
  have f2 := @run_callFunc_extern Tryd.prog 75 _ (ReflectliteType.relation "AssignableTo" ReflectliteType.assignableTo) Tryd.func75 (by kernel_rfl) (by kernel_rfl) (by kernel_rfl) (by kernel_rfl)
  have g2 := typeOfB
  have g3 := mAssignableTo
  have g4 := assignBW
  have n1 := noAsB
  have n2 := noUnwrapB
  have n3 := noUnwrapsB
  obtain ⟨W, hW⟩ : ∃ W, W = w.alloc (.cells #[hT 44, .pointer (some ⟨vb, 0, none⟩), .int .u64 150] 62) := ⟨_, rfl⟩
  have hbW : Below w.heap.size w W := by rw [hW]; exact (Below.refl _ _).alloc (Nat.le_refl _) _
  have HW := Lib.hid hW
  have HB := Lib.hid hbW
  clear hW hbW
  unfold eB
  go_enter Tryd.func27, Tryd.ntmps27
  go_wp2
  rw [← HW.out]
  refine wp_loop_rounds 1 ?_
  rw [rounds_succ]
  go_wp2
  go_ret
  exact ⟨rfl, HB.out⟩
end Go.Proofs.YtnnkpeafhjokjaaDoor
