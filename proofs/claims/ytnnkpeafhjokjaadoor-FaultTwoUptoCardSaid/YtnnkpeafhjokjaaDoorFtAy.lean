/- The library's errors.As, asked for a fault within a part. -/
import Derived.Test.YtnnkpeafhjokjaaDoorFtAz
namespace Go.Proofs.YtnnkpeafhjokjaaDoor
open Go Go.RowKit Go.Extern.Stop Go.Stop Go.Extern
set_option linter.unusedVariables false

set_option maxHeartbeats 4000000 in
set_option maxRecDepth 100000 in
theorem as_hit (p q : ByteArray) (e d : Value) (he : e.oneCell' = true) (t : Nat) (w : World) (hg : ErrT w) (ht : WithAt w t q d) :
    Calls Tryd.prog 17 #[eW p e, .iface 44 (.pointer (some ⟨t, 0, none⟩))] w fun r w' => r = .returned (.bool true) ∧ WithAt w' t p e ∧ Only t w w' := by
  have f1 := @run_callFunc_extern Tryd.prog 24 _ (fun args => ReflectliteValue.unpack (args.getD 0 (.tuple #[]))) Tryd.func24 (by kernel_rfl) (by kernel_rfl) (by kernel_rfl) (by kernel_rfl)
  have f2 := @run_callFunc_extern Tryd.prog 25 _ (ReflectliteValue.methodAny (ReflectliteValue.valueError "reflectlite.Value.Type" 0) (fun t _ _ _ => ReflectliteType.toType t)) Tryd.func25 (by kernel_rfl) (by kernel_rfl) (by kernel_rfl) (by kernel_rfl)
  have f3 := @run_callFunc_extern Tryd.prog 26 _ (ReflectliteValue.method (ReflectliteValue.valueError "reflectlite.Value.IsNil" 0) ReflectliteValue.isNil) Tryd.func26 (by kernel_rfl) (by kernel_rfl) (by kernel_rfl) (by kernel_rfl)
  have f4 := @run_callFunc_extern Tryd.prog 64 _ (ReflectliteType.abiMethod fun t => do pure (.int .u8 (← Rtype.kind t))) Tryd.func64 (by kernel_rfl) (by kernel_rfl) (by kernel_rfl) (by kernel_rfl)
  have f5 := @run_callFunc_extern Tryd.prog 77 _ (ReflectliteType.method ReflectliteType.elem) Tryd.func77 (by kernel_rfl) (by kernel_rfl) (by kernel_rfl) (by kernel_rfl)
  have f6 := @run_callFunc_extern Tryd.prog 78 _ (ReflectliteType.relation "Implements" ReflectliteType.implements_) Tryd.func78 (by kernel_rfl) (by kernel_rfl) (by kernel_rfl) (by kernel_rfl)
  have g1 := valueOfPW
  have g2 := typePW
  have g3 := mKind
  have g4 := mElem
  have g5 := mImplements
  have g6 := kindPW
  have g7 := kindW
  have g8 := elemPW
  have g9 := implementsW
  have n1 := eql_nil_right
  obtain ⟨W1, hW1⟩ : ∃ W, W = w.alloc (.cells #[.pointer (some ⟨t, 0, none⟩)] 44) := ⟨_, rfl⟩
  have hb1 : Below w.heap.size w W1 := by rw [hW1]; exact (Below.refl _ _).alloc (Nat.le_refl _) _
  have s1 : W1.heap.size = w.heap.size + 1 := by rw [hW1]; simp
  have v1 : W1.cell? ⟨w.heap.size, 0, none⟩ = some (.pointer (some ⟨t, 0, none⟩)) := by rw [hW1]; simp
  obtain ⟨W2, hW2⟩ : ∃ W, W = W1.alloc (.cells #[hT 44, .pointer (some ⟨w.heap.size, 0, none⟩), .int .u64 150] 62) := ⟨_, rfl⟩
  have hb2 : Below W1.heap.size W1 W2 := by rw [hW2]; exact (Below.refl _ _).alloc (Nat.le_refl _) _
  have hb : Below w.heap.size w W2 := hb1.trans (hb2.mono (by omega))
  have k0 : W2.cell? ⟨w.heap.size + 1, 0, none⟩ = some (hT 44) := by rw [hW2, ← s1]; simp
  have k1 : W2.cell? ⟨w.heap.size + 1, 1, none⟩ = some (.pointer (some ⟨w.heap.size, 0, none⟩)) := by rw [hW2, ← s1]; simp
  have k2 : W2.cell? ⟨w.heap.size + 1, 2, none⟩ = some (.int .u64 150) := by rw [hW2, ← s1]; simp
  have v2 : W2.cell? ⟨w.heap.size, 0, none⟩ = some (.pointer (some ⟨t, 0, none⟩)) := (hb2.cell (p := ⟨w.heap.size, 0, none⟩) (show w.heap.size < W1.heap.size by omega)).trans v1
  have i2 := isNilPW ⟨w.heap.size, 0, none⟩ ⟨t, 0, none⟩ W2 v2
  have e2 : W2.cell? ⟨0, 0, none⟩ = some (.iface 78 (.agg #[hT 26])) := hg.below hb
  have HA := Lib.hid (asin_hit p q e d he t w.heap.size W2 v2 (ht.below hb ht.lt))
  have HB := Lib.hid hb
  have H1 := Lib.hid hW1
  have H2 := Lib.hid (show W2 = W1.alloc (.cells #[hT 44, .pointer (some ⟨w.heap.size, 0, none⟩), .int .u64 150] 62) from hW2)
  have hs1 := Lib.hid s1
  unfold eW at HA
  unfold eW
  clear hg hb hb1 hb2 hW1 hW2 v1 s1 ht
  go_enter Tryd.func17, Tryd.ntmps17
  go_wp2_with fail
  rw [← H1.out, ← H2.out, i2]
  go_wp2_with (go_at_call 27; refine HA.out.mono ?_; rintro r w1 ⟨rfl, h1, h2⟩)
  go_ret
  exact ⟨rfl, h1, (Only.of_below HB.out).trans h2⟩

set_option maxHeartbeats 4000000 in
set_option maxRecDepth 100000 in
theorem as_miss (c : Int) (t : Nat) (w : World) (hg : ErrT w) :
    Calls Tryd.prog 17 #[eB c, .iface 44 (.pointer (some ⟨t, 0, none⟩))] w fun r w' => r = .returned (.bool false) ∧ Below w.heap.size w w' := by
  have f1 := @run_callFunc_extern Tryd.prog 24 _ (fun args => ReflectliteValue.unpack (args.getD 0 (.tuple #[]))) Tryd.func24 (by kernel_rfl) (by kernel_rfl) (by kernel_rfl) (by kernel_rfl)
  have f2 := @run_callFunc_extern Tryd.prog 25 _ (ReflectliteValue.methodAny (ReflectliteValue.valueError "reflectlite.Value.Type" 0) (fun t _ _ _ => ReflectliteType.toType t)) Tryd.func25 (by kernel_rfl) (by kernel_rfl) (by kernel_rfl) (by kernel_rfl)
  have f3 := @run_callFunc_extern Tryd.prog 26 _ (ReflectliteValue.method (ReflectliteValue.valueError "reflectlite.Value.IsNil" 0) ReflectliteValue.isNil) Tryd.func26 (by kernel_rfl) (by kernel_rfl) (by kernel_rfl) (by kernel_rfl)
  have f4 := @run_callFunc_extern Tryd.prog 64 _ (ReflectliteType.abiMethod fun t => do pure (.int .u8 (← Rtype.kind t))) Tryd.func64 (by kernel_rfl) (by kernel_rfl) (by kernel_rfl) (by kernel_rfl)
  have f5 := @run_callFunc_extern Tryd.prog 77 _ (ReflectliteType.method ReflectliteType.elem) Tryd.func77 (by kernel_rfl) (by kernel_rfl) (by kernel_rfl) (by kernel_rfl)
  have f6 := @run_callFunc_extern Tryd.prog 78 _ (ReflectliteType.relation "Implements" ReflectliteType.implements_) Tryd.func78 (by kernel_rfl) (by kernel_rfl) (by kernel_rfl) (by kernel_rfl)
  have g1 := valueOfPW
  have g2 := typePW
  have g3 := mKind
  have g4 := mElem
  have g5 := mImplements
  have g6 := kindPW
  have g7 := kindW
  have g8 := elemPW
  have g9 := implementsW
  have n1 := eql_nil_right
  obtain ⟨W1, hW1⟩ : ∃ W, W = w.alloc (.cells #[.pointer (some ⟨t, 0, none⟩)] 44) := ⟨_, rfl⟩
  have hb1 : Below w.heap.size w W1 := by rw [hW1]; exact (Below.refl _ _).alloc (Nat.le_refl _) _
  have s1 : W1.heap.size = w.heap.size + 1 := by rw [hW1]; simp
  have v1 : W1.cell? ⟨w.heap.size, 0, none⟩ = some (.pointer (some ⟨t, 0, none⟩)) := by rw [hW1]; simp
  obtain ⟨W2, hW2⟩ : ∃ W, W = W1.alloc (.cells #[hT 44, .pointer (some ⟨w.heap.size, 0, none⟩), .int .u64 150] 62) := ⟨_, rfl⟩
  have hb2 : Below W1.heap.size W1 W2 := by rw [hW2]; exact (Below.refl _ _).alloc (Nat.le_refl _) _
  have hb : Below w.heap.size w W2 := hb1.trans (hb2.mono (by omega))
  have k0 : W2.cell? ⟨w.heap.size + 1, 0, none⟩ = some (hT 44) := by rw [hW2, ← s1]; simp
  have k1 : W2.cell? ⟨w.heap.size + 1, 1, none⟩ = some (.pointer (some ⟨w.heap.size, 0, none⟩)) := by rw [hW2, ← s1]; simp
  have k2 : W2.cell? ⟨w.heap.size + 1, 2, none⟩ = some (.int .u64 150) := by rw [hW2, ← s1]; simp
  have v2 : W2.cell? ⟨w.heap.size, 0, none⟩ = some (.pointer (some ⟨t, 0, none⟩)) := (hb2.cell (p := ⟨w.heap.size, 0, none⟩) (show w.heap.size < W1.heap.size by omega)).trans v1
  have i2 := isNilPW ⟨w.heap.size, 0, none⟩ ⟨t, 0, none⟩ W2 v2
  have e2 : W2.cell? ⟨0, 0, none⟩ = some (.iface 78 (.agg #[hT 26])) := hg.below hb
  have HA := Lib.hid (asin_miss c (.iface 44 (.pointer (some ⟨t, 0, none⟩))) w.heap.size W2)
  have HB := Lib.hid hb
  have H1 := Lib.hid hW1
  have H2 := Lib.hid (show W2 = W1.alloc (.cells #[hT 44, .pointer (some ⟨w.heap.size, 0, none⟩), .int .u64 150] 62) from hW2)
  have hs1 := Lib.hid s1
  unfold eB at HA
  unfold eB
  clear hg hb hb1 hb2 hW1 hW2 v1 s1
  go_enter Tryd.func17, Tryd.ntmps17
  go_wp2_with fail
  rw [← H1.out, ← H2.out, i2]
  go_wp2_with (go_at_call 27; refine HA.out.mono ?_; rintro r w1 ⟨rfl, h2⟩)
  go_ret
  exact ⟨rfl, HB.out.trans (h2.mono HB.out.size)⟩
end Go.Proofs.YtnnkpeafhjokjaaDoor
