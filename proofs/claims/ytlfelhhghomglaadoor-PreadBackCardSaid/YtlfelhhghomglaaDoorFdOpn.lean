/- What comes in: a field by value. -/
import Derived.Test.YtlfelhhghomglaaDoorRows
import Derived.Lib.SmallJoins
import Derived.ProofKit
import Derived.OpenShut
import Derived.SizedLaws
namespace Go.Proofs.YtlfelhhghomglaaDoor
open Go Go.RowKit Go.ChangeShapes Go.WideShapes Go.WideMaps Go.WideElems
set_option linter.unusedVariables false

section
variable {H : Type} {enc : TypeId × Value → H} {W : World} {base : Nat} {sp : Nat → Bool} {held : Bool} {d : DataW H} {p : List MemPlace} {r : Reach} {b : Nat} {v : Value}
set_option maxRecDepth 100000 in
/-- A field that came in; its text's size is among what is weighed. -/
theorem open_field (hv : Value.okWide Tryd.prog W r b 39 v) (h : DataW.Trod enc Tryd.prog W base sp held 39 v d p) :
    ∃ (n m : Int) (u : Nat) (t : ByteArray), v = .agg #[.int .i64 n, .int .i64 m, .int .u64 (u : Nat), .string t] ∧ u < 18446744073709551616 ∧ t.size ∈ d.weights Tryd.prog 39 := by
  obtain ⟨v0, v1, v2, v3, y0, y1, y2, y3, n, rfl, rfl, _, h0, h1, h2, h3⟩ := Joins.open_agg4 Tryd.underlying39 (by kernel_rfl) (by kernel_rfl) hv h
  obtain ⟨z0, e0, x0, _⟩ := DataW.trod_int Tryd.underlying3 h0
  obtain ⟨z1, e1, x1, _⟩ := DataW.trod_int Tryd.underlying3 h1
  obtain ⟨z2, e2, x2, w2⟩ := DataW.trod_int Tryd.underlying35 h2
  obtain ⟨t, e3, x3, _⟩ := DataW.trod_string Tryd.underlying9 h3
  have hz : 0 ≤ z2 ∧ z2 ≤ 18446744073709551615 := by simpa [Lit.wf, IntKind.min, IntKind.max, IntKind.signed, IntKind.bits] using w2
  obtain rfl := (List.cons.inj e0).1
  obtain rfl := (List.cons.inj e1).1
  obtain rfl := (List.cons.inj e2).1
  obtain rfl := (List.cons.inj e3).1
  refine ⟨z0, z1, z2.toNat, t, ?_, by omega, ?_⟩
  · rw [Int.toNat_of_nonneg hz.1]
  · have ht : t.data.toList.length = t.size := by rw [Array.length_toList]; rfl
    rw [x0, x1, x2, x3]
    have hu : Tryd.prog.underlying 39 = _ := Tryd.underlying39
    simp [DataW.weights, DataW.weightsEach, hu, ht]
end
end Go.Proofs.YtlfelhhghomglaaDoor
