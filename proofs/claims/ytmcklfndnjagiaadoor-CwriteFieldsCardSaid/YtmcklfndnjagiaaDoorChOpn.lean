/- What comes in: three numbers, two bytes (arrays). -/
import Derived.Test.YtmcklfndnjagiaaDoorRows
import Derived.ProofKit
import Derived.OpenShut
namespace Go.Proofs.YtmcklfndnjagiaaDoor
open Go Go.RowKit Go.ChangeShapes Go.WideShapes Go.WideMaps Go.WideElems
set_option linter.unusedVariables false

section
variable {H : Type} {enc : TypeId × Value → H} {W : World} {base : Nat} {sp : Nat → Bool} {held : Bool} {r : Reach} {b : Nat} {v : Value} {d : DataW H} {p : List MemPlace}
set_option maxRecDepth 20000 in
/-- Four numbers that came in. -/
theorem open_ints4 (hv : Value.okWide Tryd.prog W r b 42 v) (h : DataW.Trod enc Tryd.prog W base sp held 42 v d p) : ∃ x y z u : Int, v = .agg #[.int .i64 x, .int .i64 y, .int .i64 z, .int .i64 u] := by
  simp only [Value.okWide, Tryd.underlying42] at hv
  obtain ⟨cs, rfl, _⟩ := hv
  obtain ⟨fuel, hf⟩ := h
  have hc : Tryd.prog.cellsOf 3 = 1 := by kernel_rfl
  have hc2 : Tryd.prog.cellsOf 42 = 4 := by kernel_rfl
  obtain ⟨xs, m, _, _, hlen, hxn, hel⟩ := DataW.trod_array Tryd.underlying42 hf
  have one : ∀ i, i < 4 → ∃ z : Int, cs.toList[i]? = some (.int .i64 z) := fun i hi => by
    have h1 := hel i hi
    rw [hc, Nat.mul_one, List.getElem?_eq_getElem (by omega)] at h1
    obtain ⟨z, e1, _, e3⟩ := DataW.trod_int Tryd.underlying3 h1
    have : (List.take 1 (List.drop i cs.toList))[0]? = some (.int .i64 z) := by rw [show (Value.agg cs).cells = cs from rfl] at e1; rw [e1]; rfl
    exact ⟨z, by simpa [List.getElem?_take, List.getElem?_drop] using this⟩
  have hl : cs.toList.length = 4 := by rw [show (Value.agg cs).cells = cs from rfl] at hlen; omega
  obtain ⟨x, e0⟩ := one 0 (by decide)
  obtain ⟨y, e1⟩ := one 1 (by decide)
  obtain ⟨z, e2⟩ := one 2 (by decide)
  obtain ⟨u, e3⟩ := one 3 (by decide)
  refine ⟨x, y, z, u, ?_⟩
  have : cs.toList = [.int .i64 x, .int .i64 y, .int .i64 z, .int .i64 u] := by
    match cs.toList, hl, e0, e1, e2, e3 with
    | [a, b, c, d], _, e0, e1, e2, e3 => simp at e0 e1 e2 e3; rw [e0, e1, e2, e3]
  rw [show cs = #[.int .i64 x, .int .i64 y, .int .i64 z, .int .i64 u] from Array.toList_inj.mp this]
end
end Go.Proofs.YtmcklfndnjagiaaDoor
