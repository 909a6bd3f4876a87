/- What comes in: three numbers, two bytes (arrays). -/
import Derived.Test.YtgolaillalkglaaRows
import Derived.ProofKit
import Derived.OpenShut
namespace Go.Proofs.Ytgolaillalkglaa
open Go Go.RowKit Go.ChangeShapes Go.WideShapes Go.WideMaps Go.WideElems
set_option linter.unusedVariables false

section
variable {H : Type} {enc : TypeId × Value → H} {W : World} {base : Nat} {sp : Nat → Bool} {held : Bool} {r : Reach} {b : Nat} {v : Value} {d : DataW H} {p : List MemPlace}
set_option maxRecDepth 20000 in
/-- Three numbers that came in. -/
theorem open_ints3 (hv : Value.okWide Try.prog W r b 43 v) (h : DataW.Trod enc Try.prog W base sp held 43 v d p) : ∃ x y z : Int, v = .agg #[.int .i64 x, .int .i64 y, .int .i64 z] ∧ (-9223372036854775808 ≤ x ∧ x ≤ 9223372036854775807) ∧ (-9223372036854775808 ≤ y ∧ y ≤ 9223372036854775807) ∧ (-9223372036854775808 ≤ z ∧ z ≤ 9223372036854775807) := by
  simp only [Value.okWide, Try.underlying43] at hv
  obtain ⟨cs, rfl, _⟩ := hv
  obtain ⟨fuel, hf⟩ := h
  have hc : Try.prog.cellsOf 3 = 1 := by kernel_rfl
  have hc2 : Try.prog.cellsOf 43 = 3 := by kernel_rfl
  obtain ⟨xs, m, _, _, hlen, hxn, hel⟩ := DataW.trod_array Try.underlying43 hf
  have one : ∀ i, i < 3 → ∃ z : Int, cs.toList[i]? = some (.int .i64 z) ∧ -9223372036854775808 ≤ z ∧ z ≤ 9223372036854775807 := fun i hi => by
    have h1 := hel i hi
    rw [hc, Nat.mul_one, List.getElem?_eq_getElem (by omega)] at h1
    obtain ⟨z, e1, _, e3⟩ := DataW.trod_int Try.underlying3 h1
    have : (List.take 1 (List.drop i cs.toList))[0]? = some (.int .i64 z) := by rw [show (Value.agg cs).cells = cs from rfl] at e1; rw [e1]; rfl
    have hr : -9223372036854775808 ≤ z ∧ z ≤ 9223372036854775807 := by simpa [Lit.wf, IntKind.min, IntKind.max, IntKind.signed, IntKind.bits] using e3
    exact ⟨z, by simpa [List.getElem?_take, List.getElem?_drop] using this, hr⟩
  have hl : cs.toList.length = 3 := by rw [show (Value.agg cs).cells = cs from rfl] at hlen; omega
  obtain ⟨x, e0, hx⟩ := one 0 (by decide)
  obtain ⟨y, e1, hy⟩ := one 1 (by decide)
  obtain ⟨z, e2, hz⟩ := one 2 (by decide)
  refine ⟨x, y, z, ?_, hx, hy, hz⟩
  have : cs.toList = [.int .i64 x, .int .i64 y, .int .i64 z] := by
    match cs.toList, hl, e0, e1, e2 with
    | [u, v, w], _, e0, e1, e2 => simp at e0 e1 e2; rw [e0, e1, e2]
  rw [show cs = #[.int .i64 x, .int .i64 y, .int .i64 z] from Array.toList_inj.mp this]
set_option maxRecDepth 20000 in
/-- Two bytes that came in. -/
theorem open_bytes2 (hv : Value.okWide Try.prog W r b 44 v) (h : DataW.Trod enc Try.prog W base sp held 44 v d p) : ∃ x y : Nat, v = .agg #[.int .u8 (x : Nat), .int .u8 (y : Nat)] ∧ x < 256 ∧ y < 256 := by
  simp only [Value.okWide, Try.underlying44] at hv
  obtain ⟨cs, rfl, _⟩ := hv
  obtain ⟨fuel, hf⟩ := h
  have hc : Try.prog.cellsOf 5 = 1 := by kernel_rfl
  have hc2 : Try.prog.cellsOf 44 = 2 := by kernel_rfl
  obtain ⟨xs, m, _, _, hlen, hxn, hel⟩ := DataW.trod_array Try.underlying44 hf
  have one : ∀ i, i < 2 → ∃ z : Nat, cs.toList[i]? = some (.int .u8 (z : Nat)) ∧ z < 256 := fun i hi => by
    have h1 := hel i hi
    rw [hc, Nat.mul_one, List.getElem?_eq_getElem (by omega)] at h1
    obtain ⟨z, e1, _, e3⟩ := DataW.trod_int Try.underlying5 h1
    have : (List.take 1 (List.drop i cs.toList))[0]? = some (.int .u8 z) := by rw [show (Value.agg cs).cells = cs from rfl] at e1; rw [e1]; rfl
    have hr : 0 ≤ z ∧ z ≤ 255 := by simpa [Lit.wf, IntKind.min, IntKind.max, IntKind.signed, IntKind.bits] using e3
    obtain ⟨m, rfl⟩ := Int.eq_ofNat_of_zero_le hr.1
    exact ⟨m, by simpa [List.getElem?_take, List.getElem?_drop] using this, by omega⟩
  have hl : cs.toList.length = 2 := by rw [show (Value.agg cs).cells = cs from rfl] at hlen; omega
  obtain ⟨x, e0, hx⟩ := one 0 (by decide)
  obtain ⟨y, e1, hy⟩ := one 1 (by decide)
  refine ⟨x, y, ?_, hx, hy⟩
  have : cs.toList = [.int .u8 (x : Nat), .int .u8 (y : Nat)] := by
    match cs.toList, hl, e0, e1 with
    | [u, v], _, e0, e1 => simp at e0 e1; rw [e0, e1]
  rw [show cs = #[.int .u8 (x : Nat), .int .u8 (y : Nat)] from Array.toList_inj.mp this]
end
end Go.Proofs.Ytgolaillalkglaa
