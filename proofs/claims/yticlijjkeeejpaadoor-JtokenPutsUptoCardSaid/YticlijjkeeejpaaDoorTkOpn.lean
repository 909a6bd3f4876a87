/- What comes in: a token by value. -/
import Derived.Test.YticlijjkeeejpaaDoorRows
import Derived.Lib.SmallJoins
import Derived.ProofKit
import Derived.OpenShut
namespace Go.Proofs.YticlijjkeeejpaaDoor
open Go Go.RowKit Go.ChangeShapes Go.WideShapes Go.WideMaps Go.WideElems
set_option linter.unusedVariables false

section
variable {H : Type} {enc : TypeId × Value → H} {W : World} {base : Nat} {sp : Nat → Bool} {held : Bool} {d : DataW H} {p : List MemPlace} {r : Reach} {b : Nat} {v : Value}
set_option maxRecDepth 100000 in
/-- A token that came in, and how much its text may hold. -/
theorem open_token (hv : Value.okWide Tryd.prog W r b 37 v) (h : DataW.Trod enc Tryd.prog W base sp held 37 v d p) : ∃ (k : UInt8) (t : ByteArray), v = .agg #[.int .u8 (k.toNat : Int), .string t] ∧ t.size ≤ Rows.uptoBulk d := by
  obtain ⟨v0, v1, y0, y1, n, rfl, rfl, _, h0, h1⟩ := Joins.open_agg2 Tryd.underlying37 (by kernel_rfl) (by kernel_rfl) hv h
  obtain ⟨z, e0, x0, w0⟩ := DataW.trod_int Tryd.underlying5 h0
  obtain ⟨t, e1, x1, _⟩ := DataW.trod_string Tryd.underlying9 h1
  have hz : 0 ≤ z ∧ z ≤ 255 := by simpa [Lit.wf, IntKind.min, IntKind.max, IntKind.signed, IntKind.bits] using w0
  obtain rfl := (List.cons.inj e0).1
  obtain rfl := (List.cons.inj e1).1
  refine ⟨UInt8.ofNat z.toNat, t, ?_, ?_⟩
  · have : (UInt8.ofNat z.toNat).toNat = z.toNat := by rw [UInt8.toNat_ofNat']; omega
    rw [this, Int.toNat_of_nonneg hz.1]
  · rw [x1]
    have : t.data.toList.length = t.size := by rw [Array.length_toList]; rfl
    simp only [Rows.uptoBulk, Rows.uptoBulkAll]
    omega
end
end Go.Proofs.YticlijjkeeejpaaDoor
