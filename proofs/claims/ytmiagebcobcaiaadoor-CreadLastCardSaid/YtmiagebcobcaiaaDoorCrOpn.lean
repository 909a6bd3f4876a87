/- What comes in: a slice of law 22's fields. -/
import Derived.Test.YtmiagebcobcaiaaDoorAnyL
import Derived.Test.YtmiagebcobcaiaaDoorCrV
import Derived.Test.YtmiagebcobcaiaaDoorRows
import Derived.ProofKit
import Derived.OpenShut
namespace Go.Proofs.YtmiagebcobcaiaaDoor
open Go Go.RowKit Go.ChangeShapes Go.WideShapes Go.WideMaps Go.WideElems
set_option linter.unusedVariables false

/-- A field's kind is a byte, its bits are 64. -/
def gOk (x : GD) : Prop := x.2.1 < 256 ∧ x.2.2.2.1 < 18446744073709551616
section
variable {H : Type} {enc : TypeId × Value → H} {W : World} {base : Nat} {sp : Nat → Bool} {held : Bool} {d : DataW H} {p : List MemPlace}
set_option maxRecDepth 100000 in
theorem gfields_in {fuel : Nat} {a : Option Addr} {len cap : Nat} {x : DataW H × List MemPlace} (hf : DataW.trod enc Tryd.prog W base sp held fuel 27 [.slice a len cap] = some x) : ∃ L : List GD, L.length = len ∧ GInO W a L ∧ ∀ o ∈ L, gOk o := by
  have hc6 : Tryd.prog.cellsOf 40 = 6 := by kernel_rfl
  have c1 : Tryd.prog.cellsOf 3 = 1 := by kernel_rfl
  have c2 : Tryd.prog.cellsOf 9 = 1 := by kernel_rfl
  have c3 : Tryd.prog.cellsOf 37 = 1 := by kernel_rfl
  have c4 : Tryd.prog.cellsOf 5 = 1 := by kernel_rfl
  rcases DataW.trod_slice Tryd.underlying27 hf with ⟨hcs, _⟩ | ⟨ad, l, c, elems, rest, n, _, hcs, hx, _, _, _, hel, hcell, _⟩
  · simp at hcs
    obtain ⟨rfl, rfl, rfl⟩ := hcs
    exact ⟨[], rfl, fun j h => by simp at h, fun q h => by simp at h⟩
  · simp at hcs
    obtain ⟨rfl, rfl, rfl⟩ := hcs
    have hone : ∀ i, i < len → ∃ o : GD, W.cell? (ad.add (i * 6)) = some (.int .i64 o.1) ∧ W.cell? ((ad.add (i * 6)).add 1) = some (.int .u8 (o.2.1 : Nat)) ∧ W.cell? ((ad.add (i * 6)).add 2) = some (.int .i64 o.2.2.1) ∧ W.cell? ((ad.add (i * 6)).add 3) = some (.int .u64 (o.2.2.2.1 : Nat)) ∧ W.cell? ((ad.add (i * 6)).add 4) = some (.string o.2.2.2.2.1) ∧ W.cell? ((ad.add (i * 6)).add 5) = some (.string o.2.2.2.2.2) ∧ gOk o := by
      intro i hi
      have h1 := hcell i hi
      rw [hc6, List.getElem?_eq_getElem (by omega)] at h1
      obtain ⟨cs, e1, e2⟩ := Option.bind_eq_some_iff.mp h1
      obtain ⟨_, hlen, hcl⟩ := World.cells?_some e1
      obtain ⟨xs, m, rfl, hy, _, hxn, hfl⟩ := DataW.trod_struct Tryd.underlying40 e2
      have hx6 : xs.length = 6 := hxn
      have g0 := hfl 0 _ rfl
      have g1 := hfl 1 _ rfl
      have g2 := hfl 2 _ rfl
      have g3 := hfl 3 _ rfl
      have g4 := hfl 4 _ rfl
      have g5 := hfl 5 _ rfl
      match cs, hlen, xs, hx6, g0, g1, g2, g3, g4, g5 with
      | [v0, v1, v2, v3, v4, v5], _, [y0, y1, y2, y3, y4, y5], _, g0, g1, g2, g3, g4, g5 =>
        obtain ⟨z0, f0, x0, w0⟩ := DataW.trod_int Tryd.underlying3 g0
        obtain ⟨z1, f1, x1, w1⟩ := DataW.trod_int Tryd.underlying5 g1
        obtain ⟨z2, f2, x2, w2⟩ := DataW.trod_int Tryd.underlying3 g2
        obtain ⟨z3, f3, x3, w3⟩ := DataW.trod_int Tryd.underlying37 g3
        obtain ⟨t4, f4, x4, _⟩ := DataW.trod_string Tryd.underlying9 g4
        obtain ⟨t5, f5, x5, _⟩ := DataW.trod_string Tryd.underlying9 g5
        have k0 := hcl 0 (by decide)
        have k1 := hcl 1 (by decide)
        have k2 := hcl 2 (by decide)
        have k3 := hcl 3 (by decide)
        have k4 := hcl 4 (by decide)
        have k5 := hcl 5 (by decide)
        have hz1 : 0 ≤ z1 ∧ z1 ≤ 255 := by simpa [Lit.wf, IntKind.min, IntKind.max, IntKind.signed, IntKind.bits] using w1
        have hz3 : 0 ≤ z3 ∧ z3 ≤ 18446744073709551615 := by simpa [Lit.wf, IntKind.min, IntKind.max, IntKind.signed, IntKind.bits] using w3
        have v0e : v0 = .int .i64 z0 := by simpa [c1] using f0
        have v1e : v1 = .int .u8 z1 := by simpa [c1, c4] using f1
        have v2e : v2 = .int .i64 z2 := by simpa [c1, c4] using f2
        have v3e : v3 = .int .u64 z3 := by simpa [c1, c3, c4] using f3
        have v4e : v4 = .string t4 := by simpa [c1, c2, c3, c4] using f4
        have v5e : v5 = .string t5 := by simpa [c1, c2, c3, c4] using f5
        subst v0e v1e v2e v3e v4e v5e
        refine ⟨(z0, z1.toNat, z2, z3.toNat, t4, t5), ?_, ?_, by simpa using k2, ?_, by simpa using k4, by simpa using k5, by unfold gOk; dsimp only; omega⟩
        · rw [add_zero_at] at k0
          simpa using k0
        · dsimp only
          rw [Int.toNat_of_nonneg hz1.1]; simpa using k1
        · dsimp only
          rw [Int.toNat_of_nonneg hz3.1]; simpa using k3
    obtain ⟨L, hn, hq⟩ := any_list len hone
    refine ⟨L, hn, fun j hj => ?_, fun o ho => ?_⟩
    · obtain ⟨b, off, spot⟩ := ad
      obtain ⟨h0, h1, h2, h3, h4, h5, _⟩ := hq j hj
      have hspot : spot = none := by have := World.cell?_spot (hq 0 (by omega)).1; simpa [Addr.add] using this
      subst hspot
      rw [Addr.add_mid] at h0 h1 h2 h3 h4 h5
      rw [Addr.add_mid] at h1 h2 h3 h4 h5
      exact ⟨b, off, rfl, World.block_lt_of_cell? W _ h0, h0, h1, h2, h3, h4, h5⟩
    · obtain ⟨i, hi, rfl⟩ := List.mem_iff_getElem.mp ho
      exact (hq i hi).2.2.2.2.2.2
theorem open_gfields {a : Option Addr} {len cap : Nat} (h : DataW.Trod enc Tryd.prog W base sp held 27 (.slice a len cap) d p) : ∃ L : List GD, L.length = len ∧ GInO W a L ∧ ∀ o ∈ L, gOk o := by
  obtain ⟨fuel, hf⟩ := h
  exact gfields_in hf
end
end Go.Proofs.YtmiagebcobcaiaaDoor
