/- What comes in: a slice of what is added to a message. -/
import Derived.Test.YtjpppnfkpnfhoaaDoorZA
import Derived.Test.YtjpppnfkpnfhoaaDoorRows
import Derived.ProofKit
import Derived.OpenShut
import Derived.Deep.MidRow
namespace Go.Proofs.YtjpppnfkpnfhoaaDoor
open Go Go.RowKit Go.ChangeShapes Go.WideShapes Go.WideMaps Go.WideElems
set_option linter.unusedVariables false

/-- What is added: its kind, its number, its wire type, a number, a text. -/
abbrev OD := Nat × Int × Int × Nat × ByteArray
def OdAt (w : World) (b o : Nat) (x : OD) : Prop := w.cell? ⟨b, o, none⟩ = some (.int .u8 (x.1 : Nat)) ∧ w.cell? ⟨b, o + 1, none⟩ = some (.int .i64 x.2.1) ∧ w.cell? ⟨b, o + 2, none⟩ = some (.int .i64 x.2.2.1) ∧ w.cell? ⟨b, o + 3, none⟩ = some (.int .u64 (x.2.2.2.1 : Nat)) ∧ w.cell? ⟨b, o + 4, none⟩ = some (.string x.2.2.2.2)
theorem OdAt.below {w w' : World} {b o N : Nat} {x : OD} (h : OdAt w b o x) (hb : Below N w w') (hl : b < N) : OdAt w' b o x :=
  ⟨(hb.cell (p := ⟨b, o, none⟩) hl).trans h.1, (hb.cell (p := ⟨b, o + 1, none⟩) hl).trans h.2.1, (hb.cell (p := ⟨b, o + 2, none⟩) hl).trans h.2.2.1, (hb.cell (p := ⟨b, o + 3, none⟩) hl).trans h.2.2.2.1, (hb.cell (p := ⟨b, o + 4, none⟩) hl).trans h.2.2.2.2⟩
/-- The slice at a, of so many, holds these. -/
def OdIn (w : World) (a : Option Addr) (l : List OD) : Prop :=
  ∀ j (h : j < l.length), ∃ b off, a = some ⟨b, off, none⟩ ∧ b < w.heap.size ∧ OdAt w b (off + j * 5) l[j]
def OdOk (x : OD) : Prop := x.1 < 256 ∧ x.2.2.2.1 < 18446744073709551616
theorem OdIn.below {w w' : World} {a : Option Addr} {l : List OD} {N : Nat} (h : OdIn w a l) (hb : Below N w w') (hN : w.heap.size ≤ N) : OdIn w' a l := fun j hj => by
  obtain ⟨b, off, e, hlt, h1⟩ := h j hj
  exact ⟨b, off, e, Nat.lt_of_lt_of_le hlt hb.size, h1.below hb (by omega)⟩
section
variable {H : Type} {enc : TypeId × Value → H} {W : World} {base : Nat} {sp : Nat → Bool} {held : Bool} {d : DataW H} {p : List MemPlace}
set_option maxRecDepth 100000 in
theorem open_ops19 {a : Option Addr} {len cap : Nat} (h : DataW.Trod enc Tryd.prog W base sp held 22 (.slice a len cap) d p) : ∃ L : List OD, L.length = len ∧ OdIn W a L ∧ ∀ o ∈ L, OdOk o := by
  obtain ⟨fuel, hf⟩ := h
  have hc5 : Tryd.prog.cellsOf 28 = 5 := by kernel_rfl
  have c0 : Tryd.prog.cellsOf 5 = 1 := by kernel_rfl
  have c1 : Tryd.prog.cellsOf 3 = 1 := by kernel_rfl
  have c2 : Tryd.prog.cellsOf 9 = 1 := by kernel_rfl
  have c3 : Tryd.prog.cellsOf 26 = 1 := by kernel_rfl
  rcases DataW.trod_slice Tryd.underlying22 hf with ⟨hcs, _⟩ | ⟨ad, l, c, elems, rest, n, _, hcs, hx, _, _, _, hel, hcell, _⟩
  · simp [Value.cells] at hcs
    obtain ⟨rfl, rfl, rfl⟩ := hcs
    exact ⟨[], rfl, fun j h => by simp at h, fun q h => by simp at h⟩
  · simp [Value.cells] at hcs
    obtain ⟨rfl, rfl, rfl⟩ := hcs
    have hone : ∀ i, i < len → ∃ o : OD, W.cell? (ad.add (i * 5)) = some (.int .u8 (o.1 : Nat)) ∧ W.cell? ((ad.add (i * 5)).add 1) = some (.int .i64 o.2.1) ∧ W.cell? ((ad.add (i * 5)).add 2) = some (.int .i64 o.2.2.1) ∧ W.cell? ((ad.add (i * 5)).add 3) = some (.int .u64 (o.2.2.2.1 : Nat)) ∧ W.cell? ((ad.add (i * 5)).add 4) = some (.string o.2.2.2.2) ∧ OdOk o := by
      intro i hi
      have h1 := hcell i hi
      rw [hc5, List.getElem?_eq_getElem (by omega)] at h1
      obtain ⟨cs, e1, e2⟩ := Option.bind_eq_some_iff.mp h1
      obtain ⟨_, hlen, hcl⟩ := World.cells?_some e1
      obtain ⟨xs, m, rfl, hy, _, hxn, hfl⟩ := DataW.trod_struct Tryd.underlying28 e2
      have hx5 : xs.length = 5 := hxn
      have g0 := hfl 0 _ rfl
      have g1 := hfl 1 _ rfl
      have g2 := hfl 2 _ rfl
      have g3 := hfl 3 _ rfl
      have g4 := hfl 4 _ rfl
      match cs, hlen, xs, hx5, g0, g1, g2, g3, g4 with
      | [v0, v1, v2, v3, v4], _, [y0, y1, y2, y3, y4], _, g0, g1, g2, g3, g4 =>
        obtain ⟨z0, f0, x0, w0⟩ := DataW.trod_int Tryd.underlying5 g0
        obtain ⟨z1, f1, x1, w1⟩ := DataW.trod_int Tryd.underlying3 g1
        obtain ⟨z2, f2, x2, w2⟩ := DataW.trod_int Tryd.underlying3 g2
        obtain ⟨z3, f3, x3, w3⟩ := DataW.trod_int Tryd.underlying26 g3
        obtain ⟨t, f4, x4, _⟩ := DataW.trod_string Tryd.underlying9 g4
        have k0 := hcl 0 (by decide)
        have k1 := hcl 1 (by decide)
        have k2 := hcl 2 (by decide)
        have k3 := hcl 3 (by decide)
        have k4 := hcl 4 (by decide)
        have hz0 : 0 ≤ z0 ∧ z0 ≤ 255 := by simpa [Lit.wf, IntKind.min, IntKind.max, IntKind.signed, IntKind.bits] using w0
        have hz3 : 0 ≤ z3 ∧ z3 ≤ 18446744073709551615 := by simpa [Lit.wf, IntKind.min, IntKind.max, IntKind.signed, IntKind.bits] using w3
        have v0e : v0 = .int .u8 z0 := by simpa [c0] using f0
        have v1e : v1 = .int .i64 z1 := by simpa [c1] using f1
        have v2e : v2 = .int .i64 z2 := by simpa [c1] using f2
        have v3e : v3 = .int .u64 z3 := by simpa [c3] using f3
        have v4e : v4 = .string t := by simpa [c2] using f4
        subst v0e v1e v2e v3e v4e
        refine ⟨(z0.toNat, z1, z2, z3.toNat, t), ?_, by simpa using k1, by simpa using k2, ?_, by simpa using k4, by unfold OdOk; dsimp only; omega⟩
        · rw [add_zero_at] at k0
          dsimp only
          rw [Int.toNat_of_nonneg hz0.1]; simpa using k0
        · dsimp only
          rw [Int.toNat_of_nonneg hz3.1]; simpa using k3
    obtain ⟨L, hn, hq⟩ := any_list len hone
    refine ⟨L, hn, fun j hj => ?_, fun o ho => ?_⟩
    · obtain ⟨b, off, spot⟩ := ad
      obtain ⟨h0, h1, h2, h3, h4, _⟩ := hq j hj
      have hspot : spot = none := by have := World.cell?_spot (hq 0 (by omega)).1; simpa [Addr.add] using this
      subst hspot
      rw [Addr.add_mid] at h0 h1 h2 h3 h4
      rw [Addr.add_mid] at h1 h2 h3 h4
      exact ⟨b, off, rfl, World.block_lt_of_cell? W _ h0, h0, h1, h2, h3, h4⟩
    · obtain ⟨i, hi, rfl⟩ := List.mem_iff_getElem.mp ho
      exact (hq i hi).2.2.2.2.2
end
end Go.Proofs.YtjpppnfkpnfhoaaDoor
