/- What comes in: a slice of what a writer is told. -/
import Derived.Test.YtnbhhnkcfbfdcaaGreatDoorJwF
import Derived.ProofKit
import Derived.OpenShut
namespace Go.Proofs.YtnbhhnkcfbfdcaaGreatDoor
open Go Go.RowKit Go.ChangeShapes Go.WideShapes Go.WideMaps Go.WideElems
set_option linter.unusedVariables false

/-- The slice at a, of so many, is what a writer is told. -/
def OIn (w : World) (a : Option Addr) (l : List OP) : Prop :=
  ∀ j (h : j < l.length), ∃ b off, a = some ⟨b, off, none⟩ ∧ b < w.heap.size ∧ w.cell? ⟨b, off + j * 3, none⟩ = some (.int .u8 (l[j].k.toNat : Int)) ∧ w.cell? ⟨b, off + j * 3 + 1, none⟩ = some (.string (bA l[j].t)) ∧ w.cell? ⟨b, off + j * 3 + 2, none⟩ = some (.int .i64 l[j].n)
theorem OIn.below {w w' : World} {a : Option Addr} {l : List OP} {N : Nat} (h : OIn w a l) (hb : Below N w w') (hN : w.heap.size ≤ N) : OIn w' a l := fun j hj => by
  obtain ⟨b, off, e, hlt, h1, h2, h3⟩ := h j hj
  have hl : b < N := Nat.lt_of_lt_of_le hlt hN
  exact ⟨b, off, e, Nat.lt_of_lt_of_le hlt hb.size, (hb.cell (p := ⟨b, off + j * 3, none⟩) hl).trans h1, (hb.cell (p := ⟨b, off + j * 3 + 1, none⟩) hl).trans h2, (hb.cell (p := ⟨b, off + j * 3 + 2, none⟩) hl).trans h3⟩
theorem op_list {Q : Nat → OP → Prop} : ∀ n : Nat, (∀ i, i < n → ∃ o, Q i o) → ∃ L : List OP, L.length = n ∧ ∀ i (h : i < L.length), Q i L[i]
  | 0, _ => ⟨[], rfl, fun i h => by simp at h⟩
  | n + 1, h => by
    obtain ⟨L, hl, hq⟩ := op_list n (fun i hi => h i (by omega))
    obtain ⟨o, ho⟩ := h n (by omega)
    refine ⟨L ++ [o], by rw [List.length_append, hl]; rfl, fun i hi => ?_⟩
    by_cases e : i < L.length
    · rw [List.getElem_append_left e]; exact hq i e
    · have : i = n := by rw [List.length_append, List.length_singleton] at hi; omega
      subst this
      rw [List.getElem_append_right (by omega)]
      simp only [hl, Nat.sub_self, List.getElem_cons_zero]; exact ho
section
variable {H : Type} {enc : TypeId × Value → H} {W : World} {base : Nat} {sp : Nat → Bool} {held : Bool} {d : DataW H} {p : List MemPlace}
theorem ops_bulk : ∀ (L : List OP) (elems : List (DataW H × List MemPlace)), L.length = elems.length → (∀ i (h : i < L.length), ∃ y, elems[i]? = some y ∧ L[i].t.length + 4 ≤ Rows.uptoBulk y.1) → opz L ≤ 7 * Rows.uptoBulkAll (elems.map (·.1))
  | [], [], _, _ => by simp [opz, Rows.uptoBulkAll]
  | o :: L, y :: elems, hl, h => by
    have ih := ops_bulk L elems (by simpa using hl) (fun i hi => h (i + 1) (by simpa using hi))
    obtain ⟨y', e1, h0⟩ := h 0 (by simp)
    simp only [List.getElem?_cons_zero, Option.some.injEq] at e1
    subst e1
    simp only [List.getElem_cons_zero] at h0
    simp only [opz, List.map_cons, Rows.uptoBulkAll]
    omega
set_option maxRecDepth 100000 in
theorem open_ops {a : Option Addr} {len cap : Nat} (h : DataW.Trod enc Tryz.prog W base sp held 31 (.slice a len cap) d p) : ∃ L : List OP, L.length = len ∧ OIn W a L ∧ (∀ o ∈ L, OpOk o) ∧ opz L ≤ 7 * Rows.uptoBulk d := by
  obtain ⟨fuel, hf⟩ := h
  have hc3 : Tryz.prog.cellsOf 35 = 3 := by kernel_rfl
  have c1 : Tryz.prog.cellsOf 5 = 1 := by kernel_rfl
  have c2 : Tryz.prog.cellsOf 9 = 1 := by kernel_rfl
  have c3 : Tryz.prog.cellsOf 3 = 1 := by kernel_rfl
  rcases DataW.trod_slice Tryz.underlying31 hf with ⟨hcs, _⟩ | ⟨ad, l, c, elems, rest, n, _, hcs, hx, _, _, _, hel, hcell, _⟩
  · simp [Value.cells] at hcs
    obtain ⟨rfl, rfl, rfl⟩ := hcs
    exact ⟨[], rfl, fun j h => by simp at h, fun q h => by simp at h, by simp [opz]⟩
  · simp [Value.cells] at hcs
    obtain ⟨rfl, rfl, rfl⟩ := hcs
    have hone : ∀ i, i < len → ∃ o : OP, W.cell? (ad.add (i * 3)) = some (.int .u8 (o.k.toNat : Int)) ∧ W.cell? ((ad.add (i * 3)).add 1) = some (.string (bA o.t)) ∧ W.cell? ((ad.add (i * 3)).add 2) = some (.int .i64 o.n) ∧ OpOk o ∧ ∃ y, elems[i]? = some y ∧ o.t.length + 4 ≤ Rows.uptoBulk y.1 := by
      intro i hi
      have h1 := hcell i hi
      rw [hc3, List.getElem?_eq_getElem (by omega)] at h1
      obtain ⟨cs, e1, e2⟩ := Option.bind_eq_some_iff.mp h1
      obtain ⟨_, hlen, hcl⟩ := World.cells?_some e1
      obtain ⟨xs, m, rfl, hy, _, hxn, hfl⟩ := DataW.trod_struct Tryz.underlying35 e2
      have hx3 : xs.length = 3 := hxn
      have g0 := hfl 0 _ rfl
      have g1 := hfl 1 _ rfl
      have g2 := hfl 2 _ rfl
      match cs, hlen, xs, hx3, g0, g1, g2 with
      | [v0, v1, v2], _, [y0, y1, y2], _, g0, g1, g2 =>
        obtain ⟨z, f0, x0, w0⟩ := DataW.trod_int Tryz.underlying5 g0
        obtain ⟨t, f1, x1, _⟩ := DataW.trod_string Tryz.underlying9 g1
        obtain ⟨q, f2, x2, w2⟩ := DataW.trod_int Tryz.underlying3 g2
        have k0 := hcl 0 (by decide)
        have k1 := hcl 1 (by decide)
        have k2 := hcl 2 (by decide)
        have hz : 0 ≤ z ∧ z ≤ 255 := by simpa [Lit.wf, IntKind.min, IntKind.max, IntKind.signed, IntKind.bits] using w0
        have hq : -9223372036854775808 ≤ q ∧ q ≤ 9223372036854775807 := by simpa [Lit.wf, IntKind.min, IntKind.max, IntKind.signed, IntKind.bits] using w2
        have v0e : v0 = .int .u8 z := by simpa [c1] using f0
        have v1e : v1 = .string t := by simpa [c2] using f1
        have v2e : v2 = .int .i64 q := by simpa [c3] using f2
        subst v0e v1e v2e
        have hzt : ((UInt8.ofNat z.toNat).toNat : Int) = z := by rw [UInt8.toNat_ofNat']; omega
        refine ⟨⟨UInt8.ofNat z.toNat, t.data.toList, q⟩, ?_, ?_, ?_, hq, _, List.getElem?_eq_getElem (by omega), ?_⟩
        · rw [hzt]
          have e0 : ((ad.add (i * 3)).add 0) = ad.add (i * 3) := by unfold Addr.add; split <;> simp_all
          rw [e0] at k0
          simpa using k0
        · rw [bA_of]; simpa using k1
        · simpa using k2
        · rw [hy]
          simp only [List.map_cons, List.map_nil, Rows.uptoBulk, Rows.uptoBulkAll]
          rw [x1]
          simp only [Rows.uptoBulk]
          have b0 : 1 ≤ Rows.uptoBulk y0.1 := by rw [x0]; simp [Rows.uptoBulk]
          have b2 : 1 ≤ Rows.uptoBulk y2.1 := by rw [x2]; simp [Rows.uptoBulk]
          omega
    obtain ⟨L, hn, hq⟩ := op_list len hone
    refine ⟨L, hn, fun j hj => ?_, fun o ho => ?_, ?_⟩
    · obtain ⟨b, off, spot⟩ := ad
      obtain ⟨h0, h1, h2, _⟩ := hq j hj
      have hspot : spot = none := by have := World.cell?_spot (hq 0 (by omega)).1; simpa [Addr.add] using this
      subst hspot
      rw [Addr.add_mid] at h0 h1 h2
      rw [Addr.add_mid] at h1 h2
      refine ⟨b, off, rfl, World.block_lt_of_cell? W _ h0, h0, h1, h2⟩
    · obtain ⟨i, hi, rfl⟩ := List.mem_iff_getElem.mp ho
      exact (hq i hi).2.2.2.1
    · have hb := ops_bulk L elems (by omega) (fun i hi => (hq i hi).2.2.2.2)
      simp only [Prod.mk.injEq] at hx
      rw [hx.1]
      simp only [Rows.uptoBulk]
      omega
end
end Go.Proofs.YtnbhhnkcfbfdcaaGreatDoor
