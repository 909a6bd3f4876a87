/- What comes in: arrays of bytes and structs of two such as values, and slices of these. -/
import Derived.Test.YtjoafbapffdneaaDoorIdK
import Derived.Test.YtjoafbapffdneaaDoorIdN
import Derived.ProofKit
import Derived.OpenShut
namespace Go.Proofs.YtjoafbapffdneaaDoor
open Go Go.RowKit Go.ChangeShapes Go.WideShapes Go.WideMaps Go.WideElems
set_option linter.unusedVariables false

theorem bytes_of_cells : ∀ cs : List Value, (∀ v ∈ cs, ∃ z : Int, v = .int .u8 z ∧ (Lit.int .u8 z).wf = true) → ∃ l, cs = bV l
  | [], _ => ⟨[], rfl⟩
  | v :: cs, h => by
    obtain ⟨l, rfl⟩ := bytes_of_cells cs (fun x hx => h x (List.mem_cons_of_mem _ hx))
    obtain ⟨z, rfl, hw⟩ := h v List.mem_cons_self
    have hr : 0 ≤ z ∧ z ≤ 255 := by simpa [Lit.wf, IntKind.min, IntKind.max, IntKind.signed, IntKind.bits] using hw
    refine ⟨UInt8.ofNat z.toNat :: l, ?_⟩
    have : ((UInt8.ofNat z.toNat).toNat : Int) = z := by rw [UInt8.toNat_ofNat']; omega
    unfold bV
    rw [List.map_cons, this]
section
variable {H : Type} {enc : TypeId × Value → H} {P : Program} {W : World} {base fuel : Nat} {sp : Nat → Bool} {held : Bool} {t e : TypeId} {cs : List Value} {x : DataW H × List MemPlace}
theorem bytes_array {n : Nat} (ht : P.underlying t = some (.array n e)) (he : P.underlying e = some (.int .u8)) (hc : P.cellsOf e = 1) (hn : P.cellsOf t = n) (h : DataW.trod enc P W base sp held fuel t cs = some x) : ∃ l, cs = bV l ∧ l.length = n := by
  obtain ⟨xs, m, rfl, rfl, hlen, hxn, hel⟩ := DataW.trod_array ht h
  obtain ⟨l, rfl⟩ := bytes_of_cells cs fun v hv => by
    obtain ⟨i, hi, rfl⟩ := List.mem_iff_getElem.mp hv
    have hi' : i < xs.length := by omega
    have h1 := hel i (by omega)
    rw [hc, Nat.mul_one, List.getElem?_eq_getElem hi'] at h1
    obtain ⟨z, e1, _, e3⟩ := DataW.trod_int he h1
    refine ⟨z, ?_, e3⟩
    have : (List.take 1 (List.drop i cs))[0]? = some (.int .u8 z) := by rw [e1]; rfl
    have h2 : cs[i]? = some (.int .u8 z) := by simpa [List.getElem?_take, List.getElem?_drop] using this
    rw [List.getElem?_eq_getElem hi] at h2
    exact Option.some.inj h2
  exact ⟨l, rfl, by rw [bV_length] at hlen; omega⟩
theorem bytes_pair {f0 f1 : Field} {a b : Nat} (ht : P.underlying t = some (.struct #[f0, f1])) (o0 : f0.offset = 0) (o1 : f1.offset = a) (hn : P.cellsOf t = a + b)
    (u0 : P.underlying f0.type = some (.array a e)) (u1 : P.underlying f1.type = some (.array b e)) (he : P.underlying e = some (.int .u8)) (hc : P.cellsOf e = 1) (c0 : P.cellsOf f0.type = a) (c1 : P.cellsOf f1.type = b)
    (h : DataW.trod enc P W base sp held fuel t cs = some x) : ∃ l, cs = bV l ∧ l.length = a + b := by
  obtain ⟨xs, m, rfl, rfl, hlen, hxn, hel⟩ := DataW.trod_struct ht h
  have h0 := hel 0 f0 rfl
  have h1 := hel 1 f1 rfl
  have hx2 : xs.length = 2 := hxn
  rw [List.getElem?_eq_getElem (by omega)] at h0 h1
  obtain ⟨l0, e0, n0⟩ := bytes_array u0 he hc c0 h0
  obtain ⟨l1, e1, n1⟩ := bytes_array u1 he hc c1 h1
  rw [o0, c0, List.drop_zero] at e0
  rw [o1, c1] at e1
  refine ⟨l0 ++ l1, ?_, by rw [List.length_append, n0, n1]⟩
  have h2 : (cs.drop a).take b = cs.drop a := List.take_of_length_le (by rw [List.length_drop]; omega)
  rw [bV_append, ← e0, ← e1, h2, List.take_append_drop]
end
theorem okWide_arr {P : Program} {w : World} {r : Reach} {b : Nat} {t : TypeId} {v : Value} {n : Nat} {e : TypeId} (ht : P.underlying t = some (.array n e)) (h : Value.okWide P w r b t v) : ∃ cs, v = .agg cs ∧ cs.size = P.cellsOf t := by
  simp only [Value.okWide, ht] at h
  obtain ⟨cs, h1, h2, _⟩ := h
  exact ⟨cs, h1, h2⟩
section
variable {H : Type} {enc : TypeId × Value → H} {W : World} {base : Nat} {sp : Nat → Bool} {held : Bool} {r : Reach} {b : Nat} {v : Value} {d : DataW H} {p : List MemPlace}
theorem open_trace (hv : Value.okWide Tryd.prog W r b 23 v) (h : DataW.Trod enc Tryd.prog W base sp held 23 v d p) : ∃ l, v = .agg (aC l) ∧ l.length = 16 := by
  obtain ⟨cs, rfl, _⟩ := okWide_arr Tryd.underlying23 hv
  obtain ⟨fuel, hf⟩ := h
  obtain ⟨l, e, hl⟩ := bytes_array Tryd.underlying23 Tryd.underlying5 cell8 (by kernel_rfl) hf
  exact ⟨l, by rw [show cs = aC l from Array.toList_inj.mp e], hl⟩
theorem open_span (hv : Value.okWide Tryd.prog W r b 28 v) (h : DataW.Trod enc Tryd.prog W base sp held 28 v d p) : ∃ l, v = .agg (aC l) ∧ l.length = 8 := by
  obtain ⟨cs, rfl, _⟩ := okWide_arr Tryd.underlying28 hv
  obtain ⟨fuel, hf⟩ := h
  obtain ⟨l, e, hl⟩ := bytes_array Tryd.underlying28 Tryd.underlying5 cell8 (by kernel_rfl) hf
  exact ⟨l, by rw [show cs = aC l from Array.toList_inj.mp e], hl⟩
theorem pair_cells {fuel : Nat} {cs : List Value} {x : DataW H × List MemPlace} (h : DataW.trod enc Tryd.prog W base sp held fuel 45 cs = some x) : ∃ l, cs = bV l ∧ l.length = 24 :=
  bytes_pair (a := 16) (b := 8) Tryd.underlying45 rfl rfl (by kernel_rfl) Tryd.underlying23 Tryd.underlying28 Tryd.underlying5 cell8 (by kernel_rfl) (by kernel_rfl) h
theorem open_pair (hv : Value.okWide Tryd.prog W r b 45 v) (h : DataW.Trod enc Tryd.prog W base sp held 45 v d p) : ∃ l, v = .agg (aC l) ∧ l.length = 24 := by
  obtain ⟨cs, rfl, _⟩ := okWide_struct Tryd.underlying45 hv
  obtain ⟨fuel, hf⟩ := h
  obtain ⟨l, e, hl⟩ := pair_cells hf
  exact ⟨l, by rw [show cs = aC l from Array.toList_inj.mp e], hl⟩
theorem list_of {Q : Nat → List UInt8 → Prop} : ∀ n, (∀ i, i < n → ∃ l, Q i l) → ∃ L : List (List UInt8), L.length = n ∧ ∀ i (h : i < L.length), Q i L[i]
  | 0, _ => ⟨[], rfl, fun i h => by simp at h⟩
  | n + 1, h => by
    obtain ⟨L, hn, hq⟩ := list_of n (fun i hi => h i (by omega))
    obtain ⟨l, hl⟩ := h n (by omega)
    refine ⟨L ++ [l], by rw [List.length_append, hn]; rfl, fun i hi => ?_⟩
    by_cases h2 : i < L.length
    · rw [List.getElem_append_left h2]; exact hq i h2
    · have h3 : i = L.length := by rw [List.length_append] at hi; simp at hi; omega
      subst h3
      simp
      rw [hn]; exact hl
theorem open_pairs {a : Option Addr} {len cap : Nat} (h : DataW.Trod enc Tryd.prog W base sp held 43 (.slice a len cap) d p) : ∃ L : List (List UInt8), L.length = len ∧ PIn W a L ∧ ∀ q ∈ L, q.length = 24 := by
  obtain ⟨fuel, hf⟩ := h
  have hc24 : Tryd.prog.cellsOf 45 = 24 := by kernel_rfl
  rcases DataW.trod_slice Tryd.underlying43 hf with ⟨hcs, _⟩ | ⟨ad, l, c, elems, rest, n, _, hcs, _, _, _, _, hel, hcell, _⟩
  · simp [Value.cells] at hcs
    obtain ⟨rfl, rfl, rfl⟩ := hcs
    exact ⟨[], rfl, fun j h => by simp at h, fun q h => by simp at h⟩
  · simp [Value.cells] at hcs
    obtain ⟨rfl, rfl, rfl⟩ := hcs
    have hone : ∀ i, i < len → ∃ l : List UInt8, l.length = 24 ∧ ∀ j v, (bV l)[j]? = some v → W.cell? ((ad.add (i * 24)).add j) = some v := by
      intro i hi
      have h1 := hcell i hi
      rw [hc24, List.getElem?_eq_getElem (by omega)] at h1
      obtain ⟨cs, e1, e2⟩ := Option.bind_eq_some_iff.mp h1
      obtain ⟨l, rfl, hl⟩ := pair_cells e2
      obtain ⟨_, _, hcl⟩ := World.cells?_some e1
      refine ⟨l, hl, fun j v hj => ?_⟩
      have : j < 24 := by have := (List.getElem?_eq_some_iff.1 hj).1; rw [bV_length, hl] at this; exact this
      rw [hcl j this]; exact hj
    obtain ⟨L, hn, hq⟩ := list_of len hone
    refine ⟨L, hn, fun j hj => ?_, fun q hq2 => ?_⟩
    · obtain ⟨b, off, spot⟩ := ad
      have h0 := hq 0 (by omega)
      have hz : ∃ v, (bV L[0])[0]? = some v := by
        have : 0 < (bV L[0]).length := by rw [bV_length, h0.1]; decide
        exact ⟨_, List.getElem?_eq_getElem this⟩
      obtain ⟨v, hv⟩ := hz
      have hc0 := h0.2 0 v hv
      have hspot : spot = none := by simpa [Addr.add] using World.cell?_spot hc0
      subst hspot
      refine ⟨b, off, rfl, ?_, fun i u hi => ?_⟩
      · have := block_lt_of_cell hc0
        rwa [Addr.add_mid, Addr.add_mid] at this
      · have := (hq j hj).2 i u hi
        rwa [Addr.add_mid, Addr.add_mid] at this
    · obtain ⟨i, hi, rfl⟩ := List.mem_iff_getElem.mp hq2
      exact (hq i hi).1
end
end Go.Proofs.YtjoafbapffdneaaDoor
