/- What comes in: a slice of fields, of tags, of slices of fields. -/
import Derived.Test.YtipnaonagepolaaDoorPmL
import Derived.Test.YtipnaonagepolaaDoorZK
import Derived.Test.YtipnaonagepolaaDoorRows
import Derived.ProofKit
import Derived.OpenShut
namespace Go.Proofs.YtipnaonagepolaaDoor
open Go Go.RowKit Go.ChangeShapes Go.WideShapes Go.WideMaps Go.WideElems
set_option linter.unusedVariables false

/-- The slice at a, of so many, holds these fields. -/
def FInO (w : World) (a : Option Addr) (l : List FD) : Prop :=
  ∀ j (h : j < l.length), ∃ b off, a = some ⟨b, off, none⟩ ∧ b < w.heap.size ∧ w.cell? ⟨b, off + j * 4, none⟩ = some (.int .i64 l[j].1) ∧ w.cell? ⟨b, off + j * 4 + 1, none⟩ = some (.int .i64 l[j].2.1) ∧ w.cell? ⟨b, off + j * 4 + 2, none⟩ = some (.int .u64 (l[j].2.2.1 : Nat)) ∧ w.cell? ⟨b, off + j * 4 + 3, none⟩ = some (.string l[j].2.2.2)
theorem FInO.below {w w' : World} {a : Option Addr} {l : List FD} {N : Nat} (h : FInO w a l) (hb : Below N w w') (hN : w.heap.size ≤ N) : FInO w' a l := fun j hj => by
  obtain ⟨b, off, e, hlt, h1, h2, h3, h4⟩ := h j hj
  have hl : b < N := Nat.lt_of_lt_of_le hlt hN
  exact ⟨b, off, e, Nat.lt_of_lt_of_le hlt hb.size, (hb.cell (p := ⟨b, off + j * 4, none⟩) hl).trans h1, (hb.cell (p := ⟨b, off + j * 4 + 1, none⟩) hl).trans h2, (hb.cell (p := ⟨b, off + j * 4 + 2, none⟩) hl).trans h3, (hb.cell (p := ⟨b, off + j * 4 + 3, none⟩) hl).trans h4⟩
/-- A field's number is a number of 64 bits. -/
def fOk (x : FD) : Prop := x.2.2.1 < 18446744073709551616
/-- The slice at a, of so many, holds slices of these fields. -/
def PtIn (w : World) (a : Option Addr) (L : List (List FD)) : Prop :=
  ∀ j (h : j < L.length), ∃ b off ad c, a = some ⟨b, off, none⟩ ∧ b < w.heap.size ∧ w.cell? ⟨b, off + j, none⟩ = some (.slice ad L[j].length c) ∧ FInO w ad L[j]
theorem PtIn.below {w w' : World} {a : Option Addr} {L : List (List FD)} {N : Nat} (h : PtIn w a L) (hb : Below N w w') (hN : w.heap.size ≤ N) : PtIn w' a L := fun j hj => by
  obtain ⟨b, off, ad, c, e, hlt, h1, h2⟩ := h j hj
  exact ⟨b, off, ad, c, e, Nat.lt_of_lt_of_le hlt hb.size, (hb.cell (p := ⟨b, off + j, none⟩) (Nat.lt_of_lt_of_le hlt hN)).trans h1, h2.below hb hN⟩
theorem any_list {α : Type} {Q : Nat → α → Prop} : ∀ n : Nat, (∀ i, i < n → ∃ o, Q i o) → ∃ L : List α, L.length = n ∧ ∀ i (h : i < L.length), Q i L[i]
  | 0, _ => ⟨[], rfl, fun i h => by simp at h⟩
  | n + 1, h => by
    obtain ⟨L, hl, hq⟩ := any_list n (fun i hi => h i (by omega))
    obtain ⟨o, ho⟩ := h n (by omega)
    refine ⟨L ++ [o], by rw [List.length_append, hl]; rfl, fun i hi => ?_⟩
    by_cases e : i < L.length
    · rw [List.getElem_append_left e]; exact hq i e
    · have : i = n := by rw [List.length_append, List.length_singleton] at hi; omega
      subst this
      rw [List.getElem_append_right (by omega)]
      simp only [hl, Nat.sub_self, List.getElem_cons_zero]; exact ho
theorem add_zero_at (ad : Addr) : ad.add 0 = ad := by unfold Addr.add; split <;> simp_all
section
variable {H : Type} {enc : TypeId × Value → H} {W : World} {base : Nat} {sp : Nat → Bool} {held : Bool} {d : DataW H} {p : List MemPlace}
set_option maxRecDepth 100000 in
theorem fields_in {fuel : Nat} {a : Option Addr} {len cap : Nat} {x : DataW H × List MemPlace} (hf : DataW.trod enc Tryd.prog W base sp held fuel 27 [.slice a len cap] = some x) : ∃ L : List FD, L.length = len ∧ FInO W a L ∧ ∀ o ∈ L, fOk o := by
  have hc4 : Tryd.prog.cellsOf 45 = 4 := by kernel_rfl
  have c1 : Tryd.prog.cellsOf 3 = 1 := by kernel_rfl
  have c2 : Tryd.prog.cellsOf 9 = 1 := by kernel_rfl
  have c3 : Tryd.prog.cellsOf 30 = 1 := by kernel_rfl
  rcases DataW.trod_slice Tryd.underlying27 hf with ⟨hcs, _⟩ | ⟨ad, l, c, elems, rest, n, _, hcs, hx, _, _, _, hel, hcell, _⟩
  · simp at hcs
    obtain ⟨rfl, rfl, rfl⟩ := hcs
    exact ⟨[], rfl, fun j h => by simp at h, fun q h => by simp at h⟩
  · simp at hcs
    obtain ⟨rfl, rfl, rfl⟩ := hcs
    have hone : ∀ i, i < len → ∃ o : FD, W.cell? (ad.add (i * 4)) = some (.int .i64 o.1) ∧ W.cell? ((ad.add (i * 4)).add 1) = some (.int .i64 o.2.1) ∧ W.cell? ((ad.add (i * 4)).add 2) = some (.int .u64 (o.2.2.1 : Nat)) ∧ W.cell? ((ad.add (i * 4)).add 3) = some (.string o.2.2.2) ∧ fOk o := by
      intro i hi
      have h1 := hcell i hi
      rw [hc4, List.getElem?_eq_getElem (by omega)] at h1
      obtain ⟨cs, e1, e2⟩ := Option.bind_eq_some_iff.mp h1
      obtain ⟨_, hlen, hcl⟩ := World.cells?_some e1
      obtain ⟨xs, m, rfl, hy, _, hxn, hfl⟩ := DataW.trod_struct Tryd.underlying45 e2
      have hx4 : xs.length = 4 := hxn
      have g0 := hfl 0 _ rfl
      have g1 := hfl 1 _ rfl
      have g2 := hfl 2 _ rfl
      have g3 := hfl 3 _ rfl
      match cs, hlen, xs, hx4, g0, g1, g2, g3 with
      | [v0, v1, v2, v3], _, [y0, y1, y2, y3], _, g0, g1, g2, g3 =>
        obtain ⟨z0, f0, x0, w0⟩ := DataW.trod_int Tryd.underlying3 g0
        obtain ⟨z1, f1, x1, w1⟩ := DataW.trod_int Tryd.underlying3 g1
        obtain ⟨z2, f2, x2, w2⟩ := DataW.trod_int Tryd.underlying30 g2
        obtain ⟨t, f3, x3, _⟩ := DataW.trod_string Tryd.underlying9 g3
        have k0 := hcl 0 (by decide)
        have k1 := hcl 1 (by decide)
        have k2 := hcl 2 (by decide)
        have k3 := hcl 3 (by decide)
        have hz : 0 ≤ z2 ∧ z2 ≤ 18446744073709551615 := by simpa [Lit.wf, IntKind.min, IntKind.max, IntKind.signed, IntKind.bits] using w2
        have v0e : v0 = .int .i64 z0 := by simpa [c1] using f0
        have v1e : v1 = .int .i64 z1 := by simpa [c1] using f1
        have v2e : v2 = .int .u64 z2 := by simpa [c3] using f2
        have v3e : v3 = .string t := by simpa [c2] using f3
        subst v0e v1e v2e v3e
        refine ⟨(z0, z1, z2.toNat, t), ?_, by simpa using k1, ?_, by simpa using k3, by unfold fOk; dsimp only; omega⟩
        · rw [add_zero_at] at k0
          simpa using k0
        · dsimp only
          rw [Int.toNat_of_nonneg hz.1]; simpa using k2
    obtain ⟨L, hn, hq⟩ := any_list len hone
    refine ⟨L, hn, fun j hj => ?_, fun o ho => ?_⟩
    · obtain ⟨b, off, spot⟩ := ad
      obtain ⟨h0, h1, h2, h3, _⟩ := hq j hj
      have hspot : spot = none := by have := World.cell?_spot (hq 0 (by omega)).1; simpa [Addr.add] using this
      subst hspot
      rw [Addr.add_mid] at h0 h1 h2 h3
      rw [Addr.add_mid] at h1 h2 h3
      exact ⟨b, off, rfl, World.block_lt_of_cell? W _ h0, h0, h1, h2, h3⟩
    · obtain ⟨i, hi, rfl⟩ := List.mem_iff_getElem.mp ho
      exact (hq i hi).2.2.2.2
theorem open_fields {a : Option Addr} {len cap : Nat} (h : DataW.Trod enc Tryd.prog W base sp held 27 (.slice a len cap) d p) : ∃ L : List FD, L.length = len ∧ FInO W a L ∧ ∀ o ∈ L, fOk o := by
  obtain ⟨fuel, hf⟩ := h
  exact fields_in hf
set_option maxRecDepth 100000 in
theorem open_tags {a : Option Addr} {len cap : Nat} (h : DataW.Trod enc Tryd.prog W base sp held 42 (.slice a len cap) d p) : ∃ T : List TG, T.length = len ∧ TgIn W a T ∧ ∀ o ∈ T, tOk o := by
  obtain ⟨fuel, hf⟩ := h
  have hc2 : Tryd.prog.cellsOf 50 = 2 := by kernel_rfl
  have c1 : Tryd.prog.cellsOf 3 = 1 := by kernel_rfl
  rcases DataW.trod_slice Tryd.underlying42 hf with ⟨hcs, _⟩ | ⟨ad, l, c, elems, rest, n, _, hcs, hx, _, _, _, hel, hcell, _⟩
  · simp [Value.cells] at hcs
    obtain ⟨rfl, rfl, rfl⟩ := hcs
    exact ⟨[], rfl, fun j h => by simp at h, fun q h => by simp at h⟩
  · simp [Value.cells] at hcs
    obtain ⟨rfl, rfl, rfl⟩ := hcs
    have hone : ∀ i, i < len → ∃ o : TG, W.cell? (ad.add (i * 2)) = some (.int .i64 o.1) ∧ W.cell? ((ad.add (i * 2)).add 1) = some (.int .i64 o.2) ∧ tOk o := by
      intro i hi
      have h1 := hcell i hi
      rw [hc2, List.getElem?_eq_getElem (by omega)] at h1
      obtain ⟨cs, e1, e2⟩ := Option.bind_eq_some_iff.mp h1
      obtain ⟨_, hlen, hcl⟩ := World.cells?_some e1
      obtain ⟨xs, m, rfl, hy, _, hxn, hfl⟩ := DataW.trod_struct Tryd.underlying50 e2
      have hx2 : xs.length = 2 := hxn
      have g0 := hfl 0 _ rfl
      have g1 := hfl 1 _ rfl
      match cs, hlen, xs, hx2, g0, g1 with
      | [v0, v1], _, [y0, y1], _, g0, g1 =>
        obtain ⟨z0, f0, x0, w0⟩ := DataW.trod_int Tryd.underlying3 g0
        obtain ⟨z1, f1, x1, w1⟩ := DataW.trod_int Tryd.underlying3 g1
        have k0 := hcl 0 (by decide)
        have k1 := hcl 1 (by decide)
        have v0e : v0 = .int .i64 z0 := by simpa [c1] using f0
        have v1e : v1 = .int .i64 z1 := by simpa [c1] using f1
        subst v0e v1e
        refine ⟨(z0, z1), ?_, by simpa using k1, w0, w1⟩
        rw [add_zero_at] at k0
        simpa using k0
    obtain ⟨L, hn, hq⟩ := any_list len hone
    refine ⟨L, hn, fun j hj => ?_, fun o ho => ?_⟩
    · obtain ⟨b, off, spot⟩ := ad
      obtain ⟨h0, h1, _⟩ := hq j hj
      have hspot : spot = none := by have := World.cell?_spot (hq 0 (by omega)).1; simpa [Addr.add] using this
      subst hspot
      rw [Addr.add_mid] at h0 h1
      rw [Addr.add_mid] at h1
      exact ⟨b, off, rfl, World.block_lt_of_cell? W _ h0, h0, h1⟩
    · obtain ⟨i, hi, rfl⟩ := List.mem_iff_getElem.mp ho
      exact (hq i hi).2.2
set_option maxRecDepth 100000 in
theorem open_parts {a : Option Addr} {len cap : Nat} (h : DataW.Trod enc Tryd.prog W base sp held 59 (.slice a len cap) d p) : ∃ L : List (List FD), L.length = len ∧ PtIn W a L ∧ ∀ l ∈ L, ∀ o ∈ l, fOk o := by
  obtain ⟨fuel, hf⟩ := h
  have hc1 : Tryd.prog.cellsOf 27 = 1 := by kernel_rfl
  rcases DataW.trod_slice Tryd.underlying59 hf with ⟨hcs, _⟩ | ⟨ad, l, c, elems, rest, n, _, hcs, hx, _, _, _, hel, hcell, _⟩
  · simp [Value.cells] at hcs
    obtain ⟨rfl, rfl, rfl⟩ := hcs
    exact ⟨[], rfl, fun j h => by simp at h, fun q h => by simp at h⟩
  · simp [Value.cells] at hcs
    obtain ⟨rfl, rfl, rfl⟩ := hcs
    have hone : ∀ i, i < len → ∃ o : List FD, (∃ ad2 c2, W.cell? (ad.add i) = some (.slice ad2 o.length c2) ∧ FInO W ad2 o) ∧ ∀ x ∈ o, fOk x := by
      intro i hi
      have h1 := hcell i hi
      rw [hc1, List.getElem?_eq_getElem (by omega)] at h1
      obtain ⟨cs, e1, e2⟩ := Option.bind_eq_some_iff.mp h1
      obtain ⟨_, hlen, hcl⟩ := World.cells?_some e1
      have k0 := hcl 0 (by decide)
      rw [add_zero_at, Nat.mul_one] at k0
      rcases DataW.trod_slice Tryd.underlying27 e2 with ⟨hcs, _⟩ | ⟨ad2, l2, c2, _, _, _, _, hcs, _⟩
      · subst hcs
        obtain ⟨L, hL, hin, hok⟩ := fields_in e2
        exact ⟨L, ⟨_, _, by rw [hL]; simpa using k0, hin⟩, hok⟩
      · subst hcs
        obtain ⟨L, hL, hin, hok⟩ := fields_in e2
        exact ⟨L, ⟨_, _, by rw [hL]; simpa using k0, hin⟩, hok⟩
    obtain ⟨L, hn, hq⟩ := any_list len hone
    refine ⟨L, hn, fun j hj => ?_, fun o ho => ?_⟩
    · obtain ⟨b, off, spot⟩ := ad
      obtain ⟨⟨ad2, c2, h0, h1⟩, _⟩ := hq j hj
      have hspot : spot = none := by obtain ⟨⟨_, _, h2, _⟩, _⟩ := hq 0 (by omega); have := World.cell?_spot h2; simpa [Addr.add] using this
      subst hspot
      rw [Addr.add_mid] at h0
      exact ⟨b, off, ad2, c2, rfl, World.block_lt_of_cell? W _ h0, h0, h1⟩
    · obtain ⟨i, hi, rfl⟩ := List.mem_iff_getElem.mp ho
      exact (hq i hi).2
end
end Go.Proofs.YtipnaonagepolaaDoor
