/- What a row's condition on listed variables says of memory: one variable out of the list; a laid array of integers, cell by cell. Of no package. -/
import Derived.Test.YtmcklfndnjagiaaDoorPlain
import Derived.Test.YtmcklfndnjagiaaDoorRows
import Derived.ProofKit
import Derived.LaidMore
import Derived.OpenShut
import Derived.Stop.Joined
import Derived.Lib.LaidTab
namespace Go.Proofs.YtmcklfndnjagiaaDoor
open Go.ChangeShapes Go.WideShapes Go.ChangeAt Go.WideMaps Go.WideElems Go.RowKit

/-- A laid array of integers, cell by cell. -/
theorem cells_of_ints {H : Type} {enc : TypeId × Value → H} {P : Program} {W : World} {base fuel n : Nat} {spare : Nat → Bool} {held : Bool} {t e : TypeId} {k : IntKind} {cs : List Value} {zs : List Int} {p : List MemPlace}
    (ht : P.underlying t = some (.array n e)) (he : P.underlying e = some (.int k)) (hc : P.cellsOf e = 1)
    (h : DataW.trod enc P W base spare held fuel t cs = some (.agg (zs.map fun z => .lit (.int k z)), p)) :
    ∀ i, i < n → cs[i]? = some (.int k (zs.getD i 0)) := by
  intro i hi
  obtain ⟨xs, m, rfl, hx, hlen, hn, hel⟩ := DataW.trod_array ht h
  have hi' : i < xs.length := by omega
  have h1 := hel i hi
  rw [hc, Nat.mul_one, List.getElem?_eq_getElem hi'] at h1
  obtain ⟨z, e1, e2, _⟩ := DataW.trod_int he h1
  simp only [Prod.mk.injEq, DataW.agg.injEq] at hx
  have h2 : (zs.map fun z => DataW.lit (H := H) (.int k z))[i]? = some xs[i].1 := by rw [hx.1]; simp [hi']
  rw [e2] at h2
  have h3 : zs[i]? = some z := by simpa using h2
  have h4 : cs[i]? = some (.int k z) := by
    have : (List.take 1 (List.drop i cs))[0]? = some (.int k z) := by rw [e1]; rfl
    simpa [List.getElem?_take, List.getElem?_drop] using this
  rw [h4, List.getD_eq_getElem?_getD, h3]; rfl

/-- One variable of a list that is met. -/
theorem laid_one {P : Program} {w : World} {n : String} {d : DataW Unit} : ∀ {laid : List (String × DataW Unit)} {ps : List MemPlace}, DataW.LaidVars P w laid ps → (n, d) ∈ laid →
    ∃ g t cs fuel p, P.globalNamed n = some g ∧ (P.globals[g]?).map (·.type) = some t ∧ w.var? P n = some cs ∧ DataW.trod (fun _ => ()) P w 0 (fun _ => true) false fuel t cs.toList = some (d, p)
  | [], _, _, hm => by cases hm
  | x :: r, ps, h, hm => by
    obtain ⟨g, t, cs, fuel, p, q, h1, h2, h3, h4, h5, h6⟩ := h
    rcases List.mem_cons.mp hm with e | e
    · subst e
      exact ⟨g, t, cs, fuel, p, h1, h2, h3, h4⟩
    · exact laid_one h5 e
theorem laid_mem {P : Program} {w : World} {n : String} {d : DataW Unit} {laid : List (String × DataW Unit)} (hp : (laid.all fun x => x.2.handleName?.isNone) = true) (h : laidMetH P laid w) (hm : (n, d) ∈ laid) :
    ∃ g t cs fuel p, P.globalNamed n = some g ∧ (P.globals[g]?).map (·.type) = some t ∧ w.var? P n = some cs ∧ DataW.trod (fun _ => ()) P w 0 (fun _ => true) false fuel t cs.toList = some (d, p) := by
  rw [MakeChecks.laidMetH_plain _ _ _ hp] at h
  obtain ⟨ps, h1, _, _⟩ := h
  exact laid_one h1 hm
/-- A listed array of integers, where the program keeps it. -/
theorem ints_of_laid {P : Program} {w : World} {n : String} {laid : List (String × DataW Unit)} {d : DataW Unit} {k : IntKind} {zs : List Int} {g m : Nat} {t e : TypeId} (hp : (laid.all fun x => x.2.handleName?.isNone) = true) (h : laidMetH P laid w) (hm : (n, d) ∈ laid)
    (hd : d = .agg (zs.map fun z => .lit (.int k z))) (hg : P.globalNamed n = some g) (ht : (P.globals[g]?).map (·.type) = some t) (hu : P.underlying t = some (.array m e)) (he : P.underlying e = some (.int k)) (hc : P.cellsOf e = 1) :
    ∀ i, i < m → w.cell? ⟨g, i, none⟩ = some (.int k (zs.getD i 0)) := by
  obtain ⟨g0, t0, cs0, f0, p0, hg0, ht0, hv0, hd0⟩ := laid_mem hp h hm
  obtain rfl := Option.some.inj (hg.symm.trans hg0)
  obtain rfl := Option.some.inj (ht.symm.trans ht0)
  subst hd
  have hcs := cells_of_ints hu he hc hd0
  intro i hi
  rw [World.var?_cell hg0 hv0 i]
  have h1 := hcs i hi
  rw [Array.getElem?_toList] at h1
  exact h1
/-- The same as a table of the library's. -/
theorem tab_of_laid {P : Program} {w : World} {n : String} {laid : List (String × DataW Unit)} {d : DataW Unit} {k : IntKind} {zs : List Int} {g m : Nat} {t e : TypeId} (hp : (laid.all fun x => x.2.handleName?.isNone) = true) (h : laidMetH P laid w) (hm : (n, d) ∈ laid)
    (hd : d = Lib.tabData k zs) (hg : P.globalNamed n = some g) (ht : (P.globals[g]?).map (·.type) = some t) (hu : P.underlying t = some (.array m e)) (he : P.underlying e = some (.int k)) (hc : P.cellsOf e = 1) (hct : P.cellsOf t = m) : Lib.TabIs P w n k zs := by
  obtain ⟨g0, t0, cs0, f0, p0, hg0, ht0, hv0, hd0⟩ := laid_mem hp h hm
  obtain rfl := Option.some.inj (hg.symm.trans hg0)
  obtain rfl := Option.some.inj (ht.symm.trans ht0)
  subst hd
  unfold Lib.TabIs
  rw [hv0, ← Lib.cells_of_tab hu he hc hct hd0]
end Go.Proofs.YtmcklfndnjagiaaDoor
