/- What the row's condition on word's table says of memory: 'Tab'; the door's own heap meets it. -/
import Derived.Test.YtkjlpkldonhjdaaDoorLayB
import Derived.ProofKit
import Derived.LaidMore
import Derived.OpenShut
import Derived.Stop.Joined
namespace Go.Proofs.YtkjlpkldonhjdaaDoor
open Go.ChangeShapes Go.WideShapes Go.ChangeAt Go.WideMaps Go.WideElems Go.RowKit

/-- A laid array of integers, cell by cell. -/
theorem cells_of_ints {H : Type} {enc : TypeId × Value → H} {P : Program} {W : World} {base fuel n : Nat} {spare : Nat → Bool} {held : Bool} {t e : TypeId} {k : IntKind} {cs : List Value} {zs : List Int} {p : List MemPlace}
    (ht : P.underlying t = some (.array n e)) (he : P.underlying e = some (.int k)) (hc : P.cellsOf e = 1)
    (h : DataW.trod enc P W base spare held fuel t cs = some (.agg (zs.map fun z => .lit (.int k z)), p)) :
    ∀ i, i < n → cs[i]? = some (.int k (zs.getD i 0)) := by
  intro i hi
  obtain ⟨xs, m, rfl, hx, hlen, hn, hel⟩ := DataW.trod_array ht h
  have hi' : i < xs.length := by omega
  have h1 := hel i hi
  rw [hc, Nat.mul_one, List.getElem?_eq_getElem hi'] at h1
  obtain ⟨z, e1, e2, _⟩ := DataW.trod_int he h1
  simp only [Prod.mk.injEq, DataW.agg.injEq] at hx
  have h2 : (zs.map fun z => DataW.lit (H := H) (.int k z))[i]? = some xs[i].1 := by rw [hx.1]; simp [hi']
  rw [e2] at h2
  have h3 : zs[i]? = some z := by simpa using h2
  have h4 : cs[i]? = some (.int k z) := by
    have : (List.take 1 (List.drop i cs))[0]? = some (.int k z) := by rw [e1]; rfl
    simpa [List.getElem?_take, List.getElem?_drop] using this
  rw [h4, List.getD_eq_getElem?_getD, h3]; rfl

theorem gShifts : Tryd.prog.globalNamed "truchman/word.shifts" = some 0 := by kernel_rfl
theorem tShifts : (Tryd.prog.globals[0]?).map (·.type) = some 54 := by kernel_rfl
theorem cUint : Tryd.prog.cellsOf 53 = 1 := by kernel_rfl

theorem tab_of {W : World} {g0 : Nat} {t0 : TypeId} {cs0 : Array Value} {f0 : Nat} {p0 : List MemPlace} (hg0 : Tryd.prog.globalNamed "truchman/word.shifts" = some g0) (ht0 : (Tryd.prog.globals[g0]?).map (·.type) = some t0)
    (hv0 : W.var? Tryd.prog "truchman/word.shifts" = some cs0) {H : Type} {enc : TypeId × Value → H} {sp : Nat → Bool} {hd : Bool}
    (hd0 : DataW.trod enc Tryd.prog W 0 sp hd f0 t0 cs0.toList = some (Rows.laid_truchman_word_shifts, p0)) : Tab W := by
  obtain rfl := Option.some.inj (gShifts.symm.trans hg0)
  obtain rfl := Option.some.inj (tShifts.symm.trans ht0)
  have hd1 : DataW.trod enc Tryd.prog W 0 sp hd f0 54 cs0.toList = some (.agg (([0, 8, 16, 24, 32, 40, 48, 56] : List Int).map fun z => .lit (.int .u64 z)), p0) := hd0
  have hcs := cells_of_ints Tryd.underlying54 Tryd.underlying53 cUint hd1
  intro k hk
  rw [World.var?_cell hg0 hv0 k]
  have h1 := hcs k hk
  rw [Array.getElem?_toList] at h1
  rw [h1]
  match k, hk with
  | 0, _ => rfl
  | 1, _ => rfl
  | 2, _ => rfl
  | 3, _ => rfl
  | 4, _ => rfl
  | 5, _ => rfl
  | 6, _ => rfl
  | 7, _ => rfl

theorem of_laid {W : World} (h : laidMetH Tryd.prog [("truchman/word.shifts", Rows.laid_truchman_word_shifts)] W) : Tab W := by
  rw [MakeChecks.laidMetH_plain _ _ _ (by kernel_rfl)] at h
  obtain ⟨ps, ⟨g0, t0, cs0, f0, p0, q0, hg0, ht0, hv0, hd0, _, _⟩, _, _⟩ := h
  exact tab_of hg0 ht0 hv0 hd0

/-- The door's own heap meets the condition: three closed facts. -/
theorem door_met (os : Os) (args : Array Value) : laidMetH Tryd.prog [("truchman/word.shifts", Rows.laid_truchman_word_shifts)] ((World.doorLaid Tryd.prog 400 os).forCall (fun _ _ => 0) ⟨#[], args, []⟩).memory :=
  laidMetH_of_parts3 (fuel := 8) (laidMet_of_run' 8 (by kernel_rfl) (by kernel_rfl)) (by kernel_rfl) (by kernel_rfl)
end Go.Proofs.YtkjlpkldonhjdaaDoor
