/- Several texts in one (Cells, Hds, MaxL): each begins with its own words. -/
import Derived.Test.YtmkcfilgiehjaaaGreatDoorZA
import Derived.Test.YtmkcfilgiehjaaaGreatDoorRows
import Derived.ProofKit
import Derived.LaidMore
import Derived.OpenShut
import Derived.Stop.Joined
import Derived.Lib.LaidTab
import Derived.Test.YtmkcfilgiehjaaaGreatDoorZG
import Derived.Test.YtmkcfilgiehjaaaGreatDoorZP
import Derived.Shelf.Vars
import Derived.SizedLaws
import Derived.HandedShaped
/- What a row's condition on listed variables says of memory: one variable out of the list; a laid array of integers, cell by cell. Of no package. -/
namespace Go.Proofs.YtmkcfilgiehjaaaGreatDoor
open Go.ChangeShapes Go.WideShapes Go.ChangeAt Go.WideMaps Go.WideElems Go.RowKit

/-- A laid array of integers, cell by cell. -/
theorem cells_of_ints {H : Type} {enc : TypeId × Value → H} {P : Program} {W : World} {base fuel n : Nat} {spare : Nat → Bool} {held : Bool} {t e : TypeId} {k : IntKind} {cs : List Value} {zs : List Int} {p : List MemPlace}
    (ht : P.underlying t = some (.array n e)) (he : P.underlying e = some (.int k)) (hc : P.cellsOf e = 1)
    (h : DataW.trod enc P W base spare held fuel t cs = some (.agg (zs.map fun z => .lit (.int k z)), p)) :
    ∀ i, i < n → cs[i]? = some (.int k (zs.getD i 0)) := by
  intro i hi
  obtain ⟨xs, m, rfl, hx, hlen, hn, hel⟩ := DataW.trod_array ht h
  have hi' : i < xs.length := by omega
  have h1 := hel i hi
  rw [hc, Nat.mul_one, List.getElem?_eq_getElem hi'] at h1
  obtain ⟨z, e1, e2, _⟩ := DataW.trod_int he h1
  simp only [Prod.mk.injEq, DataW.agg.injEq] at hx
  have h2 : (zs.map fun z => DataW.lit (H := H) (.int k z))[i]? = some xs[i].1 := by rw [hx.1]; simp [hi']
  rw [e2] at h2
  have h3 : zs[i]? = some z := by simpa using h2
  have h4 : cs[i]? = some (.int k z) := by
    have : (List.take 1 (List.drop i cs))[0]? = some (.int k z) := by rw [e1]; rfl
    simpa [List.getElem?_take, List.getElem?_drop] using this
  rw [h4, List.getD_eq_getElem?_getD, h3]; rfl

/-- One variable of a list that is met. -/
theorem laid_one {P : Program} {w : World} {n : String} {d : DataW Unit} : ∀ {laid : List (String × DataW Unit)} {ps : List MemPlace}, DataW.LaidVars P w laid ps → (n, d) ∈ laid →
    ∃ g t cs fuel p, P.globalNamed n = some g ∧ (P.globals[g]?).map (·.type) = some t ∧ w.var? P n = some cs ∧ DataW.trod (fun _ => ()) P w 0 (fun _ => true) false fuel t cs.toList = some (d, p)
  | [], _, _, hm => by cases hm
  | x :: r, ps, h, hm => by
    obtain ⟨g, t, cs, fuel, p, q, h1, h2, h3, h4, h5, h6⟩ := h
    rcases List.mem_cons.mp hm with e | e
    · subst e
      exact ⟨g, t, cs, fuel, p, h1, h2, h3, h4⟩
    · exact laid_one h5 e
theorem laid_mem {P : Program} {w : World} {n : String} {d : DataW Unit} {laid : List (String × DataW Unit)} (hp : (laid.all fun x => x.2.handleName?.isNone) = true) (h : laidMetH P laid w) (hm : (n, d) ∈ laid) :
    ∃ g t cs fuel p, P.globalNamed n = some g ∧ (P.globals[g]?).map (·.type) = some t ∧ w.var? P n = some cs ∧ DataW.trod (fun _ => ()) P w 0 (fun _ => true) false fuel t cs.toList = some (d, p) := by
  rw [MakeChecks.laidMetH_plain _ _ _ hp] at h
  obtain ⟨ps, h1, _, _⟩ := h
  exact laid_one h1 hm
/-- A listed array of integers, where the program keeps it. -/
theorem ints_of_laid {P : Program} {w : World} {n : String} {laid : List (String × DataW Unit)} {d : DataW Unit} {k : IntKind} {zs : List Int} {g m : Nat} {t e : TypeId} (hp : (laid.all fun x => x.2.handleName?.isNone) = true) (h : laidMetH P laid w) (hm : (n, d) ∈ laid)
    (hd : d = .agg (zs.map fun z => .lit (.int k z))) (hg : P.globalNamed n = some g) (ht : (P.globals[g]?).map (·.type) = some t) (hu : P.underlying t = some (.array m e)) (he : P.underlying e = some (.int k)) (hc : P.cellsOf e = 1) :
    ∀ i, i < m → w.cell? ⟨g, i, none⟩ = some (.int k (zs.getD i 0)) := by
  obtain ⟨g0, t0, cs0, f0, p0, hg0, ht0, hv0, hd0⟩ := laid_mem hp h hm
  obtain rfl := Option.some.inj (hg.symm.trans hg0)
  obtain rfl := Option.some.inj (ht.symm.trans ht0)
  subst hd
  have hcs := cells_of_ints hu he hc hd0
  intro i hi
  rw [World.var?_cell hg0 hv0 i]
  have h1 := hcs i hi
  rw [Array.getElem?_toList] at h1
  exact h1
/-- The same as a table of the library's. -/
theorem tab_of_laid {P : Program} {w : World} {n : String} {laid : List (String × DataW Unit)} {d : DataW Unit} {k : IntKind} {zs : List Int} {g m : Nat} {t e : TypeId} (hp : (laid.all fun x => x.2.handleName?.isNone) = true) (h : laidMetH P laid w) (hm : (n, d) ∈ laid)
    (hd : d = Lib.tabData k zs) (hg : P.globalNamed n = some g) (ht : (P.globals[g]?).map (·.type) = some t) (hu : P.underlying t = some (.array m e)) (he : P.underlying e = some (.int k)) (hc : P.cellsOf e = 1) (hct : P.cellsOf t = m) : Lib.TabIs P w n k zs := by
  obtain ⟨g0, t0, cs0, f0, p0, hg0, ht0, hv0, hd0⟩ := laid_mem hp h hm
  obtain rfl := Option.some.inj (hg.symm.trans hg0)
  obtain rfl := Option.some.inj (ht.symm.trans ht0)
  subst hd
  unfold Lib.TabIs
  rw [hv0, ← Lib.cells_of_tab hu he hc hct hd0]
end Go.Proofs.YtmkcfilgiehjaaaGreatDoor
/- What a row's condition on utf's table says of memory: 'Hds'. -/
namespace Go.Proofs.YtmkcfilgiehjaaaGreatDoor
open Go.RowKit

theorem heads_of {laid : List (String × DataW Unit)} {W : World} (hp : (laid.all fun x => x.2.handleName?.isNone) = true) (h : laidMetH Tryz.prog laid W) (hm : ("truchman/utf.heads", Rows.laid_truchman_utf_heads) ∈ laid) : Hds W := by
  have hc := ints_of_laid (k := .u8) (zs := [0, 0, 192, 224, 240]) (g := 3) (t := 205) (e := 5) (m := 5) hp h hm rfl (by kernel_rfl) (by kernel_rfl) Tryz.underlying205 Tryz.underlying5 (by kernel_rfl)
  intro k hk
  rw [hc k hk]
  match k, hk with
  | 0, _ => rfl
  | 1, _ => rfl
  | 2, _ => rfl
  | 3, _ => rfl
  | 4, _ => rfl
end Go.Proofs.YtmkcfilgiehjaaaGreatDoor
/- What the first world's shape says of the library's variable MaxLen; the plain wrap with listed variables, the world's shape kept. -/
namespace Go.Proofs.YtmkcfilgiehjaaaGreatDoor
open Go Go.RowKit
set_option linter.unusedVariables false

theorem maxL_of {W : World} (h : W.ShapedOpen Tryz.prog) : MaxL W :=
  cell_of_shapedOpen_int (g := 0) (t := 3) (zero := #[.int .i64 0]) h (of_decide_eq_true (by kernel_rfl)) (by kernel_rfl) rfl (by kernel_rfl) (by kernel_rfl) Tryz.underlying3
/-- A contract over any world that is shaped and meets what is listed is what a row asks. -/
theorem returnsInHanded_and_shaped {H : Type} {enc : TypeId × Value → H} {a : Assume} {C : Checked} {os : Os} {f : FuncId} {fn : Func} {s : ChangeSpec} {conds : List PathCond} {apart fresh handsOn again : Bool} {X : World → Array Value → Prop}
    (hX : ∀ (w w' : World) (args : Array Value), w.heap = w'.heap → X w args → X w' args)
    (own : ownKnob C.prog.godebug = none) (started : os.Started) (noInit : C.prog.inits.idxOf? f = none) (hfn : C.prog.funcs[f]? = some fn)
    (witness : ∃ (w : World) (tape : Tape) (i : Input), w.os = os ∧ (w.forCall tape i).Shaped C.prog ∧ i.vars = [] ∧ Input.okWide C.prog (w.forCall tape i) .any w.heap.size f i ∧
      ((s.pre enc C.prog fn conds apart (w.forCall tape i).memory i.args ∧ X (w.forCall tape i).memory i.args) ∧ sizedMet enc C.prog fn (OpenSpec.ofChange s) apart (w.forCall tape i).memory i.args) ∧ a.holds C.prog (lone (Frame.enter C.prog f i.args .normal) [] (w.forCall tape i)))
    (contract : ∀ (W : World) (base : Nat) (args : Array Value) (ds gs : List (DataW H)) (before : List MemPlace),
      (∀ (j : Nat) t v, fn.params[j]? = some t → args[j]? = some v → Value.okWide C.prog W .any base t v) →
      DataW.Whole enc C.prog fn.params.toList s.vars apart W args.toList ds gs before →
      conds.all (PathCond.test C.prog ⟨fn.params.toList, ds, s.plain.varTypes C.prog, gs⟩) = true →
      (DataW.weightsEach C.prog (fn.params.toList ++ s.plain.varTypes C.prog) (ds ++ gs)).all (· ≤ reachBytes) = true → X W args →
      a.holds C.prog (lone (Frame.enter C.prog f args .normal) [] W) → W.ShapedOpen C.prog →
      Calls C.prog f args W fun e W' => ∃ v, e = .returned v ∧ s.post enc C.prog fn apart fresh handsOn again W args v W') :
    ReturnsInHanded a C os f .any (fun w args => (s.pre enc C.prog fn conds apart w args ∧ X w args) ∧ sizedMet enc C.prog fn (OpenSpec.ofChange s) apart w args) (s.post enc C.prog fn apart fresh handsOn again) := by
  refine returnsInHanded_of_calls own started noInit witness ?_
  intro w tape i _ shaped _ ok pre holds
  obtain ⟨_, _, _, fn2, hfn2, _, _, _, _, hval⟩ := ok
  obtain rfl : fn2 = fn := Option.some.inj (hfn2.symm.trans hfn)
  obtain ⟨⟨⟨ds, gs, before, hw, hc⟩, hx⟩, hz⟩ := pre
  refine (contract (w.forCall tape i) w.heap.size i.args ds gs before hval (DataW.Whole.of_heap (w' := w.forCall tape i) (by rfl) hw) hc (hz.weights hw) (hX _ _ _ (by rfl) hx) holds shaped).mono ?_
  rintro e W' ⟨v, rfl, hp⟩
  exact ChangeSpec.post_blind hp
end Go.Proofs.YtmkcfilgiehjaaaGreatDoor
