/- 'm[k]++' on a map that the call itself made, in whatever order; a tag as a key; how many fields stand under a key. -/
import Derived.Test.YtipnaonagepolaaDoorZK
import Derived.Maps.OwnSet
import Derived.Maps.RangeWalk
import Derived.DeepKeys4
import Derived.WideKeyEntry
namespace Go.Proofs.YtipnaonagepolaaDoor
open Go Go.RowKit Go.Maps Go.ChangeMaps
set_option linter.unusedVariables false

/-- 'm[k]++' : the entry is looked for, and laid where it lacks; what stands there may be read ahead of that, or behind; the new number is put there. -/
theorem bump_own {H : Type} {P : Program} {t k e : TypeId} {q : IntKind} {w : World} {b n : Nat} {D : DataW H} (K : WideMaps.KeyLaw P k) (ht : P.underlying t = some (.map k e)) (he : P.underlying e = some (.int q)) (hz : ∀ u : World, (zeroValue e).run P u = .ok (.int q 0) u)
    (h : w.ownsMap P k (plainElem P e) b n D) (hn : n < maxLen) {key : Value} {kl : Lit} (hkey : keyOf P k key = some kl) :
    ∃ (c : Int) (v0 : Value) (st : Nat) (w1 : World), (Instr.mapEntry t (.map (some b)) key).run P w = .ok (.tuple #[v0, goInt st]) w1 ∧ w.grownBy w1 (some b) ∧
      (Instr.lookup t (.map (some b)) key false).run P w = .ok (.int q c) w ∧ (Instr.lookup t (.map (some b)) key false).run P w1 = .ok (.int q c) w1 ∧ D.atKey kl (.lit (.int q 0)) = .lit (.int q c) ∧
      ∀ c' : Int, (Lit.int q c').wf = true → ∃ w2, (Instr.entryStore t (.map (some b)) (goInt st) (.int q c')).run P w1 = .ok () w2 ∧ w2.ownsMap P k (plainElem P e) b (n + 1) (D.put kl (.lit (.int q c'))) ∧ w.grownBy w2 (some b) := by
  have KK := Keyed.of_law K
  have hw0 : (Lit.int q 0).wf = true := by cases q <;> decide
  obtain ⟨c, l1, l2, l3⟩ := h.lookup_int KK ht he (hz w) hkey
  have hup := fun (c' : Int) (hc : (Lit.int q c').wf = true) => h.update KK ht hn (val := .int q c') hkey (plainElem_int he hc)
  have h2 := h
  have htd := h.isMap
  obtain ⟨es, clock, hb, F, hs, hD⟩ := h
  obtain ⟨v0, st, es1, clock1, hrun, -, hst⟩ := WideElems.entry_then_store K ht hz hb F hkey
  have hblk : (setBlock w b (.map es1 clock1)).heap[b]? = some (.map es1 clock1) := heap_setBlock_same hb _
  refine ⟨c, v0, st, _, hrun, ⟨rfl, rfl, rfl, by simp [setBlock], fun i _ hi => heap_setBlock_other hb _ (fun e => hi (by rw [e]))⟩, l1, ?_, l2, fun c' hc => ?_⟩
  · obtain ⟨s1, s2, _⟩ := F.stamped
    rcases K.find w hkey es.toList F.keys with ⟨h1, h3⟩ | ⟨j, e0, h1, h3, h4⟩
    · have hr2 : (Instr.mapEntry t (.map (some b)) key).run P w = .ok (.tuple #[.int q 0, goInt clock]) (setBlock w b (.map (es.push ⟨key, .int q 0, clock⟩) (clock + 1))) := by
        simp [Instr.mapEntry, run_underlying ht, MapKept.run_getObj_map hb, K.check w false hkey, h1, hz, MapKept.run_setObj_map _ hb, Result.andThen, setBlock]
      have hr3 : (Instr.mapUpdate t (.map (some b)) key (.int q 0)).run P w = .ok () (setBlock w b (.map (es.push ⟨key, .int q 0, clock⟩) (clock + 1))) := by
        simp [Instr.mapUpdate, run_underlying ht, MapKept.run_getObj_map hb, K.check w false hkey, h1, MapKept.run_setObj_map _ hb, Result.andThen, setBlock]
      obtain ⟨w', u1, u2, _⟩ := hup 0 hw0
      rw [hrun] at hr2
      rw [hr3] at u1
      have e2 := (Result.ok.inj hr2).2
      have e3 := (Result.ok.inj u1).2
      rw [e2, e3]
      obtain ⟨c', m1, m2, m3⟩ := u2.lookup_int KK ht he (hz w') hkey
      have hk := KK.key hkey
      rw [atKey_put_same htd hk] at m2
      have hc0 : D.atKey kl (.lit (.int q 0)) = .lit (.int q 0) := by
        rcases Maps.fit_look false KK ht (hz w) hb F hkey with ⟨hr, _, hat⟩ | ⟨e1, y, he1, hk1, hr, hRv, hat, _⟩
        · rw [hD]; exact hat _
        · exact absurd hk1 (h3 _ he1)
      rw [hc0] at l2
      have e6 := (Lit.int.inj (DataW.lit.inj l2)).2
      have e7 := (Lit.int.inj (DataW.lit.inj m2)).2
      rw [← e6, e7]; exact m1
    · have hj : es[j]? = some e0 := by simpa using h3
      have hat := (Array.getElem?_eq_some_iff.1 hj).2
      have hmod : es.modify j (fun x => { x with key := key }) = es := Array.ext (Array.size_modify ..) fun i i1 i2 => by
        rw [Array.getElem_modify]
        by_cases eji : j = i
        · subst eji
          rw [if_pos rfl, hat, ← h4]
        · rw [if_neg eji]
      have hr2 : (Instr.mapEntry t (.map (some b)) key).run P w = .ok (.tuple #[e0.val, goInt e0.born]) (setBlock w b (.map es clock)) := by
        simp [Instr.mapEntry, run_underlying ht, MapKept.run_getObj_map hb, K.check w false hkey, h1, hj, h4, K.stays w hkey, hmod, MapKept.run_setObj_map _ hb, Result.andThen, setBlock]
      rw [hrun] at hr2
      have e2 := (Result.ok.inj hr2).2
      rw [e2]
      obtain ⟨c', m1, m2, m3⟩ := World.ownsMap.lookup_int (w := setBlock w b (.map es clock)) ⟨es, clock, heap_setBlock_same hb _, F, hs, hD⟩ KK ht he (hz _) hkey
      rw [l2] at m2
      have e7 := (Lit.int.inj (DataW.lit.inj m2)).2
      rw [e7]; exact m1
  · obtain ⟨w', u1, u2, u3⟩ := hup c' hc
    obtain ⟨es', clock', t1, t2⟩ := hst (setBlock w b (.map es1 clock1)) (.int q c') hblk
    rw [t2] at u1
    have e3 := (Result.ok.inj u1).2
    refine ⟨_, t1, ?_⟩
    have e4 : setBlock (setBlock w b (.map es1 clock1)) b (.map es' clock') = setBlock w b (.map es' clock') := by
      unfold setBlock
      simp [Array.setIfInBounds_setIfInBounds]
    rw [e4, e3]
    exact ⟨u2, u3⟩
end Go.Proofs.YtipnaonagepolaaDoor
