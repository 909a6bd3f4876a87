/- Package pmsg's map of counts: a tag as a key; what the map says of the fields so far, and of those whose tags were struck. -/
import Derived.Test.YtipnaonagepolaaDoorPmK
namespace Go.Proofs.YtipnaonagepolaaDoor
open Go Go.RowKit Go.Maps
set_option linter.unusedVariables false

theorem pmZero (w : World) : (zeroValue 3).run Tryd.prog w = .ok (.int .i64 0) w := by kernel_rfl
theorem pmLits {P : Program} {t : TypeId} {f0 f1 : Field} (ht : P.underlying t = some (.struct #[f0, f1])) (n0 : f0.name ≠ "_") (n1 : f1.name ≠ "_") (o0 : f0.offset = 0) (o1 : f1.offset = 1) (hc : P.cellsOf t = 2)
    (u0 : P.underlying f0.type = some (.int .i64)) (u1 : P.underlying f1.type = some (.int .i64)) (c0 : P.cellsOf f0.type = 1) (c1 : P.cellsOf f1.type = 1) (D : Nat) {n v : Int} (hn : (Lit.int .i64 n).wf = true) (hv : (Lit.int .i64 v).wf = true) :
    P.keyLits (D + 2) t [.int .i64 n, .int .i64 v] = some [.int .i64 n, .int .i64 v] := by
  have h0 : P.keyLits (D + 1) f0.type [.int .i64 n] = some [.int .i64 n] := by unfold Program.keyLits; simp [u0, hn]
  have h1 : P.keyLits (D + 1) f1.type [.int .i64 v] = some [.int .i64 v] := by unfold Program.keyLits; simp [u1, hv]
  unfold Program.keyLits
  simp only [ht]
  rw [if_pos ⟨by rw [hc]; rfl, by simp [n0, n1]⟩]
  simp [o0, o1, c0, c1, h0, h1]
theorem tgRow : (51 : TypeId) < Tryd.prog.types.size := of_decide_eq_true (by kernel_rfl)
theorem tgLaid : laidOutB Tryd.prog = true := by kernel_rfl
theorem tgKey : Tryd.prog.keyType 51 = true := by kernel_rfl
theorem tgKey9 : Tryd.prog.keyTypeAt 9 51 = true := by kernel_rfl
theorem tgLaw : WideMaps.KeyLaw Tryd.prog 51 := deep_law_laid tgLaid (m := 9) (by omega) tgRow tgKey9 (by rw [Tryd.underlying51])
theorem tgKeyed : Keyed Tryd.prog 51 := Keyed.of_law tgLaw
/-- A tag may be a key: its numbers are numbers of 64 bits. -/
def tOk (t : TG) : Prop := (Lit.int .i64 t.1).wf = true ∧ (Lit.int .i64 t.2).wf = true
/-- .. its bytes as a key. -/
def tKb (t : TG) : List UInt8 := keyBytes [.int .i64 t.1, .int .i64 t.2]
theorem tg_types : 1 ≤ Tryd.prog.types.size := of_decide_eq_true (by kernel_rfl)
theorem tag_key {t : TG} (h : tOk t) : keyOf Tryd.prog 51 (tgV t.1 t.2) = some (.string (tKb t)) := by
  have hf : (tgV t.1 t.2).formed Tryd.prog 51 = true := by
    have hc : Tryd.prog.cellsOf 51 = 2 := by kernel_rfl
    simp [Value.formed, Tryd.underlying51, hc]
  have hl : Tryd.prog.keyLits (Tryd.prog.types.size + 1) 51 [.int .i64 t.1, .int .i64 t.2] = some [.int .i64 t.1, .int .i64 t.2] := by
    obtain ⟨D, hD⟩ : ∃ D, Tryd.prog.types.size = D + 1 := ⟨Tryd.prog.types.size - 1, by have := tg_types; omega⟩
    rw [hD]
    exact pmLits Tryd.underlying51 (by decide) (by decide) rfl rfl (by kernel_rfl) Tryd.underlying3 Tryd.underlying3 (by kernel_rfl) (by kernel_rfl) D h.1 h.2
  unfold keyOf
  rw [Tryd.underlying51]
  simp only [tgKey, hf, Bool.and_self, if_true]
  rw [show (tgV t.1 t.2).cells.toList = [.int .i64 t.1, .int .i64 t.2] from rfl, hl]
  rfl
theorem tKb_inj {t u : TG} (ht : tOk t) (hu : tOk u) (h : tKb t = tKb u) : t = u := by
  have := tgLaw.inj (tag_key ht) (by rw [tag_key hu, h])
  simp only [Value.agg.injEq] at this
  have h2 := congrArg Array.toList this
  simp only [List.cons.injEq, Value.int.injEq, true_and, and_true] at h2
  exact Prod.ext h2.1 h2.2
/-- A field's key. -/
def fKb (x : FD) : List UInt8 := tKb (x.1, x.2.1)
abbrev pL (n : Int) : DataW Unit := .lit (.int .i64 n)
theorem same_str (a b : List UInt8) : (Lit.string a).sameKey (.string b) = decide (a = b) := by
  by_cases h : a = b
  · subst h; rw [WideAt.sameKey_self (by trivial)]; simp
  · have : (Lit.string a).sameKey (.string b) = false := sameKey_ne (fun e => h (Lit.string.inj e))
    rw [this]; simp [h]
/-- The map counts these fields. -/
structure CntD (D : DataW Unit) (l : List FD) : Prop where
  has : ∀ z, Maps.has D (.string z) = decide (0 < kCnt fKb z l)
  at_ : ∀ z, D.atKey (.string z) (pL 0) = pL (kCnt fKb z l : Nat)
theorem CntD.none : CntD (.map []) [] := ⟨fun z => rfl, fun z => rfl⟩
theorem CntD.more {D : DataW Unit} {l : List FD} (h : CntD D l) (hD : IsMap D) (x : FD) : CntD (D.put (.string (fKb x)) (pL ((kCnt fKb (fKb x) l : Nat) + 1))) (l ++ [x]) := by
  refine ⟨fun z => ?_, fun z => ?_⟩
  · rw [kCnt_snoc]
    by_cases e : z = fKb x
    · subst e; rw [has_put_same hD (by trivial)]; simp
    · rw [has_put_other (fun e2 => e (Lit.string.inj e2)), h.has z, if_neg (fun e2 => e e2.symm)]; rfl
  · rw [kCnt_snoc]
    by_cases e : z = fKb x
    · subst e; rw [atKey_put_same hD (by trivial), if_pos rfl]; rfl
    · rw [atKey_put_other (fun e2 => e (Lit.string.inj e2)), h.at_ z, if_neg (fun e2 => e e2.symm)]; rfl
/-- .. but for those of these tags. -/
structure DelD (D : DataW Unit) (l : List FD) (T : List TG) : Prop where
  has : ∀ z, Maps.has D (.string z) = (decide (0 < kCnt fKb z l) && !decide (z ∈ T.map tKb))
  at_ : ∀ z, ¬ z ∈ T.map tKb → D.atKey (.string z) (pL 0) = pL (kCnt fKb z l : Nat)
theorem CntD.del {D : DataW Unit} {l : List FD} (h : CntD D l) : DelD D l [] := ⟨fun z => by rw [h.has z]; simp, fun z _ => h.at_ z⟩
theorem DelD.more {D : DataW Unit} {l : List FD} {T : List TG} (h : DelD D l T) (t : TG) : DelD (D.del (.string (tKb t))) l (T ++ [t]) := by
  refine ⟨fun z => ?_, fun z hz => ?_⟩
  · by_cases e : z = tKb t
    · subst e; rw [has_del_same]; simp
    · rw [has_del_other (fun e2 => e (Lit.string.inj e2)), h.has z]
      have : decide (z ∈ (T ++ [t]).map tKb) = decide (z ∈ T.map tKb) := by
        rw [decide_eq_decide, List.map_append, List.mem_append]
        exact ⟨fun h2 => h2.elim id (fun h3 => absurd (List.mem_singleton.1 h3) e), .inl⟩
      rw [this]
  · rw [List.map_append, List.mem_append] at hz
    have e : z ≠ tKb t := fun e => hz (.inr (by simp [e]))
    rw [atKey_del_other (fun e2 => e (Lit.string.inj e2))]
    exact h.at_ z (fun h2 => hz (.inl h2))
/-- What is still to come, so far as these keys go. -/
def toCome (left : Lit → Bool) (l : List FD) : Nat := l.countP fun x => left (.string (fKb x))
theorem toCome_first {D : DataW Unit} {l : List FD} {T : List TG} (h : DelD D l T) (hl : ∀ x ∈ l, tOk (x.1, x.2.1)) (hT : ∀ t ∈ T, tOk t) : toCome (Maps.has D) l = fRest l T := by
  unfold toCome fRest
  refine List.countP_congr fun x hx => ?_
  rw [h.has]
  have h0 : 0 < kCnt fKb (fKb x) l := by
    unfold kCnt
    exact List.countP_pos_iff.2 ⟨x, hx, by simp⟩
  have h1 : decide (fKb x ∈ T.map tKb) = tKn T x := by
    rw [Bool.eq_iff_iff, decide_eq_true_iff, List.mem_map]
    unfold tKn tHas
    rw [List.any_eq_true]
    constructor
    · rintro ⟨t, h2, h3⟩
      have := tKb_inj (hT t h2) (hl x hx) h3
      exact ⟨t, h2, by rw [this]; simp⟩
    · rintro ⟨t, h2, h3⟩
      simp only [Bool.and_eq_true, decide_eq_true_eq] at h3
      exact ⟨t, h2, by unfold fKb; rw [h3.1, h3.2]⟩
  rw [h1]
  simp [h0]
theorem toCome_more (left : Lit → Bool) (z : List UInt8) (hz : left (.string z) = true) (l : List FD) : toCome left l = kCnt fKb z l + toCome (fun y => left y && !y.sameKey (.string z)) l := by
  unfold toCome
  rw [countP_strike fKb z (fun y => left (.string y)) hz l]
  congr 1
  exact List.countP_congr fun x _ => by
    show _ ↔ (left (.string (fKb x)) && !(Lit.string (fKb x)).sameKey (.string z)) = true
    rw [same_str]
theorem toCome_none (left : Lit → Bool) (h : ∀ kl, left kl = false) (l : List FD) : toCome left l = 0 := by
  unfold toCome
  simp [h]
end Go.Proofs.YtipnaonagepolaaDoor
