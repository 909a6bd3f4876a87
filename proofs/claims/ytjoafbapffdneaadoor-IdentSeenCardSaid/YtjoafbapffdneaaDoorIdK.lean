/- Package ident's keeper of spans: its map's keys, what memory holds of it; New, Len. -/
import Derived.Test.YtjoafbapffdneaaDoorIdC
import Derived.Deep.QuietTactic
import Derived.Maps.OwnSet
namespace Go.Proofs.YtjoafbapffdneaaDoor
open Go Go.RowKit Go.Maps
set_option linter.unusedVariables false

theorem lits_two {P : Program} {t e : TypeId} {f0 f1 : Field} {a b : Nat} (ht : P.underlying t = some (.struct #[f0, f1])) (n0 : f0.name ≠ "_") (n1 : f1.name ≠ "_") (o0 : f0.offset = 0) (o1 : f1.offset = a) (hc : P.cellsOf t = a + b)
    (u0 : P.underlying f0.type = some (.array a e)) (u1 : P.underlying f1.type = some (.array b e)) (he : P.underlying e = some (.int .u8)) (hce : P.cellsOf e = 1) (c0 : P.cellsOf f0.type = a) (c1 : P.cellsOf f1.type = b) (hsz : 2 ≤ P.types.size)
    (l : List UInt8) (hl : l.length = a + b) : P.keyLits (P.types.size + 1) t (bV l) = some (kL l) := by
  obtain ⟨D, hD⟩ : ∃ D, P.types.size = D + 2 := ⟨P.types.size - 2, by omega⟩
  rw [hD, ← List.take_append_drop a l]
  have h0 : (l.take a).length = a := by rw [List.length_take]; omega
  have h1 : (l.drop a).length = b := by rw [List.length_drop]; omega
  exact lits_pair ht n0 n1 o0 o1 c0 c1 hc (D + 2) _ _ h0 h1 (lits_array u0 he hce c0 D _ h0) (lits_array u1 he hce c1 D _ h1)

theorem types2 : 2 ≤ Tryd.prog.types.size := of_decide_eq_true (by kernel_rfl)
theorem keyT : BytesT Tryd.prog 68 24 :=
  ⟨⟨_, Tryd.underlying68, rfl⟩, by kernel_rfl, by kernel_rfl, by kernel_rfl, fun l hl => lits_two (a := 16) (b := 8) Tryd.underlying68 (by decide) (by decide) rfl rfl (by kernel_rfl) Tryd.underlying23 Tryd.underlying28 Tryd.underlying5 cell8 (by kernel_rfl) (by kernel_rfl) types2 l hl⟩
theorem pairT : BytesT Tryd.prog 45 24 :=
  ⟨⟨_, Tryd.underlying45, rfl⟩, by kernel_rfl, by kernel_rfl, by kernel_rfl, fun l hl => lits_two (a := 16) (b := 8) Tryd.underlying45 (by decide) (by decide) rfl rfl (by kernel_rfl) Tryd.underlying23 Tryd.underlying28 Tryd.underlying5 cell8 (by kernel_rfl) (by kernel_rfl) types2 l hl⟩

theorem keyWide : (match Tryd.prog.underlying 68 with | some (.array _ _) | some (.struct _) => true | _ => false) = true := by kernel_rfl
theorem keyRow : (68 : TypeId) < Tryd.prog.types.size := of_decide_eq_true (by kernel_rfl)
theorem keyLaid : laidOutB Tryd.prog = true := by kernel_rfl
theorem keyLaw : Keyed Tryd.prog 68 := Keyed.of_law (deep_law_laid keyLaid (m := 9) (by omega) keyRow keyT.key keyWide)
/-- A span of a trace as a key. -/
def kLit (p : List UInt8) : Lit := .string (keyBytes (kL p))
theorem key_of (p : List UInt8) (h : p.length = 24) : keyOf Tryd.prog 68 (.agg (aC p)) = some (kLit p) := by
  have hk : Tryd.prog.keyType 68 = true := by kernel_rfl
  have hf := keyT.formed h
  have hl := keyT.lits p h
  unfold keyOf
  rw [Tryd.underlying68]
  simp only [hk, hf, Bool.and_self, if_true]
  rw [show (Value.agg (aC p)).cells.toList = bV p from rfl, hl]
  rfl
theorem aC_inj {l m : List UInt8} (h : aC l = aC m) : l = m := by
  have h1 : bV l = bV m := congrArg Array.toList h
  have h2 : l.map (fun b : UInt8 => Value.int .u8 (b.toNat : Int)) = m.map (fun b : UInt8 => Value.int .u8 (b.toNat : Int)) := h1
  refine (List.map_inj_right ?_).mp h2
  intro x y hxy
  simp only [Value.int.injEq, true_and] at hxy
  exact UInt8.toNat_inj.mp (by omega)
theorem kLit_inj {p q : List UInt8} (hp : p.length = 24) (hq : q.length = 24) (h : kLit p = kLit q) : p = q := by
  have := keyLaw.inj (key_of p hp) (by rw [key_of q hq, h])
  simp only [Value.agg.injEq] at this
  exact aC_inj this
theorem kLit_key (p : List UInt8) (h : p.length = 24) : WideAt.IsKeyLit (kLit p) := keyLaw.key (key_of p h)

abbrev nL (n : Int) : DataW Unit := .lit (.int .i64 n)
/-- The map of spans that were seen, in this order. -/
structure SeenD (D : DataW Unit) (L : List (List UInt8)) : Prop where
  len : ∀ p ∈ L, p.length = 24
  has : ∀ p, p.length = 24 → Maps.has D (kLit p) = decide (p ∈ L)
  at_ : ∀ p ∈ L, D.atKey (kLit p) (nL 0) = nL (L.idxOf p)
  size : Maps.size D = L.length
theorem seen_none : SeenD (.map []) [] := ⟨fun p h => by simp at h, fun p h => by simp [Maps.has], fun p h => by simp at h, rfl⟩
theorem SeenD.more {D : DataW Unit} {L : List (List UInt8)} (h : SeenD D L) (hD : Tidy D) {p : List UInt8} (hp : p.length = 24) (hn : ¬ p ∈ L) : SeenD (D.put (kLit p) (nL L.length)) (L ++ [p]) := by
  have hk := kLit_key p hp
  refine ⟨?_, ?_, ?_, ?_⟩
  · intro q hq
    rcases List.mem_append.mp hq with h1 | h1
    · exact h.len q h1
    · rw [List.mem_singleton.mp h1]; exact hp
  · intro q hq
    by_cases e : q = p
    · subst e
      rw [has_put_same hD.isMap hk]
      simp
    · rw [has_put_other (fun e2 => e (kLit_inj hq hp e2)), h.has q hq]
      simp [e]
  · intro q hq
    by_cases e : q = p
    · subst e
      rw [atKey_put_same hD.isMap hk, List.idxOf_append, if_neg hn]
      simp
    · have hqL : q ∈ L := by
        rcases List.mem_append.mp hq with h1 | h1
        · exact h1
        · exact absurd (List.mem_singleton.mp h1) e
      rw [atKey_put_other (fun e2 => e (kLit_inj (h.len q hqL) hp e2)), h.at_ q hqL, List.idxOf_append, if_pos hqL]
  · rw [size_put hD, h.has p hp, if_neg (by simp [hn]), h.size]
    simp

/-- Block b is a keeper, whose map is block m, of the spans L. -/
structure SeenAt (w : World) (b m : Nat) (L : List (List UInt8)) : Prop where
  blk : w.heap[b]? = some (.cells #[.map (some m)] 66 (0, 0))
  own : ∃ D, w.ownsMap Tryd.prog 68 (plainElem Tryd.prog 3) m L.length D ∧ SeenD D L
theorem SeenAt.lt {w : World} {b m : Nat} {L : List (List UInt8)} (h : SeenAt w b m L) : b < w.heap.size ∧ m < w.heap.size := by
  obtain ⟨D, ho, _⟩ := h.own
  exact ⟨lt_of_block h.blk, ho.lt⟩
theorem SeenAt.cell {w : World} {b m : Nat} {L : List (List UInt8)} (h : SeenAt w b m L) : w.cell? ⟨b, 0, none⟩ = some (.map (some m)) := by rw [cell_of_row w b 0 _ _ _ h.blk]; rfl
theorem SeenAt.keep {w w' : World} {b m : Nat} {L : List (List UInt8)} (h : SeenAt w b m L) (hb : w'.heap[b]? = w.heap[b]?) (hm : w'.heap[m]? = w.heap[m]?) : SeenAt w' b m L := by
  refine ⟨hb.trans h.blk, ?_⟩
  obtain ⟨D, ⟨es, clock, h1, h2, h3, h4⟩, hs⟩ := h.own
  exact ⟨D, ⟨es, clock, hm.trans h1, h2, h3, h4⟩, hs⟩
theorem SeenAt.below {w w' : World} {b m N : Nat} {L : List (List UInt8)} (h : SeenAt w b m L) (hb : Below N w w') (h1 : b < N) (h2 : m < N) : SeenAt w' b m L := h.keep (hb.block b h1) (hb.block m h2)
theorem SeenAt.le {w : World} {b m : Nat} {L : List (List UInt8)} (h : SeenAt w b m L) : ∀ p ∈ L, p.length = 24 := by obtain ⟨D, _, hs⟩ := h.own; exact hs.len

theorem newseen_any (w : World) :
    Calls Tryd.prog 24 #[] w fun e w' => ∃ b m, e = .returned (.pointer (some ⟨b, 0, none⟩)) ∧ SeenAt w' b m [] ∧ w.heap.size ≤ b ∧ w.heap.size ≤ m ∧ Below w.heap.size w w' := by
  have hmm := @run_makeMap Tryd.prog
  have h1 := World.ownsMap_made (H := Unit) w Tryd.prog 68 (plainElem Tryd.prog 3)
  have hall : SeenAt ((w.alloc (.map #[] 0)).alloc (.cells #[.map (some w.heap.size)] 66)) (w.heap.size + 1) w.heap.size [] :=
    ⟨heap_alloc2_new w _ _, _, h1.alloc _, seen_none⟩
  have hbe : Below w.heap.size w ((w.alloc (.map #[] 0)).alloc (.cells #[.map (some w.heap.size)] 66)) := (below_alloc w _).alloc (by simp) _
  have HA := Lib.hid hall
  have HB := Lib.hid hbe
  clear h1 hall hbe
  go_enter Tryd.func24, Tryd.ntmps24
  go_wp2
  go_ret
  exact ⟨_, _, rfl, HA.out, by omega, Nat.le_refl _, HB.out⟩

theorem len_nil (w : World) : Calls Tryd.prog 27 #[.pointer none] w fun e w' => e = .returned (.int .i64 0) ∧ w' = w := by
  go_enter Tryd.func27, Tryd.ntmps27
  go_wp2
  go_ret
  exact ⟨rfl, rfl⟩
theorem len_any {b m : Nat} {L : List (List UInt8)} {w : World} (h : SeenAt w b m L) :
    Calls Tryd.prog 27 #[.pointer (some ⟨b, 0, none⟩)] w fun e w' => e = .returned (.int .i64 L.length) ∧ w' = w := by
  have c0 := h.cell
  obtain ⟨D, ho, hs⟩ := h.own
  have HO := Lib.hid ho
  have HS := Lib.hid hs.size
  clear h ho hs
  go_enter Tryd.func27, Tryd.ntmps27
  go_wp2_with (at_len; refine wpList_len_own _ rfl _ 64 rfl 68 3 Tryd.underlying64 _ m L.length D rfl HO.out ?_)
  go_ret
  exact ⟨ret_i (by rw [HS.out]), rfl⟩
end Go.Proofs.YtjoafbapffdneaaDoor
