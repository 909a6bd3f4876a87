/- Messages that are written, in memory: parts behind an interface, each of them a field or a message within; the list of a message's parts; what 'append' of one part makes of it. -/
import Derived.Test.YtjpppnfkpnfhoaaDoorZJ
import Derived.Test.YtjpppnfkpnfhoaaDoorBld
namespace Go.Proofs.YtjpppnfkpnfhoaaDoor
open Go Go.RowKit
set_option linter.unusedVariables false

/-- A field's bytes; all fields' bytes, one behind the other. -/
def pBs (x : FD) : List UInt8 := fB x.1 x.2.1 x.2.2.1 x.2.2.2
def pB (X : List FD) : List UInt8 := X.flatMap pBs
theorem pB_nil : pB [] = [] := rfl
theorem pB_cons (x : FD) (X : List FD) : pB (x :: X) = pBs x ++ pB X := rfl
theorem pB_append (X Y : List FD) : pB (X ++ Y) = pB X ++ pB Y := List.flatMap_append
theorem pB_one (x : FD) : pB [x] = pBs x := by rw [pB_cons, pB_nil, List.append_nil]
theorem pB_len (X Y : List FD) : (pB (X ++ Y)).length = (pB X).length + (pB Y).length := by rw [pB_append, List.length_append]
theorem pB_take (X : List FD) (j : Nat) (h : j < X.length) : pB (X.take (j + 1)) = pB (X.take j) ++ pBs X[j] := by
  rw [List.take_add_one, pB_append, List.getElem?_eq_getElem h]
  show pB (X.take j) ++ pB [X[j]] = _
  rw [pB_one]
theorem pB_take_le (X : List FD) (j : Nat) : (pB (X.take j)).length ≤ (pB X).length := by
  have h := pB_len (X.take j) (X.drop j)
  rw [List.take_append_drop] at h
  omega

/-- A field, a message within, behind the interface. -/
abbrev pfI (x : FD) : Value := .iface 67 (pfV x)
abbrev pwV (n : Int) (u : Value) (z : Int) : Value := .agg #[.int .i64 n, u, .int .i64 z]
abbrev pwI (n : Int) (u : Value) (z : Int) : Value := .iface 66 (pwV n u z)
/-- The slice u of parts: of each of them P holds, and of what it stands for. -/
def RowOf (P : Value → FD → Prop) (w : World) (u : Value) (X : List FD) : Prop :=
  ∃ a cap, u = .slice a X.length cap ∧ ∀ j (h : j < X.length), ∃ g cs, a = some ⟨g, 0, none⟩ ∧ w.heap[g]? = some (.cells cs 74 (0, 0)) ∧ ∃ t y, cs[j]? = some (.iface t y) ∧ P (.iface t y) X[j]
/-- A field that is laid: there is such a tag, it fits; T: the listed table is there, where its wire type wants it. -/
structure FdOk (T : Prop) (x : FD) : Prop where
  tag : tagB x.1 x.2.1 = true
  num : x.2.2.1 < 18446744073709551616
  txt : x.2.2.2.size ≤ 1099511627776
  tab : x.2.1 = 1 ∨ x.2.1 = 5 → T
/-- p is a part that stands for the field x; messages within are at most k deep. -/
def PartV (T : Prop) : Nat → World → Value → FD → Prop
  | 0, _, _, _ => False
  | k + 1, w, p, x => FdOk T x ∧ (p = pfI x ∨ ∃ u X, p = pwI x.1 u ((pB X).length : Nat) ∧ tagB x.1 2 = true ∧ x.2.1 = 2 ∧ x.2.2.1 = 0 ∧ x.2.2.2 = bA (pB X) ∧ RowOf (fun q y => PartV T k w q y) w u X)
theorem PartV.ok {T : Prop} : ∀ {k : Nat} {w : World} {p : Value} {x : FD}, PartV T k w p x → FdOk T x
  | 0, _, _, _, h => False.elim h
  | _ + 1, _, _, _, h => h.1

theorem pBs_pos {T : Prop} {x : FD} (h : FdOk T x) : pBs x ≠ [] := by
  unfold pBs fB
  rw [if_pos h.tag]
  have := tagL_ne h.tag
  simp [this]
theorem pB_long {T : Prop} : ∀ X : List FD, (∀ j (h : j < X.length), FdOk T X[j]) → X.length ≤ (pB X).length
  | [], _ => Nat.zero_le _
  | x :: X, h => by
    have h0 := List.length_pos_iff.2 (pBs_pos (h 0 (by simp)))
    have h1 := pB_long X fun j hj => h (j + 1) (by simpa using hj)
    rw [pB_cons, List.length_append, List.length_cons]
    simp only [List.getElem_cons_zero] at h0
    omega

/-- Parts that lie in rows of parts stay. -/
def Kp (w w' : World) : Prop := ∀ (g : Nat) (cs : Array Value), w.heap[g]? = some (.cells cs 74 (0, 0)) → ∃ cs', w'.heap[g]? = some (.cells cs' 74 (0, 0)) ∧ ∀ (j : Nat) (t : TypeId) (y : Value), cs[j]? = some (.iface t y) → cs'[j]? = some (.iface t y)
theorem Kp.refl (w : World) : Kp w w := fun g cs h => ⟨cs, h, fun _ _ _ h => h⟩
theorem Kp.trans {u v w : World} (h : Kp u v) (k : Kp v w) : Kp u w := fun g cs hg => by
  obtain ⟨c1, h1, e1⟩ := h g cs hg
  obtain ⟨c2, h2, e2⟩ := k g c1 h1
  exact ⟨c2, h2, fun j t y hj => e2 j t y (e1 j t y hj)⟩
theorem Kp.below {w w' : World} (h : Below w.heap.size w w') : Kp w w' := fun g cs hg => ⟨cs, (h.block g (lt_of_block hg)).trans hg, fun _ _ _ h => h⟩
theorem Kp.alloc (w : World) (o : Obj) : Kp w (w.alloc o) := Kp.below ((Below.refl _ w).alloc (Nat.le_refl _) o)
theorem Kp.drew {u w : World} (h : Kp u w) : Kp u w.drew := h
theorem ty_part_u8 : 74 ≠ 5 := by decide
theorem ty_part_msg : 74 ≠ 46 := by decide
theorem ty_part_bld : 74 ≠ 53 := by decide
theorem Kp.setCell {w : World} {b o : Nat} {cs : Array Value} {t : TypeId} {fz : Nat × Nat} (hb : w.heap[b]? = some (.cells cs t fz)) (ht : 74 ≠ t) (u : Value) : Kp w (w.setCell ⟨b, o, none⟩ u) := fun g c hg => by
  have hne : g ≠ b := fun e => by
    subst e
    rw [hb] at hg
    simp only [Option.some.injEq, Obj.cells.injEq] at hg
    exact ht hg.2.1.symm
  exact ⟨c, (Below.heap_setCell _ _ _ _ hne).trans hg, fun _ _ _ h => h⟩
/-- What a writer into a builder leaves. -/
theorem Kp.others {w w' : World} {b : Nat} {cs : Array Value} {fz : Nat × Nat} (hb : w.heap[b]? = some (.cells cs 53 fz)) (h : Lib.OthersKept 5 (some b) w w') : Kp w w' := fun g c hg => by
  have hne : some g ≠ some b := fun e => by
    simp only [Option.some.injEq] at e
    subst e
    rw [hb] at hg
    simp only [Option.some.injEq, Obj.cells.injEq] at hg
    exact ty_part_bld hg.2.1.symm
  refine ⟨c, h g _ hg hne (fun c' fz' e => ?_), fun _ _ _ h => h⟩
  simp only [Obj.cells.injEq] at e
  exact ty_part_u8 e.2.1
theorem RowOf.mono {P Q : Value → FD → Prop} {w w' : World} {u : Value} {X : List FD} (h : RowOf P w u X) (hk : Kp w w') (hP : ∀ q y, P q y → Q q y) : RowOf Q w' u X := by
  obtain ⟨a, cap, e, hj⟩ := h
  refine ⟨a, cap, e, fun j hlt => ?_⟩
  obtain ⟨g, cs, ea, hg, t, y, hy, hp⟩ := hj j hlt
  obtain ⟨cs', hg', hi⟩ := hk g cs hg
  exact ⟨g, cs', ea, hg', t, y, hi j t y hy, hP _ _ hp⟩
theorem PartV.kp {T : Prop} : ∀ {k : Nat} {w w' : World} {p : Value} {x : FD}, PartV T k w p x → Kp w w' → PartV T k w' p x
  | 0, _, _, _, _, h, _ => False.elim h
  | k + 1, w, w', p, x, h, hk => by
    refine ⟨h.1, ?_⟩
    rcases h.2 with e | ⟨u, X, e, h2, h3, h4, h5, hr⟩
    · exact .inl e
    · exact .inr ⟨u, X, e, h2, h3, h4, h5, hr.mono hk fun q y hq => PartV.kp hq hk⟩
theorem PartV.up {T : Prop} : ∀ {k : Nat} {w : World} {p : Value} {x : FD}, PartV T k w p x → PartV T (k + 1) w p x
  | 0, _, _, _, h => False.elim h
  | k + 1, w, p, x, h => by
    refine ⟨h.1, ?_⟩
    rcases h.2 with e | ⟨u, X, e, h2, h3, h4, h5, hr⟩
    · exact .inl e
    · exact .inr ⟨u, X, e, h2, h3, h4, h5, hr.mono (Kp.refl w) fun q y hq => PartV.up hq⟩
theorem PartV.le {T : Prop} {k m : Nat} {w : World} {p : Value} {x : FD} (h : PartV T k w p x) (hm : k ≤ m) : PartV T m w p x := by
  induction hm with
  | refl => exact h
  | step _ ih => exact ih.up

theorem RowOf.oks {T : Prop} {k : Nat} {w : World} {u : Value} {X : List FD} (h : RowOf (fun q y => PartV T k w q y) w u X) : ∀ j (h : j < X.length), FdOk T X[j] := fun j hj => by
  obtain ⟨a, cap, e, hh⟩ := h
  obtain ⟨g, cs, _, _, t, y, _, hp⟩ := hh j hj
  exact hp.ok

/-- A list of parts that the call itself made: v; behind its parts lies none. -/
def PRow (T : Prop) (w : World) (B : Nat) (v : Value) (X : List FD) : Prop :=
  (v = .slice none 0 0 ∧ X = []) ∨ ∃ g cap cs, v = .slice (some ⟨g, 0, none⟩) X.length cap ∧ B ≤ g ∧ w.heap[g]? = some (.cells cs 74 (0, 0)) ∧ X.length ≤ cap ∧ cap ≤ maxLen ∧ cs.size = cap ∧
    (∃ k, ∀ j (h : j < X.length), ∃ t y, cs[j]? = some (.iface t y) ∧ PartV T k w (.iface t y) X[j]) ∧ ∀ (j : Nat) (t : TypeId) (y : Value), X.length ≤ j → cs[j]? ≠ some (.iface t y)
theorem PRow.rowOf {T : Prop} {w : World} {B : Nat} {v : Value} {X : List FD} (h : PRow T w B v X) : ∃ k, RowOf (fun q y => PartV T k w q y) w v X := by
  rcases h with ⟨rfl, rfl⟩ | ⟨g, cap, cs, rfl, _, hg, _, _, _, ⟨k, hk⟩, _⟩
  · exact ⟨0, none, 0, rfl, fun j h => absurd h (by simp)⟩
  · exact ⟨k, _, cap, rfl, fun j h => ⟨g, cs, rfl, hg, hk j h⟩⟩
theorem PRow.own {T : Prop} {w : World} {B : Nat} {v : Value} {X : List FD} (h : PRow T w B v X) : ∀ g, v.ownBlock = some g → B ≤ g ∧ ∃ cs, w.heap[g]? = some (.cells cs 74 (0, 0)) := by
  intro g hv
  rcases h with ⟨rfl, rfl⟩ | ⟨g', cap, cs, rfl, hB, hg, _⟩
  · simp [Value.ownBlock] at hv
  · simp [Value.ownBlock] at hv
    subst hv
    exact ⟨hB, cs, hg⟩
/-- Its block stays, and what lies within its parts. -/
theorem PRow.keep {T : Prop} {w w' : World} {B : Nat} {v : Value} {X : List FD} (h : PRow T w B v X) (hk : Kp w w') (hb : ∀ g, v.ownBlock = some g → w'.heap[g]? = w.heap[g]?) : PRow T w' B v X := by
  rcases h with h | ⟨g, cap, cs, rfl, hB, hg, h1, h2, h3, ⟨k, hp⟩, hs⟩
  · exact .inl h
  · refine .inr ⟨g, cap, cs, rfl, hB, (hb g rfl).trans hg, h1, h2, h3, ⟨k, fun j hj => ?_⟩, hs⟩
    obtain ⟨t, y, e, p⟩ := hp j hj
    exact ⟨t, y, e, p.kp hk⟩
theorem PRow.base {T : Prop} {w : World} {B C : Nat} {v : Value} {X : List FD} (h : PRow T w B v X) (hC : C ≤ B) : PRow T w C v X := by
  rcases h with h | ⟨g, cap, cs, e, hB, r⟩
  · exact .inl h
  · exact .inr ⟨g, cap, cs, e, by omega, r⟩

theorem infoPart : (Tryd.prog.info? 74).map (fun i => (i.zero, i.size, i.bytes)) = some (some .nilIface, 1, 16) := by kernel_rfl
theorem zero_part (n j : Nat) (t : TypeId) (y : Value) : (Builtin.zeroCells (Value.nilIface).cells n)[j]? ≠ some (.iface t y) := by
  intro h
  have h2 : Value.iface t y ∈ Builtin.zeroCells (Value.nilIface).cells n := Array.mem_of_getElem? h
  unfold Builtin.zeroCells at h2
  obtain ⟨i, _, hi⟩ := Array.mem_map.mp h2
  have e : (Value.nilIface).cells = #[.nilIface] := rfl
  rw [e] at hi
  have e2 : i % (#[Value.nilIface] : Array Value).size = 0 := Nat.mod_one i
  rw [e2] at hi
  simp at hi
/-- 'append' of one part. -/
theorem append_part {T : Prop} (P : Program) (t ty e : TypeId) (he : e = 74) (ht : P.underlying t = some (.slice e)) (hi : (P.info? e).map (fun i => (i.zero, i.size, i.bytes)) = some (some .nilIface, 1, 16))
    (w : World) (B : Nat) (v : Value) (X : List FD) (h : PRow T w B v X) (hB : B ≤ w.heap.size) (k : Nat) (ti : TypeId) (y : Value) (x : FD) (hp : PartV T k w (.iface ti y) x) (b c : Nat)
    (hc : w.cell? ⟨b, 0, none⟩ = some (.iface ti y)) (hlen : X.length ≤ 1099511627776) :
    ∃ v' w', (Builtin.append_ #[t, t] ty #[v, .slice (some ⟨b, 0, none⟩) 1 c]).run P w = .ok v' w' ∧ PRow T w' B v' (X ++ [x]) ∧ w.grownBy w' v.ownBlock ∧ Kp w w' ∧ (v'.ownBlock = v.ownBlock ∨ v'.ownBlock = some w.heap.size) := by
  obtain ⟨i, hi, hz, hz1, hz2⟩ := info_parts hi
  have hnews : ∀ j u, [Value.iface ti y][j]? = some u → w.cell? ((⟨b, 0, none⟩ : Addr).add j) = some u := by
    intro j u hj
    have e1 : (Addr.mk b 0 none).add j = ⟨b, j, none⟩ := by unfold Addr.add; split <;> simp_all
    rw [e1]
    match j, hj with
    | 0, hj => simp at hj; rw [← hj]; exact hc
    | j + 1, hj => simp at hj
  have fresh : ∀ (olds : List Value) (m G : Nat), olds.length = X.length → (∀ j (h : j < X.length), ∃ t y, olds[j]? = some (.iface t y) ∧ PartV T m w (.iface t y) X[j]) → X.length + 1 ≤ G → G ≤ maxLen →
      PRow T (w.drew.alloc (.cells (olds.toArray ++ [Value.iface ti y].toArray ++ Builtin.zeroCells (Value.nilIface).cells (G - (X.length + 1))) 74)) B (.slice (some ⟨w.heap.size, 0, none⟩) (X.length + 1) G) (X ++ [x]) := by
    intro olds m G ho hol hG hG2
    have hkp : Kp w (w.drew.alloc (.cells (olds.toArray ++ [Value.iface ti y].toArray ++ Builtin.zeroCells (Value.nilIface).cells (G - (X.length + 1))) 74)) := (Kp.refl w).drew.trans (Kp.alloc w.drew _)
    refine .inr ⟨w.heap.size, G, _, by rw [List.length_append]; rfl, hB, heap_alloc_new w.drew _, by rw [List.length_append]; exact hG, hG2, ?_, ⟨max k m, fun j hj => ?_⟩, fun j t y hj => ?_⟩
    · have e : (Value.nilIface).cells.size = 1 := rfl
      rw [Array.size_append, Array.size_append, size_zeroCells, e, List.size_toArray, List.size_toArray, ho, List.length_singleton]
      omega
    · rw [List.length_append, List.length_singleton] at hj
      by_cases h1 : j < X.length
      · obtain ⟨t, y', e1, p1⟩ := hol j h1
        refine ⟨t, y', ?_, ?_⟩
        · rw [Array.append_assoc, Array.getElem?_append_left (by simpa [ho] using h1)]
          simpa using e1
        · rw [List.getElem_append_left h1]
          exact (p1.kp hkp).le (Nat.le_max_right _ _)
      · obtain rfl : j = X.length := by omega
        refine ⟨ti, y, ?_, ?_⟩
        · rw [Array.getElem?_append_left (by simp [ho]), Array.getElem?_append_right (by simp [ho])]
          simp [ho]
        · rw [List.getElem_append_right (Nat.le_refl _)]
          simpa using (hp.kp hkp).le (Nat.le_max_left _ _)
    · rw [List.length_append, List.length_singleton] at hj
      rw [Array.getElem?_append_right (by simp [ho]; omega)]
      exact zero_part _ _ _ _
  subst he
  rcases h with ⟨rfl, rfl⟩ | ⟨g, cap, cs, rfl, hBg, hg, hnc, hcm, hcs, ⟨m, hm⟩, hsp⟩
  · have hr := run_append_nil (P := P) w t ty 74 i .nilIface ht hi hz ⟨b, 0, none⟩ 1 c [Value.iface ti y] (by rw [hz1]; rfl) hnews (by omega) (by omega) (by omega)
    refine ⟨_, _, hr, ?_, ⟨rfl, rfl, rfl, by simp, fun k hk _ => Below.heap_alloc w.drew _ k hk⟩, (Kp.refl w).drew.trans (Kp.alloc w.drew _), .inr rfl⟩
    have := fresh [] 0 (grownCap w 1 0 74) rfl (fun j h => absurd h (by simp)) (grownCap_ge w 1 0 _) (grownCap_le_maxLen w 1 0 _ (by unfold maxLen; omega))
    simpa using this
  · have holdsO : ∀ j u, (cs.toList.take X.length)[j]? = some u → w.cell? ((⟨g, 0, none⟩ : Addr).add j) = some u := by
      intro j u hj
      have e1 : (Addr.mk g 0 none).add j = ⟨g, j, none⟩ := by unfold Addr.add; split <;> simp_all
      rw [List.getElem?_take] at hj
      split at hj
      · rw [e1, Lib.cell_of_heap hg]; simpa using hj
      · cases hj
    by_cases hroom : X.length + 1 ≤ cap
    · have hr := run_append_room (P := P) w t ty 74 i ht hi g X.length cap cs hg ⟨b, 0, none⟩ 1 c [Value.iface ti y] (by rw [hz1]; rfl) hnews (by simp [Value.oneCell']) hroom (by rw [hz1, hcs]; simpa using hroom)
      rw [hz1, Nat.mul_one] at hr
      simp only [List.length_singleton] at hr
      have hset := setRow_heap w g cs (cs.toList.take X.length ++ [Value.iface ti y] ++ cs.toList.drop (X.length + 1)).toArray 74 (0, 0) hg
      have hnew : ∀ j, j ≠ X.length → (cs.toList.take X.length ++ [Value.iface ti y] ++ cs.toList.drop (X.length + 1)).toArray[j]? = cs[j]? := by
        intro j hj
        have hl : (cs.toList.take X.length).length = X.length := by rw [List.length_take]; simp; omega
        simp only [List.getElem?_toArray]
        by_cases h1 : j < X.length
        · rw [List.append_assoc, List.getElem?_append_left (by omega), List.getElem?_take, if_pos h1]; simp
        · rw [List.getElem?_append_right (by rw [List.length_append, hl, List.length_singleton]; omega), List.length_append, hl, List.length_singleton, List.getElem?_drop]
          have : X.length + 1 + (j - (X.length + 1)) = j := by omega
          rw [this]; simp
      have hat : (cs.toList.take X.length ++ [Value.iface ti y] ++ cs.toList.drop (X.length + 1)).toArray[X.length]? = some (.iface ti y) := by
        have hl : (cs.toList.take X.length).length = X.length := by rw [List.length_take]; simp; omega
        simp only [List.getElem?_toArray]
        rw [List.getElem?_append_left (by rw [List.length_append, hl, List.length_singleton]; omega), List.getElem?_append_right (by omega), hl]
        simp
      have hkp : Kp w (w.setRow g (cs.toList.take X.length ++ [Value.iface ti y] ++ cs.toList.drop (X.length + 1)).toArray) := by
        intro g' c' hg'
        by_cases e : g' = g
        · subst e
          rw [hg] at hg'
          simp only [Option.some.injEq, Obj.cells.injEq] at hg'
          obtain rfl := hg'.1
          refine ⟨_, hset, fun j t y' hj => ?_⟩
          by_cases e2 : j = X.length
          · exact absurd hj (hsp j t y' (by omega))
          · rw [hnew j e2]; exact hj
        · exact ⟨c', (setRow_other w g g' _ e).trans hg', fun _ _ _ h => h⟩
      refine ⟨_, _, hr, .inr ⟨g, cap, _, by rw [List.length_append]; rfl, hBg, hset, by rw [List.length_append]; exact hroom, hcm, ?_, ⟨max k m, fun j hj => ?_⟩, fun j t y hj => ?_⟩, ⟨rfl, rfl, rfl, by simp [World.setRow], fun k _ hk => setRow_other w g k _ (fun e => hk (by simp [Value.ownBlock, e]))⟩, hkp, .inl rfl⟩
      · simp only [List.size_toArray, List.length_append, List.length_take, List.length_drop, Array.length_toList, List.length_cons, List.length_nil]
        omega
      · rw [List.length_append, List.length_singleton] at hj
        by_cases h1 : j < X.length
        · obtain ⟨t, y', e1, p1⟩ := hm j h1
          refine ⟨t, y', by rw [hnew j (by omega)]; exact e1, ?_⟩
          rw [List.getElem_append_left h1]
          exact (p1.kp hkp).le (Nat.le_max_right _ _)
        · obtain rfl : j = X.length := by omega
          refine ⟨ti, y, hat, ?_⟩
          rw [List.getElem_append_right (Nat.le_refl _)]
          simpa using (hp.kp hkp).le (Nat.le_max_left _ _)
      · rw [List.length_append, List.length_singleton] at hj
        rw [hnew j (by omega)]
        exact hsp j t y (by omega)
    · have hr := run_append_grow (P := P) w t ty 74 i .nilIface ht hi hz ⟨g, 0, none⟩ X.length cap (cs.toList.take X.length) (by rw [hz1, List.length_take]; simp; omega) holdsO ⟨b, 0, none⟩ 1 c [Value.iface ti y] (by rw [hz1]; rfl) hnews (by omega) (by omega)
        (growslice_fits (by omega) (by rw [hz2]; omega))
      refine ⟨_, _, hr, ?_, ⟨rfl, rfl, rfl, by simp, fun k hk _ => Below.heap_alloc w.drew _ k hk⟩, (Kp.refl w).drew.trans (Kp.alloc w.drew _), .inr rfl⟩
      refine fresh (cs.toList.take X.length) m (grownCap w (X.length + 1) cap 74) (by rw [List.length_take]; simp; omega) (fun j h => ?_) (grownCap_ge w _ _ _) (grownCap_le_maxLen w _ _ _ (by unfold maxLen; omega))
      obtain ⟨t, y', e1, p1⟩ := hm j h
      exact ⟨t, y', by rw [List.getElem?_take, if_pos h]; simpa using e1, p1⟩
end Go.Proofs.YtjpppnfkpnfhoaaDoor
