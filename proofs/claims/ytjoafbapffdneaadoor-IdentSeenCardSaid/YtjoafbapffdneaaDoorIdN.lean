/- Spans in a list in memory; the document's Find. -/
import Derived.Test.YtjoafbapffdneaaDoorIdL
namespace Go.Proofs.YtjoafbapffdneaaDoor
open Go Go.RowKit Go.Maps
set_option linter.unusedVariables false

/-- The slice at a, of so many spans, holds L. -/
def PIn (w : World) (a : Option Addr) (L : List (List UInt8)) : Prop := ∀ j (h : j < L.length), ∃ b off, a = some ⟨b, off, none⟩ ∧ b < w.heap.size ∧ AAt w b (off + j * 24) L[j]
theorem AAt.below {w w' : World} {b o N : Nat} {l : List UInt8} (h : AAt w b o l) (hb : Below N w w') (hN : b < N) : AAt w' b o l := fun j v hj => (World.cell?_of_block (w := w) (hb.block b hN)).trans (h j v hj)
theorem PIn.below {w w' : World} {a : Option Addr} {L : List (List UInt8)} (h : PIn w a L) (hb : Below w.heap.size w w') : PIn w' a L := fun j hj => by
  obtain ⟨b, off, e, hlt, ha⟩ := h j hj
  exact ⟨b, off, e, Nat.lt_of_lt_of_le hlt hb.size, ha.below hb hlt⟩
theorem AAt.front {w : World} {b o : Nat} {l : List UInt8} (h : AAt w b o l) (k : Nat) : AAt w b o (l.take k) := fun j v hj => h j v (by
  unfold bV at hj ⊢
  rw [List.map_take, List.getElem?_take] at hj
  split at hj
  · exact hj
  · cases hj)
theorem AAt.back {w : World} {b o : Nat} {l : List UInt8} (h : AAt w b o l) (k : Nat) : AAt w b (o + k) (l.drop k) := fun j v hj => by
  have := h (k + j) v (by
    unfold bV at hj ⊢
    rw [List.map_drop, List.getElem?_drop] at hj
    exact hj)
  rw [Nat.add_assoc]; exact this
theorem flat_at : ∀ (L : List (List UInt8)), (∀ q ∈ L, q.length = 24) → ∀ j (hj : j < L.length) i, i < 24 → L.flatten[j * 24 + i]? = L[j][i]?
  | [], _, j, hj, _, _ => by simp at hj
  | q :: L, h, 0, _, i, hi => by
    rw [List.flatten_cons, Nat.zero_mul, Nat.zero_add, List.getElem?_append_left (by rw [h q List.mem_cons_self]; exact hi)]; rfl
  | q :: L, h, j + 1, hj, i, hi => by
    have hq := h q List.mem_cons_self
    rw [List.flatten_cons, List.getElem?_append_right (by omega), show (j + 1) * 24 + i - q.length = j * 24 + i by omega, flat_at L (fun x hx => h x (List.mem_cons_of_mem _ hx)) j (by simpa using hj) i hi]
    rfl
theorem flat_length : ∀ (L : List (List UInt8)), (∀ q ∈ L, q.length = 24) → L.flatten.length = L.length * 24
  | [], _ => rfl
  | q :: L, h => by
    rw [List.flatten_cons, List.length_append, h q List.mem_cons_self, flat_length L (fun x hx => h x (List.mem_cons_of_mem _ hx)), List.length_cons]; omega
/-- A list of spans that the call made. -/
def PRow (t : TypeId) (w : World) (B : Nat) (v : Value) (L : List (List UInt8)) : Prop := w.ownsRow B t 24 v L.length (bV L.flatten)
theorem PRow.inn {t : TypeId} {w : World} {B : Nat} {v : Value} {L : List (List UInt8)} (h : PRow t w B v L) (hL : ∀ q ∈ L, q.length = 24) : ∃ a cap, v = .slice a L.length cap ∧ PIn w a L := by
  rcases h.2 with ⟨rfl, hn⟩ | ⟨g, cap, cur, rfl, _, hg, _⟩
  · have h0 : L = [] := List.eq_nil_of_length_eq_zero hn
    subst h0
    exact ⟨none, 0, rfl, fun j hj => by simp at hj⟩
  · refine ⟨_, cap, rfl, fun j hj => ⟨g, 0, rfl, lt_of_block hg, fun i v hi => ?_⟩⟩
    have hi24 : i < 24 := by
      have := (List.getElem?_eq_some_iff.1 hi).1
      rw [bV_length, hL _ (List.getElem_mem _)] at this; exact this
    have hlt : j * 24 + i < L.length * 24 := by omega
    rw [Nat.zero_add, World.ownsRow.cellAt h (j * 24 + i) hlt]
    unfold bV at hi ⊢
    rw [List.getElem?_map] at hi ⊢
    rw [flat_at L hL j hj i hi24]; exact hi
theorem pairG : Tryd.prog.eqGuardType Tryd.prog.depth 45 = false := by kernel_rfl

/-- The place of a span, -1: none. -/
def fI (L : List (List UInt8)) (p : List UInt8) : Int := if p ∈ L then (L.idxOf p : Nat) else -1
theorem idx_at {L : List (List UInt8)} {p : List UInt8} {j : Nat} (hj : j < L.length) (hn : ¬ p ∈ L.take j) (e : L[j]'hj = p) : p ∈ L ∧ L.idxOf p = j := by
  have hp : p ∈ L := e ▸ List.getElem_mem hj
  refine ⟨hp, ?_⟩
  have h1 : L = L.take j ++ (p :: L.drop (j + 1)) := by
    rw [← e, ← List.drop_eq_getElem_cons hj, List.take_append_drop]
  have h2 : (L.take j).length = j := by rw [List.length_take]; omega
  rw [h1, List.idxOf_append, if_neg hn, List.idxOf_cons_self, h2, Nat.zero_add]
def FindRel (W : World) (L : List (List UInt8)) (p : List UInt8) (x i : Value) (wr : World) : Prop := ∃ j m : Nat, j ≤ L.length ∧ x = .int .i64 0 ∧ i = .int .i64 j ∧ ¬ p ∈ L.take j ∧ wr = W.drewN m

theorem rfind_none (a : Option Addr) (cap : Nat) (p : List UInt8) (w : World) :
    Calls Tryd.prog 25 #[.slice a 0 cap, .agg (aC p)] w fun e w' => e = .returned (.int .i64 (-1)) ∧ Below w.heap.size w w' := by
  have hb := Lib.hid (below_alloc w (.cells (aC p) 45))
  go_enter Tryd.func25, Tryd.ntmps25
  go_wp2_with fail
  refine wp_loop_once ?_
  go_wp2
  go_ret
  exact ⟨rfl, hb.out⟩

set_option maxHeartbeats 1000000 in
theorem rfind_some (b off cap : Nat) (L : List (List UInt8)) (p : List UInt8) (w : World) (hp : p.length = 24) (hL : ∀ q ∈ L, q.length = 24) (hn : L.length ≤ 140737488355328) (hb : b < w.heap.size) (hin : ∀ j (h : j < L.length), AAt w b (off + j * 24) L[j]) :
    Calls Tryd.prog 25 #[.slice (some ⟨b, off, none⟩) L.length cap, .agg (aC p)] w fun e w' => e = .returned (.int .i64 (fI L p)) ∧ Below w.heap.size w w' := by
  have hbe := below_alloc w (.cells (aC p) 45)
  have E1 := Lib.hid (blk_alloc 45 w p).at0
  have HI := Lib.hid (show ∀ j (h : j < L.length), AAt (w.alloc (.cells (aC p) 45)) b (off + j * 24) L[j] from fun j h => (hin j h).below hbe hb)
  have HB := Lib.hid hbe
  clear hin hbe
  go_enter Tryd.func25, Tryd.ntmps25
  go_wp2_with fail
  generalize w.alloc (.cells (aC p) 45) = W at *
  go_loopw [4, 5] (fun x i wr => FindRel W L p x i wr) (fun _ i _ => L.length - (intOf i).toNat)
  case atStart => exact ⟨0, 0, Nat.zero_le _, rfl, rfl, by simp, rfl⟩
  case round =>
    obtain ⟨j, m, hj, rfl, rfl, hnot, hwr⟩ := hrel
    rw [hwr]; clear hwr
    by_cases hlt : j < L.length
    · have p1 : decide ((j : Int) < (L.length : Int)) = true := decide_eq_true (by omega)
      have p2 : (j : Int) < (L.length : Int) := by omega
      have HA := Lib.hid (HI.out j hlt)
      have hq := hL _ (List.getElem_mem hlt)
      have HQ := Lib.hid (show (L.take (j + 1)) = L.take j ++ [L[j]] from List.take_succ_eq_append_getElem hlt)
      have HN := Lib.hid hnot
      have HX := Lib.hid (fun (e : L[j]'hlt = p) => idx_at hlt hnot e)
      clear hnot
      generalize hqq : L[j]'hlt = q at *
      have HQQ := Lib.hid hqq
      clear hqq
      by_cases heq : q = p
      · have d1 : decide (q = p) = true := decide_eq_true heq
        have HH := Lib.hid (HX.out heq)
        clear heq
        go_wp2_with fail
        refine wp_region_quiet_lit (by kernel_rfl) (by kernel_rfl) ?_
        quiet_step (fail)
        quiet_step (fail)
        quiet_step (fail)
        refine wq_load pairT (by rfl) (by rfl) hq (fun w' ⟨n, e⟩ => e ▸ (HA.out.drewN m).drewN n) ?_
        simp only [Act.put, List.setIfInBounds_toArray, List.set_cons_zero, List.set_cons_succ]
        refine wq_load pairT (by rfl) (by rfl) hp (fun w' ⟨n, e⟩ => e ▸ (E1.out.drewN m).drewN n) ?_
        simp only [Act.put, List.setIfInBounds_toArray, List.set_cons_zero, List.set_cons_succ]
        refine wq_eql pairT pairG (by rfl) (by rfl) (by rfl) hq hp ?_
        simp only [Act.put, List.setIfInBounds_toArray, List.set_cons_zero, List.set_cons_succ, d1]
        refine wpQuiet_nil ?_
        intro _ hw'
        obtain ⟨nq, hw''⟩ := hw'
        subst hw''
        clear d1
        go_wp2
        go_ret
        exact ⟨ret_i (by unfold fI; rw [if_pos HH.out.1, HH.out.2]), Below.drewN (Below.drewN HB.out m) nq⟩
      · have d1 : decide (q = p) = false := decide_eq_false heq
        have HM := Lib.hid (show ¬ p ∈ L.take (j + 1) by rw [HQ.out]; simp [HN.out]; exact fun e => heq e.symm)
        clear heq
        go_wp2_with fail
        refine wp_region_quiet_lit (by kernel_rfl) (by kernel_rfl) ?_
        quiet_step (fail)
        quiet_step (fail)
        quiet_step (fail)
        refine wq_load pairT (by rfl) (by rfl) hq (fun w' ⟨n, e⟩ => e ▸ (HA.out.drewN m).drewN n) ?_
        simp only [Act.put, List.setIfInBounds_toArray, List.set_cons_zero, List.set_cons_succ]
        refine wq_load pairT (by rfl) (by rfl) hp (fun w' ⟨n, e⟩ => e ▸ (E1.out.drewN m).drewN n) ?_
        simp only [Act.put, List.setIfInBounds_toArray, List.set_cons_zero, List.set_cons_succ]
        refine wq_eql pairT pairG (by rfl) (by rfl) (by rfl) hq hp ?_
        simp only [Act.put, List.setIfInBounds_toArray, List.set_cons_zero, List.set_cons_succ, d1]
        refine wpQuiet_nil ?_
        intro _ hw'
        obtain ⟨nq, hw''⟩ := hw'
        subst hw''
        clear d1
        go_wp2
        go_roundw
        case rel => exact ⟨j + 1, m + nq, by omega, rfl, by go_num, HM.out, rfl⟩
        case measure => simp [intOf]; omega
    · have p1 : decide ((j : Int) < (L.length : Int)) = false := decide_eq_false (by omega)
      have HN := Lib.hid (show ¬ p ∈ L by rw [List.take_of_length_le (by omega)] at hnot; exact hnot)
      clear hnot
      go_wp2
      go_ret
      exact ⟨ret_i (by unfold fI; rw [if_neg HN.out]), Below.drewN HB.out m⟩
theorem rfind_any (a : Option Addr) (cap : Nat) (L : List (List UInt8)) (p : List UInt8) (w : World) (hp : p.length = 24) (hL : ∀ q ∈ L, q.length = 24) (hn : L.length ≤ 140737488355328) (hin : PIn w a L) :
    Calls Tryd.prog 25 #[.slice a L.length cap, .agg (aC p)] w fun e w' => e = .returned (.int .i64 (fI L p)) ∧ Below w.heap.size w w' := by
  by_cases h0 : L.length = 0
  · obtain rfl := List.eq_nil_of_length_eq_zero h0
    exact rfind_none a cap p w
  · obtain ⟨b, off, rfl, hb, _⟩ := hin 0 (by omega)
    refine rfind_some b off cap L p w hp hL hn hb fun j h => ?_
    obtain ⟨b', off', e, _, ha⟩ := hin j h
    obtain ⟨rfl, rfl⟩ : b = b' ∧ off = off' := by simpa using e
    exact ha
end Go.Proofs.YtjoafbapffdneaaDoor
