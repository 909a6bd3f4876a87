/- The keeper's Add. -/
import Derived.Test.YtjoafbapffdneaaDoorIdL
import Derived.Deep.RegionHeld
namespace Go.Proofs.YtjoafbapffdneaaDoor
open Go Go.RowKit Go.Maps
set_option linter.unusedVariables false

/-- 'm[k] = v' as one operation. -/
theorem wp_mapUpdate_own {H : Type} {P : Program} {w : World} {o : Oper} {a : Act} {K' : Act → World → Prop} {Q : Exit → Act → World → Prop}
    (m x v : Operand) (t : TypeId) (hop : o.op = Op.mapUpdate t m x v)
    (k e : TypeId) (K : Keyed P k) (ht : P.underlying t = some (.map k e)) (R : Value → Option (DataW H × List MemPlace)) (b n : Nat) (D : DataW H)
    (hm : a.eval m = .map (some b)) (hown : w.ownsMap P k R b n D) (hn : n < maxLen) (key val : Value) (kl : Lit) (hx : a.eval x = key) (hv : a.eval v = val) (hkey : keyOf P k key = some kl)
    (d : DataW H) (ps : List MemPlace) (hval : R val = some (d, ps))
    (hK : ∀ w', w'.ownsMap P k R b (n + 1) (D.put kl d) → w.mapTurned w' b → K' (a.put o.dst undef) w') : o.wp P a w K' Q := by
  obtain ⟨w', hrun, r1, r2⟩ := hown.store K ht hn hkey hval
  unfold Oper.wp
  simp [execOp, hop, hm, hx, hv, hrun, Result.andThen]
  exact hK w' r1 r2
/-- The spans that were seen, when this one was seen, too. -/
def addL (L : List (List UInt8)) (p : List UInt8) : List (List UInt8) := if p ∈ L then L else L ++ [p]
theorem only_turned {w w' : World} {m : Nat} (h : w.mapTurned w' m) : Only m w w' := by
  have g := h.grown
  exact ⟨g.os, g.tape, g.output, g.size, fun k hk hne => g.block k hk (fun e => hne (Option.some.inj e))⟩
theorem add_nil (t s : List UInt8) (w : World) :
    Calls Tryd.prog 26 #[.pointer none, .agg (aC t), .agg (aC s)] w fun e w' => e = .returned (.tuple #[.int .i64 0, .bool false]) ∧ Below w.heap.size w w' := by
  have h2 := Lib.hid (two_alloc 23 28 w t s).2.2.2
  go_enter Tryd.func26, Tryd.ntmps26
  go_wp2
  go_ret2
  exact ⟨rfl, h2.out⟩
theorem ret_num_is {a b : Nat} {x y : Bool} (h : a = b) (k : x = y) : Ending.returned (.tuple #[.int .i64 (a : Int), .bool x]) = .returned (.tuple #[.int .i64 (b : Int), .bool y]) := by rw [h, k]
/-- What a region that reads a trace's name, a span's, and a keeper's map may lean on. -/
def AddS (b0 b1 b m : Nat) (t s : List UInt8) (w : World) : Prop := AAt w b0 0 t ∧ AAt w b1 0 s ∧ w.cell? ⟨b, 0, none⟩ = some (.map (some m))
theorem AAt.keep {w w' : World} {b o : Nat} {l : List UInt8} (h : AAt w b o l) (hb : w'.heap[b]? = w.heap[b]?) : AAt w' b o l := fun j v hj => (World.cell?_of_block (w := w) hb).trans (h j v hj)

set_option maxHeartbeats 2000000 in
theorem add_any {b m : Nat} {L : List (List UInt8)} (t s : List UInt8) {w : World} (ht : t.length = 16) (hs : s.length = 8) (h : SeenAt w b m L) (hL : L.length < 140737488351232) :
    Calls Tryd.prog 26 #[.pointer (some ⟨b, 0, none⟩), .agg (aC t), .agg (aC s)] w fun e w' => e = .returned (.tuple #[.int .i64 (L.idxOf (t ++ s) : Nat), .bool (decide (¬ t ++ s ∈ L))]) ∧ SeenAt w' b m (addL L (t ++ s)) ∧ Only m w w' := by
  have h2 := two_alloc 23 28 w t s
  have hp : (t ++ s).length = 24 := by rw [List.length_append, ht, hs]
  have hlt := h.lt
  obtain ⟨hA, hB, hsz, hbe⟩ := h2
  have hW : SeenAt ((w.alloc (.cells (aC t) 23)).alloc (.cells (aC s) 28)) b m L := h.below hbe hlt.1 hlt.2
  have F1 := Lib.hid (find_any t s ht hs hW)
  have A1 := Lib.hid hA
  have B1 := Lib.hid hB
  have HW := Lib.hid hW
  have HE := Lib.hid hbe
  have HP := Lib.hid hp
  have hb0 : b < w.heap.size := hlt.1
  have hm0 : m < w.heap.size := hlt.2
  clear hA hB hbe hW hlt h hp
  have A0 := Lib.hid A1.out.at0
  have B0 := Lib.hid B1.out.at0
  by_cases hi : t ++ s ∈ L
  · have e1 := Lib.hid (show findN L (t ++ s) = L.idxOf (t ++ s) by unfold findN; rw [if_pos hi])
    have e2 := Lib.hid (show decide (¬ t ++ s ∈ L) = false from decide_eq_false (not_not_intro hi))
    have e3 := Lib.hid (show addL L (t ++ s) = L by unfold addL; rw [if_pos hi])
    have d1 : decide (t ++ s ∈ L) = true := decide_eq_true hi
    rw [d1] at F1
    clear hi d1
    generalize findN L (t ++ s) = N at *
    clear hsz
    go_enter Tryd.func26, Tryd.ntmps26
    go_wp2_with (first | refine wl_load traceT (by rfl) (by rfl) ht A0.out ?_ | refine wl_load spanT (by rfl) (by rfl) hs B0.out ?_)
    with_reducible refine F1.out.mono ?_
    rintro e w1 ⟨rfl, h1⟩
    have H2 := Lib.hid (HW.out.below h1 HW.out.lt.1 HW.out.lt.2)
    have H3 := Lib.hid (Only.of_below (b := m) (below_on HE.out h1 (by simp; omega)))
    clear h1 F1
    go_wp2
    go_ret2
    exact ⟨ret_num_is e1.out e2.out.symm, by rw [e3.out]; exact H2.out, H3.out⟩
  · have e1 := Lib.hid (show L.idxOf (t ++ s) = L.length from List.idxOf_eq_length hi)
    have e2 := Lib.hid (show decide (¬ t ++ s ∈ L) = true from decide_eq_true hi)
    have e3 := Lib.hid (show addL L (t ++ s) = L ++ [t ++ s] by unfold addL; rw [if_neg hi])
    have d1 : decide (t ++ s ∈ L) = false := decide_eq_false hi
    rw [d1] at F1
    have HI := Lib.hid hi
    clear hi d1
    generalize findN L (t ++ s) = N at *
    clear hsz
    go_enter Tryd.func26, Tryd.ntmps26
    go_wp2_with (first | refine wl_load traceT (by rfl) (by rfl) ht A0.out ?_ | refine wl_load spanT (by rfl) (by rfl) hs B0.out ?_)
    with_reducible refine F1.out.mono ?_
    rintro e w1 ⟨rfl, h1⟩
    have A2 := Lib.hid (A1.out.below h1 A1.out.lt)
    have B2 := Lib.hid (B1.out.below h1 B1.out.lt)
    have hW1 : SeenAt w1 b m L := HW.out.below h1 HW.out.lt.1 HW.out.lt.2
    have HE1 := Lib.hid (below_on HE.out h1 (by simp; omega))
    have HW1 := Lib.hid hW1
    have LN := Lib.hid (len_any hW1)
    clear h1 F1 A0 B0 A1 B1 HW HE hW1
    go_wp2_with fail
    with_reducible refine LN.out.mono ?_
    rintro e w2 ⟨rfl, hw2⟩
    rw [hw2]; clear hw2 LN
    go_wp2_with fail
    refine wp_region_held_drew (S := AddS w.heap.size (w.heap.size + 1) b m t s) (by kernel_rfl) ⟨A2.out.at0, B2.out.at0, HW1.out.cell⟩ (fun hS => ?_)
    refine wpAnyH_take (i := 0) (oi := ⟨some 23, .move (.tmp 0), _, _, _, none⟩) (v := ?_) rfl (by kernel_rfl) (by kernel_rfl) (by kernel_rfl) (fun _ _ _ h => h) (Or.inl ⟨by rfl, ?_⟩) hS ?_
    rotate_left 1
    · intro wS hSw
      have hc := hSw.2.2
      clear hSw
      go_simp
      try with_reducible rfl
    simp only [Act.put, List.setIfInBounds_toArray, List.set_cons_zero, List.set_cons_succ]
    refine wpAnyH_take (i := 1) (oi := ⟨some 24, .nilCheck (.tmp 23), _, _, _, none⟩) (v := ?_) rfl (by kernel_rfl) (by kernel_rfl) (by kernel_rfl) (fun _ _ _ h => h) (Or.inl ⟨by rfl, ?_⟩) hS ?_
    rotate_left 1
    · intro wS hSw
      have hc := hSw.2.2
      clear hSw
      go_simp
      try with_reducible rfl
    simp only [Act.put, List.setIfInBounds_toArray, List.set_cons_zero, List.set_cons_succ]
    refine wpAnyH_take (i := 2) (oi := ⟨some 25, .fieldAddr 66 (.tmp 24) 0, _, _, _, none⟩) (v := ?_) rfl (by kernel_rfl) (by kernel_rfl) (by kernel_rfl) (fun _ _ _ h => h) (Or.inl ⟨by rfl, ?_⟩) hS ?_
    rotate_left 1
    · intro wS hSw
      have hc := hSw.2.2
      clear hSw
      go_simp
      try with_reducible rfl
    simp only [Act.put, List.setIfInBounds_toArray, List.set_cons_zero, List.set_cons_succ]
    refine wpAnyH_take (i := 3) (oi := ⟨some 26, .load 64 (.tmp 25), _, _, _, none⟩) (v := ?_) rfl (by kernel_rfl) (by kernel_rfl) (by kernel_rfl) (fun _ _ _ h => h) (Or.inl ⟨by rfl, ?_⟩) hS ?_
    rotate_left 1
    · intro wS hSw
      have hc := hSw.2.2
      clear hSw
      go_simp
      try with_reducible rfl
    simp only [Act.put, List.setIfInBounds_toArray, List.set_cons_zero, List.set_cons_succ]
    refine wpAnyH_take (i := 4) (oi := ⟨some 27, .load 23 (.tmp 4), _, _, _, none⟩) (v := _) rfl (by kernel_rfl) (by kernel_rfl) (by kernel_rfl) (fun _ _ _ h => h) (Or.inl ⟨by rfl, fun wS hSw => exec_load traceT (by rfl) ht hSw.1⟩) hS ?_
    simp only [Act.put, List.setIfInBounds_toArray, List.set_cons_zero, List.set_cons_succ]
    refine wpAnyH_take (i := 5) (oi := ⟨some 28, .load 28 (.tmp 5), _, _, _, none⟩) (v := _) rfl (by kernel_rfl) (by kernel_rfl) (by kernel_rfl) (fun _ _ _ h => h) (Or.inl ⟨by rfl, fun wS hSw => exec_load spanT (by rfl) hs hSw.2.1⟩) hS ?_
    simp only [Act.put, List.setIfInBounds_toArray, List.set_cons_zero, List.set_cons_succ]
    refine wpAnyH_take (i := 6) (oi := ⟨some 29, .build 68 #[(0, .tmp 27), (1, .tmp 28)], _, _, _, none⟩) (v := _) rfl (by kernel_rfl) (by kernel_rfl) (by kernel_rfl) (fun _ _ _ h => h) (Or.inl ⟨by rfl, fun wS hSw => exec_build (by rfl) (by rfl) (built_key t s ht hs)⟩) hS ?_
    simp only [Act.put, List.setIfInBounds_toArray, List.set_cons_zero, List.set_cons_succ]
    refine wpAnyH_take (i := 7) (oi := ⟨some 30, .move (.tmp 8), _, _, _, none⟩) (v := ?_) rfl (by kernel_rfl) (by kernel_rfl) (by kernel_rfl) (fun _ _ _ h => h) (Or.inl ⟨by rfl, ?_⟩) hS ?_
    rotate_left 1
    · intro wS hSw
      have hc := hSw.2.2
      clear hSw
      go_simp
      try with_reducible rfl
    simp only [Act.put, List.setIfInBounds_toArray, List.set_cons_zero, List.set_cons_succ]
    have hW2 : SeenAt w1.drew b m L := HW1.out.keep rfl rfl
    obtain ⟨D, ho, hs2⟩ := hW2.own
    have HS2 := Lib.hid hs2
    have HTD := Lib.hid (ho.tidy keyLaw)
    have HB2 := Lib.hid hW2.blk
    have hwf : (Lit.int .i64 (L.length : Int)).wf = true := WalkArith.wf_i64 (by omega)
    have hm3 : L.length < maxLen := by unfold maxLen; omega
    refine wpAnyH_ready (rs := [8]) (by kernel_rfl) (by simp) ?_
    refine AllReadyH.cons (o := ⟨none, .mapUpdate 64 (.tmp 26) (.tmp 29) (.tmp 30), _, _, _, none⟩) rfl (fun K hK => ?_) AllReadyH.nil
    rw [if_pos (by rfl)]
    refine wp_mapUpdate_own (.tmp 26) (.tmp 29) (.tmp 30) 64 rfl 68 3 keyLaw Tryd.underlying64 (plainElem Tryd.prog 3) m L.length D rfl ho hm3 (.agg (aC (t ++ s))) (.int .i64 L.length) (kLit (t ++ s)) rfl rfl (key_of _ HP.out) (nL L.length) [] (plainElem_int Tryd.underlying3 hwf) ?_
    intro w3 hown3 hturn3
    have hg := hturn3.grown
    have k1 : w3.heap[w.heap.size]? = w1.drew.heap[w.heap.size]? := hg.block _ A2.out.lt (fun e => by have := Option.some.inj e; omega)
    have k2 : w3.heap[w.heap.size + 1]? = w1.drew.heap[w.heap.size + 1]? := hg.block _ B2.out.lt (fun e => by have := Option.some.inj e; omega)
    have hbm : b ≠ m := fun e => by
      obtain ⟨es, clock, hm4, _⟩ := ho
      have h5 := hW2.blk
      rw [e, hm4] at h5
      cases h5
    have k3 : w3.heap[b]? = w1.drew.heap[b]? := hg.block _ hW2.lt.1 (fun e => hbm (Option.some.inj e))
    refine hK.out _ _ ⟨hS.1.keep k1, hS.2.1.keep k2, (World.cell?_of_block (w := w1.drew) k3).trans hS.2.2⟩ (fun _ => wpAnyH_done (by kernel_rfl) ?_ _)
    have R1 := Lib.hid (show SeenAt w3 b m (addL L (t ++ s)) from by
      rw [e3.out]
      exact ⟨k3.trans HB2.out, _, by rw [List.length_append]; exact hown3, HS2.out.more HTD.out HP.out HI.out⟩)
    have R2 := Lib.hid (show Only m w w3 from (Only.of_below (HE1.out.drew)).trans (only_turned hturn3))
    clear hK hS hg k1 k2 k3 hown3 hturn3 hbm hwf hm3 ho hs2 hW2
    go_wp2
    go_ret2
    exact ⟨ret_num_is e1.out.symm e2.out.symm, R1.out, R2.out⟩
end Go.Proofs.YtjoafbapffdneaaDoor
