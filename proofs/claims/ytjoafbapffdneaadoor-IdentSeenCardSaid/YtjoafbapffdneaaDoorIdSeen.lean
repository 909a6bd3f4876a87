/- IdentSeen, walked. -/
import Derived.Test.YtjoafbapffdneaaDoorIdWork
import Derived.Test.YtjoafbapffdneaaDoorIdN
import Derived.Deep.RegionHeld
import Derived.Great.BuildSlice
namespace Go.Proofs.YtjoafbapffdneaaDoor
open Go Go.RowKit Go.Maps
set_option linter.unusedVariables false

abbrev z24 : Array Value := #[.int .u8 0, .int .u8 0, .int .u8 0, .int .u8 0, .int .u8 0, .int .u8 0, .int .u8 0, .int .u8 0, .int .u8 0, .int .u8 0, .int .u8 0, .int .u8 0, .int .u8 0, .int .u8 0, .int .u8 0, .int .u8 0, .int .u8 0, .int .u8 0, .int .u8 0, .int .u8 0, .int .u8 0, .int .u8 0, .int .u8 0, .int .u8 0]
theorem info24 : (Tryd.prog.info? 45).map (fun i => (i.zero, i.size, i.bytes)) = some (some (.agg z24), 24, 24) := by kernel_rfl
theorem fill24 (l : List UInt8) (h : l.length = 24) : Instr.fill (fun i => some (i * 24, 24)) ((Array.range (1 * 24)).map ((Value.agg z24).cells[· % (Value.agg z24).cells.size]!)) [(0, .agg (aC l))] = some (aC l) := by
  match l, h with
  | [t0, t1, t2, t3, t4, t5, t6, t7, t8, t9, ta, tb, tc, td, te, tf, s0, s1, s2, s3, s4, s5, s6, s7], _ =>
    show Instr.fill (fun i => some (i * 24, 24)) ((Array.range (1 * 24)).map ((Value.agg z24).cells[· % (Value.agg z24).cells.size]!)) [(0, .agg (aC [t0, t1, t2, t3, t4, t5, t6, t7, t8, t9, ta, tb, tc, td, te, tf, s0, s1, s2, s3, s4, s5, s6, s7]))] = some (aC [t0, t1, t2, t3, t4, t5, t6, t7, t8, t9, ta, tb, tc, td, te, tf, s0, s1, s2, s3, s4, s5, s6, s7])
    kernel_rfl
theorem run_bs (l : List UInt8) (h : l.length = 24) (w : World) : (Instr.buildSlice 43 1 #[(0, .agg (aC l))]).run Tryd.prog w = .ok (.slice (some ⟨w.heap.size, 0, none⟩) 1 1) (w.alloc (.cells (aC l) 45)) := by
  obtain ⟨ie, hie, hz, hs, _⟩ := info_parts info24
  have hf := fill24 l h
  have hsmall : ¬ 1 * ie.size > 2 ^ 24 := by rw [hs]; decide
  have hpos : ¬ 1 * ie.size = 0 := by rw [hs]; decide
  rw [← hs] at hf
  exact run_buildSlice w _ _ 1 #[(0, .agg (aC l))] (aC l) ie _ Tryd.underlying43 hie hz hsmall hpos hf
theorem wl_bs {dst : Option Tmp} {ty : TypeId} {pos : String} {after : Array Edge} {g : Option (Nat × Bool)} {x : Operand} {a : Act} {w : World} {Q : Exit → Act → World → Prop} {ops : Array Oper} {rest : List Oper} {l : List UInt8} (hl : l.length = 24)
    (hw : Region.wanted ⟨dst, .buildSlice 43 1 #[(0, x)], ty, pos, after, g⟩ (yielded ops a.tmps) = true) (hx : a.eval x = .agg (aC l))
    (h : wpList Tryd.prog ops Q rest (a.put dst (.slice (some ⟨w.heap.size, 0, none⟩) 1 1)) (w.alloc (.cells (aC l) 45))) : wpList Tryd.prog ops Q (⟨dst, .buildSlice 43 1 #[(0, x)], ty, pos, after, g⟩ :: rest) a w := by
  refine wpList_wanted hw fun K hK => ?_
  unfold Oper.wp execOp
  have hp : (#[(0, x)].map fun (p : Nat × Operand) => (p.1, a.eval p.2)) = #[(0, Value.agg (aC l))] := by simp [hx]
  simp only [hp, Sem.run_bind, run_bs l hl w, Result.andThen_ok]
  exact hK _ _ h
theorem wpList_append_pair {ops : Array Oper} {rest : List Oper} {o : Oper} {a : Act} {Q : Exit → Act → World → Prop} (hgd : o.guard = none) (s x : Operand)
    (ho : o.op = .call { callee := .builtin .append, args := #[s, x], argTypes := #[43, 43] })
    (v : Value) (wr : World) (B : Nat) (S : List (List UInt8)) (q : List UInt8) (hq : q.length = 24) (hb : PRow 45 wr B v S) (hB : B ≤ wr.heap.size) (hs : a.eval s = v)
    (hx : a.eval x = .slice (some ⟨wr.heap.size, 0, none⟩) 1 1) (hlen : S.length ≤ 1000000)
    (h : ∀ v' w', PRow 45 w' B v' (S ++ [q]) → Below B wr w' → wpList Tryd.prog ops Q rest (a.put o.dst v') w') :
    wpList Tryd.prog ops Q (o :: rest) a (wr.alloc (.cells (aC q) 45)) := by
  obtain ⟨i0, hi, hz0, hz1, hz2⟩ := info_parts info24
  refine wpList_append_own _ hgd s x 43 ho B 45 i0 (.agg z24) 24 24 Tryd.underlying43 hi hz0 hz1 hz2 rfl (by decide) v S.length (bV S.flatten) hs (World.ownsRow.alloc hb _) ⟨wr.heap.size, 0, none⟩ 1 1 (bV q) hx (by rw [bV_length, hq]) ?_ (bV_one q) (by unfold maxLen; omega) (by omega) (by simp; omega) ?_
  · intro j u hj
    have h1 := (blk_alloc 45 wr q).at0 j u hj
    rw [Nat.zero_add] at h1
    rw [Addr.add_mid, Nat.zero_add]; exact h1
  · intro v' w' hown hgr _
    refine h v' w' ?_ ⟨hgr.os, hgr.tape, hgr.output, by have := hgr.size; simp at this; omega, fun k hk => ?_⟩
    · unfold PRow
      rw [List.length_append, List.flatten_append, List.flatten_singleton, bV_append]
      exact hown
    · have hne : some k ≠ v.ownBlock := fun hk' => by
        have := (World.ownsRow.lt hb k hk'.symm).1
        omega
      rw [hgr.block k (by simp; omega) hne]
      exact Below.heap_alloc _ _ _ (by omega)
theorem PRow.keep {t : TypeId} {w w' : World} {B : Nat} {v : Value} {L : List (List UInt8)} (h : PRow t w B v L) (hk : ∀ k, B ≤ k → k < w.heap.size → w'.heap[k]? = w.heap[k]?) : PRow t w' B v L := by
  refine ⟨h.1, ?_⟩
  rcases h.2 with e | ⟨g, cap, cur, e, hB, hg, r⟩
  · exact .inl e
  · exact .inr ⟨g, cap, cur, e, hB, (hk g hB (lt_of_block hg)).trans hg, r⟩

/-- The spans that were seen of a list. -/
def sF (l : List (List UInt8)) : List (List UInt8) := l.foldl addL []
theorem sF_snoc (l : List (List UInt8)) (q : List UInt8) : sF (l ++ [q]) = addL (sF l) q := by unfold sF; rw [List.foldl_append]; rfl
theorem addL_mem {S : List (List UInt8)} {q x : List UInt8} (h : x ∈ addL S q) : x ∈ S ∨ x = q := by
  unfold addL at h
  split at h
  · exact .inl h
  · rcases List.mem_append.mp h with h | h
    · exact .inl h
    · exact .inr (List.mem_singleton.mp h)
theorem addL_len (S : List (List UInt8)) (q : List UInt8) : (addL S q).length ≤ S.length + 1 := by
  unfold addL
  split
  · omega
  · rw [List.length_append]; exact Nat.le_refl _
theorem fold_fact : ∀ (l S : List (List UInt8)), (∀ q ∈ l, q.length = 24) → (∀ q ∈ S, q.length = 24) → (∀ q ∈ l.foldl addL S, q.length = 24) ∧ (l.foldl addL S).length ≤ S.length + l.length
  | [], S, _, hS => ⟨hS, Nat.le_refl _⟩
  | q :: l, S, hl, hS => by
    have h := fold_fact l (addL S q) (fun x hx => hl x (List.mem_cons_of_mem _ hx)) (fun x hx => by
      rcases addL_mem hx with h | h
      · exact hS x h
      · rw [h]; exact hl q List.mem_cons_self)
    have h2 := addL_len S q
    refine ⟨h.1, Nat.le_trans h.2 ?_⟩
    rw [List.length_cons]; omega
theorem sF_fact (l : List (List UInt8)) (hl : ∀ q ∈ l, q.length = 24) : (∀ q ∈ sF l, q.length = 24) ∧ (sF l).length ≤ l.length := by
  have := fold_fact l [] hl (fun q h => by simp at h)
  exact ⟨this.1, by have h2 := this.2; rw [List.length_nil, Nat.zero_add] at h2; exact h2⟩

def SeenRel (w w1 : World) (L : List (List UInt8)) (sb sm : Nat) (x v i : Value) (wr : World) : Prop :=
  ∃ j : Nat, j ≤ L.length ∧ x = .bool false ∧ i = .int .i64 j ∧ PRow 45 wr w1.heap.size v (sF (L.take j)) ∧ SeenAt wr sb sm (sF (L.take j)) ∧ Only sm w1 wr ∧ Below w.heap.size w wr
/-- What the region with Add leans on. -/
structure SrS (b o1 o2 : Nat) (t x : List UInt8) (wx : World) : Prop where
  a : AAt wx b o1 t
  b : AAt wx b o2 x
theorem Only.then_below {m N : Nat} {u v w : World} (h : Only m u v) (hb : Below N v w) (hN : u.heap.size ≤ N) : Only m u w :=
  ⟨hb.os.trans h.os, hb.tape.trans h.tape, hb.output.trans h.output, Nat.le_trans h.size hb.size, fun k hk hne => (hb.block k (by omega)).trans (h.block k hk hne)⟩
theorem ret_idx {S : List (List UInt8)} {q : List UInt8} (h : ¬ q ∈ S) : S.idxOf q = S.length := List.idxOf_eq_length h

set_option maxRecDepth 100000 in
set_option maxHeartbeats 4000000 in
theorem seen_some (b off cap : Nat) (L : List (List UInt8)) (p : List UInt8) (w : World) (hp : p.length = 24) (hL : ∀ q ∈ L, q.length = 24) (hn : L.length ≤ 40) (hb : b < w.heap.size) (hin : ∀ j (h : j < L.length), AAt w b (off + j * 24) L[j]) (ht : Tab w) :
    Calls Tryd.prog 5 #[.slice (some ⟨b, off, none⟩) L.length cap, .agg (aC p)] w fun e w' => e = .returned (.bool true) ∧ Below w.heap.size w w' := by
  have p0 : decide ((40 : Int) < (L.length : Int)) = false := decide_eq_false (by omega)
  have hbe := below_alloc w (.cells (aC p) 45)
  have P0 := Lib.hid (blk_alloc 45 w p)
  have HI := Lib.hid hin
  have HB := Lib.hid hbe
  have HT := Lib.hid ht
  have hpos := ht.lt
  have hsw : (w.alloc (.cells (aC p) 45)).heap.size = w.heap.size + 1 := by simp
  have HSW := Lib.hid hsw
  clear hin hbe ht hsw
  go_enter Tryd.func5, Tryd.ntmps5
  go_wp2_with fail
  with_reducible refine (newseen_any _).mono ?_
  rintro e w1 ⟨sb, sm, rfl, hsn, hsb, hsm, h1⟩
  have P1 := Lib.hid (P0.out.below h1 P0.out.lt)
  have K1 := Lib.hid (grown_then HB.out h1)
  have hsm2 : w.heap.size < sm := by rw [HSW.out] at hsm; omega
  have hsm3 : sm < w1.heap.size := hsn.lt.2
  have hsb3 : sb < w1.heap.size := hsn.lt.1
  have S1 := Lib.hid hsn
  have hw1 : w.heap.size < w1.heap.size := by omega
  clear h1 hsn hsb hsm P0 HB HSW
  go_wp2_with fail
  go_loopw [4, 6, 7] (fun x v i wr => SeenRel w w1 L sb sm x v i wr) (fun _ _ i _ => L.length - (intOf i).toNat)
  case atStart => exact ⟨0, Nat.zero_le _, rfl, rfl, World.ownsRow_nil _ _ _ _, S1.out, Only.refl _ _, K1.out⟩
  case round =>
    obtain ⟨j, hj, rfl, rfl, hrow, hse, honly, hbel⟩ := hrel
    have hff := sF_fact (L.take j) (fun x hx => hL x (List.mem_of_mem_take hx))
    have hS24 := Lib.hid hff.1
    have hSn : (sF (L.take j)).length ≤ 40 := Nat.le_trans hff.2 (by rw [List.length_take]; omega)
    obtain ⟨a2, cap2, rfl, hin2⟩ := hrow.inn hff.1
    have HROW := Lib.hid hrow
    have HSE := Lib.hid hse
    have HO := Lib.hid honly
    have HBL := Lib.hid hbel
    have hwr : w1.heap.size ≤ wr.heap.size := honly.size
    by_cases hlt : j < L.length
    · have p1 : decide ((j : Int) < (L.length : Int)) = true := decide_eq_true (by omega)
      have p2 : (j : Int) < (L.length : Int) := by omega
      have HA := Lib.hid ((HI.out j hlt).below hbel hb)
      have hq := hL _ (List.getElem_mem hlt)
      have HQ := Lib.hid (show sF (L.take (j + 1)) = addL (sF (L.take j)) L[j] by rw [List.take_succ_eq_append_getElem hlt, sF_snoc])
      have F1 := Lib.hid (rfind_any a2 cap2 (sF (L.take j)) L[j] wr hq hff.1 (by omega) hin2)
      clear hrow hse honly hbel hff hin2
      generalize L[j]'hlt = q at *
      clear hlt
      generalize sF (L.take j) = S at *
      go_wp2_with ((with_reducible refine wl_load pairT ?_ ?_ hq HA.out ?_); rfl; rfl)
      with_reducible refine F1.out.mono ?_
      rintro e w2 ⟨rfl, h2⟩
      have hbwr : b < wr.heap.size := by omega
      have HA2 := Lib.hid (HA.out.below h2 hbwr)
      have HSE2 := HSE.out.below h2 (by omega) (by omega)
      have HO2 := Lib.hid (HO.out.trans (Only.of_below (b := sm) h2))
      have HB2 := Lib.hid (below_on HBL.out h2 (by omega))
      have HROW2 := Lib.hid (HROW.out.keep (fun k _ hk => h2.block k hk))
      have hb2 : b < w2.drew.heap.size := by have := h2.size; show b < w2.heap.size; omega
      have hbsm : b ≠ sm := by omega
      have hT16 : (q.take 16).length = 16 := by rw [List.length_take]; omega
      have hX8 : (q.drop 16).length = 8 := by rw [List.length_drop]; omega
      have hw2 : w1.heap.size ≤ w2.heap.size := Nat.le_trans hwr h2.size
      have AD := Lib.hid (show Calls Tryd.prog 26 #[.pointer (some ⟨sb, 0, none⟩), .agg (aC (q.take 16)), .agg (aC (q.drop 16))] w2.drew fun e w' => e = .returned (.tuple #[.int .i64 (S.idxOf q : Nat), .bool (decide (¬ q ∈ S))]) ∧ SeenAt w' sb sm (addL S q) ∧ Only sm w2.drew w' from by
        have := add_any (q.take 16) (q.drop 16) hT16 hX8 (HSE2.keep rfl rfl : SeenAt w2.drew sb sm S) (by omega)
        rwa [List.take_append_drop] at this)
      have HS9 := Lib.hid (show SrS b (off + j * 24) (off + j * 24 + 16) (q.take 16) (q.drop 16) w2.drew from ⟨HA2.out.front 16, HA2.out.back 16⟩)
      clear h2 HA HSE HO HBL HROW HSE2 F1
      by_cases hm : q ∈ S
      · have f1 : fI S q = ((S.idxOf q : Nat) : Int) := by unfold fI; rw [if_pos hm]
        have f2 : decide (¬ q ∈ S) = false := decide_eq_false (not_not_intro hm)
        have f3 : addL S q = S := by unfold addL; rw [if_pos hm]
        rw [f2, f3] at AD
        rw [f1]
        have HQ3 := Lib.hid (HQ.out.trans f3)
        clear f1 f2 f3 hm HQ
        generalize S.idxOf q = N at *
        have g1 : decide ((N : Int) < 0) = false := decide_eq_false (by omega)
        go_wp2_with fail
        refine wp_region_held_drew (S := SrS b (off + j * 24) (off + j * 24 + 16) (q.take 16) (q.drop 16)) (by kernel_rfl) HS9.out (fun hS => ?_)
        try
          refine wpAnyH_take (i := 0) (oi := ⟨some 32, _, _, _, _, _⟩) (v := ?_) rfl (by decide +kernel) (by decide +kernel) (by decide +kernel) (fun _ _ _ h => h) (Or.inl ⟨by rfl, ?_⟩) hS ?_
          rotate_left 1
          · intro wS hSw
            clear hSw
            go_simp
            try with_reducible rfl
          try simp only [Act.put, List.setIfInBounds_toArray, List.set_cons_zero, List.set_cons_succ]
        try
          refine wpAnyH_take (i := 1) (oi := ⟨some 33, _, _, _, _, _⟩) (v := ?_) rfl (by decide +kernel) (by decide +kernel) (by decide +kernel) (fun _ _ _ h => h) (Or.inl ⟨by rfl, ?_⟩) hS ?_
          rotate_left 1
          · intro wS hSw
            clear hSw
            go_simp
            try with_reducible rfl
          try simp only [Act.put, List.setIfInBounds_toArray, List.set_cons_zero, List.set_cons_succ]
        try
          refine wpAnyH_take (i := 2) (oi := ⟨some 34, _, _, _, _, _⟩) (v := ?_) rfl (by decide +kernel) (by decide +kernel) (by decide +kernel) (fun _ _ _ h => h) (Or.inl ⟨by rfl, ?_⟩) hS ?_
          rotate_left 1
          · intro wS hSw
            clear hSw
            go_simp
            try with_reducible rfl
          try simp only [Act.put, List.setIfInBounds_toArray, List.set_cons_zero, List.set_cons_succ]
        try
          refine wpAnyH_take (i := 3) (oi := ⟨some 35, _, _, _, _, _⟩) (v := ?_) rfl (by decide +kernel) (by decide +kernel) (by decide +kernel) (fun _ _ _ h => h) (Or.inl ⟨by rfl, ?_⟩) hS ?_
          rotate_left 1
          · intro wS hSw
            clear hSw
            go_simp
            try with_reducible rfl
          try simp only [Act.put, List.setIfInBounds_toArray, List.set_cons_zero, List.set_cons_succ]
        try
          refine wpAnyH_take (i := 4) (oi := ⟨some 36, _, _, _, _, _⟩) (v := ?_) rfl (by decide +kernel) (by decide +kernel) (by decide +kernel) (fun _ _ _ h => h) (Or.inl ⟨by rfl, ?_⟩) hS ?_
          rotate_left 1
          · intro wS hSw
            clear hSw
            go_simp
            try with_reducible rfl
          try simp only [Act.put, List.setIfInBounds_toArray, List.set_cons_zero, List.set_cons_succ]
        try
          refine wpAnyH_take (i := 5) (oi := ⟨some 37, _, _, _, _, _⟩) (v := _) rfl (by decide +kernel) (by decide +kernel) (by decide +kernel) (fun _ _ _ h => h) (Or.inl ⟨by rfl, fun wS hSw => exec_load traceT (by rfl) hT16 hSw.a⟩) hS ?_
          try simp only [Act.put, List.setIfInBounds_toArray, List.set_cons_zero, List.set_cons_succ]
        try
          refine wpAnyH_take (i := 6) (oi := ⟨some 38, _, _, _, _, _⟩) (v := ?_) rfl (by decide +kernel) (by decide +kernel) (by decide +kernel) (fun _ _ _ h => h) (Or.inl ⟨by rfl, ?_⟩) hS ?_
          rotate_left 1
          · intro wS hSw
            clear hSw
            go_simp
            try with_reducible rfl
          try simp only [Act.put, List.setIfInBounds_toArray, List.set_cons_zero, List.set_cons_succ]
        try
          refine wpAnyH_take (i := 7) (oi := ⟨some 39, _, _, _, _, _⟩) (v := ?_) rfl (by decide +kernel) (by decide +kernel) (by decide +kernel) (fun _ _ _ h => h) (Or.inl ⟨by rfl, ?_⟩) hS ?_
          rotate_left 1
          · intro wS hSw
            clear hSw
            go_simp
            try with_reducible rfl
          try simp only [Act.put, List.setIfInBounds_toArray, List.set_cons_zero, List.set_cons_succ]
        try
          refine wpAnyH_take (i := 8) (oi := ⟨some 40, _, _, _, _, _⟩) (v := ?_) rfl (by decide +kernel) (by decide +kernel) (by decide +kernel) (fun _ _ _ h => h) (Or.inl ⟨by rfl, ?_⟩) hS ?_
          rotate_left 1
          · intro wS hSw
            clear hSw
            go_simp
            try with_reducible rfl
          try simp only [Act.put, List.setIfInBounds_toArray, List.set_cons_zero, List.set_cons_succ]
        try
          refine wpAnyH_take (i := 9) (oi := ⟨some 41, _, _, _, _, _⟩) (v := ?_) rfl (by decide +kernel) (by decide +kernel) (by decide +kernel) (fun _ _ _ h => h) (Or.inl ⟨by rfl, ?_⟩) hS ?_
          rotate_left 1
          · intro wS hSw
            clear hSw
            go_simp
            try with_reducible rfl
          try simp only [Act.put, List.setIfInBounds_toArray, List.set_cons_zero, List.set_cons_succ]
        try
          refine wpAnyH_take (i := 10) (oi := ⟨some 42, _, _, _, _, _⟩) (v := _) rfl (by decide +kernel) (by decide +kernel) (by decide +kernel) (fun _ _ _ h => h) (Or.inl ⟨by rfl, fun wS hSw => exec_load spanT (by rfl) hX8 hSw.b⟩) hS ?_
          try simp only [Act.put, List.setIfInBounds_toArray, List.set_cons_zero, List.set_cons_succ]
        try
          refine wpAnyH_take (i := 12) (oi := ⟨some 31, _, _, _, _, _⟩) (v := ?_) rfl (by decide +kernel) (by decide +kernel) (by decide +kernel) (fun _ _ _ h => h) (Or.inl ⟨by rfl, ?_⟩) hS ?_
          rotate_left 1
          · intro wS hSw
            clear hSw
            go_simp
            try with_reducible rfl
          try simp only [Act.put, List.setIfInBounds_toArray, List.set_cons_zero, List.set_cons_succ]
        try
          refine wpAnyH_take (i := 13) (oi := ⟨some 44, _, _, _, _, _⟩) (v := ?_) rfl (by decide +kernel) (by decide +kernel) (by decide +kernel) (fun _ _ _ h => h) (Or.inl ⟨by rfl, ?_⟩) hS ?_
          rotate_left 1
          · intro wS hSw
            clear hSw
            go_simp
            try with_reducible rfl
          try simp only [Act.put, List.setIfInBounds_toArray, List.set_cons_zero, List.set_cons_succ]
        try
          refine wpAnyH_take (i := 14) (oi := ⟨some 45, _, _, _, _, _⟩) (v := ?_) rfl (by decide +kernel) (by decide +kernel) (by decide +kernel) (fun _ _ _ h => h) (Or.inl ⟨by rfl, ?_⟩) hS ?_
          rotate_left 1
          · intro wS hSw
            clear hSw
            go_simp
            try with_reducible rfl
          try simp only [Act.put, List.setIfInBounds_toArray, List.set_cons_zero, List.set_cons_succ]
        try
          refine wpAnyH_take (i := 15) (oi := ⟨some 9, _, _, _, _, _⟩) (v := ?_) rfl (by decide +kernel) (by decide +kernel) (by decide +kernel) (fun _ _ _ h => h) (Or.inl ⟨by rfl, ?_⟩) hS ?_
          rotate_left 1
          · intro wS hSw
            clear hSw
            go_simp
            try with_reducible rfl
          try simp only [Act.put, List.setIfInBounds_toArray, List.set_cons_zero, List.set_cons_succ]
        try
          refine wpAnyH_take (i := 16) (oi := ⟨some 10, _, _, _, _, _⟩) (v := ?_) rfl (by decide +kernel) (by decide +kernel) (by decide +kernel) (fun _ _ _ h => h) (Or.inl ⟨by rfl, ?_⟩) hS ?_
          rotate_left 1
          · intro wS hSw
            clear hSw
            go_simp
            try with_reducible rfl
          try simp only [Act.put, List.setIfInBounds_toArray, List.set_cons_zero, List.set_cons_succ]
        refine wpAnyH_ready (rs := [11]) (by decide +kernel) (by simp) ?_
        refine AllReadyH.cons (o := ⟨some 43, _, _, _, _, _⟩) rfl (fun K hK => ?_) AllReadyH.nil
        rw [if_pos (by rfl)]
        go_simp
        with_reducible refine (AD.out).mono ?_
        rintro e w3 ⟨rfl, hsn3, ho3⟩
        refine hK.out _ _ (⟨hS.a.keep (ho3.block b hb2 hbsm), hS.b.keep (ho3.block b hb2 hbsm)⟩) (fun hS => ?_)
        clear hK K
        try simp only [Act.put, List.setIfInBounds_toArray, List.set_cons_zero, List.set_cons_succ]
        try
          refine wpAnyH_take (i := 12) (oi := ⟨some 31, _, _, _, _, _⟩) (v := ?_) rfl (by decide +kernel) (by decide +kernel) (by decide +kernel) (fun _ _ _ h => h) (Or.inl ⟨by rfl, ?_⟩) hS ?_
          rotate_left 1
          · intro wS hSw
            clear hSw
            go_simp
            try with_reducible rfl
          try simp only [Act.put, List.setIfInBounds_toArray, List.set_cons_zero, List.set_cons_succ]
        try
          refine wpAnyH_take (i := 13) (oi := ⟨some 44, _, _, _, _, _⟩) (v := ?_) rfl (by decide +kernel) (by decide +kernel) (by decide +kernel) (fun _ _ _ h => h) (Or.inl ⟨by rfl, ?_⟩) hS ?_
          rotate_left 1
          · intro wS hSw
            clear hSw
            go_simp
            try with_reducible rfl
          try simp only [Act.put, List.setIfInBounds_toArray, List.set_cons_zero, List.set_cons_succ]
        try
          refine wpAnyH_take (i := 14) (oi := ⟨some 45, _, _, _, _, _⟩) (v := ?_) rfl (by decide +kernel) (by decide +kernel) (by decide +kernel) (fun _ _ _ h => h) (Or.inl ⟨by rfl, ?_⟩) hS ?_
          rotate_left 1
          · intro wS hSw
            clear hSw
            go_simp
            try with_reducible rfl
          try simp only [Act.put, List.setIfInBounds_toArray, List.set_cons_zero, List.set_cons_succ]
        try
          refine wpAnyH_take (i := 15) (oi := ⟨some 9, _, _, _, _, _⟩) (v := ?_) rfl (by decide +kernel) (by decide +kernel) (by decide +kernel) (fun _ _ _ h => h) (Or.inl ⟨by rfl, ?_⟩) hS ?_
          rotate_left 1
          · intro wS hSw
            clear hSw
            go_simp
            try with_reducible rfl
          try simp only [Act.put, List.setIfInBounds_toArray, List.set_cons_zero, List.set_cons_succ]
        try
          refine wpAnyH_take (i := 16) (oi := ⟨some 10, _, _, _, _, _⟩) (v := ?_) rfl (by decide +kernel) (by decide +kernel) (by decide +kernel) (fun _ _ _ h => h) (Or.inl ⟨by rfl, ?_⟩) hS ?_
          rotate_left 1
          · intro wS hSw
            clear hSw
            go_simp
            try with_reducible rfl
          try simp only [Act.put, List.setIfInBounds_toArray, List.set_cons_zero, List.set_cons_succ]
        refine wpAnyH_done (by decide +kernel) ?_ _
        have HO3 := Lib.hid (HO2.out.trans (Only.trans (Only.refl sm w2).drew ho3))
        have HB3 := Lib.hid (below_on HB2.out.drew (ho3.below (N := w.heap.size) (by omega) (by show w.heap.size ≤ w2.heap.size; omega)) (Nat.le_refl _))
        have HROW3 := Lib.hid (HROW2.out.keep (fun k hk1 hk2 => ho3.block k hk2 (by omega)))
        have HA3 := Lib.hid (HA2.out.keep (ho3.block b hb2 hbsm))
        have hw3 : w1.heap.size ≤ w3.heap.size := HO3.out.size
        have LN := Lib.hid (len_any hsn3)
        have HSE3 := Lib.hid hsn3
        clear hsn3 ho3 hS HA2 HO2 HB2 HROW2 HS9 AD
        go_wp2_with fail
        with_reducible refine LN.out.mono ?_
        rintro e w4 ⟨rfl, hw4⟩
        rw [hw4]; clear hw4
        go_wp2
        go_roundw
        case rel => exact ⟨j + 1, by omega, rfl, by go_num, by rw [HQ3.out]; exact HROW3.out, by rw [HQ3.out]; exact HSE3.out, HO3.out, HB3.out⟩
        case measure => simp [intOf]; omega
      · have f1 : fI S q = -1 := by unfold fI; rw [if_neg hm]
        have f2 : decide (¬ q ∈ S) = true := decide_eq_true hm
        have f3 : addL S q = S ++ [q] := by unfold addL; rw [if_neg hm]
        have f4 : S.idxOf q = S.length := ret_idx hm
        rw [f2, f3, f4] at AD
        rw [f1]
        have HQ3 := Lib.hid (HQ.out.trans f3)
        clear f1 f2 f3 f4 hm HQ
        go_wp2_with fail
        refine wp_region_held_drew (S := SrS b (off + j * 24) (off + j * 24 + 16) (q.take 16) (q.drop 16)) (by kernel_rfl) HS9.out (fun hS => ?_)
        try
          refine wpAnyH_take (i := 0) (oi := ⟨some 32, _, _, _, _, _⟩) (v := ?_) rfl (by decide +kernel) (by decide +kernel) (by decide +kernel) (fun _ _ _ h => h) (Or.inl ⟨by rfl, ?_⟩) hS ?_
          rotate_left 1
          · intro wS hSw
            clear hSw
            go_simp
            try with_reducible rfl
          try simp only [Act.put, List.setIfInBounds_toArray, List.set_cons_zero, List.set_cons_succ]
        try
          refine wpAnyH_take (i := 1) (oi := ⟨some 33, _, _, _, _, _⟩) (v := ?_) rfl (by decide +kernel) (by decide +kernel) (by decide +kernel) (fun _ _ _ h => h) (Or.inl ⟨by rfl, ?_⟩) hS ?_
          rotate_left 1
          · intro wS hSw
            clear hSw
            go_simp
            try with_reducible rfl
          try simp only [Act.put, List.setIfInBounds_toArray, List.set_cons_zero, List.set_cons_succ]
        try
          refine wpAnyH_take (i := 2) (oi := ⟨some 34, _, _, _, _, _⟩) (v := ?_) rfl (by decide +kernel) (by decide +kernel) (by decide +kernel) (fun _ _ _ h => h) (Or.inl ⟨by rfl, ?_⟩) hS ?_
          rotate_left 1
          · intro wS hSw
            clear hSw
            go_simp
            try with_reducible rfl
          try simp only [Act.put, List.setIfInBounds_toArray, List.set_cons_zero, List.set_cons_succ]
        try
          refine wpAnyH_take (i := 3) (oi := ⟨some 35, _, _, _, _, _⟩) (v := ?_) rfl (by decide +kernel) (by decide +kernel) (by decide +kernel) (fun _ _ _ h => h) (Or.inl ⟨by rfl, ?_⟩) hS ?_
          rotate_left 1
          · intro wS hSw
            clear hSw
            go_simp
            try with_reducible rfl
          try simp only [Act.put, List.setIfInBounds_toArray, List.set_cons_zero, List.set_cons_succ]
        try
          refine wpAnyH_take (i := 4) (oi := ⟨some 36, _, _, _, _, _⟩) (v := ?_) rfl (by decide +kernel) (by decide +kernel) (by decide +kernel) (fun _ _ _ h => h) (Or.inl ⟨by rfl, ?_⟩) hS ?_
          rotate_left 1
          · intro wS hSw
            clear hSw
            go_simp
            try with_reducible rfl
          try simp only [Act.put, List.setIfInBounds_toArray, List.set_cons_zero, List.set_cons_succ]
        try
          refine wpAnyH_take (i := 5) (oi := ⟨some 37, _, _, _, _, _⟩) (v := _) rfl (by decide +kernel) (by decide +kernel) (by decide +kernel) (fun _ _ _ h => h) (Or.inl ⟨by rfl, fun wS hSw => exec_load traceT (by rfl) hT16 hSw.a⟩) hS ?_
          try simp only [Act.put, List.setIfInBounds_toArray, List.set_cons_zero, List.set_cons_succ]
        try
          refine wpAnyH_take (i := 6) (oi := ⟨some 38, _, _, _, _, _⟩) (v := ?_) rfl (by decide +kernel) (by decide +kernel) (by decide +kernel) (fun _ _ _ h => h) (Or.inl ⟨by rfl, ?_⟩) hS ?_
          rotate_left 1
          · intro wS hSw
            clear hSw
            go_simp
            try with_reducible rfl
          try simp only [Act.put, List.setIfInBounds_toArray, List.set_cons_zero, List.set_cons_succ]
        try
          refine wpAnyH_take (i := 7) (oi := ⟨some 39, _, _, _, _, _⟩) (v := ?_) rfl (by decide +kernel) (by decide +kernel) (by decide +kernel) (fun _ _ _ h => h) (Or.inl ⟨by rfl, ?_⟩) hS ?_
          rotate_left 1
          · intro wS hSw
            clear hSw
            go_simp
            try with_reducible rfl
          try simp only [Act.put, List.setIfInBounds_toArray, List.set_cons_zero, List.set_cons_succ]
        try
          refine wpAnyH_take (i := 8) (oi := ⟨some 40, _, _, _, _, _⟩) (v := ?_) rfl (by decide +kernel) (by decide +kernel) (by decide +kernel) (fun _ _ _ h => h) (Or.inl ⟨by rfl, ?_⟩) hS ?_
          rotate_left 1
          · intro wS hSw
            clear hSw
            go_simp
            try with_reducible rfl
          try simp only [Act.put, List.setIfInBounds_toArray, List.set_cons_zero, List.set_cons_succ]
        try
          refine wpAnyH_take (i := 9) (oi := ⟨some 41, _, _, _, _, _⟩) (v := ?_) rfl (by decide +kernel) (by decide +kernel) (by decide +kernel) (fun _ _ _ h => h) (Or.inl ⟨by rfl, ?_⟩) hS ?_
          rotate_left 1
          · intro wS hSw
            clear hSw
            go_simp
            try with_reducible rfl
          try simp only [Act.put, List.setIfInBounds_toArray, List.set_cons_zero, List.set_cons_succ]
        try
          refine wpAnyH_take (i := 10) (oi := ⟨some 42, _, _, _, _, _⟩) (v := _) rfl (by decide +kernel) (by decide +kernel) (by decide +kernel) (fun _ _ _ h => h) (Or.inl ⟨by rfl, fun wS hSw => exec_load spanT (by rfl) hX8 hSw.b⟩) hS ?_
          try simp only [Act.put, List.setIfInBounds_toArray, List.set_cons_zero, List.set_cons_succ]
        try
          refine wpAnyH_take (i := 12) (oi := ⟨some 31, _, _, _, _, _⟩) (v := ?_) rfl (by decide +kernel) (by decide +kernel) (by decide +kernel) (fun _ _ _ h => h) (Or.inl ⟨by rfl, ?_⟩) hS ?_
          rotate_left 1
          · intro wS hSw
            clear hSw
            go_simp
            try with_reducible rfl
          try simp only [Act.put, List.setIfInBounds_toArray, List.set_cons_zero, List.set_cons_succ]
        try
          refine wpAnyH_take (i := 13) (oi := ⟨some 44, _, _, _, _, _⟩) (v := ?_) rfl (by decide +kernel) (by decide +kernel) (by decide +kernel) (fun _ _ _ h => h) (Or.inl ⟨by rfl, ?_⟩) hS ?_
          rotate_left 1
          · intro wS hSw
            clear hSw
            go_simp
            try with_reducible rfl
          try simp only [Act.put, List.setIfInBounds_toArray, List.set_cons_zero, List.set_cons_succ]
        try
          refine wpAnyH_take (i := 14) (oi := ⟨some 45, _, _, _, _, _⟩) (v := ?_) rfl (by decide +kernel) (by decide +kernel) (by decide +kernel) (fun _ _ _ h => h) (Or.inl ⟨by rfl, ?_⟩) hS ?_
          rotate_left 1
          · intro wS hSw
            clear hSw
            go_simp
            try with_reducible rfl
          try simp only [Act.put, List.setIfInBounds_toArray, List.set_cons_zero, List.set_cons_succ]
        try
          refine wpAnyH_take (i := 15) (oi := ⟨some 9, _, _, _, _, _⟩) (v := ?_) rfl (by decide +kernel) (by decide +kernel) (by decide +kernel) (fun _ _ _ h => h) (Or.inl ⟨by rfl, ?_⟩) hS ?_
          rotate_left 1
          · intro wS hSw
            clear hSw
            go_simp
            try with_reducible rfl
          try simp only [Act.put, List.setIfInBounds_toArray, List.set_cons_zero, List.set_cons_succ]
        try
          refine wpAnyH_take (i := 16) (oi := ⟨some 10, _, _, _, _, _⟩) (v := ?_) rfl (by decide +kernel) (by decide +kernel) (by decide +kernel) (fun _ _ _ h => h) (Or.inl ⟨by rfl, ?_⟩) hS ?_
          rotate_left 1
          · intro wS hSw
            clear hSw
            go_simp
            try with_reducible rfl
          try simp only [Act.put, List.setIfInBounds_toArray, List.set_cons_zero, List.set_cons_succ]
        refine wpAnyH_ready (rs := [11]) (by decide +kernel) (by simp) ?_
        refine AllReadyH.cons (o := ⟨some 43, _, _, _, _, _⟩) rfl (fun K hK => ?_) AllReadyH.nil
        rw [if_pos (by rfl)]
        go_simp
        with_reducible refine (AD.out).mono ?_
        rintro e w3 ⟨rfl, hsn3, ho3⟩
        refine hK.out _ _ (⟨hS.a.keep (ho3.block b hb2 hbsm), hS.b.keep (ho3.block b hb2 hbsm)⟩) (fun hS => ?_)
        clear hK K
        try simp only [Act.put, List.setIfInBounds_toArray, List.set_cons_zero, List.set_cons_succ]
        try
          refine wpAnyH_take (i := 12) (oi := ⟨some 31, _, _, _, _, _⟩) (v := ?_) rfl (by decide +kernel) (by decide +kernel) (by decide +kernel) (fun _ _ _ h => h) (Or.inl ⟨by rfl, ?_⟩) hS ?_
          rotate_left 1
          · intro wS hSw
            clear hSw
            go_simp
            try with_reducible rfl
          try simp only [Act.put, List.setIfInBounds_toArray, List.set_cons_zero, List.set_cons_succ]
        try
          refine wpAnyH_take (i := 13) (oi := ⟨some 44, _, _, _, _, _⟩) (v := ?_) rfl (by decide +kernel) (by decide +kernel) (by decide +kernel) (fun _ _ _ h => h) (Or.inl ⟨by rfl, ?_⟩) hS ?_
          rotate_left 1
          · intro wS hSw
            clear hSw
            go_simp
            try with_reducible rfl
          try simp only [Act.put, List.setIfInBounds_toArray, List.set_cons_zero, List.set_cons_succ]
        try
          refine wpAnyH_take (i := 14) (oi := ⟨some 45, _, _, _, _, _⟩) (v := ?_) rfl (by decide +kernel) (by decide +kernel) (by decide +kernel) (fun _ _ _ h => h) (Or.inl ⟨by rfl, ?_⟩) hS ?_
          rotate_left 1
          · intro wS hSw
            clear hSw
            go_simp
            try with_reducible rfl
          try simp only [Act.put, List.setIfInBounds_toArray, List.set_cons_zero, List.set_cons_succ]
        try
          refine wpAnyH_take (i := 15) (oi := ⟨some 9, _, _, _, _, _⟩) (v := ?_) rfl (by decide +kernel) (by decide +kernel) (by decide +kernel) (fun _ _ _ h => h) (Or.inl ⟨by rfl, ?_⟩) hS ?_
          rotate_left 1
          · intro wS hSw
            clear hSw
            go_simp
            try with_reducible rfl
          try simp only [Act.put, List.setIfInBounds_toArray, List.set_cons_zero, List.set_cons_succ]
        try
          refine wpAnyH_take (i := 16) (oi := ⟨some 10, _, _, _, _, _⟩) (v := ?_) rfl (by decide +kernel) (by decide +kernel) (by decide +kernel) (fun _ _ _ h => h) (Or.inl ⟨by rfl, ?_⟩) hS ?_
          rotate_left 1
          · intro wS hSw
            clear hSw
            go_simp
            try with_reducible rfl
          try simp only [Act.put, List.setIfInBounds_toArray, List.set_cons_zero, List.set_cons_succ]
        refine wpAnyH_done (by decide +kernel) ?_ _
        have HO3 := Lib.hid (HO2.out.trans (Only.trans (Only.refl sm w2).drew ho3))
        have HB3 := Lib.hid (below_on HB2.out.drew (ho3.below (N := w.heap.size) (by omega) (by show w.heap.size ≤ w2.heap.size; omega)) (Nat.le_refl _))
        have HROW3 := Lib.hid (HROW2.out.keep (fun k hk1 hk2 => ho3.block k hk2 (by omega)))
        have HA3 := Lib.hid (HA2.out.keep (ho3.block b hb2 hbsm))
        have hw3 : w1.heap.size ≤ w3.heap.size := HO3.out.size
        have HSE3 := Lib.hid hsn3
        have hlen1 : (S ++ [q]).length = S.length + 1 := by rw [List.length_append]; rfl
        have HL24 := Lib.hid (show ∀ x ∈ S ++ [q], x.length = 24 from fun x hx => by
          rcases List.mem_append.mp hx with h | h
          · exact hS24.out x h
          · rw [List.mem_singleton.mp h]; exact hq)
        clear hsn3 ho3 hS HA2 HO2 HB2 HROW2 HS9 AD
        go_wp2_with (first | ((with_reducible refine wl_load pairT ?_ ?_ hq HA3.out ?_); rfl; rfl) | ((with_reducible refine wl_bs hq ?_ ?_ ?_); rfl; rfl) | (at_builtin; go_loud (refine wpList_append_pair rfl (.tmp 50) (.tmp 55) rfl _ w3 w1.heap.size S q hq HROW3.out hw3 rfl rfl (by omega) ?_; intro v4 w4 hrow4 hbel4)))
        have HSE4 := Lib.hid (HSE3.out.below hbel4 hsb3 hsm3)
        have HO4 := Lib.hid (HO3.out.then_below hbel4 (Nat.le_refl _))
        have HB4 := Lib.hid (below_on HB3.out hbel4 (by omega))
        obtain ⟨a4, cap4, rfl, _⟩ := hrow4.inn HL24.out
        have HROW4 := Lib.hid hrow4
        have LN := Lib.hid (len_any HSE4.out)
        clear hrow4 hbel4 HROW3 HSE3 HO3 HB3 HA3
        go_wp2_with fail
        with_reducible refine LN.out.mono ?_
        rintro e w5 ⟨rfl, hw5⟩
        rw [hw5]; clear hw5
        go_wp2
        go_roundw
        case rel => exact ⟨j + 1, by omega, rfl, by go_num, by rw [HQ3.out]; have h := HROW4.out; rw [hlen1] at h; exact h, by rw [HQ3.out]; exact HSE4.out, HO4.out, HB4.out⟩
        case measure => simp [intOf]; omega
    · have p1 : decide ((j : Int) < (L.length : Int)) = false := decide_eq_false (by omega)
      have HP1 := honly.blk P1.out (by omega)
      have A1 := Lib.hid (show AAt wr w.heap.size 0 (p.take 16) from HP1.at0.front 16)
      have A2 := Lib.hid (show AAt wr w.heap.size 16 (p.drop 16) from by have := HP1.at0.back 16; rwa [Nat.zero_add] at this)
      have HP2 := Lib.hid HP1
      have hT16 : (p.take 16).length = 16 := by rw [List.length_take]; omega
      have hX8 : (p.drop 16).length = 8 := by rw [List.length_drop]; omega
      have F1 := Lib.hid (show Calls Tryd.prog 28 #[.pointer (some ⟨sb, 0, none⟩), .agg (aC (p.take 16)), .agg (aC (p.drop 16))] wr fun e w' => e = .returned (.tuple #[.int .i64 (findN (sF (L.take j)) p), .bool (decide (p ∈ sF (L.take j)))]) ∧ Below wr.heap.size wr w' from by
        have := find_any (p.take 16) (p.drop 16) hT16 hX8 hse
        rwa [List.take_append_drop] at this)
      have F2 := Lib.hid (fun w' (h : Below wr.heap.size wr w') => rfind_any a2 cap2 (sF (L.take j)) p w' hp hff.1 (by omega) (hin2.below h))
      clear hrow hse honly hbel hff hin2 HP1 HROW HSE
      generalize sF (L.take j) = S at *
      by_cases hm : p ∈ S
      · have f1 : fI S p = ((S.idxOf p : Nat) : Int) := by unfold fI; rw [if_pos hm]
        have f2 : decide (p ∈ S) = true := decide_eq_true hm
        have f3 : findN S p = S.idxOf p := by unfold findN; rw [if_pos hm]
        rw [f2, f3] at F1
        rw [f1] at F2
        clear f1 f2 f3 hm
        generalize S.idxOf p = N at *
        have g1 : decide ((0 : Int) ≤ (N : Int)) = true := decide_eq_true (by omega)
        have g2 : max (0 : Int) (N : Int) = (N : Int) := by omega
        go_wp2_with (first | ((with_reducible refine wl_load traceT ?_ ?_ hT16 A1.out ?_); rfl; rfl) | ((with_reducible refine wl_load spanT ?_ ?_ hX8 A2.out ?_); rfl; rfl))
        with_reducible refine F1.out.mono ?_
        rintro e w2 ⟨rfl, h2⟩
        have G2 := Lib.hid (F2.out w2 h2)
        have A3 := Lib.hid (HP2.out.below h2 HP2.out.lt).at0
        have K2 := Lib.hid (grown_then HBL.out h2)
        clear h2 F1 F2 A1 A2
        go_wp2_with ((with_reducible refine wl_load pairT ?_ ?_ hp A3.out ?_); rfl; rfl)
        with_reducible refine G2.out.mono ?_
        rintro e w3 ⟨rfl, h3⟩
        have K3 := Lib.hid (grown_then K2.out h3)
        have WK := Lib.hid (works7_any w3 (HT.out.below (grown_then K2.out h3) hpos))
        clear h3 G2 A3 K2
        go_wp2_with fail
        all_goals
          with_reducible refine WK.out.mono ?_
          rintro e w4 ⟨rfl, h4⟩
          have K4 := Lib.hid (grown_then K3.out h4)
          clear h4 WK
          go_wp2
          go_ret
          first | exact ⟨rfl, K4.out⟩ | exact ⟨ret_b (by simp; omega), K4.out⟩
      · have f1 : fI S p = -1 := by unfold fI; rw [if_neg hm]
        have f2 : decide (p ∈ S) = false := decide_eq_false hm
        have f3 : findN S p = 0 := by unfold findN; rw [if_neg hm]
        rw [f2, f3] at F1
        rw [f1] at F2
        clear f1 f2 f3 hm
        go_wp2_with (first | ((with_reducible refine wl_load traceT ?_ ?_ hT16 A1.out ?_); rfl; rfl) | ((with_reducible refine wl_load spanT ?_ ?_ hX8 A2.out ?_); rfl; rfl))
        with_reducible refine F1.out.mono ?_
        rintro e w2 ⟨rfl, h2⟩
        have G2 := Lib.hid (F2.out w2 h2)
        have A3 := Lib.hid (HP2.out.below h2 HP2.out.lt).at0
        have K2 := Lib.hid (grown_then HBL.out h2)
        clear h2 F1 F2 A1 A2
        go_wp2_with ((with_reducible refine wl_load pairT ?_ ?_ hp A3.out ?_); rfl; rfl)
        with_reducible refine G2.out.mono ?_
        rintro e w3 ⟨rfl, h3⟩
        have K3 := Lib.hid (grown_then K2.out h3)
        have WK := Lib.hid (works7_any w3 (HT.out.below (grown_then K2.out h3) hpos))
        clear h3 G2 A3 K2
        go_wp2_with fail
        all_goals
          with_reducible refine WK.out.mono ?_
          rintro e w4 ⟨rfl, h4⟩
          have K4 := Lib.hid (grown_then K3.out h4)
          clear h4 WK
          go_wp2
          go_ret
          first | exact ⟨rfl, K4.out⟩ | exact ⟨ret_b (by simp; omega), K4.out⟩

theorem seen_big (a : Option Addr) (n cap : Nat) (p : List UInt8) (w : World) (hn : 40 < n) (ht : Tab w) :
    Calls Tryd.prog 5 #[.slice a n cap, .agg (aC p)] w fun e w' => e = .returned (.bool true) ∧ Below w.heap.size w w' := by
  have p0 : decide ((40 : Int) < (n : Int)) = true := decide_eq_true (by omega)
  have hbe := below_alloc w (.cells (aC p) 45)
  have HB := Lib.hid hbe
  have WK := Lib.hid (works7_any _ (ht.below hbe ht.lt))
  clear hbe ht hn
  go_enter Tryd.func5, Tryd.ntmps5
  go_wp2_with fail
  with_reducible refine WK.out.mono ?_
  rintro e w4 ⟨rfl, h4⟩
  have K4 := Lib.hid (grown_then HB.out h4)
  clear h4 WK
  go_wp2
  go_ret
  exact ⟨rfl, K4.out⟩

set_option maxRecDepth 100000 in
set_option maxHeartbeats 4000000 in
theorem seen_empty (a : Option Addr) (cap : Nat) (p : List UInt8) (w : World) (hp : p.length = 24) (ht : Tab w) :
    Calls Tryd.prog 5 #[.slice a 0 cap, .agg (aC p)] w fun e w' => e = .returned (.bool true) ∧ Below w.heap.size w w' := by
  have hbe := below_alloc w (.cells (aC p) 45)
  have P0 := Lib.hid (blk_alloc 45 w p)
  have HB := Lib.hid hbe
  have HT := Lib.hid ht
  have hpos := ht.lt
  clear hbe ht
  go_enter Tryd.func5, Tryd.ntmps5
  go_wp2_with fail
  with_reducible refine (newseen_any _).mono ?_
  rintro e w1 ⟨sb, sm, rfl, hsn, hsb, hsm, h1⟩
  have HP2 := Lib.hid (P0.out.below h1 P0.out.lt)
  have HBL := Lib.hid (grown_then HB.out h1)
  have A1 := Lib.hid (show AAt w1 w.heap.size 0 (p.take 16) from HP2.out.at0.front 16)
  have A2 := Lib.hid (show AAt w1 w.heap.size 16 (p.drop 16) from by have := HP2.out.at0.back 16; rwa [Nat.zero_add] at this)
  have hT16 : (p.take 16).length = 16 := by rw [List.length_take]; omega
  have hX8 : (p.drop 16).length = 8 := by rw [List.length_drop]; omega
  have F1 := Lib.hid (show Calls Tryd.prog 28 #[.pointer (some ⟨sb, 0, none⟩), .agg (aC (p.take 16)), .agg (aC (p.drop 16))] w1 fun e w' => e = .returned (.tuple #[.int .i64 0, .bool false]) ∧ Below w1.heap.size w1 w' from find_any (p.take 16) (p.drop 16) hT16 hX8 hsn)
  have F2 := Lib.hid (fun w' => rfind_none none 0 p w')
  clear h1 hsn hsb hsm P0 HB
  go_wp2_with fail
  refine wp_loop_once ?_
  go_wp2_with (first | ((with_reducible refine wl_load traceT ?_ ?_ hT16 A1.out ?_); rfl; rfl) | ((with_reducible refine wl_load spanT ?_ ?_ hX8 A2.out ?_); rfl; rfl))
  with_reducible refine F1.out.mono ?_
  rintro e w2 ⟨rfl, h2⟩
  have A3 := Lib.hid (HP2.out.below h2 HP2.out.lt).at0
  have K2 := Lib.hid (grown_then HBL.out h2)
  clear h2 F1 A1 A2
  go_wp2_with ((with_reducible refine wl_load pairT ?_ ?_ hp A3.out ?_); rfl; rfl)
  with_reducible refine (F2.out _).mono ?_
  rintro e w3 ⟨rfl, h3⟩
  have K3 := Lib.hid (grown_then K2.out h3)
  have WK := Lib.hid (works7_any w3 (HT.out.below (grown_then K2.out h3) hpos))
  clear h3 F2 A3 K2
  go_wp2_with fail
  with_reducible refine WK.out.mono ?_
  rintro e w4 ⟨rfl, h4⟩
  have K4 := Lib.hid (grown_then K3.out h4)
  clear h4 WK
  go_wp2
  go_ret
  exact ⟨rfl, K4.out⟩
theorem identseen_any (a : Option Addr) (cap : Nat) (L : List (List UInt8)) (p : List UInt8) (w : World) (hp : p.length = 24) (hL : ∀ q ∈ L, q.length = 24) (hin : PIn w a L) (ht : Tab w) :
    Calls Tryd.prog 5 #[.slice a L.length cap, .agg (aC p)] w fun e w' => e = .returned (.bool true) ∧ Below w.heap.size w w' := by
  by_cases h40 : 40 < L.length
  · exact seen_big a L.length cap p w h40 ht
  · by_cases h0 : L.length = 0
    · obtain rfl := List.eq_nil_of_length_eq_zero h0
      exact seen_empty a cap p w hp ht
    · obtain ⟨b, off, rfl, hb, _⟩ := hin 0 (by omega)
      refine seen_some b off cap L p w hp hL (by omega) hb (fun j h => ?_) ht
      obtain ⟨b', off', e, _, ha⟩ := hin j h
      obtain ⟨rfl, rfl⟩ : b = b' ∧ off = off' := by simpa using e
      exact ha
theorem identseen_t (a : Option Addr) (cap : Nat) (L : List (List UInt8)) (p : List UInt8) (w : World) (hL : ∀ q ∈ L, q.length = 24) (hin : PIn w a L) (hp : p.length = 24) (ht : Tab w) :
    Calls Tryd.prog 5 #[.slice a L.length cap, .agg (aC p)] w fun e w' => e = .returned (.bool true) ∧ Below w.heap.size w w' := identseen_any a cap L p w hp hL hin ht
end Go.Proofs.YtjoafbapffdneaaDoor
