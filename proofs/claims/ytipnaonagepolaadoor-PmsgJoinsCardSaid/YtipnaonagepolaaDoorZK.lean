/- Several texts in one (PmA, PmB, PmC, PmD): each begins with its own words. -/
import Derived.Test.YtipnaonagepolaaDoorZI
import Derived.Test.YtipnaonagepolaaDoorZH
import Derived.Test.YtipnaonagepolaaDoorFtM
/- Package pmsg: a message in memory; Read, all, tagOf, has, those. -/
namespace Go.Proofs.YtipnaonagepolaaDoor
open Go Go.RowKit
set_option linter.unusedVariables false

/-- The pointer is a message whose fields are l, or nil, where there are none. -/
def MsgIn (w : World) (mp : Option Addr) (l : List FD) : Prop :=
  (mp = none ∧ l = []) ∨ ∃ b a c, mp = some ⟨b, 0, none⟩ ∧ w.heap[b]? = some (.cells #[.slice a l.length c] 67 (0, 0)) ∧ FIn w a l
theorem MsgIn.below {w w' : World} {mp : Option Addr} {l : List FD} {N : Nat} (h : MsgIn w mp l) (hb : Below N w w') (hN : w.heap.size ≤ N) : MsgIn w' mp l := by
  rcases h with h | ⟨b, a, c, h1, h2, h3⟩
  · exact .inl h
  · exact .inr ⟨b, a, c, h1, (hb.block b (Nat.lt_of_lt_of_le (lt_of_block h2) hN)).trans h2, h3.below hb hN⟩

/-- .. of this very list. -/
def MsgAt (w : World) (mp ad : Option Addr) (c : Nat) (l : List FD) : Prop :=
  (mp = none ∧ l = [] ∧ ad = none ∧ c = 0) ∨ ∃ b, mp = some ⟨b, 0, none⟩ ∧ w.heap[b]? = some (.cells #[.slice ad l.length c] 67 (0, 0)) ∧ FIn w ad l
theorem MsgIn.at_ {w : World} {mp : Option Addr} {l : List FD} (h : MsgIn w mp l) : ∃ ad c, MsgAt w mp ad c l := by
  rcases h with ⟨h1, h2⟩ | ⟨b, a, c, h⟩
  · exact ⟨none, 0, .inl ⟨h1, h2, rfl, rfl⟩⟩
  · exact ⟨a, c, .inr ⟨b, h⟩⟩
theorem MsgAt.inn {w : World} {mp ad : Option Addr} {c : Nat} {l : List FD} (h : MsgAt w mp ad c l) : FIn w ad l := by
  rcases h with ⟨_, h2, _, _⟩ | ⟨b, _, _, h⟩
  · subst h2; exact fun j hj => by simp at hj
  · exact h
theorem MsgAt.below {w w' : World} {mp ad : Option Addr} {c : Nat} {l : List FD} {N : Nat} (h : MsgAt w mp ad c l) (hb : Below N w w') (hN : w.heap.size ≤ N) : MsgAt w' mp ad c l := by
  rcases h with h | ⟨b, h1, h2, h3⟩
  · exact .inl h
  · exact .inr ⟨b, h1, (hb.block b (Nat.lt_of_lt_of_le (lt_of_block h2) hN)).trans h2, h3.below hb hN⟩
theorem pmall_at {mp ad : Option Addr} {c : Nat} {l : List FD} {w : World} (h : MsgAt w mp ad c l) :
    Calls Tryd.prog 40 #[.pointer mp] w fun e w' => e = .returned (.slice ad l.length c) ∧ w' = w := by
  rcases h with ⟨rfl, rfl, rfl, rfl⟩ | ⟨b, rfl, h2, h3⟩
  · go_enter Tryd.func40, Tryd.ntmps40
    go_wp2
    go_ret
    exact ⟨rfl, rfl⟩
  · have hc := cell_of_row w b 0 _ _ _ h2
    simp only [List.getElem?_toArray, List.getElem?_cons_zero] at hc
    clear h3 h2
    go_enter Tryd.func40, Tryd.ntmps40
    go_wp2
    go_ret
    exact ⟨rfl, rfl⟩
theorem pmtag_any (x : FD) (w : World) :
    Calls Tryd.prog 41 #[pfV x] w fun e w' => e = .returned (tgV x.1 x.2.1) ∧ Below w.heap.size w w' := by
  obtain ⟨n, v, u, s⟩ := x
  unfold pfV
  dsimp only
  have f1 := fd_alloc w (n, v, u, s) 47
  have f2 := f1.alloc (.cells #[.int .i64 0, .int .i64 0] 51)
  have g2 := tg_alloc 51 (w.alloc (.cells #[.int .i64 n, .int .i64 v, .int .u64 (u : Nat), .string s] 47)) n v
  rw [World.size_alloc] at g2
  have b2 := (fd_grow w (n, v, u, s) 47).alloc (by simp) (.cells #[.int .i64 n, .int .i64 v] 51)
  have G3 := Lib.hid g2
  have B3 := Lib.hid b2
  have c0 := f2.c0; have c1 := f2.c1
  clear f1 f2 g2 b2
  go_enter Tryd.func41, Tryd.ntmps41
  go_wp2
  refine bodyPost_ret (tg_result Tryd.underlying51 rfl (by kernel_rfl) rfl G3.out rfl) rfl ?_
  exact ⟨rfl, B3.out⟩

theorem pmhas_any (n v : Int) (x : FD) (w : World) :
    Calls Tryd.prog 31 #[tgV n v, pfV x] w fun e w' => e = .returned (.bool (tHas (n, v) x)) ∧ Below w.heap.size w w' := by
  obtain ⟨m, z, u, s⟩ := x
  have g1 := tg_alloc 79 w n v
  have g2 := (g1.below ((Below.refl _ _).alloc (Nat.le_refl _) (.cells #[.int .i64 m, .int .i64 z, .int .u64 (u : Nat), .string s] 47)) g1.lt)
  have f2 := fd_alloc (w.alloc (.cells #[.int .i64 n, .int .i64 v] 79)) (m, z, u, s) 47
  rw [World.size_alloc] at f2
  have b2 := (tg_grow 79 w n v).alloc (by simp) (.cells #[.int .i64 m, .int .i64 z, .int .u64 (u : Nat), .string s] 47)
  have hT := fun w => pmtag_any (m, z, u, s) w
  unfold pfV tgV at hT
  dsimp only at hT
  have hmx : Tryd.prog.follows .mixedOrders = true := by kernel_rfl
  have he := fun w => tg_eql m z n v w
  have hr : (.bool (tHas (n, v) (m, z, u, s)) : Value) = .bool (decide (m = n) && decide (z = v)) := rfl
  have HT := Lib.hid hT
  have HR := Lib.hid hr
  clear g1 hT hr
  unfold pfV tgV at *
  dsimp only at *
  go_enter Tryd.func31, Tryd.ntmps31
  go_wp2
  have hsz : w.heap.size ≤ ((w.alloc (.cells #[.int .i64 n, .int .i64 v] 79)).alloc (.cells #[.int .i64 m, .int .i64 z, .int .u64 (u : Nat), .string s] 47)).heap.size := by simp; omega
  generalize ((w.alloc (.cells #[.int .i64 n, .int .i64 v] 79)).alloc (.cells #[.int .i64 m, .int .i64 z, .int .u64 (u : Nat), .string s] 47)) = W at *
  have c0 := f2.c0; have c1 := f2.c1; have c2 := f2.c2; have c3 := f2.c3
  have d0 := g2.c0; have d1 := g2.c1
  have G2 := Lib.hid (show TgT 79 W.drew w.heap.size n v from g2)
  have B2 := Lib.hid (show Below w.heap.size w W.drew from b2.drew)
  have HS := Lib.hid (show w.heap.size ≤ W.drew.heap.size from hsz)
  clear f2 g2 b2 hsz
  go_region_with (go_at_call 41; (with_reducible refine (HT.out _).mono ?_); rintro e w2 ⟨rfl, hb2⟩; have G3 := G2.out.below hb2 G2.out.lt; have e0 := G3.c0; have e1 := G3.c1; have B3 := Lib.hid (below_on B2.out hb2 HS.out); clear G3 hb2)
  all_goals go_wp2
  all_goals go_ret
  all_goals exact ⟨by rw [HR.out]; rfl, B3.out⟩

/-- Which fields are asked for: a method, with its tag. -/
def hasV (t : TG) : Value := .func (.func 31) #[tgV t.1 t.2] #[]
theorem pmthose_any (mp : Option Addr) (t : TG) (w : World) :
    Calls Tryd.prog 30 #[.pointer mp, hasV t] w fun e w' => e = .returned (.func (.func 48) #[] #[.pointer (some ⟨w.heap.size, 0, none⟩), .pointer (some ⟨w.heap.size + 1, 0, none⟩)]) ∧
      w' = (w.alloc (.cells #[.pointer mp] 23)).alloc (.cells #[hasV t] 78) := by
  have hmf : ∀ (fn : Fn) (first cap : Array Value) (w : World), (Instr.makeFunc fn first cap).run Tryd.prog w = .ok (.func fn first cap) w := fun _ _ _ _ => rfl
  unfold hasV
  go_enter Tryd.func30, Tryd.ntmps30
  go_wp2
  go_ret
  exact ⟨rfl, rfl⟩

theorem pmread_any (s : ByteArray) (w : World) (hs : s.size ≤ 1099511627776) (ht : Tab w) :
    Calls Tryd.prog 7 #[.string s] w fun e w' => ∃ mp, e = .returned (.tuple #[.pointer mp, .int .i64 (fAll s.data.toList).2]) ∧ MsgIn w' mp (fAll s.data.toList).1 ∧ ((mp = none) = ¬ (fAll s.data.toList).2 = 0) ∧ Below w.heap.size w w' := by
  have hA := Lib.hid (jo_all s w hs ht)
  have hN := fAll_none s.data.toList
  generalize fAll s.data.toList = R at *
  obtain ⟨l, E⟩ := R
  dsimp only at *
  by_cases h0 : E = 0
  · subst h0
    clear hN ht
    go_enter Tryd.func7, Tryd.ntmps7
    go_wp2_with (go_at_call 23; refine hA.out.mono ?_; rintro e w1 ⟨v, rfl, hr, hb⟩; obtain ⟨a, c, hv, hf⟩ := hr.inn; subst hv; have HF := Lib.hid hf; have HB := Lib.hid hb; clear hr hf hb)
    go_ret2
    have hg : Below w1.heap.size w1 (w1.alloc (.cells #[.slice a l.length c] 67)) := (Below.refl _ _).alloc (Nat.le_refl _) _
    exact ⟨_, rfl, .inr ⟨_, a, c, rfl, heap_alloc_new w1 _, HF.out.below hg (Nat.le_refl _)⟩, by simp, below_on HB.out hg HB.out.size⟩
  · have hl := hN h0
    subst hl
    have p1 : (E != 0) = true := bne_iff_ne.mpr h0
    have H0 := Lib.hid h0
    clear hN ht h0
    go_enter Tryd.func7, Tryd.ntmps7
    go_wp2_with (go_at_call 23; refine hA.out.mono ?_; rintro e w1 ⟨v, rfl, hr, hb⟩; have HB := Lib.hid hb; clear hr hb)
    go_ret2
    exact ⟨none, rfl, .inl ⟨rfl, rfl⟩, by simp [H0.out], HB.out⟩
end Go.Proofs.YtipnaonagepolaaDoor
/- Package pmsg: the function over which the fields that are asked for are ranged. -/
namespace Go.Proofs.YtipnaonagepolaaDoor
open Go Go.RowKit
set_option linter.unusedVariables false
attribute [local go_sem] Oper.semAt_some

set_option maxRecDepth 100000 in
set_option maxHeartbeats 4000000 in
theorem those_any (l : List FD) (t : TG) (mp ad : Option Addr) (cp L a b m : Nat) (W : World) (hl : l.length ≤ 1099511627776)
    (St : Nat → World → Prop)
    (h1 : ∀ j W1 W2, St j W1 → Below W1.heap.size W1 W2 → St j W2)
    (hc : ∀ j W1, St j W1 → W1.cell? ⟨a, 0, none⟩ = some (.pointer mp) ∧ W1.cell? ⟨b, 0, none⟩ = some (hasV t) ∧ MsgAt W1 mp ad cp l)
    (hY : ∀ j (hj : j < l.length) W1, St j W1 → tHas t l[j] = true → YieldAt Fence.wide m Tryd.prog L #[.int .i64 (j : Nat), pfV l[j]] W1 fun r W' => r = .returned (.bool true) ∧ St (j + 1) W')
    (hN : ∀ j (hj : j < l.length) W1, St j W1 → tHas t l[j] = false → St (j + 1) W1)
    (h0 : St 0 W) :
    CallsIn Fence.wide (m + 1) Tryd.prog 48 #[.func (.yield L) #[] #[], .pointer (some ⟨a, 0, none⟩), .pointer (some ⟨b, 0, none⟩)] W fun e W' => (∃ v, e = .returned v) ∧ St l.length W' := by
  obtain ⟨tn, tv⟩ := t
  have H1 := Lib.hid h1
  have HC := Lib.hid hc
  have HY := Lib.hid hY
  have HN := Lib.hid hN
  have H0 := Lib.hid h0
  obtain ⟨q1, q2, q3⟩ := hc 0 W h0
  have HA := Lib.hid (pmall_at q3)
  clear h1 hc hY hN h0 q2 q3
  refine callsIn_of_wp Tryd.func48 rfl trivial ?_ rfl
  simp only [Tryd.ntmps48, List.size_toArray, List.length_cons, List.length_nil, Nat.reduceAdd, Nat.reduceSub, Array.replicate_succ, Array.replicate_zero, List.push_toArray, List.append_toArray, List.nil_append, List.cons_append]
  gi_wp2_with (refine ⟨trivial, ?_⟩; gi_at_call 40; refine (callsIn_wide.2 HA.out).mono ?_; rintro e w1 ⟨rfl, hw1⟩; rw [hw1]; clear hw1)
  clear q1
  gi_loopw [9] (fun i wr => ∃ j : Nat, j ≤ l.length ∧ i = .int .i64 (j : Nat) ∧ St j wr) (fun i _ => l.length - (intOf i).toNat)
  case atStart => exact ⟨0, Nat.zero_le _, rfl, H0.out⟩
  case round =>
    obtain ⟨j, hj, rfl, hst⟩ := hrel
    by_cases hlt : j < l.length
    · have p1 : decide ((j : Int) < (l.length : Int)) = true := decide_eq_true (by omega)
      have p2 : (j : Int) < (l.length : Int) := by omega
      obtain ⟨q1, q2, q3⟩ := HC.out _ _ hst
      obtain ⟨g, hg1, hg2, k0, k1, k2, k3⟩ := q3.inn j hlt
      have HST := Lib.hid hst
      have HYj := Lib.hid (HY.out j hlt)
      have HNj := Lib.hid (HN.out j hlt)
      clear q1 q2 q3 hst
      subst hg1
      generalize l[j] = y at *
      have HX := Lib.hid (fun w => pmhas_any tn tv y w)
      obtain ⟨y0, y1, y2, y3⟩ := y
      dsimp only at k0 k1 k2 k3
      have hal : Below wr.heap.size wr (wr.alloc (.cells #[.int .i64 y0, .int .i64 y1, .int .u64 (y2 : Nat), .string y3] 47)) := (Below.refl _ _).alloc (Nat.le_refl _) _
      have s2 := H1.out _ _ _ HST.out hal
      obtain ⟨c1, c2, c3⟩ := HC.out _ _ s2
      have F2 := fd_alloc wr (y0, y1, y2, y3) 47
      have S2 := Lib.hid s2
      have c0 := c2
      unfold hasV tgV at c0
      dsimp only at c0
      have g0 := F2.c0; have g1 := F2.c1; have g2 := F2.c2; have g3 := F2.c3
      have HF := Lib.hid F2
      clear s2 c1 c2 c3 hal F2
      unfold pfV tgV at HX
      dsimp only at HX
      by_cases ht : tHas (tn, tv) (y0, y1, y2, y3) = true
      · rw [ht] at HX
        have HYt := Lib.hid (fun W1 h => HYj.out W1 h ht)
        unfold pfV at HYt
        dsimp only at HYt
        clear HYj HNj ht
        gi_wp2_with (first
          | (refine ⟨trivial, ?_⟩; gi_at_call 31; refine (callsIn_wide.2 (HX.out _)).mono ?_; rintro e w3 ⟨rfl, hb3⟩; obtain ⟨fn, tm, ass, bo, hy, hR⟩ := HYt.out w3 (H1.out _ _ _ S2.out hb3); have F3 := HF.out.below hb3 HF.out.lt; have e0 := F3.c0; have e1 := F3.c1; have e2 := F3.c2; have e3 := F3.c3; clear F3 hb3 g0 g1 g2 g3)
          | (refine hR.mono ?_; rintro e w6 ⟨rfl, hst6⟩))
        go_roundw
        case rel => exact ⟨j + 1, by omega, by go_num, hst6⟩
        case measure => simp [intOf]; omega
      · have ht := Bool.eq_false_iff.2 ht
        rw [ht] at HX
        have HNt := Lib.hid (fun W1 h => HNj.out W1 h ht)
        clear HYj HNj ht HF
        gi_wp2_with (first
          | (refine ⟨trivial, ?_⟩; gi_at_call 31; refine (callsIn_wide.2 (HX.out _)).mono ?_; rintro e w3 ⟨rfl, hb3⟩; have s3 := Lib.hid (HNt.out _ (H1.out _ _ _ S2.out hb3)); clear hb3 g0 g1 g2 g3)
          | (refine ⟨fun _ h => absurd h (by simp), ?_⟩))
        go_roundw
        case rel => exact ⟨j + 1, by omega, by go_num, s3.out⟩
        case measure => simp [intOf]; omega
    · have p1 : decide ((j : Int) < (l.length : Int)) = false := decide_eq_false (by omega)
      have e : j = l.length := by omega
      have HST := Lib.hid hst
      clear hst
      gi_wp2
      go_end0
      exact ⟨⟨_, rfl⟩, by rw [← e]; exact HST.out⟩
end Go.Proofs.YtipnaonagepolaaDoor
/- Package pmsg: Each: the bytes of each field of a number. -/
namespace Go.Proofs.YtipnaonagepolaaDoor
open Go Go.RowKit
set_option linter.unusedVariables false
attribute [local go_sem] Oper.semAt_some

/-- 'append(list, s)', inside a fence. -/
theorem wpListIn_append_str {F : Fence} {n : Nat} {ops : Array Oper} {rest : List Oper} {o : Oper} {a : Act} {Q : Exit → Act → World → Prop} (hgd : o.guard = none) (sl x : Operand)
    (ho : o.op = .call { callee := .builtin .append, args := #[sl, x], argTypes := #[38, 38] })
    (v : Value) (wr : World) (B : Nat) (l : List ByteArray) (hb : SBts wr B v l) (hB : B ≤ wr.heap.size) (hs : a.eval sl = v)
    (s : ByteArray) (hx : a.eval x = .slice (some ⟨wr.heap.size, 0, none⟩) 1 1) (hlen : l.length ≤ 1099511627776)
    (h : ∀ v' w', SBts w' B v' (l ++ [s]) → wr.grownBy w' v.ownBlock → wpListIn F n Tryd.prog ops Q rest (a.put o.dst v') w') :
    wpListIn F n Tryd.prog ops Q (o :: rest) a (wr.alloc (.cells #[.string s] 9)) := by
  obtain ⟨i0, hi, hz, hz1, hz2⟩ := info_parts infoS
  refine wpListIn_append_own _ hgd sl x 38 ho B 9 i0 (.string ⟨#[]⟩) 1 16 Tryd.underlying38 hi hz hz1 hz2 rfl (by decide) v l.length (sV l) hs (World.ownsRow.alloc hb _) ⟨wr.heap.size, 0, none⟩ 1 1 [.string s] hx rfl ?_ ?_ (by unfold maxLen; omega) (by omega) (by simp; omega) ?_
  · intro j u hj
    match j, hj with
    | 0, hj =>
      simp at hj
      subst hj
      have h1 := heap_alloc_new wr (.cells #[.string s] 9)
      show World.cell? _ ⟨wr.heap.size, 0 + 0, none⟩ = _
      simp only [World.cell?]
      rw [h1]; rfl
  · intro u hu; simp at hu; subst hu; rfl
  · intro v' w' hown hgr _
    refine h v' w' ?_ ?_
    · unfold SBts
      rw [sV_append, List.length_append]
      exact hown
    · refine ⟨hgr.os, hgr.tape, hgr.output, by have := hgr.size; simp at this; omega, fun k hk hne => ?_⟩
      rw [hgr.block k (by simp; omega) hne]
      exact Below.heap_alloc _ _ _ hk
/-- A list's own block is none of another type. -/
theorem SBts.not_at {W : World} {B k : Nat} {v : Value} {l : List ByteArray} (h : SBts W B v l) {o : Obj} (hk : W.heap[k]? = some o) (ho : ∀ cs, o ≠ .cells cs 9 (0, 0)) : some k ≠ v.ownBlock := by
  rcases h.2 with ⟨rfl, _⟩ | ⟨g, cap, cur, rfl, _, hg, _⟩
  · simp [Value.ownBlock]
  · intro e1
    obtain rfl : k = g := by simpa [Value.ownBlock] using e1
    rw [hk] at hg
    exact ho cur (Option.some.inj hg)

/-- Each, between two rounds, or within one: o is the loop's record. -/
structure EaQ (w : World) (mp : Option Addr) (l : List FD) (n : Int) (o : Obj) (j : Nat) (W : World) : Prop where
  row : ∃ v, Cel1 38 W w.heap.size v ∧ SBts W w.heap.size v (fEach (l.take j) n)
  b1 : Cel1 23 W (w.heap.size + 1) (.pointer mp)
  b2 : Cel1 78 W (w.heap.size + 1 + 1) (hasV (n, 2))
  df : W.heap[w.heap.size + 1 + 1 + 1]? = some (.deferred (some []))
  lp : W.heap[w.heap.size + 1 + 1 + 1 + 1]? = some o
  bel : Below w.heap.size w W
abbrev EaS (w : World) (mp : Option Addr) (l : List FD) (n : Int) (rec : LoopState → Option Code → Loop) (j : Nat) (W : World) : Prop := EaQ w mp l n (.loop (rec .ready none)) j W
theorem EaQ.below {w : World} {mp : Option Addr} {l : List FD} {n : Int} {o : Obj} {j : Nat} {W W' : World} (h : EaQ w mp l n o j W) (hb : Below W.heap.size W W') : EaQ w mp l n o j W' := by
  obtain ⟨⟨v, k1, k2⟩, k3, k4, k5, k6, k7⟩ := h
  exact ⟨⟨v, k1.at (hb.block _ k1.lt), k2.below hb (Nat.le_refl _)⟩, k3.at (hb.block _ k3.lt), k4.at (hb.block _ k4.lt), (hb.block _ (heap_lt k5)).trans k5, (hb.block _ (heap_lt k6)).trans k6, k7.trans (hb.mono k7.size)⟩
theorem EaQ.put {w : World} {mp : Option Addr} {l : List FD} {n : Int} {r r' : Loop} {j : Nat} {W : World} (h : EaQ w mp l n (.loop r) j W) : EaQ w mp l n (.loop r') j (W.putObj (w.heap.size + 1 + 1 + 1 + 1) (.loop r')) := by
  obtain ⟨⟨v, k1, k2⟩, k3, k4, k5, k6, k7⟩ := h
  have e : ∀ k, k ≠ w.heap.size + 1 + 1 + 1 + 1 → (W.putObj (w.heap.size + 1 + 1 + 1 + 1) (.loop r')).heap[k]? = W.heap[k]? := fun k hk => World.putObj_heap_other hk
  refine ⟨⟨v, k1.at (e _ (by omega)), ?_⟩, k3.at (e _ (by omega)), k4.at (e _ (by omega)), (e _ (by omega)).trans k5, World.putObj_heap_same (heap_lt k6), put_below k7 (by omega)⟩
  exact World.ownsRow.kept (row := some _) k2 (grownBy_putObj' W _ _) (.inr (fun e => k2.not_at k6 (fun cs e => by cases e) e.symm))
theorem EaQ.alloc {w : World} {mp : Option Addr} {l : List FD} {n : Int} {o : Obj} {j : Nat} {W : World} (h : EaQ w mp l n o j W) (x : Obj) : EaQ w mp l n o j (W.alloc x) := h.below ((Below.refl _ _).alloc (Nat.le_refl _) x)
/-- .. behind an append, and its store. -/
theorem EaQ.grown {w : World} {mp : Option Addr} {l : List FD} {n : Int} {r : Loop} {j : Nat} {W W' : World} {v v' : Value} {m : List ByteArray} (h : EaQ w mp l n (.loop r) j W) (hv : Cel1 38 W w.heap.size v) (hr : SBts W w.heap.size v m)
    (hr' : SBts W' w.heap.size v' (fEach (l.take (j + 1)) n)) (hg : W.grownBy W' v.ownBlock) :
    Cel1 38 W' w.heap.size v ∧ EaQ w mp l n (.loop r) (j + 1) (W'.setCell ⟨w.heap.size, 0, none⟩ v') := by
  obtain ⟨-, k3, k4, k5, k6, k7⟩ := h
  have e : ∀ (k : Nat) (o : Obj), W.heap[k]? = some o → (∀ cs, o ≠ .cells cs 9 (0, 0)) → W'.heap[k]? = W.heap[k]? := fun k o hk ho => hg.block k (heap_lt hk) (hr.not_at hk ho)
  have hv' : Cel1 38 W' w.heap.size v := hv.at (e _ _ hv (fun cs e => by cases e))
  have m : ∀ k, k ≠ w.heap.size → (W'.setCell ⟨w.heap.size, 0, none⟩ v').heap[k]? = W'.heap[k]? := fun k hk => set_at hk
  have hb : Below w.heap.size w W' := k7.grown hg k7.size (fun k hk => (World.ownsRow.lt hr k hk.symm.symm).1)
  refine ⟨hv', ⟨v', hv'.set v', ?_⟩, (k3.at (e _ _ k3 (fun cs e => by cases e))).at (m _ (by omega)), (k4.at (e _ _ k4 (fun cs e => by unfold hasV at e; cases e))).at (m _ (by omega)),
    (m _ (by omega)).trans ((e _ _ k5 (fun cs e => by cases e)).trans k5), (m _ (by omega)).trans ((e _ _ k6 (fun cs e => by cases e)).trans k6), set_keeps hb (by omega)⟩
  exact World.ownsRow.kept (row := some _) hr' (grownBy_setCell' W' _ v') (.inr (fun e => hr'.not_at hv' (fun cs e => by cases e) e.symm))
/-- The function's own end: the block for deferred calls shut. -/
theorem EaQ.done {w : World} {mp : Option Addr} {l : List FD} {n : Int} {o : Obj} {j : Nat} {W : World} {u : Value} (h : EaQ w mp l n o j W) (q : SBts W w.heap.size u (fEach l n)) :
    SBts (W.putObj (w.heap.size + 1 + 1 + 1) (.deferred none)) w.heap.size u (fEach l n) ∧ Below w.heap.size w (W.putObj (w.heap.size + 1 + 1 + 1) (.deferred none)) := by
  obtain ⟨-, -, -, k5, k6, k7⟩ := h
  exact ⟨World.ownsRow.kept (row := some _) q (grownBy_putObj' _ _ _) (.inr (fun e => q.not_at k5 (fun cs e => by cases e) e.symm)), put_below k7 (by omega)⟩

set_option maxRecDepth 100000 in
set_option maxHeartbeats 4000000 in
theorem pmeach_any (mp : Option Addr) (l : List FD) (n : Int) (w : World) (h : MsgIn w mp l) (hl : l.length ≤ 1099511627776) :
    Calls Tryd.prog 16 #[.pointer mp, .int .i64 n] w fun e w' => ∃ v, e = .returned v ∧ SBts w' w.heap.size v (fEach l n) ∧ Below w.heap.size w w' := by
  have hmf : ∀ (fn : Fn) (first cap : Array Value) (w : World), (Instr.makeFunc fn first cap).run Tryd.prog w = .ok (.func fn first cap) w := fun _ _ _ _ => rfl
  obtain ⟨ad, cp, hM⟩ := h.at_
  have HM := Lib.hid hM
  clear h hM
  have HT := Lib.hid (fun w => pmthose_any mp (n, 2) w)
  unfold hasV tgV at HT
  dsimp only at HT
  refine (callsIn_wide (n := 3)).1 ?_
  refine callsIn_of_wp_marks Tryd.func16 rfl trivial ?_ rfl
  simp only [Tryd.ntmps16, List.size_toArray, List.length_cons, List.length_nil, Nat.reduceAdd, Nat.reduceSub, Array.replicate_succ, Array.replicate_zero, List.push_toArray, List.append_toArray, List.nil_append, List.cons_append]
  gi_wp2_with (refine ⟨trivial, ?_⟩; gi_at_call 30; refine (callsIn_wide.2 (HT.out _)).mono ?_; rintro e w1 ⟨rfl, hw1⟩; rw [hw1]; clear hw1)
  obtain ⟨w0, hw0⟩ : ∃ w0, w0 = ((w.alloc (.cells #[.slice none 0 0] 38)).alloc (.cells #[.pointer mp] 23)).alloc (.cells #[hasV (n, 2)] 78) := ⟨_, rfl⟩
  have hw0' := hw0
  unfold hasV tgV at hw0'
  dsimp only at hw0'
  rw [← hw0']
  clear hw0'
  have e0 : w0.heap.size = w.heap.size + 1 + 1 + 1 := by rw [hw0, World.size_alloc, World.size_alloc, World.size_alloc]
  have D2 : Cel1 38 w0 w.heap.size (.slice none 0 0) := by
    rw [hw0]; exact ((cel_alloc _ w _).at (Below.heap_alloc _ _ _ (by simp))).at (Below.heap_alloc _ _ _ (by simp; omega))
  have D3 : Cel1 23 w0 (w.heap.size + 1) (.pointer mp) := by
    have := cel_alloc 23 (w.alloc (.cells #[.slice none 0 0] 38)) (.pointer mp)
    rw [World.size_alloc] at this
    rw [hw0]; exact this.at (Below.heap_alloc _ _ _ (by simp))
  have D4 : Cel1 78 w0 (w.heap.size + 1 + 1) (hasV (n, 2)) := by
    have := cel_alloc 78 ((w.alloc (.cells #[.slice none 0 0] 38)).alloc (.cells #[.pointer mp] 23)) (hasV (n, 2))
    rw [World.size_alloc, World.size_alloc] at this
    rw [hw0]; exact this
  have B0 : Below w.heap.size w w0 := by
    rw [hw0]; exact (((Below.refl _ w).alloc (Nat.le_refl _) _).alloc (by simp) _).alloc (by simp; omega) _
  clear hw0
  refine wide_rangeFunc (gf := 48) (lb := #[.pointer (some ⟨w.heap.size + 1, 0, none⟩), .pointer (some ⟨w.heap.size + 1 + 1, 0, none⟩)]) rfl (enters_of Tryd.func48 (by kernel_rfl) rfl) ?_
  intro rec hR hY
  have L1 := World.alloc_heap_new (w0.alloc (.deferred (some []))) (.loop (rec .ready none))
  have L2 := (Below.heap_alloc (w0.alloc (.deferred (some []))) (.loop (rec .ready none)) w0.heap.size (by simp)).trans (World.alloc_heap_new w0 (.deferred (some [])))
  have hB1 : Below w0.heap.size w0 ((w0.alloc (.deferred (some []))).alloc (.loop (rec .ready none))) := ((Below.refl _ w0).alloc (Nat.le_refl _) _).alloc (by simp) _
  rw [World.size_alloc] at L1
  generalize ((w0.alloc (.deferred (some []))).alloc (.loop (rec .ready none))) = W1 at *
  rw [e0] at hR hY L1 L2 hB1 ⊢
  have K2 := D2.at (hB1.block _ (by omega)); have K3 := D3.at (hB1.block _ (by omega)); have K4 := D4.at (hB1.block _ (by omega))
  have hB1 := B0.trans (hB1.mono (by omega))
  have HR := Lib.hid hR
  have HY := Lib.hid hY
  clear D2 D3 D4 hR hY B0
  refine (those_any l (n, 2) mp ad cp (w.heap.size + 1 + 1 + 1 + 1) (w.heap.size + 1) (w.heap.size + 1 + 1) 1 W1 hl (EaS w mp l n rec) ?h1 ?hc ?hY ?hN ?h0).mono ?_
  case h0 => exact ⟨⟨_, K2, sbts_nil _ _⟩, K3, K4, L2, L1, hB1⟩
  case h1 => exact fun j W1 W2 h hb => h.below hb
  case hc => exact fun j W h => ⟨h.b1.c, h.b2.c, HM.out.below h.bel (Nat.le_refl _)⟩
  case hN =>
    intro j hj W h ht
    obtain ⟨⟨v, k1, k2⟩, k3⟩ := h
    refine ⟨⟨v, k1, ?_⟩, by assumption, by assumption, by assumption, by assumption, by assumption⟩
    rw [List.take_succ_eq_append_getElem hj, fEach_miss _ _ _ ht]
    exact k2
  case hY =>
    intro j hj W hst ht
    have hal := (heap_lt hst.lp)
    have HQ := Lib.hid (show fEach (l.take (j + 1)) n = fEach (l.take j) n ++ [(l[j]).2.2.2] by rw [List.take_succ_eq_append_getElem hj, fEach_hit _ _ _ ht])
    have hlen : (fEach (l.take j) n).length ≤ 1099511627776 := Nat.le_trans (fEach_le _ _) (by rw [List.length_take]; omega)
    refine HY.out #[.int .i64 (j : Nat), pfV l[j]] W _ rfl hst.lp ?_
    generalize l[j] = x at *
    have S5 := Lib.hid ((hst.alloc (.cells #[.int .i64 x.1, .int .i64 x.2.1, .int .u64 (x.2.2.1 : Nat), .string x.2.2.2] 47)).put (r' := rec .busy none))
    have F5 : PfT 47 ((W.alloc (.cells #[.int .i64 x.1, .int .i64 x.2.1, .int .u64 (x.2.2.1 : Nat), .string x.2.2.2] 47)).putObj (w.heap.size + 1 + 1 + 1 + 1) (.loop (rec .busy none))) W.heap.size x := (World.putObj_heap_other (by omega)).trans (fd_alloc W x 47)
    have A1 := Lib.hid ((Below.heap_alloc W (.cells #[.int .i64 x.1, .int .i64 x.2.1, .int .u64 (x.2.2.1 : Nat), .string x.2.2.2] 47) _ hal).trans hst.lp)
    obtain ⟨x0, x1, x2, x3⟩ := x
    unfold pfV
    dsimp only at S5 F5 A1 HQ ⊢
    clear hst hal ht
    gi_wp2
    refine ⟨A1.out, ?_⟩
    obtain ⟨v, q1, q2⟩ := S5.out.row
    have q3 := S5.out.bel.size
    clear A1
    generalize ((W.alloc (.cells #[.int .i64 x0, .int .i64 x1, .int .u64 (x2 : Nat), .string x3] 47)).putObj (w.heap.size + 1 + 1 + 1 + 1) (.loop (rec .busy none))) = w5 at *
    generalize W.heap.size = F at *
    have g0 := F5.c0; have g1 := F5.c1; have g2 := F5.c2; have g3 := F5.c3
    have l0 := q1.c; have l1 := q1.f
    have Q1 := Lib.hid q1
    have Q2 := Lib.hid q2
    clear q1 q2 F5
    gi_wp2_with (gi_at_builtin; go_loud (refine wpListIn_append_str rfl (.tmp 15) (.tmp 18) rfl v w5 w.heap.size (fEach (l.take j) n) Q2.out q3 rfl x3 rfl hlen ?_; intro v' w6 hr' hg; rw [← HQ.out] at hr'; obtain ⟨ua, uc, hu, -⟩ := hr'.inn; subst hu; obtain ⟨z1, z2⟩ := S5.out.grown Q1.out Q2.out hr' hg; have Z2 := Lib.hid z2; have y0 := z1.c; have y1 := z1.f; clear z1 z2 hr' hg))
    exact ⟨_, _, HR.out.fin _ none Z2.out.lp, rfl, Z2.out.put⟩
  rintro e W2 ⟨⟨v, rfl⟩, hst⟩
  refine ⟨⟨v, rfl⟩, .inl ⟨hst.lp, ?_⟩⟩
  have S := Lib.hid (hst.put (r' := rec .exhausted none))
  obtain ⟨u, q1, q2⟩ := S.out.row
  rw [List.take_of_length_le (Nat.le_refl _)] at q2
  have l0 := q1.c
  have Z := Lib.hid (S.out.done q2)
  have Y := Lib.hid S.out.df
  clear hst q1 q2 S
  generalize W2.putObj (w.heap.size + 1 + 1 + 1 + 1) (.loop (rec .exhausted none)) = W3 at *
  dsimp only
  gi_wp2
  refine ⟨by simp, .inl ⟨_, _, rfl, run_takeDeferred Y.out, ?_⟩⟩
  exact ⟨_, results_tmp Tryd.results16 _ _ _, ⟨_, rfl, Z.out.1, Z.out.2⟩⟩
end Go.Proofs.YtipnaonagepolaaDoor
/- Package pmsg: Last: the last field of some tags. -/
namespace Go.Proofs.YtipnaonagepolaaDoor
open Go Go.RowKit
set_option linter.unusedVariables false
attribute [local go_sem] Oper.semAt_some

/-- Tags that are there. -/
def TgIn (w : World) (a : Option Addr) (T : List TG) : Prop :=
  ∀ j (h : j < T.length), ∃ b off, a = some ⟨b, off, none⟩ ∧ b < w.heap.size ∧ w.cell? ⟨b, off + j * 2, none⟩ = some (.int .i64 T[j].1) ∧ w.cell? ⟨b, off + j * 2 + 1, none⟩ = some (.int .i64 T[j].2)
theorem TgIn.below {w w' : World} {a : Option Addr} {T : List TG} {N : Nat} (h : TgIn w a T) (hb : Below N w w') (hN : w.heap.size ≤ N) : TgIn w' a T := fun j hj => by
  obtain ⟨b, off, e, hlt, h1, h2⟩ := h j hj
  exact ⟨b, off, e, Nat.lt_of_lt_of_le hlt hb.size, (hb.cell (p := ⟨b, off + j * 2, none⟩) (Nat.lt_of_lt_of_le hlt hN)).trans h1, (hb.cell (p := ⟨b, off + j * 2 + 1, none⟩) (Nat.lt_of_lt_of_le hlt hN)).trans h2⟩

/-- The mark that a range over a function leaves among the deferred calls. -/
def markV (r : Nat) : Deferred := { target := .collected r, args := #[] }
/-- A function leaves: each mark's block is shut. -/
theorem leaves_marks {F : Fence} {n : Nat} {P : Program} {fn : Func} {tmps : Array Value} {R : Ending → World → Prop} {Z : World → Prop}
    (hE : ∀ W, Z W → ∃ v, (results fn tmps).run P W = .ok v W ∧ R (.returned v) W) :
    ∀ (ds : List Nat) (W : World), ds.Nodup → (∀ r ∈ ds, W.heap[r]? = some (.deferred (some []))) → (∀ r ∈ ds, ∀ W, Z W → Z (W.putObj r (.deferred none))) → Z W →
      LeavesInM F n P fn tmps R (ds.map markV) .returning W
  | [], W, _, _, _, hz => hE W hz
  | r :: ds, W, hn, hm, hp, hz => by
    rw [List.nodup_cons] at hn
    refine ⟨by simp, .inl ⟨r, _, rfl, run_takeDeferred (hm r (by simp)), ?_⟩⟩
    refine leaves_marks hE ds _ hn.2 (fun k hk => ?_) (fun k hk => hp k (by simp [hk])) (hp r (by simp) _ hz)
    rw [World.putObj_heap_other (show k ≠ r from fun e => hn.1 (by rw [← e]; exact hk))]
    exact hm k (by simp [hk])

/-- The last one so far, and its place. -/
def LaSt (N : Nat) (l : List FD) (p : Nat → Bool) (W : World) : Prop := ∃ at_ x, PfT 47 W (N + 1) x ∧ Cel1 3 W (N + 1 + 1) (.int .i64 at_) ∧ LsAt l p at_ x
theorem LaSt.below {N : Nat} {l : List FD} {p : Nat → Bool} {W W' : World} (h : LaSt N l p W) (hb : Below W.heap.size W W') : LaSt N l p W' := by
  obtain ⟨a, x, h1, h2, h3⟩ := h
  exact ⟨a, x, h1.below hb h1.lt, h2.at (hb.block _ h2.lt), h3⟩
theorem LaSt.lt {N : Nat} {l : List FD} {p : Nat → Bool} {W : World} (h : LaSt N l p W) : N + 1 + 1 < W.heap.size := by
  obtain ⟨a, x, h1, h2, h3⟩ := h; exact h2.lt
/-- Last, between two tags. -/
structure LaO (w : World) (l : List FD) (T : List TG) (ds : List Nat) (j : Nat) (W : World) : Prop where
  res : PfT 47 W w.heap.size fZ
  st : ∀ u, LaSt w.heap.size l (pKn l (T.take j) u 0) W
  nd : ds.Nodup
  mks : ∀ r ∈ ds, W.heap[r]? = some (.deferred (some [])) ∧ w.heap.size + 1 + 1 < r
  bel : Below w.heap.size w W
theorem LaO.below {w : World} {l : List FD} {T : List TG} {ds : List Nat} {j : Nat} {W W' : World} (h : LaO w l T ds j W) (hb : Below W.heap.size W W') : LaO w l T ds j W' :=
  ⟨h.res.below hb h.res.lt, fun u => (h.st u).below hb, h.nd, fun r hr => ⟨(hb.block _ (heap_lt (h.mks r hr).1)).trans (h.mks r hr).1, (h.mks r hr).2⟩, h.bel.trans (hb.mono h.bel.size)⟩
/-- .. within the round of a tag: F is where the round began; o is the loop's record. -/
structure LaQ (w : World) (mp : Option Addr) (l : List FD) (T : List TG) (t : TG) (ds : List Nat) (F : Nat) (o : Obj) (j : Nat) (W : World) : Prop where
  res : PfT 47 W w.heap.size fZ
  st : LaSt w.heap.size l (pKn l T t j) W
  b1 : Cel1 23 W (F + 1) (.pointer mp)
  b2 : Cel1 78 W (F + 1 + 1) (hasV t)
  nd : ((F + 1 + 1 + 1) :: ds).Nodup
  mks : ∀ r ∈ (F + 1 + 1 + 1) :: ds, W.heap[r]? = some (.deferred (some [])) ∧ w.heap.size + 1 + 1 < r
  lp : W.heap[F + 1 + 1 + 1 + 1]? = some o
  far : w.heap.size + 1 + 1 < F
  bel : Below w.heap.size w W
abbrev LaS (w : World) (mp : Option Addr) (l : List FD) (T : List TG) (t : TG) (ds : List Nat) (F : Nat) (rec : LoopState → Option Code → Loop) (j : Nat) (W : World) : Prop := LaQ w mp l T t ds F (.loop (rec .ready none)) j W
theorem LaQ.below {w : World} {mp : Option Addr} {l : List FD} {T : List TG} {t : TG} {ds : List Nat} {F : Nat} {o : Obj} {j : Nat} {W W' : World} (h : LaQ w mp l T t ds F o j W) (hb : Below W.heap.size W W') : LaQ w mp l T t ds F o j W' :=
  ⟨h.res.below hb h.res.lt, h.st.below hb, h.b1.at (hb.block _ h.b1.lt), h.b2.at (hb.block _ h.b2.lt), h.nd, fun r hr => ⟨(hb.block _ (heap_lt (h.mks r hr).1)).trans (h.mks r hr).1, (h.mks r hr).2⟩, (hb.block _ (heap_lt h.lp)).trans h.lp, h.far, h.bel.trans (hb.mono h.bel.size)⟩
theorem LaQ.alloc {w : World} {mp : Option Addr} {l : List FD} {T : List TG} {t : TG} {ds : List Nat} {F : Nat} {o : Obj} {j : Nat} {W : World} (h : LaQ w mp l T t ds F o j W) (x : Obj) : LaQ w mp l T t ds F o j (W.alloc x) := h.below ((Below.refl _ _).alloc (Nat.le_refl _) x)
theorem LaQ.put {w : World} {mp : Option Addr} {l : List FD} {T : List TG} {t : TG} {ds : List Nat} {F : Nat} {r r' : Loop} {j : Nat} {W : World} (h : LaQ w mp l T t ds F (.loop r) j W) : LaQ w mp l T t ds F (.loop r') j (W.putObj (F + 1 + 1 + 1 + 1) (.loop r')) := by
  obtain ⟨k1, ⟨a, x, k2, k3, k4⟩, k5, k6, k7, k8, k9, k10, k11⟩ := h
  have e : ∀ k, k ≠ F + 1 + 1 + 1 + 1 → (W.putObj (F + 1 + 1 + 1 + 1) (.loop r')).heap[k]? = W.heap[k]? := fun k hk => World.putObj_heap_other hk
  refine ⟨(e _ (by omega)).trans k1, ⟨a, x, (e _ (by omega)).trans k2, k3.at (e _ (by omega)), k4⟩, k5.at (e _ (by omega)), k6.at (e _ (by omega)), k7, fun r hr => ⟨(e r (fun e2 => ?_)).trans (k8 r hr).1, (k8 r hr).2⟩, World.putObj_heap_same (heap_lt k9), k10, put_below k11 (by omega)⟩
  have := (k8 r hr).1
  rw [e2, k9] at this
  cases this
theorem set4_at {W : World} {b k : Nat} {x0 x1 x2 x3 : Value} (hk : k ≠ b) : ((((W.setCell ⟨b, 0, none⟩ x0).setCell ⟨b, 1, none⟩ x1).setCell ⟨b, 2, none⟩ x2).setCell ⟨b, 3, none⟩ x3).heap[k]? = W.heap[k]? :=
  (((Below.heap_setCell _ _ _ _ hk).trans (Below.heap_setCell _ _ _ _ hk)).trans (Below.heap_setCell _ _ _ _ hk)).trans (Below.heap_setCell _ _ _ _ hk)
/-- .. behind a field that stands behind the one that was the last. -/
theorem LaQ.more {w : World} {mp : Option Addr} {l : List FD} {T : List TG} {t : TG} {ds : List Nat} {F : Nat} {o : Obj} {j : Nat} {W : World} {y x : FD} {a : Int} (h : LaQ w mp l T t ds F o j W) (hp : PfT 47 W (w.heap.size + 1) y) (hc : Cel1 3 W (w.heap.size + 1 + 1) (.int .i64 a)) (hl : LsAt l (pKn l T t (j + 1)) (j : Nat) x) :
    LaQ w mp l T t ds F o (j + 1) (((((W.setCell ⟨w.heap.size + 1, 0, none⟩ (.int .i64 x.1)).setCell ⟨w.heap.size + 1, 1, none⟩ (.int .i64 x.2.1)).setCell ⟨w.heap.size + 1, 2, none⟩ (.int .u64 (x.2.2.1 : Nat))).setCell ⟨w.heap.size + 1, 3, none⟩ (.string x.2.2.2)).setCell ⟨w.heap.size + 1 + 1, 0, none⟩ (.int .i64 (j : Nat))) := by
  obtain ⟨k1, -, k5, k6, k7, k8, k9, k10, k11⟩ := h
  have hs := hp.setAll x
  have e : ∀ k, k ≠ w.heap.size + 1 → ((((W.setCell ⟨w.heap.size + 1, 0, none⟩ (.int .i64 x.1)).setCell ⟨w.heap.size + 1, 1, none⟩ (.int .i64 x.2.1)).setCell ⟨w.heap.size + 1, 2, none⟩ (.int .u64 (x.2.2.1 : Nat))).setCell ⟨w.heap.size + 1, 3, none⟩ (.string x.2.2.2)).heap[k]? = W.heap[k]? := fun k hk =>
    (((Below.heap_setCell _ _ _ _ hk).trans (Below.heap_setCell _ _ _ _ hk)).trans (Below.heap_setCell _ _ _ _ hk)).trans (Below.heap_setCell _ _ _ _ hk)
  have b : Below w.heap.size w ((((W.setCell ⟨w.heap.size + 1, 0, none⟩ (.int .i64 x.1)).setCell ⟨w.heap.size + 1, 1, none⟩ (.int .i64 x.2.1)).setCell ⟨w.heap.size + 1, 2, none⟩ (.int .u64 (x.2.2.1 : Nat))).setCell ⟨w.heap.size + 1, 3, none⟩ (.string x.2.2.2)) := set_keeps (set_keeps (set_keeps (set_keeps k11 (by omega)) (by omega)) (by omega)) (by omega)
  have c := hc.at (e (w.heap.size + 1 + 1) (by omega))
  generalize ((((W.setCell ⟨w.heap.size + 1, 0, none⟩ (.int .i64 x.1)).setCell ⟨w.heap.size + 1, 1, none⟩ (.int .i64 x.2.1)).setCell ⟨w.heap.size + 1, 2, none⟩ (.int .u64 (x.2.2.1 : Nat))).setCell ⟨w.heap.size + 1, 3, none⟩ (.string x.2.2.2)) = V at *
  have m : ∀ k, k ≠ w.heap.size + 1 + 1 → (V.setCell ⟨w.heap.size + 1 + 1, 0, none⟩ (.int .i64 (j : Nat))).heap[k]? = V.heap[k]? := fun k hk => set_at hk
  refine ⟨((m _ (by omega)).trans (e _ (by omega))).trans k1, ⟨_, x, (m _ (by omega)).trans hs, c.set _, hl⟩, k5.at ((m _ (by omega)).trans (e _ (by omega))), k6.at ((m _ (by omega)).trans (e _ (by omega))), k7, fun r hr => ⟨((m r (by have := (k8 r hr).2; omega)).trans (e r (by have := (k8 r hr).2; omega))).trans (k8 r hr).1, (k8 r hr).2⟩,
    ((m _ (by omega)).trans (e _ (by omega))).trans k9, k10, set_keeps b (by omega)⟩
theorem LaQ.same {w : World} {mp : Option Addr} {l : List FD} {T : List TG} {t : TG} {ds : List Nat} {F : Nat} {o : Obj} {j : Nat} {W : World} {x : FD} {a : Int} (h : LaQ w mp l T t ds F o j W) (hp : PfT 47 W (w.heap.size + 1) x) (hc : Cel1 3 W (w.heap.size + 1 + 1) (.int .i64 a)) (hl : LsAt l (pKn l T t (j + 1)) a x) :
    LaQ w mp l T t ds F o (j + 1) W := ⟨h.res, ⟨a, x, hp, hc, hl⟩, h.b1, h.b2, h.nd, h.mks, h.lp, h.far, h.bel⟩
/-- The round of a tag ends. -/
theorem LaQ.done {w : World} {mp : Option Addr} {l : List FD} {T : List TG} {i : Nat} (hi : i < T.length) {ds : List Nat} {F : Nat} {o : Obj} {W : World} (h : LaQ w mp l (T.take i) T[i] ds F o l.length W) : LaO w l T ((F + 1 + 1 + 1) :: ds) (i + 1) W := by
  obtain ⟨k1, ⟨a, x, k2, k3, k4⟩, k5, k6, k7, k8, k9, k10, k11⟩ := h
  refine ⟨k1, fun u => ⟨a, x, k2, k3, k4.alike fun k hk => ?_⟩, k7, k8, k11⟩
  rw [List.take_succ_eq_append_getElem hi]
  exact (pKn_all l _ _ u k hk).symm
/-- Last's results: a field in a variable of its own, and a bool. -/
theorem fb_result {P : Program} {T : TypeId} {d : TypeDesc} (hu : P.underlying T = some d) (hd : (match d with | .struct _ | .array _ _ => true | _ => false) = true) (hi : (P.info? T).map (·.size) = some 4)
    {fn : Func} {p q : Tmp} (h : fn.results = #[.cell p T, .tmp q]) {tmps : Array Value} {w : World} {g : Nat} {t : TypeId} {x : FD} (b : Value) (hg : PfT t w g x) (hp : tmps.getD p undef = .pointer (some ⟨g, 0, none⟩)) (hq : tmps.getD q undef = b) :
    (results fn tmps).run P w = .ok (.tuple #[pfV x, b]) w := by
  have h1 := run_loadVar_row (P := P) w g t T #[.int .i64 x.1, .int .i64 x.2.1, .int .u64 (x.2.2.1 : Nat), .string x.2.2.2] (0, 0) d hg hu hd hi
  have hp' : tmps[p]?.getD undef = .pointer (some ⟨g, 0, none⟩) := by simpa using hp
  have hq' : tmps[q]?.getD undef = b := by simpa using hq
  simp [results, h, hp', hq', asAddr, h1, pfV]

/-- Last's frame, between two tags. -/
def LaI (w : World) (mp ta : Option Addr) (tc : Nat) (l : List FD) (T : List TG) (a' : Act) (w' : World) : Prop := ∃ (u9 u10 u11 u15 u16 u17 u18 u19 u20 u21 u22 u23 u24 u25 u26 u27 u28 u29 : Value) (j : Nat) (ds : List Nat), a' = { tmps := #[.pointer mp, .slice ta T.length tc, undef, undef, .pointer (some ⟨w.heap.size, 0, none⟩), .bool false, .pointer (some ⟨w.heap.size + 1, 0, none⟩), .pointer (some ⟨w.heap.size + 1 + 1, 0, none⟩), undef, u9, u10, u11, .slice ta T.length tc, .int .i64 (T.length : Nat), .int .i64 (j : Nat), u15, u16, u17, u18, u19, u20, u21, u22, u23, u24, u25, u26, u27, u28, u29, undef, undef, undef], defers := ds.map markV } ∧ j ≤ T.length ∧ LaO w l T ds j w'
set_option maxRecDepth 100000 in
set_option maxHeartbeats 4000000 in
theorem pmlast_any (mp ta : Option Addr) (tc : Nat) (l : List FD) (T : List TG) (w : World) (h : MsgIn w mp l) (hl : l.length ≤ 1099511627776) (hT : T.length ≤ 1099511627776) (hin : TgIn w ta T) :
    Calls Tryd.prog 19 #[.pointer mp, .slice ta T.length tc] w fun e w' => e = .returned (.tuple #[pfV (fLast l (tKn T)), .bool (fIs l (tKn T))]) ∧ Below w.heap.size w w' := by
  have hmf : ∀ (fn : Fn) (first cap : Array Value) (w : World), (Instr.makeFunc fn first cap).run Tryd.prog w = .ok (.func fn first cap) w := fun _ _ _ _ => rfl
  obtain ⟨ad, cp, hM⟩ := h.at_
  have HM := Lib.hid hM
  have HI := Lib.hid hin
  clear h hM hin
  refine (callsIn_wide (n := 3)).1 ?_
  refine callsIn_of_wp_marks Tryd.func19 rfl trivial ?_ rfl
  simp only [Tryd.ntmps19, List.size_toArray, List.length_cons, List.length_nil, Nat.reduceAdd, Nat.reduceSub, Array.replicate_succ, Array.replicate_zero, List.push_toArray, List.append_toArray, List.nil_append, List.cons_append]
  gi_wp2_with fail
  refine wpIn_loop (LaI w mp ta tc l T) (fun a' _ => T.length - (intOf (a'.tmps.getD 14 undef)).toNat) ?_ ?_
  · refine ⟨_, _, _, _, _, _, _, _, _, _, _, _, _, _, _, _, _, _, 0, [], rfl, Nat.zero_le _, ?_⟩
    have h1 := fd_alloc w fZ 47
    have h2 := fd_alloc (w.alloc (.cells #[.int .i64 0, .int .i64 0, .int .u64 0, .string ⟨#[]⟩] 47)) fZ 47
    have h3 := cel_alloc 3 ((w.alloc (.cells #[.int .i64 0, .int .i64 0, .int .u64 0, .string ⟨#[]⟩] 47)).alloc (.cells #[.int .i64 0, .int .i64 0, .int .u64 0, .string ⟨#[]⟩] 47)) (.int .i64 (-1))
    rw [World.size_alloc] at h2
    rw [World.size_alloc, World.size_alloc] at h3
    refine ⟨(h1.alloc _).alloc _, fun u => ⟨-1, fZ, h2.alloc _, h3, (LsAt.first l).alike fun i hi => ?_⟩, List.nodup_nil, fun r hr => by simp at hr, (((Below.refl _ w).alloc (Nat.le_refl _) _).alloc (by simp) _).alloc (by simp; omega) _⟩
    unfold pKn tKn
    rw [List.getElem?_eq_getElem hi]
    simp
  · rintro a' wr ⟨u9, u10, u11, u15, u16, u17, u18, u19, u20, u21, u22, u23, u24, u25, u26, u27, u28, u29, j, ds, rfl, hj, hO⟩
    dsimp only
    by_cases hlt : j < T.length
    · have p1 : decide ((j : Int) < (T.length : Int)) = true := decide_eq_true (by omega)
      have p2 : (j : Int) < (T.length : Int) := by omega
      obtain ⟨g, off, hg1, hg2, k0, k1⟩ := HI.out.below hO.bel (Nat.le_refl _) j hlt
      obtain ⟨⟨tn, tv⟩, ht⟩ : ∃ t, t = T[j] := ⟨_, rfl⟩
      rw [← ht] at k0 k1
      dsimp only at k0 k1
      have HTJ := Lib.hid ht
      clear ht
      subst hg1
      have HT := Lib.hid (fun w => pmthose_any mp (tn, tv) w)
      unfold hasV tgV at HT
      dsimp only at HT
      have t0 := tg_alloc 51 wr tn tv
      have t1 := t0.c0; have t2 := t0.c1
      have HO := Lib.hid hO
      clear t0 hO
      gi_wp2_with (refine ⟨trivial, ?_⟩; gi_at_call 30; refine (callsIn_wide.2 (HT.out _)).mono ?_; rintro e w1 ⟨rfl, hw1⟩; rw [hw1]; clear hw1)
      obtain ⟨w0, hw0⟩ : ∃ w0, w0 = ((wr.alloc (.cells #[.int .i64 tn, .int .i64 tv] 51)).alloc (.cells #[.pointer mp] 23)).alloc (.cells #[hasV (tn, tv)] 78) := ⟨_, rfl⟩
      have hw0' := hw0
      unfold hasV tgV at hw0'
      dsimp only at hw0'
      rw [← hw0']
      clear hw0' t1 t2
      have e0 : w0.heap.size = wr.heap.size + 1 + 1 + 1 := by rw [hw0, World.size_alloc, World.size_alloc, World.size_alloc]
      have D3 : Cel1 23 w0 (wr.heap.size + 1) (.pointer mp) := by
        have := cel_alloc 23 (wr.alloc (.cells #[.int .i64 tn, .int .i64 tv] 51)) (.pointer mp)
        rw [World.size_alloc] at this
        rw [hw0]; exact this.at (Below.heap_alloc _ _ _ (by simp))
      have D4 : Cel1 78 w0 (wr.heap.size + 1 + 1) (hasV (tn, tv)) := by
        have := cel_alloc 78 ((wr.alloc (.cells #[.int .i64 tn, .int .i64 tv] 51)).alloc (.cells #[.pointer mp] 23)) (hasV (tn, tv))
        rw [World.size_alloc, World.size_alloc] at this
        rw [hw0]; exact this
      have B0 : Below wr.heap.size wr w0 := by
        rw [hw0]; exact (((Below.refl _ wr).alloc (Nat.le_refl _) _).alloc (by simp) _).alloc (by simp; omega) _
      clear hw0
      refine wide_rangeFunc (gf := 48) (lb := #[.pointer (some ⟨wr.heap.size + 1, 0, none⟩), .pointer (some ⟨wr.heap.size + 1 + 1, 0, none⟩)]) rfl (enters_of Tryd.func48 (by kernel_rfl) rfl) ?_
      intro rec hR hY
      have L1 := World.alloc_heap_new (w0.alloc (.deferred (some []))) (.loop (rec .ready none))
      have L2 := (Below.heap_alloc (w0.alloc (.deferred (some []))) (.loop (rec .ready none)) w0.heap.size (by simp)).trans (World.alloc_heap_new w0 (.deferred (some [])))
      have hB1 : Below w0.heap.size w0 ((w0.alloc (.deferred (some []))).alloc (.loop (rec .ready none))) := ((Below.refl _ w0).alloc (Nat.le_refl _) _).alloc (by simp) _
      rw [World.size_alloc] at L1
      generalize ((w0.alloc (.deferred (some []))).alloc (.loop (rec .ready none))) = W1 at *
      rw [e0] at hR hY L1 L2 hB1 ⊢
      have K3 := D3.at (hB1.block _ (by omega)); have K4 := D4.at (hB1.block _ (by omega))
      have hB1 := B0.trans (hB1.mono (by omega))
      have HR := Lib.hid hR
      have HY := Lib.hid hY
      clear D3 D4 hR hY B0
      refine (those_any l (tn, tv) mp ad cp (wr.heap.size + 1 + 1 + 1 + 1) (wr.heap.size + 1) (wr.heap.size + 1 + 1) 1 W1 hl (LaS w mp l (T.take j) (tn, tv) ds wr.heap.size rec) ?h1 ?hc ?hY ?hN ?h0).mono ?_
      case h0 =>
        have hO1 := HO.out.below hB1
        have hlt2 := (HO.out.st (tn, tv)).lt
        refine ⟨hO1.res, hO1.st (tn, tv), K3, K4, List.nodup_cons.2 ⟨fun hm => ?_, hO1.nd⟩, fun r hr => ?_, L1, hlt2, hO1.bel⟩
        · have := heap_lt (HO.out.mks _ hm).1
          omega
        · rcases List.mem_cons.1 hr with rfl | hr
          · exact ⟨L2, by omega⟩
          · exact hO1.mks r hr
      case h1 => exact fun j W1 W2 h hb => h.below hb
      case hc => exact fun j W h => ⟨h.b1.c, h.b2.c, HM.out.below h.bel (Nat.le_refl _)⟩
      case hN =>
        intro k hk W h hm
        obtain ⟨a, x, z1, z2, z3⟩ := h.st
        exact h.same z1 z2 (z3.alike fun i hi => pKn_miss hk hm i hi)
      case hY =>
        intro k hk W hst hm
        have hal := (heap_lt hst.lp)
        have hfar := hst.far
        have HS := Lib.hid (fun (p : Nat → Bool) (a : Int) (x : FD) (h : LsAt l p a x) (hlt : a < (k : Nat)) => h.more hk hlt)
        have HH := Lib.hid (fun i hi => pKn_hit (T := T.take j) hk hm i hi)
        refine HY.out #[.int .i64 (k : Nat), pfV l[k]] W _ rfl hst.lp ?_
        generalize l[k] = x at *
        have S5 := Lib.hid ((hst.alloc (.cells #[.int .i64 x.1, .int .i64 x.2.1, .int .u64 (x.2.2.1 : Nat), .string x.2.2.2] 47)).put (r' := rec .busy none))
        have F5 : PfT 47 ((W.alloc (.cells #[.int .i64 x.1, .int .i64 x.2.1, .int .u64 (x.2.2.1 : Nat), .string x.2.2.2] 47)).putObj (wr.heap.size + 1 + 1 + 1 + 1) (.loop (rec .busy none))) W.heap.size x := (World.putObj_heap_other (by omega)).trans (fd_alloc W x 47)
        have A1 := Lib.hid ((Below.heap_alloc W (.cells #[.int .i64 x.1, .int .i64 x.2.1, .int .u64 (x.2.2.1 : Nat), .string x.2.2.2] 47) _ hal).trans hst.lp)
        obtain ⟨x0, x1, x2, x3⟩ := x
        unfold pfV
        dsimp only at S5 F5 A1 ⊢
        clear hst hal hm
        gi_wp2
        refine ⟨A1.out, ?_⟩
        clear A1
        generalize ((W.alloc (.cells #[.int .i64 x0, .int .i64 x1, .int .u64 (x2 : Nat), .string x3] 47)).putObj (wr.heap.size + 1 + 1 + 1 + 1) (.loop (rec .busy none))) = w5 at *
        generalize W.heap.size = F at *
        obtain ⟨a, y, q1, q2, q3⟩ := S5.out.st
        have g0 := F5.c0; have g1 := F5.c1; have g2 := F5.c2; have g3 := F5.c3
        have l0 := q2.c
        clear F5
        by_cases ha : a < (k : Nat)
        · have pa : decide (a < (k : Int)) = true := decide_eq_true ha
          have m0 := q1.c0; have m1 := q1.c1; have m2 := q1.c2; have m3 := q1.c3; have m4 := q1.fr 0; have m5 := q1.fr 1; have m6 := q1.fr 2; have m7 := q1.fr 3
          have q5 : Cel1 3 ((((w5.setCell ⟨w.heap.size + 1, 0, none⟩ (.int .i64 x0)).setCell ⟨w.heap.size + 1, 1, none⟩ (.int .i64 x1)).setCell ⟨w.heap.size + 1, 2, none⟩ (.int .u64 (x2 : Nat))).setCell ⟨w.heap.size + 1, 3, none⟩ (.string x3)) (w.heap.size + 1 + 1) (.int .i64 a) := q2.at (set4_at (by omega))
          have n0 := q5.c; have n1 := q5.f
          have Z2 := Lib.hid (S5.out.more (x := (x0, x1, x2, x3)) q1 q2 ((HS.out _ _ _ q3 ha).alike fun i hi => HH.out i hi))
          clear ha q1 q2 q3 q5
          gi_wp2
          exact ⟨_, _, HR.out.fin _ none Z2.out.lp, rfl, Z2.out.put⟩
        · have pa : decide (a < (k : Int)) = false := decide_eq_false ha
          have Z2 := Lib.hid (S5.out.same q1 q2 ((q3.less ha).alike fun i hi => HH.out i hi))
          clear ha q1 q2 q3
          gi_wp2
          exact ⟨_, _, HR.out.fin _ none Z2.out.lp, rfl, Z2.out.put⟩
      rintro e W2 ⟨⟨v, rfl⟩, hst⟩
      refine ⟨⟨v, rfl⟩, .inl ⟨hst.lp, ?_⟩⟩
      have S := Lib.hid (hst.put (r' := rec .exhausted none))
      clear hst
      generalize W2.putObj (wr.heap.size + 1 + 1 + 1 + 1) (.loop (rec .exhausted none)) = W3 at *
      dsimp only
      have e1 : T.length - (j + 1) < T.length - j := by omega
      gi_wp2
      refine ⟨⟨_, _, _, _, _, _, _, _, _, _, _, _, _, _, _, _, _, _, j + 1, (wr.heap.size + 1 + 1 + 1) :: ds, rfl, by omega, ?_⟩, ?_⟩
      · have S2 := S.out
        rw [HTJ.out] at S2
        exact S2.done hlt
      · show T.length - (intOf (.int .i64 ((j : Int) + 1))).toNat < T.length - (intOf (.int .i64 (j : Int))).toNat
        simp [intOf]; omega
    · have p1 : decide ((j : Int) < (T.length : Int)) = false := decide_eq_false (by omega)
      have e : j = T.length := by omega
      subst e
      have HO := Lib.hid hO
      obtain ⟨at_, x, q1, q2, q3⟩ := hO.st (0, 0)
      clear hO
      have hmx : Tryd.prog.follows .mixedOrders = true := by kernel_rfl
      gi_wp2
      obtain ⟨n1, n2⟩ := q3.last (q := tKn T) (fun i hi => by unfold pKn; rw [List.getElem?_eq_getElem hi]; simp [List.take_of_length_le])
      have c0 := q1.c0; have c1 := q1.c1; have c2 := q1.c2; have c3 := q1.c3
      have d0 := q2.c
      have r0 := HO.out.res.c0; have r1 := HO.out.res.c1; have r2 := HO.out.res.c2; have r3 := HO.out.res.c3
      have s0 := HO.out.res.fr 0; have s1 := HO.out.res.fr 1; have s2 := HO.out.res.fr 2; have s3 := HO.out.res.fr 3
      have NN := Lib.hid (And.intro n1 n2)
      clear q1 q2 q3 n1 n2
      obtain ⟨x0, x1, x2, x3⟩ := x
      gi_region
      have RS := Lib.hid (show PfT 47 ((((wr.setCell ⟨w.heap.size, 0, none⟩ (.int .i64 x0)).setCell ⟨w.heap.size, 1, none⟩ (.int .i64 x1)).setCell ⟨w.heap.size, 2, none⟩ (.int .u64 (x2 : Nat))).setCell ⟨w.heap.size, 3, none⟩ (.string x3)).drew w.heap.size (x0, x1, x2, x3) from HO.out.res.setAll (x0, x1, x2, x3))
      have BE := Lib.hid (show Below w.heap.size w ((((wr.setCell ⟨w.heap.size, 0, none⟩ (.int .i64 x0)).setCell ⟨w.heap.size, 1, none⟩ (.int .i64 x1)).setCell ⟨w.heap.size, 2, none⟩ (.int .u64 (x2 : Nat))).setCell ⟨w.heap.size, 3, none⟩ (.string x3)).drew from (set_keeps (set_keeps (set_keeps (set_keeps HO.out.bel (Nat.le_refl _)) (Nat.le_refl _)) (Nat.le_refl _)) (Nat.le_refl _)).drew)
      have MK := Lib.hid (show ∀ r ∈ ds, ((((wr.setCell ⟨w.heap.size, 0, none⟩ (.int .i64 x0)).setCell ⟨w.heap.size, 1, none⟩ (.int .i64 x1)).setCell ⟨w.heap.size, 2, none⟩ (.int .u64 (x2 : Nat))).setCell ⟨w.heap.size, 3, none⟩ (.string x3)).drew.heap[r]? = some (.deferred (some [])) from fun r hr => (set4_at (by have := (HO.out.mks r hr).2; omega)).trans (HO.out.mks r hr).1)
      generalize ((((wr.setCell ⟨w.heap.size, 0, none⟩ (.int .i64 x0)).setCell ⟨w.heap.size, 1, none⟩ (.int .i64 x1)).setCell ⟨w.heap.size, 2, none⟩ (.int .u64 (x2 : Nat))).setCell ⟨w.heap.size, 3, none⟩ (.string x3)).drew = W4 at *
      gi_wp2
      refine leaves_marks (Z := fun W => PfT 47 W w.heap.size (x0, x1, x2, x3) ∧ Below w.heap.size w W) (fun W hz => ?_) ds W4 HO.out.nd MK.out (fun r hr W hz => ?_) ⟨RS.out, BE.out⟩
      · exact ⟨_, fb_result Tryd.underlying47 rfl (by kernel_rfl) Tryd.results19 _ hz.1 rfl rfl, by rw [← NN.out.1, ← NN.out.2]; rfl, hz.2⟩
      · have := (HO.out.mks r hr).2
        exact ⟨(World.putObj_heap_other (by omega)).trans hz.1, put_below hz.2 (by omega)⟩
end Go.Proofs.YtipnaonagepolaaDoor
