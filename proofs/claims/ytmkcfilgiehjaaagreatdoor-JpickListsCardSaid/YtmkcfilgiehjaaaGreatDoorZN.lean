/- Several texts in one (JrRa, JpMem): each begins with its own words. -/
import Derived.Test.YtmkcfilgiehjaaaGreatDoorZK
import Derived.Test.YtmkcfilgiehjaaaGreatDoorZM
import Derived.Deep.RegionHeld3
import Derived.Deep.Cut
import Derived.Deep.CutRange
import Derived.Test.YtmkcfilgiehjaaaGreatDoorZF
/- The document's own trees (package truchmanref13): next, has. -/
namespace Go.Proofs.YtmkcfilgiehjaaaGreatDoor
open Go Go.RowKit
set_option linter.unusedVariables false

/-- The slice at a, that may be a part of one, holds the tokens l. -/
def TInO (w : World) (a : Option Addr) (l : List TK) : Prop :=
  ∀ j (h : j < l.length), ∃ b o, a = some ⟨b, o, none⟩ ∧ b < w.heap.size ∧ w.cell? ⟨b, o + j * 2, none⟩ = some (.int .u8 (l[j].1.toNat : Int)) ∧ w.cell? ⟨b, o + (j * 2 + 1), none⟩ = some (.string (bA l[j].2))
theorem TInO.below {w w' : World} {a : Option Addr} {l : List TK} {N : Nat} (h : TInO w a l) (hb : Below N w w') (hN : w.heap.size ≤ N) : TInO w' a l := fun j hj => by
  obtain ⟨b, o, e, hlt, h1, h2⟩ := h j hj
  exact ⟨b, o, e, Nat.lt_of_lt_of_le hlt hb.size, (hb.cell (p := ⟨b, o + j * 2, none⟩) (Nat.lt_of_lt_of_le hlt hN)).trans h1, (hb.cell (p := ⟨b, o + (j * 2 + 1), none⟩) (Nat.lt_of_lt_of_le hlt hN)).trans h2⟩
theorem TInO.nil (w : World) (a : Option Addr) : TInO w a [] := fun j h => by simp at h
theorem TInO.of {w : World} {a : Option Addr} {l : List TK} (h : TIn w a l) : TInO w a l := fun j hj => by
  obtain ⟨b, e, hlt, h1, h2⟩ := h j hj
  exact ⟨b, 0, e, hlt, by rw [Nat.zero_add]; exact h1, by rw [Nat.zero_add]; exact h2⟩
theorem TInO.tail {w : World} {b o : Nat} {x : TK} {l : List TK} (h : TInO w (some ⟨b, o, none⟩) (x :: l)) : TInO w (some ⟨b, o + 2, none⟩) l := fun j hj => by
  obtain ⟨b', o', e, hlt, h1, h2⟩ := h (j + 1) (by simpa using hj)
  simp only [Option.some.injEq, Addr.mk.injEq, and_true] at e
  obtain ⟨rfl, rfl⟩ := e
  refine ⟨b, o + 2, rfl, hlt, ?_, ?_⟩
  · have e : o + 2 + j * 2 = o + (j + 1) * 2 := by omega
    rw [e]; exact h1
  · have e : o + 2 + (j * 2 + 1) = o + ((j + 1) * 2 + 1) := by omega
    rw [e]; exact h2
/-- Block b is a state. -/
def StT (w : World) (b : Nat) (a : Option Addr) (n cap : Nat) (la : Int) : Prop := w.heap[b]? = some (.cells #[.slice a n cap, .int .i64 la] 58 (0, 0))
theorem StT.lt {w : World} {b : Nat} {a : Option Addr} {n cap : Nat} {la : Int} (h : StT w b a n cap la) : b < w.heap.size := lt_of_block h
theorem StT.c0 {w : World} {b : Nat} {a : Option Addr} {n cap : Nat} {la : Int} (h : StT w b a n cap la) : w.cell? ⟨b, 0, none⟩ = some (.slice a n cap) := by rw [cell_of_row w b 0 _ _ _ h]; rfl
theorem StT.c1 {w : World} {b : Nat} {a : Option Addr} {n cap : Nat} {la : Int} (h : StT w b a n cap la) : w.cell? ⟨b, 1, none⟩ = some (.int .i64 la) := by rw [cell_of_row w b 1 _ _ _ h]; rfl
theorem StT.fr {w : World} {b : Nat} {a : Option Addr} {n cap : Nat} {la : Int} (h : StT w b a n cap la) (o : Nat) : w.frozen? ⟨b, o, none⟩ = false := by unfold StT at h; simp [World.frozen?, h]
theorem StT.below {w w' : World} {b N : Nat} {a : Option Addr} {n cap : Nat} {la : Int} (h : StT w b a n cap la) (hb : Below N w w') (hN : b < N) : StT w' b a n cap la := (hb.block b hN).trans h
theorem st_alloc (w : World) (a : Option Addr) (n cap : Nat) (la : Int) : StT (w.alloc (.cells #[.slice a n cap, .int .i64 la] 58)) w.heap.size a n cap la := heap_alloc_new _ _
theorem StT.setAll {w : World} {b : Nat} {a : Option Addr} {n cap : Nat} {la : Int} (h : StT w b a n cap la) (a2 : Option Addr) (n2 cap2 : Nat) (la2 : Int) :
    StT ((w.setCell ⟨b, 0, none⟩ (.slice a2 n2 cap2)).setCell ⟨b, 1, none⟩ (.int .i64 la2)) b a2 n2 cap2 la2 := heap_setCell_block (heap_setCell_block h _) _
theorem set2_lt (w : World) (b : Nat) (u v : Value) : ∀ k, k ≠ b → ((w.setCell ⟨b, 0, none⟩ u).setCell ⟨b, 1, none⟩ v).heap[k]? = w.heap[k]? := fun k hk =>
  (RowKit.Below.heap_setCell _ _ _ _ hk).trans (RowKit.Below.heap_setCell _ _ _ _ hk)
theorem set2_below {w w1 : World} {N b : Nat} (h : Below N w w1) (hb : N ≤ b) (u v : Value) : Below N w ((w1.setCell ⟨b, 0, none⟩ u).setCell ⟨b, 1, none⟩ v) := (h.setCell hb _).setCell hb _
/-- Three results: a token, a state, a code. -/
theorem tsc_result {fn : Func} {p q r : Tmp} (h : fn.results = #[.cell p 85, .cell q 58, .tmp r]) {tmps : Array Value} {w : World} {g d : Nat} {x : TK} {a : Option Addr} {n cap : Nat} {la k : Int} (hg : TkT 85 w g x) (hd : StT w d a n cap la) (hp : tmps.getD p undef = .pointer (some ⟨g, 0, none⟩)) (hq : tmps.getD q undef = .pointer (some ⟨d, 0, none⟩)) (hr : tmps.getD r undef = .int .i64 k) :
    (results fn tmps).run Tryz.prog w = .ok (.tuple #[tkV x, .agg #[.slice a n cap, .int .i64 la], .int .i64 k]) w := by
  have h1 := run_loadVar_row (P := Tryz.prog) w d 58 58 #[.slice a n cap, .int .i64 la] (0, 0) _ hd Tryz.underlying58 rfl (by kernel_rfl)
  have h2 := run_loadVar_row (P := Tryz.prog) w g 85 85 #[.int .u8 (x.1.toNat : Int), .string (bA x.2)] (0, 0) _ hg Tryz.underlying85 rfl (by kernel_rfl)
  have hp' : tmps[p]?.getD undef = .pointer (some ⟨g, 0, none⟩) := by simpa using hp
  have hq' : tmps[q]?.getD undef = .pointer (some ⟨d, 0, none⟩) := by simpa using hq
  have hr' : tmps[r]?.getD undef = .int .i64 k := by simpa using hr
  simp [results, h, hp', hq', hr', asAddr, h1, h2, tkV]
/-- The blocks of next: the state that came in, the token and the state that it tells. -/
structure NxB (w wr : World) (a : Option Addr) (n cap : Nat) (la : Int) (x : TK) (a2 : Option Addr) (n2 cap2 : Nat) (la2 : Int) : Prop where
  s : StT wr w.heap.size a n cap la
  t : TkT 85 wr (w.heap.size + 1) x
  r : StT wr (w.heap.size + 2) a2 n2 cap2 la2
  b : Below w.heap.size w wr
theorem nxb_first (w : World) (a : Option Addr) (n cap : Nat) (la : Int) : NxB w (((w.alloc (.cells #[.slice a n cap, .int .i64 la] 58)).alloc (.cells #[.int .u8 0, .string ⟨#[]⟩] 85)).alloc (.cells #[.slice none 0 0, .int .i64 0] 58)) a n cap la (0, []) none 0 0 0 := by
  obtain ⟨w1, hw1⟩ : ∃ w1, w1 = w.alloc (.cells #[.slice a n cap, .int .i64 la] 58) := ⟨_, rfl⟩
  obtain ⟨w2, hw2⟩ : ∃ w2, w2 = w1.alloc (.cells #[.int .u8 0, .string ⟨#[]⟩] 85) := ⟨_, rfl⟩
  have z1 : w1.heap.size = w.heap.size + 1 := by rw [hw1]; simp
  have z2 : w2.heap.size = w.heap.size + 2 := by rw [hw2]; simp [z1]
  have s1 : StT w1 w.heap.size a n cap la := by rw [hw1]; exact st_alloc w a n cap la
  have l1 := alloc_below w (.cells #[.slice a n cap, .int .i64 la] 58)
  have l2 := alloc_below w1 (.cells #[.int .u8 0, .string ⟨#[]⟩] 85)
  have l3 := alloc_below w2 (.cells #[.slice none 0 0, .int .i64 0] 58)
  have t2 : TkT 85 w2 w1.heap.size (0, []) := by rw [hw2]; exact tk_alloc (w := w1) ((0, []) : TK) 85
  have r3 := st_alloc w2 none 0 0 0
  rw [← hw1] at l1
  rw [← hw2] at l2
  rw [z1] at t2
  rw [z2] at r3
  rw [← hw1, ← hw2]
  exact ⟨(s1.below l2 (by omega)).below l3 (by omega), t2.below l3 (by omega), r3, (l1.trans (l2.mono (by omega))).trans (l3.mono (by omega))⟩
theorem NxB.fin1 {w W : World} {a a1 : Option Addr} {n cap n1 cap1 : Nat} {la la1 : Int} {x0 : TK} (h : NxB w W a n cap la x0 a1 n1 cap1 la1) (x : TK) (A : Option Addr) (n2 cap2 : Nat) (la2 : Int) {w2 : World}
    (hw : w2 = ((((W.setCell ⟨w.heap.size + 1, 0, none⟩ (.int .u8 (x.1.toNat : Int))).setCell ⟨w.heap.size + 1, 1, none⟩ (.string (bA x.2))).setCell ⟨w.heap.size + 1 + 1, 0, none⟩ (.slice A n2 cap2)).setCell ⟨w.heap.size + 1 + 1, 1, none⟩ (.int .i64 la2)).drew) :
    TkT 85 w2 (w.heap.size + 1) x ∧ StT w2 (w.heap.size + 1 + 1) A n2 cap2 la2 ∧ Below w.heap.size w w2 := by
  subst hw
  have ht := h.t.setAll x
  have hr : StT ((W.setCell ⟨w.heap.size + 1, 0, none⟩ (.int .u8 (x.1.toNat : Int))).setCell ⟨w.heap.size + 1, 1, none⟩ (.string (bA x.2))) (w.heap.size + 1 + 1) a1 n1 cap1 la1 := (set2_lt W (w.heap.size + 1) _ _ _ (by omega)).trans h.r
  have hb := set2_below (b := w.heap.size + 1 + 1) (set2_below (b := w.heap.size + 1) h.b (Nat.le_succ _) (.int .u8 (x.1.toNat : Int)) (.string (bA x.2))) (by omega) (.slice A n2 cap2) (.int .i64 la2)
  exact ⟨(set2_lt _ (w.heap.size + 1 + 1) _ _ _ (by omega)).trans ht, hr.setAll A n2 cap2 la2, ⟨hb.os, hb.tape, hb.output, hb.size, hb.block⟩⟩
theorem NxB.fin2 {w W : World} {a a1 : Option Addr} {n cap n1 cap1 : Nat} {la la1 : Int} {x0 : TK} (h : NxB w W a n cap la x0 a1 n1 cap1 la1) (x : TK) (A : Option Addr) (n2 cap2 : Nat) (la2 : Int) {w2 : World}
    (hw : w2 = ((((W.setCell ⟨w.heap.size + 1 + 1, 0, none⟩ (.slice A n2 cap2)).setCell ⟨w.heap.size + 1 + 1, 1, none⟩ (.int .i64 la2)).setCell ⟨w.heap.size + 1, 0, none⟩ (.int .u8 (x.1.toNat : Int))).setCell ⟨w.heap.size + 1, 1, none⟩ (.string (bA x.2))).drew) :
    TkT 85 w2 (w.heap.size + 1) x ∧ StT w2 (w.heap.size + 1 + 1) A n2 cap2 la2 ∧ Below w.heap.size w w2 := by
  subst hw
  have hr := (show StT W (w.heap.size + 1 + 1) a1 n1 cap1 la1 from h.r).setAll A n2 cap2 la2
  have ht : TkT 85 ((W.setCell ⟨w.heap.size + 1 + 1, 0, none⟩ (.slice A n2 cap2)).setCell ⟨w.heap.size + 1 + 1, 1, none⟩ (.int .i64 la2)) (w.heap.size + 1) x0 := (set2_lt W (w.heap.size + 1 + 1) _ _ _ (by omega)).trans h.t
  have hb := set2_below (b := w.heap.size + 1) (set2_below (b := w.heap.size + 1 + 1) h.b (by omega) (.slice A n2 cap2) (.int .i64 la2)) (Nat.le_succ _) (.int .u8 (x.1.toNat : Int)) (.string (bA x.2))
  exact ⟨ht.setAll x, (set2_lt _ (w.heap.size + 1) _ _ _ (by omega)).trans hr, ⟨hb.os, hb.tape, hb.output, hb.size, hb.block⟩⟩
theorem tin_rest {w : World} {b o cap : Nat} {x : TK} {ts : List TK} {A : Option Addr} (hin : TInO w (some ⟨b, o, none⟩) (x :: ts)) (hc : ts.length + 1 ≤ cap) (hA : (if cap = 1 then some (Addr.mk b o none) else some (Addr.mk b (o + 2) none)) = A) : TInO w A ts := by
  subst hA
  by_cases h : cap = 1
  · have : ts = [] := List.eq_nil_of_length_eq_zero (by omega)
    subst this; exact TInO.nil _ _
  · rw [if_neg h]; exact hin.tail
set_option maxRecDepth 20000 in
set_option maxHeartbeats 4000000 in
theorem rn_some (a : Option Addr) (cap : Nat) (x : TK) (ts : List TK) (la : Int) (w : World) (hin : TInO w a (x :: ts)) (hcap : ts.length + 1 ≤ cap) (hl : ts.length ≤ 1099511627776) :
    Calls Tryz.prog 42 #[.agg #[.slice a (ts.length + 1) cap, .int .i64 la]] w fun e w' => ∃ A, e = .returned (.tuple #[tkV x, .agg #[.slice A ts.length (cap - 1), .int .i64 la], .int .i64 0]) ∧ (∀ wx, TInO wx a (x :: ts) → TInO wx A ts) ∧ Below w.heap.size w w' := by
  obtain ⟨b, o, rfl, hb, h0, h1⟩ := hin 0 (by simp)
  have h0' : w.cell? ⟨b, o, none⟩ = some (.int .u8 (x.1.toNat : Int)) := h0
  have h1' : w.cell? ⟨b, o + 1, none⟩ = some (.string (bA x.2)) := h1
  have N0 := nxb_first w (some ⟨b, o, none⟩) (ts.length + 1) cap la
  have HIN := Lib.hid hin
  obtain ⟨n, hn⟩ : ∃ n, n = ts.length + 1 := ⟨_, rfl⟩
  rw [← hn] at N0 ⊢
  have p1 : (0 : Int) < (n : Int) := by omega
  have p2 : (n : Int) ≤ (cap : Int) := by omega
  have p3 : (1 : Int) ≤ (n : Int) := by omega
  have p4 : 0 < n := by omega
  have p5 : 1 ≤ n := by omega
  have p6 : n ≤ cap := by omega
  have d1 : decide (0 < n) = true := decide_eq_true p4
  have H01 := Lib.hid (And.intro h0' h1')
  have HB := Lib.hid hb
  have HN := Lib.hid hn
  have HCP := Lib.hid hcap
  clear hin h0 h1 h0' h1' hb hn hcap
  go_enter Tryz.func42, Tryz.ntmps42
  go_upto_region 1 with fail
  generalize ((w.alloc (.cells #[.slice (some ⟨b, o, none⟩) n cap, .int .i64 la] 58)).alloc (.cells #[.int .u8 0, .string ⟨#[]⟩] 85)).alloc (.cells #[.slice none 0 0, .int .i64 0] 58) = W at *
  have a0 := N0.s.c0; have a1 := N0.s.c1
  have c0 := (N0.b.cell (p := ⟨b, o, none⟩) HB.out).trans H01.out.1
  have c1 := (N0.b.cell (p := ⟨b, o + 1, none⟩) HB.out).trans H01.out.2
  have t0 := N0.t.c0; have t1 := N0.t.c1; have tf := N0.t.fr
  have r0 := N0.r.c0; have r1 := N0.r.c1; have rf := N0.r.fr
  have hbN : b < w.heap.size := HB.out
  have n1 : ¬ w.heap.size + 1 = b := by omega
  have n2 : ¬ w.heap.size + 1 + 1 = b := by omega
  have m1 : ¬ w.heap.size + 1 = w.heap.size := by omega
  have m2 : ¬ w.heap.size + 1 + 1 = w.heap.size := by omega
  have m3 : ¬ w.heap.size + 1 + 1 = w.heap.size + 1 := by omega
  have m4 : ¬ w.heap.size + 1 = w.heap.size + 1 + 1 := by omega
  obtain ⟨A, hA⟩ : ∃ A, (if cap = 1 then some (Addr.mk b o none) else some (Addr.mk b (o + 2) none)) = A := ⟨_, rfl⟩
  have HA := Lib.hid hA
  have NN0 := Lib.hid N0
  clear N0
  go_wp2_with fail
  go_region_held3 (fun wx => wx.cell? ⟨w.heap.size, 0, none⟩ = some (.slice (some ⟨b, o, none⟩) n cap) ∧ wx.cell? ⟨w.heap.size, 1, none⟩ = some (.int .i64 la) ∧ wx.cell? ⟨b, o, none⟩ = some (.int .u8 (x.1.toNat : Int)) ∧ wx.cell? ⟨b, o + 1, none⟩ = some (.string (bA x.2))) (go_keep) (first | fail)
  all_goals go_wp2
  all_goals
    have HF := (by first | exact NN0.out.fin1 x A (n - 1) (cap - 1) la rfl | exact NN0.out.fin2 x A (n - 1) (cap - 1) la rfl)
    refine bodyPost_ret (tsc_result Tryz.results42 HF.1 HF.2.1 rfl rfl rfl) rfl ?_
    refine ⟨A, ?_, fun wx hx => tin_rest hx HCP.out HA.out, HF.2.2⟩
    rw [HN.out]; rfl
set_option maxRecDepth 20000 in
set_option maxHeartbeats 4000000 in
theorem rn_none (a : Option Addr) (cap : Nat) (la : Int) (w : World) :
    Calls Tryz.prog 42 #[.agg #[.slice a 0 cap, .int .i64 la]] w fun e w' => e = .returned (.tuple #[tkV (0, []), .agg #[.slice a 0 cap, .int .i64 la], .int .i64 (eE (some la))]) ∧ Below w.heap.size w w' := by
  have N0 := nxb_first w a 0 cap la
  go_enter Tryz.func42, Tryz.ntmps42
  go_upto_region 1 with fail
  generalize ((w.alloc (.cells #[.slice a 0 cap, .int .i64 la] 58)).alloc (.cells #[.int .u8 0, .string ⟨#[]⟩] 85)).alloc (.cells #[.slice none 0 0, .int .i64 0] 58) = W at *
  have a0 := N0.s.c0; have a1 := N0.s.c1
  have t0 := N0.t.c0; have t1 := N0.t.c1; have tf := N0.t.fr
  have r0 := N0.r.c0; have r1 := N0.r.c1; have rf := N0.r.fr
  have m1 : ¬ w.heap.size + 1 = w.heap.size := by omega
  have m2 : ¬ w.heap.size + 1 + 1 = w.heap.size := by omega
  have m3 : ¬ w.heap.size + 1 + 1 = w.heap.size + 1 := by omega
  have m4 : ¬ w.heap.size + 1 = w.heap.size + 1 + 1 := by omega
  have NN0 := Lib.hid N0
  clear N0
  by_cases h : la = 0
  · have q1 : (la == 0) = true := by rw [h]; rfl
    have HE := Lib.hid (show eE (some la) = 1 by rw [h]; rfl)
    clear h
    go_wp2_with fail
    go_region_held3 (fun wx => wx.cell? ⟨w.heap.size, 0, none⟩ = some (.slice a 0 cap) ∧ wx.cell? ⟨w.heap.size, 1, none⟩ = some (.int .i64 la)) (go_keep) (first | fail)
    all_goals go_wp2
    all_goals
      have HF := (by first | exact NN0.out.fin1 (0, []) a 0 cap la rfl | exact NN0.out.fin2 (0, []) a 0 cap la rfl)
      refine bodyPost_ret (tsc_result Tryz.results42 HF.1 HF.2.1 rfl rfl rfl) rfl ?_
      exact ⟨by rw [HE.out], HF.2.2⟩
  · have q1 : (la == 0) = false := beq_eq_false_iff_ne.mpr h
    have HE := Lib.hid (show eE (some la) = la by unfold eE; simp only [if_neg h])
    clear h
    go_wp2_with fail
    go_region_held3 (fun wx => wx.cell? ⟨w.heap.size, 0, none⟩ = some (.slice a 0 cap) ∧ wx.cell? ⟨w.heap.size, 1, none⟩ = some (.int .i64 la)) (go_keep) (first | fail)
    all_goals go_wp2
    all_goals
      have HF := (by first | exact NN0.out.fin1 (0, []) a 0 cap la rfl | exact NN0.out.fin2 (0, []) a 0 cap la rfl)
      refine bodyPost_ret (tsc_result Tryz.results42 HF.1 HF.2.1 rfl rfl rfl) rfl ?_
      exact ⟨by rw [HE.out], HF.2.2⟩
/-- Is a text among some? -/
def HsRel (w : World) (l : List ByteArray) (s : ByteArray) (i : Value) (wr : World) : Prop := ∃ j : Nat, j ≤ l.length ∧ i = .int .i64 (j : Nat) ∧ (s ∉ l.take j) ∧ wr = w
set_option maxRecDepth 20000 in
set_option maxHeartbeats 1000000 in
theorem rhas_any (a : Option Addr) (cap : Nat) (l : List ByteArray) (s : ByteArray) (w : World) (hl : l.length ≤ 1099511627776) (hin : SIn w a l) :
    Calls Tryz.prog 67 #[.slice a l.length cap, .string s] w fun e w' => ∃ r : Bool, e = .returned (.bool r) ∧ (r = true ↔ s ∈ l) ∧ w' = w := by
  have HIN := Lib.hid hin
  clear hin
  go_enter Tryz.func67, Tryz.ntmps67
  go_wp2_with fail
  go_loopw [5] (fun i wr => HsRel w l s i wr) (fun i _ => l.length - (intOf i).toNat)
  case atStart => exact ⟨0, Nat.zero_le _, rfl, by simp, rfl⟩
  case round =>
    obtain ⟨j, hj, rfl, hne, rfl⟩ := hrel
    by_cases hlt : j < l.length
    · have p1 : decide (j < l.length) = true := decide_eq_true hlt
      have p2 : (j : Int) < (l.length : Int) := by omega
      obtain ⟨b, off, rfl, hb, hc⟩ := HIN.out j hlt
      have HNE := Lib.hid hne
      have HL := Lib.hid hlt
      have HMEM := Lib.hid (List.getElem_mem hlt)
      have HTK := Lib.hid (show l.take (j + 1) = l.take j ++ [l[j]] from List.take_succ_eq_append_getElem hlt)
      clear hne
      generalize l[j] = y at *
      clear hlt
      by_cases e : y = s
      · have q1 : (y.toList == s.toList) = true := by rw [text_eq]; exact decide_eq_true e
        have HE := Lib.hid (show s ∈ l from e ▸ HMEM.out)
        clear e
        go_wp2
        go_ret
        exact ⟨true, rfl, ⟨fun _ => HE.out, fun _ => rfl⟩, rfl⟩
      · have q1 : (y.toList == s.toList) = false := by rw [text_eq]; exact decide_eq_false e
        have HE := Lib.hid e
        clear e
        go_wp2
        go_roundw
        case rel =>
          refine ⟨j + 1, HL.out, by go_num, ?_, rfl⟩
          rw [HTK.out]
          intro h
          rcases List.mem_append.mp h with h | h
          · exact HNE.out h
          · exact HE.out (List.mem_singleton.mp h).symm
        case measure => simp [intOf]; have := HL.out; omega
    · have p1 : decide (j < l.length) = false := decide_eq_false hlt
      have p2 : ¬ j < l.length := hlt
      have HE := Lib.hid (show s ∉ l from by
        rw [List.take_of_length_le (by omega)] at hne; exact hne)
      clear hne hlt
      go_wp2
      go_ret
      exact ⟨false, rfl, ⟨fun h => absurd h (by decide), fun h => absurd h HE.out⟩, rfl⟩
end Go.Proofs.YtmkcfilgiehjaaaGreatDoor
/- What is found, in memory (a struct of a value, a bool and a code); bytes looked for in a list (package slices). -/
namespace Go.Proofs.YtmkcfilgiehjaaaGreatDoor
open Go Go.RowKit
set_option linter.unusedVariables false

/-- Block g is what is found: a value, whether it is, and a code. -/
def FdT (t : TypeId) (w : World) (g : Nat) (v : Value) (b : Bool) (c : Int) : Prop := w.heap[g]? = some (.cells #[v, .bool b, .int .i64 c] t (0, 0))
section
variable {t : TypeId} {w w' W : World} {g : Nat} {v : Value} {b : Bool} {c : Int}
theorem FdT.new (w : World) (t : TypeId) (v : Value) (b : Bool) (c : Int) : FdT t (w.alloc (.cells #[v, .bool b, .int .i64 c] t (0, 0))) w.heap.size v b c := by
  show (w.heap.push _)[w.heap.size]? = _
  simp
theorem FdT.below (h : FdT t w g v b c) (hb : Below w.heap.size w w') : FdT t w' g v b c := (hb.block g (lt_of_block h)).trans h
theorem FdT.c0 (h : FdT t w g v b c) : w.cell? ⟨g, 0, none⟩ = some v := by rw [cell_of_row w g 0 _ _ _ h]; rfl
theorem FdT.c1 (h : FdT t w g v b c) : w.cell? ⟨g, 1, none⟩ = some (.bool b) := by rw [cell_of_row w g 1 _ _ _ h]; rfl
theorem FdT.c2 (h : FdT t w g v b c) : w.cell? ⟨g, 2, none⟩ = some (.int .i64 c) := by rw [cell_of_row w g 2 _ _ _ h]; rfl
theorem FdT.fr (h : FdT t w g v b c) (o : Nat) : w.frozen? ⟨g, o, none⟩ = false := by unfold FdT at h; simp [World.frozen?, h]
theorem FdT.setAll (h : FdT t w g v b c) (v' : Value) (b' : Bool) (c' : Int) : FdT t (((w.setCell ⟨g, 0, none⟩ v').setCell ⟨g, 1, none⟩ (.bool b')).setCell ⟨g, 2, none⟩ (.int .i64 c')) g v' b' c' :=
  heap_setCell_block (heap_setCell_block (heap_setCell_block h _) _) _
theorem set3_below {N : Nat} (h : Below N W w) (hg : N ≤ g) (x y z : Value) : Below N W (((w.setCell ⟨g, 0, none⟩ x).setCell ⟨g, 1, none⟩ y).setCell ⟨g, 2, none⟩ z) := ((h.setCell hg _).setCell hg _).setCell hg _
theorem set3_lt (w : World) (g : Nat) (x y z : Value) : ∀ k, k ≠ g → (((w.setCell ⟨g, 0, none⟩ x).setCell ⟨g, 1, none⟩ y).setCell ⟨g, 2, none⟩ z).heap[k]? = w.heap[k]? := fun k hk =>
  (RowKit.Below.heap_setCell _ _ _ _ hk).trans ((RowKit.Below.heap_setCell _ _ _ _ hk).trans (RowKit.Below.heap_setCell _ _ _ _ hk))
end
theorem fd_resultS {fn : Func} {p : Tmp} (h : fn.results = #[.cell p 35]) {tmps : Array Value} {w : World} {g : Nat} {v : Value} {b : Bool} {c : Int} (hg : FdT 35 w g v b c) (hp : tmps.getD p undef = .pointer (some ⟨g, 0, none⟩)) :
    (results fn tmps).run Tryz.prog w = .ok (.agg #[v, .bool b, .int .i64 c]) w := by
  have hq := run_loadVar_row (P := Tryz.prog) w g 35 35 #[v, .bool b, .int .i64 c] (0, 0) _ hg Tryz.underlying35 rfl (by kernel_rfl)
  have hp' : tmps[p]?.getD undef = .pointer (some ⟨g, 0, none⟩) := by simpa using hp
  simp [results, h, hp', asAddr, hq]
theorem fd_resultI {fn : Func} {p : Tmp} (h : fn.results = #[.cell p 38]) {tmps : Array Value} {w : World} {g : Nat} {v : Value} {b : Bool} {c : Int} (hg : FdT 38 w g v b c) (hp : tmps.getD p undef = .pointer (some ⟨g, 0, none⟩)) :
    (results fn tmps).run Tryz.prog w = .ok (.agg #[v, .bool b, .int .i64 c]) w := by
  have hq := run_loadVar_row (P := Tryz.prog) w g 38 38 #[v, .bool b, .int .i64 c] (0, 0) _ hg Tryz.underlying38 rfl (by kernel_rfl)
  have hp' : tmps[p]?.getD undef = .pointer (some ⟨g, 0, none⟩) := by simpa using hp
  simp [results, h, hp', asAddr, hq]
theorem fd_resultB {fn : Func} {p : Tmp} (h : fn.results = #[.cell p 41]) {tmps : Array Value} {w : World} {g : Nat} {v : Value} {b : Bool} {c : Int} (hg : FdT 41 w g v b c) (hp : tmps.getD p undef = .pointer (some ⟨g, 0, none⟩)) :
    (results fn tmps).run Tryz.prog w = .ok (.agg #[v, .bool b, .int .i64 c]) w := by
  have hq := run_loadVar_row (P := Tryz.prog) w g 41 41 #[v, .bool b, .int .i64 c] (0, 0) _ hg Tryz.underlying41 rfl (by kernel_rfl)
  have hp' : tmps[p]?.getD undef = .pointer (some ⟨g, 0, none⟩) := by simpa using hp
  simp [results, h, hp', asAddr, hq]
theorem fd_resultL {fn : Func} {p : Tmp} (h : fn.results = #[.cell p 51]) {tmps : Array Value} {w : World} {g : Nat} {v : Value} {b : Bool} {c : Int} (hg : FdT 51 w g v b c) (hp : tmps.getD p undef = .pointer (some ⟨g, 0, none⟩)) :
    (results fn tmps).run Tryz.prog w = .ok (.agg #[v, .bool b, .int .i64 c]) w := by
  have hq := run_loadVar_row (P := Tryz.prog) w g 51 51 #[v, .bool b, .int .i64 c] (0, 0) _ hg Tryz.underlying51 rfl (by kernel_rfl)
  have hp' : tmps[p]?.getD undef = .pointer (some ⟨g, 0, none⟩) := by simpa using hp
  simp [results, h, hp', asAddr, hq]
def IxRel (W : World) (y : UInt8) (l : List UInt8) (i : Value) (wr : World) : Prop := ∃ j : Nat, j ≤ l.length ∧ i = .int .i64 (j : Nat) ∧ ¬ y ∈ l.take j ∧ wr = W
set_option maxRecDepth 20000 in
set_option maxHeartbeats 1000000 in
theorem sindex_any (y : UInt8) (a : Option Addr) (cap : Nat) (l : List UInt8) (w : World) (hl : l.length ≤ 1000) (hin : BIn w a l) :
    Calls Tryz.prog 68 #[.slice a l.length cap, .int .u8 (y.toNat : Int)] w fun e w' => ∃ r : Int, e = .returned (.int .i64 r) ∧ decide (0 ≤ r) = l.contains y ∧ w' = w := by
  have HIN := Lib.hid hin
  have hl1 : (l.length : Int) ≤ 1000 := by omega
  clear hin
  go_enter Tryz.func68, Tryz.ntmps68
  go_wp2_with fail
  go_loopw [8] (fun i wr => IxRel w y l i wr) (fun i _ => l.length - (intOf i).toNat)
  case atStart => exact ⟨0, Nat.zero_le _, rfl, by simp, rfl⟩
  case round =>
    obtain ⟨j, hj, rfl, hn, rfl⟩ := hrel
    by_cases hlt : j < l.length
    · have p1 : decide (j < l.length) = true := decide_eq_true hlt
      have p2 : (j : Int) < (l.length : Int) := by omega
      have hj1 : (j : Int) ≤ 1000 := by omega
      obtain ⟨g, off, rfl, hg, hc⟩ := HIN.out j hlt
      have HQ := Lib.hid (show l.take (j + 1) = l.take j ++ [l[j]] from List.take_succ_eq_append_getElem hlt)
      have HM := Lib.hid (show l[j] ∈ l from List.getElem_mem hlt)
      have HN := Lib.hid hn
      have HL := Lib.hid hlt
      clear hn
      generalize l[j] = z at *
      clear hlt
      by_cases he : y = z
      · have d1 : ((y.toNat : Int) == (z.toNat : Int)) = true := by rw [he]; simp
        have HR := Lib.hid (show l.contains y = true from by rw [he]; simpa using HM.out)
        clear he
        go_wp2
        go_ret
        exact ⟨(j : Nat), rfl, by rw [HR.out]; exact decide_eq_true (by omega), rfl⟩
      · have d1 : ((y.toNat : Int) == (z.toNat : Int)) = false := beq_eq_false_iff_ne.mpr (fun e => he (UInt8.toNat_inj.mp (by omega)))
        have HE := Lib.hid he
        clear he
        go_wp2
        go_roundw
        case rel =>
          refine ⟨j + 1, HL.out, by go_num, ?_, rfl⟩
          rw [HQ.out]
          intro h
          rcases List.mem_append.mp h with h | h
          · exact HN.out h
          · exact HE.out (List.mem_singleton.mp h)
        case measure => have := HL.out; simp [intOf]; omega
    · have p1 : decide (j < l.length) = false := decide_eq_false hlt
      have p2 : ¬ j < l.length := hlt
      have HR := Lib.hid (show l.contains y = false from by
        rw [List.take_of_length_le (by omega)] at hn
        simpa using hn)
      clear hlt hn
      go_wp2
      go_ret
      exact ⟨-1, rfl, by rw [HR.out]; rfl, rfl⟩
theorem scont_any (y : UInt8) (a : Option Addr) (cap : Nat) (l : List UInt8) (v : Bool) (w : World) (hl : l.length ≤ 1000) (hin : BIn w a l) (hv : l.contains y = v) :
    Calls Tryz.prog 46 #[.slice a l.length cap, .int .u8 (y.toNat : Int)] w fun e w' => e = .returned (.bool v) ∧ w' = w := by
  have HI := Lib.hid (sindex_any y a cap l w hl hin)
  have HV := Lib.hid hv
  clear hin hv
  go_enter Tryz.func46, Tryz.ntmps46
  go_wp2_with fail
  refine HI.out.mono ?_
  rintro e w1 ⟨r, rfl, hr, rfl⟩
  rw [HV.out] at hr
  go_wp2
  go_ret
  exact ⟨rfl, rfl⟩
end Go.Proofs.YtmkcfilgiehjaaaGreatDoor
