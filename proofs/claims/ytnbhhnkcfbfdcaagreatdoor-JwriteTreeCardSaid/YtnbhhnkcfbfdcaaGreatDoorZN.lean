/- Several texts in one (JrRa, JrA, JrB): each begins with its own words. -/
import Derived.Test.YtnbhhnkcfbfdcaaGreatDoorZL
import Derived.Test.YtnbhhnkcfbfdcaaGreatDoorZM
import Derived.Deep.RegionHeld3
import Derived.Deep.Cut
import Derived.Deep.CutRange
import Derived.Defers
import Derived.Recover
import Derived.WalkLawsBesides
import Derived.Deep.RegionLaw
/- The document's own trees (package truchmanref13): next, has. -/
namespace Go.Proofs.YtnbhhnkcfbfdcaaGreatDoor
open Go Go.RowKit
set_option linter.unusedVariables false

/-- The slice at a, that may be a part of one, holds the tokens l. -/
def TInO (w : World) (a : Option Addr) (l : List TK) : Prop :=
  ∀ j (h : j < l.length), ∃ b o, a = some ⟨b, o, none⟩ ∧ b < w.heap.size ∧ w.cell? ⟨b, o + j * 2, none⟩ = some (.int .u8 (l[j].1.toNat : Int)) ∧ w.cell? ⟨b, o + (j * 2 + 1), none⟩ = some (.string (bA l[j].2))
theorem TInO.below {w w' : World} {a : Option Addr} {l : List TK} {N : Nat} (h : TInO w a l) (hb : Below N w w') (hN : w.heap.size ≤ N) : TInO w' a l := fun j hj => by
  obtain ⟨b, o, e, hlt, h1, h2⟩ := h j hj
  exact ⟨b, o, e, Nat.lt_of_lt_of_le hlt hb.size, (hb.cell (p := ⟨b, o + j * 2, none⟩) (Nat.lt_of_lt_of_le hlt hN)).trans h1, (hb.cell (p := ⟨b, o + (j * 2 + 1), none⟩) (Nat.lt_of_lt_of_le hlt hN)).trans h2⟩
theorem TInO.nil (w : World) (a : Option Addr) : TInO w a [] := fun j h => by simp at h
theorem TInO.of {w : World} {a : Option Addr} {l : List TK} (h : TIn w a l) : TInO w a l := fun j hj => by
  obtain ⟨b, e, hlt, h1, h2⟩ := h j hj
  exact ⟨b, 0, e, hlt, by rw [Nat.zero_add]; exact h1, by rw [Nat.zero_add]; exact h2⟩
theorem TInO.tail {w : World} {b o : Nat} {x : TK} {l : List TK} (h : TInO w (some ⟨b, o, none⟩) (x :: l)) : TInO w (some ⟨b, o + 2, none⟩) l := fun j hj => by
  obtain ⟨b', o', e, hlt, h1, h2⟩ := h (j + 1) (by simpa using hj)
  simp only [Option.some.injEq, Addr.mk.injEq, and_true] at e
  obtain ⟨rfl, rfl⟩ := e
  refine ⟨b, o + 2, rfl, hlt, ?_, ?_⟩
  · have e : o + 2 + j * 2 = o + (j + 1) * 2 := by omega
    rw [e]; exact h1
  · have e : o + 2 + (j * 2 + 1) = o + ((j + 1) * 2 + 1) := by omega
    rw [e]; exact h2
/-- Block b is a state. -/
def StT (w : World) (b : Nat) (a : Option Addr) (n cap : Nat) (la : Int) : Prop := w.heap[b]? = some (.cells #[.slice a n cap, .int .i64 la] 51 (0, 0))
theorem StT.lt {w : World} {b : Nat} {a : Option Addr} {n cap : Nat} {la : Int} (h : StT w b a n cap la) : b < w.heap.size := lt_of_block h
theorem StT.c0 {w : World} {b : Nat} {a : Option Addr} {n cap : Nat} {la : Int} (h : StT w b a n cap la) : w.cell? ⟨b, 0, none⟩ = some (.slice a n cap) := by rw [cell_of_row w b 0 _ _ _ h]; rfl
theorem StT.c1 {w : World} {b : Nat} {a : Option Addr} {n cap : Nat} {la : Int} (h : StT w b a n cap la) : w.cell? ⟨b, 1, none⟩ = some (.int .i64 la) := by rw [cell_of_row w b 1 _ _ _ h]; rfl
theorem StT.fr {w : World} {b : Nat} {a : Option Addr} {n cap : Nat} {la : Int} (h : StT w b a n cap la) (o : Nat) : w.frozen? ⟨b, o, none⟩ = false := by unfold StT at h; simp [World.frozen?, h]
theorem StT.below {w w' : World} {b N : Nat} {a : Option Addr} {n cap : Nat} {la : Int} (h : StT w b a n cap la) (hb : Below N w w') (hN : b < N) : StT w' b a n cap la := (hb.block b hN).trans h
theorem st_alloc (w : World) (a : Option Addr) (n cap : Nat) (la : Int) : StT (w.alloc (.cells #[.slice a n cap, .int .i64 la] 51)) w.heap.size a n cap la := heap_alloc_new _ _
theorem StT.setAll {w : World} {b : Nat} {a : Option Addr} {n cap : Nat} {la : Int} (h : StT w b a n cap la) (a2 : Option Addr) (n2 cap2 : Nat) (la2 : Int) :
    StT ((w.setCell ⟨b, 0, none⟩ (.slice a2 n2 cap2)).setCell ⟨b, 1, none⟩ (.int .i64 la2)) b a2 n2 cap2 la2 := heap_setCell_block (heap_setCell_block h _) _
theorem set2_lt (w : World) (b : Nat) (u v : Value) : ∀ k, k ≠ b → ((w.setCell ⟨b, 0, none⟩ u).setCell ⟨b, 1, none⟩ v).heap[k]? = w.heap[k]? := fun k hk =>
  (RowKit.Below.heap_setCell _ _ _ _ hk).trans (RowKit.Below.heap_setCell _ _ _ _ hk)
theorem set2_below {w w1 : World} {N b : Nat} (h : Below N w w1) (hb : N ≤ b) (u v : Value) : Below N w ((w1.setCell ⟨b, 0, none⟩ u).setCell ⟨b, 1, none⟩ v) := (h.setCell hb _).setCell hb _
/-- Three results: a token, a state, a code. -/
theorem tsc_result {fn : Func} {p q r : Tmp} (h : fn.results = #[.cell p 78, .cell q 51, .tmp r]) {tmps : Array Value} {w : World} {g d : Nat} {x : TK} {a : Option Addr} {n cap : Nat} {la k : Int} (hg : TkT 78 w g x) (hd : StT w d a n cap la) (hp : tmps.getD p undef = .pointer (some ⟨g, 0, none⟩)) (hq : tmps.getD q undef = .pointer (some ⟨d, 0, none⟩)) (hr : tmps.getD r undef = .int .i64 k) :
    (results fn tmps).run Tryz.prog w = .ok (.tuple #[tkV x, .agg #[.slice a n cap, .int .i64 la], .int .i64 k]) w := by
  have h1 := run_loadVar_row (P := Tryz.prog) w d 51 51 #[.slice a n cap, .int .i64 la] (0, 0) _ hd Tryz.underlying51 rfl (by kernel_rfl)
  have h2 := run_loadVar_row (P := Tryz.prog) w g 78 78 #[.int .u8 (x.1.toNat : Int), .string (bA x.2)] (0, 0) _ hg Tryz.underlying78 rfl (by kernel_rfl)
  have hp' : tmps[p]?.getD undef = .pointer (some ⟨g, 0, none⟩) := by simpa using hp
  have hq' : tmps[q]?.getD undef = .pointer (some ⟨d, 0, none⟩) := by simpa using hq
  have hr' : tmps[r]?.getD undef = .int .i64 k := by simpa using hr
  simp [results, h, hp', hq', hr', asAddr, h1, h2, tkV]
/-- The blocks of next: the state that came in, the token and the state that it tells. -/
structure NxB (w wr : World) (a : Option Addr) (n cap : Nat) (la : Int) (x : TK) (a2 : Option Addr) (n2 cap2 : Nat) (la2 : Int) : Prop where
  s : StT wr w.heap.size a n cap la
  t : TkT 78 wr (w.heap.size + 1) x
  r : StT wr (w.heap.size + 2) a2 n2 cap2 la2
  b : Below w.heap.size w wr
theorem nxb_first (w : World) (a : Option Addr) (n cap : Nat) (la : Int) : NxB w (((w.alloc (.cells #[.slice a n cap, .int .i64 la] 51)).alloc (.cells #[.int .u8 0, .string ⟨#[]⟩] 78)).alloc (.cells #[.slice none 0 0, .int .i64 0] 51)) a n cap la (0, []) none 0 0 0 := by
  obtain ⟨w1, hw1⟩ : ∃ w1, w1 = w.alloc (.cells #[.slice a n cap, .int .i64 la] 51) := ⟨_, rfl⟩
  obtain ⟨w2, hw2⟩ : ∃ w2, w2 = w1.alloc (.cells #[.int .u8 0, .string ⟨#[]⟩] 78) := ⟨_, rfl⟩
  have z1 : w1.heap.size = w.heap.size + 1 := by rw [hw1]; simp
  have z2 : w2.heap.size = w.heap.size + 2 := by rw [hw2]; simp [z1]
  have s1 : StT w1 w.heap.size a n cap la := by rw [hw1]; exact st_alloc w a n cap la
  have l1 := alloc_below w (.cells #[.slice a n cap, .int .i64 la] 51)
  have l2 := alloc_below w1 (.cells #[.int .u8 0, .string ⟨#[]⟩] 78)
  have l3 := alloc_below w2 (.cells #[.slice none 0 0, .int .i64 0] 51)
  have t2 : TkT 78 w2 w1.heap.size (0, []) := by rw [hw2]; exact tk_alloc (w := w1) ((0, []) : TK) 78
  have r3 := st_alloc w2 none 0 0 0
  rw [← hw1] at l1
  rw [← hw2] at l2
  rw [z1] at t2
  rw [z2] at r3
  rw [← hw1, ← hw2]
  exact ⟨(s1.below l2 (by omega)).below l3 (by omega), t2.below l3 (by omega), r3, (l1.trans (l2.mono (by omega))).trans (l3.mono (by omega))⟩
theorem NxB.fin1 {w W : World} {a a1 : Option Addr} {n cap n1 cap1 : Nat} {la la1 : Int} {x0 : TK} (h : NxB w W a n cap la x0 a1 n1 cap1 la1) (x : TK) (A : Option Addr) (n2 cap2 : Nat) (la2 : Int) {w2 : World}
    (hw : w2 = ((((W.setCell ⟨w.heap.size + 1, 0, none⟩ (.int .u8 (x.1.toNat : Int))).setCell ⟨w.heap.size + 1, 1, none⟩ (.string (bA x.2))).setCell ⟨w.heap.size + 1 + 1, 0, none⟩ (.slice A n2 cap2)).setCell ⟨w.heap.size + 1 + 1, 1, none⟩ (.int .i64 la2)).drew) :
    TkT 78 w2 (w.heap.size + 1) x ∧ StT w2 (w.heap.size + 1 + 1) A n2 cap2 la2 ∧ Below w.heap.size w w2 := by
  subst hw
  have ht := h.t.setAll x
  have hr : StT ((W.setCell ⟨w.heap.size + 1, 0, none⟩ (.int .u8 (x.1.toNat : Int))).setCell ⟨w.heap.size + 1, 1, none⟩ (.string (bA x.2))) (w.heap.size + 1 + 1) a1 n1 cap1 la1 := (set2_lt W (w.heap.size + 1) _ _ _ (by omega)).trans h.r
  have hb := set2_below (b := w.heap.size + 1 + 1) (set2_below (b := w.heap.size + 1) h.b (Nat.le_succ _) (.int .u8 (x.1.toNat : Int)) (.string (bA x.2))) (by omega) (.slice A n2 cap2) (.int .i64 la2)
  exact ⟨(set2_lt _ (w.heap.size + 1 + 1) _ _ _ (by omega)).trans ht, hr.setAll A n2 cap2 la2, ⟨hb.os, hb.tape, hb.output, hb.size, hb.block⟩⟩
theorem NxB.fin2 {w W : World} {a a1 : Option Addr} {n cap n1 cap1 : Nat} {la la1 : Int} {x0 : TK} (h : NxB w W a n cap la x0 a1 n1 cap1 la1) (x : TK) (A : Option Addr) (n2 cap2 : Nat) (la2 : Int) {w2 : World}
    (hw : w2 = ((((W.setCell ⟨w.heap.size + 1 + 1, 0, none⟩ (.slice A n2 cap2)).setCell ⟨w.heap.size + 1 + 1, 1, none⟩ (.int .i64 la2)).setCell ⟨w.heap.size + 1, 0, none⟩ (.int .u8 (x.1.toNat : Int))).setCell ⟨w.heap.size + 1, 1, none⟩ (.string (bA x.2))).drew) :
    TkT 78 w2 (w.heap.size + 1) x ∧ StT w2 (w.heap.size + 1 + 1) A n2 cap2 la2 ∧ Below w.heap.size w w2 := by
  subst hw
  have hr := (show StT W (w.heap.size + 1 + 1) a1 n1 cap1 la1 from h.r).setAll A n2 cap2 la2
  have ht : TkT 78 ((W.setCell ⟨w.heap.size + 1 + 1, 0, none⟩ (.slice A n2 cap2)).setCell ⟨w.heap.size + 1 + 1, 1, none⟩ (.int .i64 la2)) (w.heap.size + 1) x0 := (set2_lt W (w.heap.size + 1 + 1) _ _ _ (by omega)).trans h.t
  have hb := set2_below (b := w.heap.size + 1) (set2_below (b := w.heap.size + 1 + 1) h.b (by omega) (.slice A n2 cap2) (.int .i64 la2)) (Nat.le_succ _) (.int .u8 (x.1.toNat : Int)) (.string (bA x.2))
  exact ⟨ht.setAll x, (set2_lt _ (w.heap.size + 1) _ _ _ (by omega)).trans hr, ⟨hb.os, hb.tape, hb.output, hb.size, hb.block⟩⟩
theorem tin_rest {w : World} {b o cap : Nat} {x : TK} {ts : List TK} {A : Option Addr} (hin : TInO w (some ⟨b, o, none⟩) (x :: ts)) (hc : ts.length + 1 ≤ cap) (hA : (if cap = 1 then some (Addr.mk b o none) else some (Addr.mk b (o + 2) none)) = A) : TInO w A ts := by
  subst hA
  by_cases h : cap = 1
  · have : ts = [] := List.eq_nil_of_length_eq_zero (by omega)
    subst this; exact TInO.nil _ _
  · rw [if_neg h]; exact hin.tail
set_option maxRecDepth 20000 in
set_option maxHeartbeats 4000000 in
theorem rn_some (a : Option Addr) (cap : Nat) (x : TK) (ts : List TK) (la : Int) (w : World) (hin : TInO w a (x :: ts)) (hcap : ts.length + 1 ≤ cap) (hl : ts.length ≤ 1099511627776) :
    Calls Tryz.prog 44 #[.agg #[.slice a (ts.length + 1) cap, .int .i64 la]] w fun e w' => ∃ A, e = .returned (.tuple #[tkV x, .agg #[.slice A ts.length (cap - 1), .int .i64 la], .int .i64 0]) ∧ (∀ wx, TInO wx a (x :: ts) → TInO wx A ts) ∧ Below w.heap.size w w' := by
  obtain ⟨b, o, rfl, hb, h0, h1⟩ := hin 0 (by simp)
  have h0' : w.cell? ⟨b, o, none⟩ = some (.int .u8 (x.1.toNat : Int)) := h0
  have h1' : w.cell? ⟨b, o + 1, none⟩ = some (.string (bA x.2)) := h1
  have N0 := nxb_first w (some ⟨b, o, none⟩) (ts.length + 1) cap la
  have HIN := Lib.hid hin
  obtain ⟨n, hn⟩ : ∃ n, n = ts.length + 1 := ⟨_, rfl⟩
  rw [← hn] at N0 ⊢
  have p1 : (0 : Int) < (n : Int) := by omega
  have p2 : (n : Int) ≤ (cap : Int) := by omega
  have p3 : (1 : Int) ≤ (n : Int) := by omega
  have p4 : 0 < n := by omega
  have p5 : 1 ≤ n := by omega
  have p6 : n ≤ cap := by omega
  have d1 : decide (0 < n) = true := decide_eq_true p4
  have H01 := Lib.hid (And.intro h0' h1')
  have HB := Lib.hid hb
  have HN := Lib.hid hn
  have HCP := Lib.hid hcap
  clear hin h0 h1 h0' h1' hb hn hcap
  go_enter Tryz.func44, Tryz.ntmps44
  go_upto_region 1 with fail
  generalize ((w.alloc (.cells #[.slice (some ⟨b, o, none⟩) n cap, .int .i64 la] 51)).alloc (.cells #[.int .u8 0, .string ⟨#[]⟩] 78)).alloc (.cells #[.slice none 0 0, .int .i64 0] 51) = W at *
  have a0 := N0.s.c0; have a1 := N0.s.c1
  have c0 := (N0.b.cell (p := ⟨b, o, none⟩) HB.out).trans H01.out.1
  have c1 := (N0.b.cell (p := ⟨b, o + 1, none⟩) HB.out).trans H01.out.2
  have t0 := N0.t.c0; have t1 := N0.t.c1; have tf := N0.t.fr
  have r0 := N0.r.c0; have r1 := N0.r.c1; have rf := N0.r.fr
  have hbN : b < w.heap.size := HB.out
  have n1 : ¬ w.heap.size + 1 = b := by omega
  have n2 : ¬ w.heap.size + 1 + 1 = b := by omega
  have m1 : ¬ w.heap.size + 1 = w.heap.size := by omega
  have m2 : ¬ w.heap.size + 1 + 1 = w.heap.size := by omega
  have m3 : ¬ w.heap.size + 1 + 1 = w.heap.size + 1 := by omega
  have m4 : ¬ w.heap.size + 1 = w.heap.size + 1 + 1 := by omega
  obtain ⟨A, hA⟩ : ∃ A, (if cap = 1 then some (Addr.mk b o none) else some (Addr.mk b (o + 2) none)) = A := ⟨_, rfl⟩
  have HA := Lib.hid hA
  have NN0 := Lib.hid N0
  clear N0
  go_wp2_with fail
  go_region_held3 (fun wx => wx.cell? ⟨w.heap.size, 0, none⟩ = some (.slice (some ⟨b, o, none⟩) n cap) ∧ wx.cell? ⟨w.heap.size, 1, none⟩ = some (.int .i64 la) ∧ wx.cell? ⟨b, o, none⟩ = some (.int .u8 (x.1.toNat : Int)) ∧ wx.cell? ⟨b, o + 1, none⟩ = some (.string (bA x.2))) (go_keep) (first | fail)
  all_goals go_wp2
  all_goals
    have HF := (by first | exact NN0.out.fin1 x A (n - 1) (cap - 1) la rfl | exact NN0.out.fin2 x A (n - 1) (cap - 1) la rfl)
    refine bodyPost_ret (tsc_result Tryz.results44 HF.1 HF.2.1 rfl rfl rfl) rfl ?_
    refine ⟨A, ?_, fun wx hx => tin_rest hx HCP.out HA.out, HF.2.2⟩
    rw [HN.out]; rfl
set_option maxRecDepth 20000 in
set_option maxHeartbeats 4000000 in
theorem rn_none (a : Option Addr) (cap : Nat) (la : Int) (w : World) :
    Calls Tryz.prog 44 #[.agg #[.slice a 0 cap, .int .i64 la]] w fun e w' => e = .returned (.tuple #[tkV (0, []), .agg #[.slice a 0 cap, .int .i64 la], .int .i64 (eE (some la))]) ∧ Below w.heap.size w w' := by
  have N0 := nxb_first w a 0 cap la
  go_enter Tryz.func44, Tryz.ntmps44
  go_upto_region 1 with fail
  generalize ((w.alloc (.cells #[.slice a 0 cap, .int .i64 la] 51)).alloc (.cells #[.int .u8 0, .string ⟨#[]⟩] 78)).alloc (.cells #[.slice none 0 0, .int .i64 0] 51) = W at *
  have a0 := N0.s.c0; have a1 := N0.s.c1
  have t0 := N0.t.c0; have t1 := N0.t.c1; have tf := N0.t.fr
  have r0 := N0.r.c0; have r1 := N0.r.c1; have rf := N0.r.fr
  have m1 : ¬ w.heap.size + 1 = w.heap.size := by omega
  have m2 : ¬ w.heap.size + 1 + 1 = w.heap.size := by omega
  have m3 : ¬ w.heap.size + 1 + 1 = w.heap.size + 1 := by omega
  have m4 : ¬ w.heap.size + 1 = w.heap.size + 1 + 1 := by omega
  have NN0 := Lib.hid N0
  clear N0
  by_cases h : la = 0
  · have q1 : (la == 0) = true := by rw [h]; rfl
    have HE := Lib.hid (show eE (some la) = 1 by rw [h]; rfl)
    clear h
    go_wp2_with fail
    go_region_held3 (fun wx => wx.cell? ⟨w.heap.size, 0, none⟩ = some (.slice a 0 cap) ∧ wx.cell? ⟨w.heap.size, 1, none⟩ = some (.int .i64 la)) (go_keep) (first | fail)
    all_goals go_wp2
    all_goals
      have HF := (by first | exact NN0.out.fin1 (0, []) a 0 cap la rfl | exact NN0.out.fin2 (0, []) a 0 cap la rfl)
      refine bodyPost_ret (tsc_result Tryz.results44 HF.1 HF.2.1 rfl rfl rfl) rfl ?_
      exact ⟨by rw [HE.out], HF.2.2⟩
  · have q1 : (la == 0) = false := beq_eq_false_iff_ne.mpr h
    have HE := Lib.hid (show eE (some la) = la by unfold eE; simp only [if_neg h])
    clear h
    go_wp2_with fail
    go_region_held3 (fun wx => wx.cell? ⟨w.heap.size, 0, none⟩ = some (.slice a 0 cap) ∧ wx.cell? ⟨w.heap.size, 1, none⟩ = some (.int .i64 la)) (go_keep) (first | fail)
    all_goals go_wp2
    all_goals
      have HF := (by first | exact NN0.out.fin1 (0, []) a 0 cap la rfl | exact NN0.out.fin2 (0, []) a 0 cap la rfl)
      refine bodyPost_ret (tsc_result Tryz.results44 HF.1 HF.2.1 rfl rfl rfl) rfl ?_
      exact ⟨by rw [HE.out], HF.2.2⟩
/-- Is a text among some? -/
def HsRel (w : World) (l : List ByteArray) (s : ByteArray) (i : Value) (wr : World) : Prop := ∃ j : Nat, j ≤ l.length ∧ i = .int .i64 (j : Nat) ∧ (s ∉ l.take j) ∧ wr = w
set_option maxRecDepth 20000 in
set_option maxHeartbeats 1000000 in
theorem rhas_any (a : Option Addr) (cap : Nat) (l : List ByteArray) (s : ByteArray) (w : World) (hl : l.length ≤ 1099511627776) (hin : SIn w a l) :
    Calls Tryz.prog 68 #[.slice a l.length cap, .string s] w fun e w' => ∃ r : Bool, e = .returned (.bool r) ∧ (r = true ↔ s ∈ l) ∧ w' = w := by
  have HIN := Lib.hid hin
  clear hin
  go_enter Tryz.func68, Tryz.ntmps68
  go_wp2_with fail
  go_loopw [5] (fun i wr => HsRel w l s i wr) (fun i _ => l.length - (intOf i).toNat)
  case atStart => exact ⟨0, Nat.zero_le _, rfl, by simp, rfl⟩
  case round =>
    obtain ⟨j, hj, rfl, hne, rfl⟩ := hrel
    by_cases hlt : j < l.length
    · have p1 : decide (j < l.length) = true := decide_eq_true hlt
      have p2 : (j : Int) < (l.length : Int) := by omega
      obtain ⟨b, off, rfl, hb, hc⟩ := HIN.out j hlt
      have HNE := Lib.hid hne
      have HL := Lib.hid hlt
      have HMEM := Lib.hid (List.getElem_mem hlt)
      have HTK := Lib.hid (show l.take (j + 1) = l.take j ++ [l[j]] from List.take_succ_eq_append_getElem hlt)
      clear hne
      generalize l[j] = y at *
      clear hlt
      by_cases e : y = s
      · have q1 : (y.toList == s.toList) = true := by rw [text_eq]; exact decide_eq_true e
        have HE := Lib.hid (show s ∈ l from e ▸ HMEM.out)
        clear e
        go_wp2
        go_ret
        exact ⟨true, rfl, ⟨fun _ => HE.out, fun _ => rfl⟩, rfl⟩
      · have q1 : (y.toList == s.toList) = false := by rw [text_eq]; exact decide_eq_false e
        have HE := Lib.hid e
        clear e
        go_wp2
        go_roundw
        case rel =>
          refine ⟨j + 1, HL.out, by go_num, ?_, rfl⟩
          rw [HTK.out]
          intro h
          rcases List.mem_append.mp h with h | h
          · exact HNE.out h
          · exact HE.out (List.mem_singleton.mp h).symm
        case measure => simp [intOf]; have := HL.out; omega
    · have p1 : decide (j < l.length) = false := decide_eq_false hlt
      have p2 : ¬ j < l.length := hlt
      have HE := Lib.hid (show s ∉ l from by
        rw [List.take_of_length_le (by omega)] at hne; exact hne)
      clear hne hlt
      go_wp2
      go_ret
      exact ⟨false, rfl, ⟨fun h => absurd h (by decide), fun h => absurd h HE.out⟩, rfl⟩
end Go.Proofs.YtnbhhnkcfbfdcaaGreatDoor
/- Package jtree: the next token, token, end, must. -/
namespace Go.Proofs.YtnbhhnkcfbfdcaaGreatDoor
open Go Go.RowKit
set_option linter.unusedVariables false

/-- Given up with a code. -/
def pan (k : Int) : Ending := .panicked [{ v := .iface 24 (.int .i64 k), recovered := false }]
theorem RdS.belowN {cb rb B N : Nat} {w w' : World} {v : Value} {L : List ND} {ts : List TK} {la : Option Int} (h : RdS w cb rb B v L ts la) (hb : Below N w w') (hv : ∀ g, v.ownBlock = some g → g < N) (hN : B ≤ N) : RdS w' cb rb B v L ts la where
  cur := by
    obtain ⟨c, h1, h2⟩ := h.cur
    exact ⟨c, (hb.block cb (Nat.lt_of_lt_of_le h.lc hN)).trans h1, h2⟩
  rd := (hb.block rb (Nat.lt_of_lt_of_le h.lr hN)).trans h.rd
  row := h.row.keep fun g hg => hb.block g (hv g hg)
  lc := h.lc
  lr := h.lr
  ne := h.ne
  hB := Nat.le_trans h.hB hb.size
  hd := h.hd.below hb (Nat.lt_of_lt_of_le h.hg.1 hN)
  hg := h.hg
theorem nx_some {cb rb B : Nat} {w : World} {v : Value} {L : List ND} {t : TK} {ts : List TK} {la : Option Int} (h : RdS w cb rb B v L (t :: ts) la) :
    Calls Tryz.prog 53 #[.pointer (some ⟨cb, 0, none⟩)] w fun e w' => e = .returned (tkV t) ∧ RdS w' cb rb B v L ts la ∧ Only cb w w' := by
  obtain ⟨c, hq, hok, h0, hs, hsf⟩ := h.cur
  have hres : c.tRes = tNx c.bs := by unfold CS.tRes; rw [if_pos h0]
  obtain ⟨⟨s1, s2, s3⟩, s4⟩ := hsf
  refine (tnext_any hq hok hs h.hd h.hg.2.1).mono ?_
  rintro e w' ⟨he, ⟨c', hq', hA⟩, ho⟩
  rw [hres] at he hA
  refine ⟨by rw [he, s2], h.step ho ⟨c', hq', hA.1, by rw [hA.2.2.2.1]; exact s1, by rw [hA.2.1]; exact hs, ?_⟩, ho⟩
  rw [hA.2.2.2.2 s1, CS.bs_past]; exact s4
theorem nx_none {cb rb B : Nat} {w : World} {v : Value} {L : List ND} {x : Int} (h : RdS w cb rb B v L [] (some x)) :
    Calls Tryz.prog 53 #[.pointer (some ⟨cb, 0, none⟩)] w fun e w' => ∃ (y : TK) (c' : CS), e = .returned (tkV y) ∧ y.1 = 0 ∧ CurT 89 w' cb c' ∧ c'.er = x ∧ w'.cell? ⟨rb, 0, none⟩ = some (.pointer (some ⟨cb, 0, none⟩)) ∧ Only cb w w' := by
  obtain ⟨c, hq, hok, h0, hs, hsf⟩ := h.cur
  have hres : c.tRes = tNx c.bs := by unfold CS.tRes; rw [if_pos h0]
  obtain ⟨s1, s2⟩ : (tNx c.bs).tok.1 = 0 ∧ some x = some (tNx c.bs).e := by
    rcases hsf with e | e
    · cases e
    · exact e
  refine (tnext_any hq hok hs h.hd h.hg.2.1).mono ?_
  rintro e w' ⟨he, ⟨c', hq', hA⟩, ho⟩
  rw [hres] at he hA
  have hrd := (ho.block rb (Nat.lt_of_lt_of_le h.lr h.hB) h.ne.symm).trans h.rd
  exact ⟨_, c', he, s1, hq', by rw [hA.2.2.2.1]; exact (Option.some.inj s2).symm, by rw [cell_of_row w' rb 0 _ _ _ hrd]; rfl, ho⟩
theorem RdS.tok {cb rb B : Nat} {w : World} {v : Value} {L : List ND} {t : TK} {ts : List TK} {la : Option Int} (h : RdS w cb rb B v L (t :: ts) la) : t.1 ≠ 0 := by
  obtain ⟨c, _, _, _, _, hsf⟩ := h.cur
  exact hsf.1.2.2
theorem only_tk {cb N : Nat} {w w1 : World} (h : Only cb w w1) (hN : w.heap.size = N) (y : TK) : Only cb w ((w1.setCell ⟨N, 0, none⟩ (.int .u8 (y.1.toNat : Int))).setCell ⟨N, 1, none⟩ (.string (bA y.2))) := by
  subst hN
  exact only_then h ((Only.setTk w1 w.heap.size y).below (Nat.le_refl _) h.size) (Nat.le_refl _)

set_option maxRecDepth 20000 in
set_option maxHeartbeats 1000000 in
theorem token_some {cb rb B : Nat} {w : World} {v : Value} {L : List ND} {t : TK} {ts : List TK} {la : Option Int} (h : RdS w cb rb B v L (t :: ts) la) :
    Calls Tryz.prog 31 #[.pointer (some ⟨rb, 0, none⟩)] w fun e w' => e = .returned (tkV t) ∧ RdS w' cb rb B v L ts la ∧ Only cb w w' := by
  have p1 : ((t.1.toNat : Int) == 0) = false := (eq8 t.1 0).trans (decide_eq_false h.tok)
  have HN := Lib.hid (fun w (h : RdS w cb rb B v L (t :: ts) la) => nx_some h)
  have hne : w.heap.size ≠ cb := by have := h.lc; have := h.hB; omega
  have HO := Lib.hid (show ∀ g, v.ownBlock = some g → g < w.heap.size from fun g hg => (h.row.own hg).2.1)
  have hBN := h.hB
  have s0 := h.alloc (.cells #[.int .u8 0, .string ⟨#[]⟩] 68)
  have r0 : TkT 68 (w.alloc (.cells #[.int .u8 0, .string ⟨#[]⟩] 68)) w.heap.size (0, []) := tk_alloc (w := w) ((0, []) : TK) 68
  have o0 := (Only.refl cb w).alloc (.cells #[.int .u8 0, .string ⟨#[]⟩] 68)
  have c0 := s0.c0
  clear h
  go_enter Tryz.func31, Tryz.ntmps31
  go_wp2_with fail
  generalize w.alloc (.cells #[.int .u8 0, .string ⟨#[]⟩] 68) = w0 at *
  with_reducible refine (HN.out _ s0).mono ?_
  rintro e w1 ⟨rfl, s1, ho1⟩
  have r1 := r0.only ho1 hne
  have o1 := o0.trans ho1
  have g2 := tk_laid (w := w1) t 68
  have s2 := s1.alloc (.cells #[.int .u8 (t.1.toNat : Int), .string (bA t.2)] 68)
  have r2 := r1.alloc (.cells #[.int .u8 (t.1.toNat : Int), .string (bA t.2)] 68)
  have o2 := o1.alloc (.cells #[.int .u8 (t.1.toNat : Int), .string (bA t.2)] 68)
  have hn2 : w1.heap.size ≠ w.heap.size := by have := r1.lt; omega
  clear s0 r0 o0 c0 s1 r1 o1 ho1
  unfold tkV
  generalize hw2 : w1.alloc (.cells #[.int .u8 (t.1.toNat : Int), .string (bA t.2)] 68) = w2 at *
  go_upto_region 2 with fail
  (try rw [hw2])
  clear hw2
  generalize w1.heap.size = G at *
  have a0 := g2.c0; have a1 := g2.c1
  have b0 := r2.c0; have b1 := r2.c1; have bf := r2.fr
  have HX := Lib.hid (r2.setAll t)
  have HS := Lib.hid (s2.belowN ((Only.setTk w2 w.heap.size t).below (Nat.le_refl _) o2.size) HO.out hBN)
  have HO2 := Lib.hid (only_tk o2 rfl t)
  clear s2 o2 g2 r2
  go_wp2
  refine bodyPost_ret (tok_result Tryz.results31 HX.out rfl) rfl ?_
  exact ⟨rfl, HS.out, HO2.out⟩
set_option maxRecDepth 20000 in
set_option maxHeartbeats 1000000 in
theorem token_none {cb rb B : Nat} {w : World} {v : Value} {L : List ND} {x : Int} (h : RdS w cb rb B v L [] (some x)) :
    Calls Tryz.prog 31 #[.pointer (some ⟨rb, 0, none⟩)] w fun e w' => e = pan (eE (some x)) ∧ Only cb w w' := by
  have HN := Lib.hid (fun w (h : RdS w cb rb B v L [] (some x)) => nx_none h)
  have hne : w.heap.size ≠ cb := by have := h.lc; have := h.hB; omega
  have hrl : rb < w.heap.size := Nat.lt_of_lt_of_le h.lr h.hB
  have hrne : rb ≠ cb := h.ne.symm
  have s0 := h.alloc (.cells #[.int .u8 0, .string ⟨#[]⟩] 68)
  have o0 := (Only.refl cb w).alloc (.cells #[.int .u8 0, .string ⟨#[]⟩] 68)
  have c0 := s0.c0
  clear h
  go_enter Tryz.func31, Tryz.ntmps31
  go_wp2_with fail
  generalize w.alloc (.cells #[.int .u8 0, .string ⟨#[]⟩] 68) = w0 at *
  with_reducible refine (HN.out _ s0).mono ?_
  rintro e w1 ⟨y, c1, rfl, hy, q1, he1, d1, ho1⟩
  have o1 := o0.trans ho1
  have g2 := tk_laid (w := w1) y 68
  have q2 := q1.allocOld (.cells #[.int .u8 (y.1.toNat : Int), .string (bA y.2)] 68)
  have o2 := o1.alloc (.cells #[.int .u8 (y.1.toNat : Int), .string (bA y.2)] 68)
  have d2 : (w1.alloc (.cells #[.int .u8 (y.1.toNat : Int), .string (bA y.2)] 68)).cell? ⟨rb, 0, none⟩ = some (.pointer (some ⟨cb, 0, none⟩)) := by
    rw [World.cell?_alloc_some _ _ _ (by rw [d1]; rfl)]; exact d1
  have p1 : ((y.1.toNat : Int) == 0) = true := by rw [hy]; rfl
  have hrl2 : rb < (w1.alloc (.cells #[.int .u8 (y.1.toNat : Int), .string (bA y.2)] 68)).heap.size := Nat.lt_of_lt_of_le hrl o2.size
  have HE := Lib.hid (show (c1.fail 1).er = eE (some x) by
    unfold eE
    by_cases h : x = 0
    · simp only [if_pos h]
      rw [CS.fail_good (by rw [he1]; exact h)]; rfl
    · simp only [if_neg h]
      rw [CS.fail_bad (by rw [he1]; exact h)]; exact he1)
  clear s0 o0 c0 o1 ho1 q1 d1 hy
  unfold tkV
  generalize hw2 : w1.alloc (.cells #[.int .u8 (y.1.toNat : Int), .string (bA y.2)] 68) = w2 at *
  go_upto_region 2 with fail
  (try rw [hw2])
  clear hw2
  generalize w1.heap.size = G at *
  have a0 := g2.c0
  have HF := Lib.hid (fail_any q2 1)
  have HD := Lib.hid d2
  clear g2 he1
  go_wp2_with fail
  with_reducible refine HF.out.mono ?_
  rintro e w3 ⟨rfl, q3, ho3⟩
  have o3 := o2.trans ho3
  have d3 : w3.cell? ⟨rb, 0, none⟩ = some (.pointer (some ⟨cb, 0, none⟩)) := (World.cell?_of_block (ho3.block rb hrl2 hrne)).trans HD.out
  have HR := Lib.hid (err_any q3)
  rw [HE.out] at HR
  clear a0 d2 q2 o2 ho3 q3
  go_wp2_with fail
  with_reducible refine HR.out.mono ?_
  rintro e w4 ⟨rfl, hw4⟩
  rw [hw4]
  clear hw4
  go_wp2
  exact ⟨rfl, rfl, o3⟩
theorem must_ok (x : TK) (k : UInt8) (w : World) (h : x.1 = k) :
    Calls Tryz.prog 74 #[tkV x, .int .u8 (k.toNat : Int)] w fun e w' => e = .returned (.tuple #[]) ∧ Below w.heap.size w w' := by
  have p1 : ((x.1.toNat : Int) != (k.toNat : Int)) = false := by rw [h]; simp
  have a0 := (tk_laid (w := w) x 68).c0
  have hb := alloc_below w (.cells #[.int .u8 (x.1.toNat : Int), .string (bA x.2)] 68)
  clear h
  unfold tkV
  go_enter Tryz.func74, Tryz.ntmps74
  go_wp2
  go_end0
  exact ⟨rfl, hb⟩
theorem must_no (x : TK) (k : UInt8) (w : World) (h : ¬ x.1 = k) :
    Calls Tryz.prog 74 #[tkV x, .int .u8 (k.toNat : Int)] w fun e w' => e = pan 3 ∧ Below w.heap.size w w' := by
  have p1 : ((x.1.toNat : Int) != (k.toNat : Int)) = true := by
    have := eq8 x.1 k
    rw [decide_eq_false h] at this
    simp only [bne, this, Bool.not_false]
  have a0 := (tk_laid (w := w) x 68).c0
  have hb := alloc_below w (.cells #[.int .u8 (x.1.toNat : Int), .string (bA x.2)] 68)
  clear h
  unfold tkV
  go_enter Tryz.func74, Tryz.ntmps74
  go_wp2
  exact ⟨rfl, rfl, hb⟩
end Go.Proofs.YtnbhhnkcfbfdcaaGreatDoor
/- Package jtree: value, over what list and object do. -/
namespace Go.Proofs.YtnbhhnkcfbfdcaaGreatDoor
open Go Go.RowKit
set_option linter.unusedVariables false

/-- What reading a part of a tree leaves: its nodes behind those that were there, or given up. -/
def VPost (M cb rb B : Nat) (L : List ND) (la : Option Int) (R : TRs) (w : World) (e : Ending) (w' : World) : Prop :=
  ((R.e = 0 ∧ e = .returned (.tuple #[]) ∧ ∃ v', RdS w' cb rb B v' (L ++ R.l) R.r la) ∨ (R.e ≠ 0 ∧ e = pan R.e)) ∧ Kp M cb rb B w w'
/-- Where it is not told what stands behind the tokens, that is not come to. -/
def Kn (la : Option Int) (R : TRs) : Prop := la = none → R.e ≠ -1
def pF (ob : Bool) : Nat := if ob then 52 else 51
def PartC (cb rb B f : Nat) : Prop := ∀ (ob : Bool) (w : World) (v : Value) (L : List ND) (d : Nat) (ts : List TK) (la : Option Int), RdS w cb rb B v L ts la → SgE ts → d ≤ 32 → 4 * ts.length + 1 ≤ f → L.length + ts.length ≤ 1099511627776 → Kn la (pTr (eE la) f ob d ts) →
  Calls Tryz.prog (pF ob) #[.pointer (some ⟨rb, 0, none⟩), .int .i64 (d : Nat)] w (VPost w.heap.size cb rb B L la (pTr (eE la) f ob d ts) w)
def ValC (cb rb B f : Nat) : Prop := ∀ (w : World) (v : Value) (L : List ND) (t : TK) (key : List UInt8) (d : Nat) (ts : List TK) (la : Option Int), RdS w cb rb B v L ts la → SgE (t :: ts) → d ≤ 32 → 4 * ts.length + 2 ≤ f → L.length + ts.length + 1 ≤ 1099511627776 → Kn la (vTr (eE la) f t key d ts) →
  Calls Tryz.prog 30 #[.pointer (some ⟨rb, 0, none⟩), tkV t, .string (bA key), .int .i64 (d : Nat)] w (VPost w.heap.size cb rb B L la (vTr (eE la) f t key d ts) w)

section
variable {cb rb B : Nat} {w w1 : World} {v : Value} {L : List ND} {ts : List TK} {la : Option Int}
theorem RdS.grown_cells (h : RdS w cb rb B v L ts la) (hg : w.grownBy w1 v.ownBlock) : w1.cell? ⟨rb, 1, none⟩ = some v ∧ w1.frozen? ⟨rb, 1, none⟩ = false := by
  have hrl := Nat.lt_of_lt_of_le h.lr h.hB
  have hrd := (hg.block rb hrl (fun e => by have := (h.row.own e.symm).1; have := h.lr; omega)).trans h.rd
  exact ⟨by rw [cell_of_row w1 rb 1 _ _ _ hrd]; rfl, by simp [World.frozen?, hrd]⟩
theorem RdS.grown_tok {b : Nat} {x : TK} (h : RdS w cb rb B v L ts la) (hg : w.grownBy w1 v.ownBlock) (ht : TkT 68 w b x) : TkT 68 w1 b x := by
  refine (hg.block b ht.lt (fun e => ?_)).trans ht
  obtain ⟨_, _, cur, h3⟩ := h.row.own e.symm
  unfold TkT at ht
  rw [ht] at h3
  simp only [Option.some.injEq, Obj.cells.injEq] at h3
  exact absurd h3.2.1 (by decide)
theorem TkT.setRd {b : Nat} {x : TK} (h : TkT 68 w b x) (hne : b ≠ rb) (o : Nat) (u : Value) : TkT 68 (w.setCell ⟨rb, o, none⟩ u) b x :=
  (RowKit.Below.heap_setCell _ _ _ _ hne).trans h
/-- A node's size, written. -/
theorem RdS.sized {k : UInt8} {key t : List UInt8} {a n m g cap : Nat} {R : List ND} (h : RdS w cb rb B (.slice (some ⟨g, 0, none⟩) n cap) (L ++ [(k, key, t, a)] ++ R) ts la) :
    RdS (w.setCell ⟨g, L.length * 4 + 3, none⟩ (.int .i64 (m : Nat))) cb rb B (.slice (some ⟨g, 0, none⟩) n cap) (L ++ (k, key, t, m) :: R) ts la ∧ ∀ M, M ≤ w.heap.size → Kp M cb rb B w (w.setCell ⟨g, L.length * 4 + 3, none⟩ (.int .i64 (m : Nat))) := by
  have hl : (L ++ [(k, key, t, a)] ++ R).length = (L ++ (k, key, t, m) :: R).length := by simp
  have hrow := h.row
  obtain ⟨a2, cap2, e2, _⟩ := hrow.inn
  simp only [Value.slice.injEq] at e2
  obtain ⟨e3, e4, e5⟩ := e2
  subst e4
  obtain ⟨o1, o2⟩ := World.ownsRow.stored hrow (L.length * 4 + 3) (.int .i64 (m : Nat))
  rw [ndCs_set] at o1
  have hgB := (hrow.own (g := g) rfl).1
  have hk : ∀ M, M ≤ w.heap.size → Kp M cb rb B w (w.setCell ⟨g, L.length * 4 + 3, none⟩ (.int .i64 (m : Nat))) := fun M hM => Kp.grown (v := .slice (some ⟨g, 0, none⟩) _ cap) o2 hrow hM
  refine ⟨?_, hk⟩
  have hblk : ∀ j, j < B → (w.setCell ⟨g, L.length * 4 + 3, none⟩ (.int .i64 (m : Nat))).heap[j]? = w.heap[j]? := fun j hj => RowKit.Below.heap_setCell _ _ _ _ (show j ≠ g by omega)
  refine ⟨?_, (hblk rb h.lr).trans h.rd, ?_, h.lc, h.lr, h.ne, ?_, ?_, h.hg⟩
  · obtain ⟨c, h1, h2⟩ := h.cur
    exact ⟨c, (hblk cb h.lc).trans h1, h2⟩
  · unfold NRow; rw [← hl]; exact o1
  · have := h.hB; simp; omega
  · exact fun k hk => (World.cell?_of_block (hblk _ h.hg.1)).trans (h.hd k hk)
end
theorem slice_form {e : TypeId} {w : World} {B : Nat} {v : Value} {l : List ND} (h : NRow e w B v l) (hl : 0 < l.length) : ∃ g cap, v = .slice (some ⟨g, 0, none⟩) l.length cap ∧ g < w.heap.size ∧ B ≤ g ∧ (∀ j, w.frozen? ⟨g, j, none⟩ = false) ∧ ∀ j, j < l.length * 4 → ∃ u, w.cell? ⟨g, j, none⟩ = some u := by
  obtain ⟨g, cap, rfl⟩ : ∃ g cap, v = .slice (some ⟨g, 0, none⟩) l.length cap := by
    rcases h.2 with ⟨_, hn⟩ | ⟨g, cap, cur, rfl, _⟩
    · omega
    · exact ⟨g, cap, rfl⟩
  refine ⟨g, cap, rfl, (h.own rfl).2.1, (h.own rfl).1, fun j => World.ownsRow.frozenAt h j, fun j hj => ?_⟩
  rw [World.ownsRow.cellAt h j (by omega)]
  exact ⟨_, List.getElem?_eq_getElem (by rw [ndCs_length]; exact hj)⟩
theorem vpost_ok {M cb rb B : Nat} {L : List ND} {la : Option Int} {R : TRs} {w w' : World} {v' : Value} {N : List ND} {r : List TK} (hR : R = ⟨N, r, 0⟩) (h : RdS w' cb rb B v' (L ++ N) r la) (hk : Kp M cb rb B w w') : VPost M cb rb B L la R w (.returned (.tuple #[])) w' := by
  subst hR; exact ⟨.inl ⟨rfl, rfl, v', h⟩, hk⟩
theorem vpost_no {M cb rb B : Nat} {L : List ND} {la : Option Int} {R : TRs} {w w' : World} {k : Int} (hR : R.e = k) (h0 : k ≠ 0) (hk : Kp M cb rb B w w') : VPost M cb rb B L la R w (pan k) w' := by
  subst hR; exact ⟨.inr ⟨h0, rfl⟩, hk⟩
/-- Behind the append of value: the node without its size. -/
def VMid (cb rb B T : Nat) (L : List ND) (t : TK) (key : List UInt8) (ts : List TK) (la : Option Int) (w wx : World) : Prop :=
  (∃ v1, RdS wx cb rb B v1 (L ++ [(t.1, key, t.2, 0)]) ts la) ∧ TkT 68 wx T t ∧ Kp T cb rb B w wx
set_option maxRecDepth 20000 in
set_option maxHeartbeats 4000000 in
theorem value_any {cb rb B f : Nat} (hp : PartC cb rb B f) : ValC cb rb B (f + 1) := by
  intro w v L t key d ts la h hs hd hf hL hk
  obtain ⟨a, cap, rfl, _⟩ := h.row.inn
  have g0 := tk_laid (w := w) t 68
  have s0 := h.alloc (.cells #[.int .u8 (t.1.toNat : Int), .string (bA t.2)] 68)
  have k0 : Kp w.heap.size cb rb B w (w.alloc (.cells #[.int .u8 (t.1.toNat : Int), .string (bA t.2)] 68)) := Kp.of_below (alloc_below _ _) (Nat.le_refl _)
  have hTr : w.heap.size ≠ rb := by have := h.lr; have := h.hB; omega
  have HK := Lib.hid hk
  have HS := Lib.hid hs
  have HF := Lib.hid hf
  have HLn := Lib.hid hL
  have hL2 : L.length ≤ 1099511627776 := by omega
  have c0 := s0.c0; have c1 := s0.c1; have cf := s0.fr
  have b0 := g0.c0; have b1 := g0.c1
  have hz0 : 0 ≤ (L.length : Int) := by omega
  clear h hk hs hf hL
  unfold tkV
  go_enter Tryz.func30, Tryz.ntmps30
  go_wp2_with fail
  generalize hT : w.heap.size = T at *
  generalize w.alloc (.cells #[.int .u8 (t.1.toNat : Int), .string (bA t.2)] 68) = w0 at *
  have S0 := Lib.hid s0
  have G0 := Lib.hid g0
  have K0 := Lib.hid k0
  clear s0 g0 k0
  go_cut [] from 14 (fun wx => VMid cb rb B T L t key ts la w wx)
  case first =>
    have x1 := (S0.out.alloc (.cells #[.int .u8 (t.1.toNat : Int), .string (bA key), .string (bA t.2), .int .i64 0] 90)).c1
    have y0 := (G0.out.alloc (.cells #[.int .u8 (t.1.toNat : Int), .string (bA key), .string (bA t.2), .int .i64 0] 90)).c0
    have y1 := (G0.out.alloc (.cells #[.int .u8 (t.1.toNat : Int), .string (bA key), .string (bA t.2), .int .i64 0] 90)).c1
    have SA := Lib.hid (S0.out.alloc (.cells #[.int .u8 (t.1.toNat : Int), .string (bA key), .string (bA t.2), .int .i64 0] 90)).drew
    have GA := Lib.hid (G0.out.alloc (.cells #[.int .u8 (t.1.toNat : Int), .string (bA key), .string (bA t.2), .int .i64 0] 90)).drew
    have HN := Lib.hid (heap_alloc_new w0 (.cells #[.int .u8 (t.1.toNat : Int), .string (bA key), .string (bA t.2), .int .i64 0] 90))
    have KA := Lib.hid (K0.out.trans (Kp.of_below (alloc_below w0 (.cells #[.int .u8 (t.1.toNat : Int), .string (bA key), .string (bA t.2), .int .i64 0] 90)) (by rw [← hT]; exact K0.out.size))).drew
    have hsz := Lib.hid (show T ≤ (w0.alloc (.cells #[.int .u8 (t.1.toNat : Int), .string (bA key), .string (bA t.2), .int .i64 0] 90)).drew.heap.size by rw [← hT]; exact KA.out.size)
    go_region_law (refine step_append_nd rfl (.tmp 18) (.tmp 25) 38 rfl 90 Tryz.underlying38 infoN _ B L SA.out.row SA.out.hB rfl _ (t.1, key, t.2, 0) HN.out rfl hL2 ?_; intro g1 cap1 w1 hr1 hg1 hlt1; obtain ⟨hd1, hd2⟩ := SA.out.grown_cells hg1; have HM := Lib.hid (SA.out.more hg1 hr1); have HG := Lib.hid ((SA.out.grown_tok hg1 GA.out).setRd hTr 1 (.slice (some ⟨g1, 0, none⟩) (L.length + 1) cap1)); have HKK := Lib.hid ((KA.out.trans (Kp.grown hg1 SA.out.row hsz.out)).trans (Kp.setRd (rb := rb) w1 1 (.slice (some ⟨g1, 0, none⟩) (L.length + 1) cap1))); clear hg1 hr1)
    all_goals go_wp2_with fail
    all_goals go_meet
    all_goals (case rel => exact (⟨⟨_, HM.out⟩, HG.out, HKK.out⟩ : VMid cb rb B T L t key ts la w _))
  case rest =>
    clear c0 c1 cf b0 b1 S0 G0 K0
    obtain ⟨⟨v1, s1⟩, g1, k1⟩ := hcut
    have b0 := g1.c0
    have S1 := Lib.hid s1
    have K1 := Lib.hid k1
    have hT1 := hT
    have hsz1 : T ≤ wc.heap.size := by rw [← hT]; exact k1.size
    clear s1 k1 g1
    by_cases hop : ∃ ob, t.1 = opn ob
    · obtain ⟨ob, hop⟩ := hop
      have HR := Lib.hid (vTr_open (E := eE la) (f := f) (key := key) (d := d) (ts := ts) hop)
      have HB := Lib.hid (show 1 ≤ f ∧ 4 * ts.length + 1 ≤ f from by have := HF.out; omega)
      have HC := Lib.hid (hp ob wc v1 (L ++ [(t.1, key, t.2, 0)]) d ts la S1.out HS.out.tail hd HB.out.2 (by rw [List.length_append, List.length_singleton]; have := HLn.out; omega) (fun e => by
        have := HK.out e
        rw [HR.out, wrap_e] at this
        exact this))
      have htk := Lib.hid (HS.out.sign hop (opn_sign ob))
      have HE := Lib.hid (eE_ne la)
      have HPL := Lib.hid (show (pTr (eE la) f ob d ts).e = 0 → (pTr (eE la) f ob d ts).l.length ≤ ts.length from fun e => by
        obtain ⟨tk, e1, w1⟩ := (tr_wf HE.out f).2.1 ob d ts HS.out.tail e
        have h1 := wf_len w1
        have h2 := congrArg List.length e1
        simp only [List.length_append, List.length_cons] at h2
        omega)
      generalize pTr (eE la) f ob d ts = R at *
      generalize vTr (eE la) (f + 1) t key d ts = V at *
      have HEND2 := Lib.hid (show ∀ (w3 : World) (n m g cap : Nat), RdS w3 cb rb B (.slice (some ⟨g, 0, none⟩) n cap) (L ++ [(t.1, key, t.2, 0)] ++ R.l) R.r la → Kp T cb rb B w w3 → R.e = 0 → n = L.length + m → m = 1 + R.l.length → VPost T cb rb B L la V w (.returned (.tuple #[])) ((w3.drew).setCell ⟨g, L.length * 4 + 3, none⟩ (.int .i64 (m : Nat))) from by
        intro w3 n m g cap s3 k3 e3 hn hm
        obtain ⟨q1, q2⟩ := RdS.sized (m := m) s3.drew
        refine vpost_ok (N := (t.1, key, t.2, m) :: R.l) (r := R.r) ?_ q1 (k3.drew.trans (q2 T (by rw [← hT]; exact k3.size)))
        rw [HR.out, wrap_good e3, ← hop, htk.out, hm, Nat.add_comm])
      have HBAD := Lib.hid (show ∀ w3, Kp T cb rb B w w3 → R.e ≠ 0 → VPost T cb rb B L la V w (pan R.e) w3 from fun w3 k3 e3 => vpost_no (by rw [HR.out, wrap_bad e3]) e3 k3)
      have HO := Lib.hid hop
      clear hop hp HR htk
      cases ob
      · have p1 : ((t.1.toNat : Int) == 91) = true := by rw [HO.out]; rfl
        have HC := Lib.hid (show Calls Tryz.prog 51 #[.pointer (some ⟨rb, 0, none⟩), .int .i64 (d : Nat)] wc (VPost wc.heap.size cb rb B (L ++ [(t.1, key, t.2, 0)]) la R wc) from HC.out)
        go_wp2_with fail
        with_reducible refine HC.out.mono ?_
        rintro e w3 ⟨⟨e3, rfl, v3, s3⟩ | ⟨e3, rfl⟩, k3⟩
        · have hK3 := Lib.hid (K1.out.trans (k3.mono hsz1))
          obtain ⟨g, cap3, rfl, hgl, hgB, hfr, hcs⟩ := slice_form s3.row (by simp; omega)
          obtain ⟨m, hm⟩ : ∃ m, m = 1 + R.l.length := ⟨_, rfl⟩
          obtain ⟨n, hn⟩ : ∃ n, n = L.length + m := ⟨_, rfl⟩
          have hlen : (L ++ [(t.1, key, t.2, 0)] ++ R.l).length = n := by rw [hn, hm]; simp; omega
          rw [hlen] at s3
          have hml := HPL.out e3
          have hLl := HLn.out
          obtain ⟨u, hu⟩ := hcs (L.length * 4 + 3) (by rw [hlen]; omega)
          have hf3 := hfr (L.length * 4 + 3)
          have c1 := s3.c1
          have hne : g ≠ rb := by have := s3.lr; omega
          have z1 : IntKind.i64.wrap ((n : Int) - (L.length : Int)) = (m : Int) := by rw [i64_small (by omega) (by omega)]; omega
          have i1 : (L.length : Int) < (n : Int) := by omega
          have i2 : (0 : Int) ≤ (L.length : Int) := by omega
          have HQ := Lib.hid (HEND2.out w3 n m g cap3 s3 hK3.out e3 hn hm)
          have c1s : (w3.setCell ⟨g, L.length * 4 + 3, none⟩ (.int .i64 (m : Nat))).drew.cell? ⟨rb, 1, none⟩ = some (.slice (some ⟨g, 0, none⟩) n cap3) := by
            show (w3.setCell ⟨g, L.length * 4 + 3, none⟩ (.int .i64 (m : Nat))).cell? ⟨rb, 1, none⟩ = _
            rw [World.cell?_setCell_far _ _ _ _ hne]; exact c1
          clear hcs hfr hml hLl hlen s3 k3 e3 hm hn hgB HEND2 hK3
          go_wp2_with fail
          go_region_held3 (fun wx => wx.cell? ⟨rb, 1, none⟩ = some (.slice (some ⟨g, 0, none⟩) n cap3)) (first | exact c1 | exact c1s) (first | fail)
          go_wp2
          go_end0
          exact HQ.out
        · unfold pan
          go_wp2
          refine ⟨rfl, ?_⟩
          exact HBAD.out _ (K1.out.trans (k3.mono hsz1)) e3
      · have p1 : ((t.1.toNat : Int) == 91) = false := by rw [HO.out]; rfl
        have p2 : ((t.1.toNat : Int) == 123) = true := by rw [HO.out]; rfl
        have HC := Lib.hid (show Calls Tryz.prog 52 #[.pointer (some ⟨rb, 0, none⟩), .int .i64 (d : Nat)] wc (VPost wc.heap.size cb rb B (L ++ [(t.1, key, t.2, 0)]) la R wc) from HC.out)
        go_wp2_with fail
        with_reducible refine HC.out.mono ?_
        rintro e w3 ⟨⟨e3, rfl, v3, s3⟩ | ⟨e3, rfl⟩, k3⟩
        · have hK3 := Lib.hid (K1.out.trans (k3.mono hsz1))
          obtain ⟨g, cap3, rfl, hgl, hgB, hfr, hcs⟩ := slice_form s3.row (by simp; omega)
          obtain ⟨m, hm⟩ : ∃ m, m = 1 + R.l.length := ⟨_, rfl⟩
          obtain ⟨n, hn⟩ : ∃ n, n = L.length + m := ⟨_, rfl⟩
          have hlen : (L ++ [(t.1, key, t.2, 0)] ++ R.l).length = n := by rw [hn, hm]; simp; omega
          rw [hlen] at s3
          have hml := HPL.out e3
          have hLl := HLn.out
          obtain ⟨u, hu⟩ := hcs (L.length * 4 + 3) (by rw [hlen]; omega)
          have hf3 := hfr (L.length * 4 + 3)
          have c1 := s3.c1
          have hne : g ≠ rb := by have := s3.lr; omega
          have z1 : IntKind.i64.wrap ((n : Int) - (L.length : Int)) = (m : Int) := by rw [i64_small (by omega) (by omega)]; omega
          have i1 : (L.length : Int) < (n : Int) := by omega
          have i2 : (0 : Int) ≤ (L.length : Int) := by omega
          have HQ := Lib.hid (HEND2.out w3 n m g cap3 s3 hK3.out e3 hn hm)
          have c1s : (w3.setCell ⟨g, L.length * 4 + 3, none⟩ (.int .i64 (m : Nat))).drew.cell? ⟨rb, 1, none⟩ = some (.slice (some ⟨g, 0, none⟩) n cap3) := by
            show (w3.setCell ⟨g, L.length * 4 + 3, none⟩ (.int .i64 (m : Nat))).cell? ⟨rb, 1, none⟩ = _
            rw [World.cell?_setCell_far _ _ _ _ hne]; exact c1
          clear hcs hfr hml hLl hlen s3 k3 e3 hm hn hgB HEND2 hK3
          go_wp2_with fail
          go_region_held3 (fun wx => wx.cell? ⟨rb, 1, none⟩ = some (.slice (some ⟨g, 0, none⟩) n cap3)) (first | exact c1 | exact c1s) (first | fail)
          go_wp2
          go_end0
          exact HQ.out
        · unfold pan
          go_wp2
          refine ⟨rfl, ?_⟩
          exact HBAD.out _ (K1.out.trans (k3.mono hsz1)) e3
    · have q1 : ((t.1.toNat : Int) == 91) = false := (eq8 t.1 91).trans (decide_eq_false (fun e => hop ⟨false, e⟩))
      have q2 : ((t.1.toNat : Int) == 123) = false := (eq8 t.1 123).trans (decide_eq_false (fun e => hop ⟨true, e⟩))
      by_cases hsg : tSign t.1 = true
      · have HR := Lib.hid (vTr_bad (E := eE la) (f := f) (key := key) (d := d) (ts := ts) hsg (fun ob e => hop ⟨ob, e⟩))
        have HE := Lib.hid (show VPost T cb rb B L la (vTr (eE la) (f + 1) t key d ts) w (pan 3) wc from vpost_no (by rw [HR.out]) (by decide) K1.out)
        have h4 : t.1 = 93 ∨ (t.1 ≠ 93 ∧ t.1 = 125) ∨ (t.1 ≠ 93 ∧ t.1 ≠ 125 ∧ t.1 = 58) ∨ (t.1 ≠ 93 ∧ t.1 ≠ 125 ∧ t.1 ≠ 58 ∧ t.1 = 44) := by
          rcases tSign_iff.mp hsg with e | e | e | e | e | e
          · exact absurd ⟨true, e⟩ hop
          · rw [e]; decide
          · exact absurd ⟨false, e⟩ hop
          · rw [e]; decide
          · rw [e]; decide
          · rw [e]; decide
        clear hp hop hsg
        generalize vTr (eE la) (f + 1) t key d ts = V at *
        rcases h4 with e | ⟨n1, e⟩ | ⟨n1, n2, e⟩ | ⟨n1, n2, n3, e⟩
        · have r1 : ((t.1.toNat : Int) == 93) = true := by rw [e]; rfl
          clear e HS HR
          go_wp2
          exact ⟨rfl, HE.out⟩
        · have r1 : ((t.1.toNat : Int) == 93) = false := (eq8 t.1 93).trans (decide_eq_false n1)
          have r2 : ((t.1.toNat : Int) == 125) = true := by rw [e]; rfl
          clear e n1 HS HR
          go_wp2
          exact ⟨rfl, HE.out⟩
        · have r1 : ((t.1.toNat : Int) == 93) = false := (eq8 t.1 93).trans (decide_eq_false n1)
          have r2 : ((t.1.toNat : Int) == 125) = false := (eq8 t.1 125).trans (decide_eq_false n2)
          have r3 : ((t.1.toNat : Int) == 58) = true := by rw [e]; rfl
          clear e n1 n2 HS HR
          go_wp2
          exact ⟨rfl, HE.out⟩
        · have r1 : ((t.1.toNat : Int) == 93) = false := (eq8 t.1 93).trans (decide_eq_false n1)
          have r2 : ((t.1.toNat : Int) == 125) = false := (eq8 t.1 125).trans (decide_eq_false n2)
          have r3 : ((t.1.toNat : Int) == 58) = false := (eq8 t.1 58).trans (decide_eq_false n3)
          have r4 : ((t.1.toNat : Int) == 44) = true := by rw [e]; rfl
          clear e n1 n2 n3 HS HR
          go_wp2
          exact ⟨rfl, HE.out⟩
      · have HR := Lib.hid (vTr_leaf (E := eE la) (f := f) (key := key) (d := d) (ts := ts) hsg)
        have nn : ∀ k : UInt8, tSign k = true → t.1 ≠ k := fun k hk e => hsg (by rw [e]; exact hk)
        have r1 : ((t.1.toNat : Int) == 93) = false := (eq8 t.1 93).trans (decide_eq_false (nn 93 rfl))
        have r2 : ((t.1.toNat : Int) == 125) = false := (eq8 t.1 125).trans (decide_eq_false (nn 125 rfl))
        have r3 : ((t.1.toNat : Int) == 58) = false := (eq8 t.1 58).trans (decide_eq_false (nn 58 rfl))
        have r4 : ((t.1.toNat : Int) == 44) = false := (eq8 t.1 44).trans (decide_eq_false (nn 44 rfl))
        have s3 := S1.out
        obtain ⟨g, cap3, rfl, hgl, hgB, hfr, hcs⟩ := slice_form s3.row (by simp)
        have HQ := Lib.hid (show VPost T cb rb B L la (vTr (eE la) (f + 1) t key d ts) w (.returned (.tuple #[])) ((wc.drew).setCell ⟨g, L.length * 4 + 3, none⟩ (.int .i64 (1 : Nat))) from by
          have s4 := s3.drew
          rw [← List.append_nil (L ++ [(t.1, key, t.2, 0)])] at s4
          obtain ⟨q1, q2⟩ := RdS.sized (m := 1) s4
          exact vpost_ok (N := [(t.1, key, t.2, 1)]) (r := ts) HR.out q1 (K1.out.drew.trans (q2 T hsz1)))
        generalize vTr (eE la) (f + 1) t key d ts = V at *
        obtain ⟨n, hn⟩ : ∃ n, n = L.length + 1 := ⟨_, rfl⟩
        have hlen : (L ++ [(t.1, key, t.2, 0)]).length = n := by rw [hn]; simp
        rw [hlen] at s3
        obtain ⟨u, hu⟩ := hcs (L.length * 4 + 3) (by rw [hlen]; omega)
        have hf3 := hfr (L.length * 4 + 3)
        have c1 := s3.c1
        have hne : g ≠ rb := by have := s3.lr; omega
        have z1 : IntKind.i64.wrap ((n : Int) - (L.length : Int)) = 1 := by rw [i64_small (by omega) (by omega)]; omega
        have i1 : (L.length : Int) < (n : Int) := by omega
        have i2 : (0 : Int) ≤ (L.length : Int) := by omega
        have c1s : (wc.setCell ⟨g, L.length * 4 + 3, none⟩ (.int .i64 1)).drew.cell? ⟨rb, 1, none⟩ = some (.slice (some ⟨g, 0, none⟩) n cap3) := by
          show (wc.setCell ⟨g, L.length * 4 + 3, none⟩ (.int .i64 1)).cell? ⟨rb, 1, none⟩ = _
          rw [World.cell?_setCell_far _ _ _ _ hne]; exact c1
        clear hcs hfr hlen s3 hn hgB S1 nn hop hsg hp HR
        go_wp2_with fail
        go_region_held3 (fun wx => wx.cell? ⟨rb, 1, none⟩ = some (.slice (some ⟨g, 0, none⟩) n cap3)) (first | exact c1 | exact c1s) (first | fail)
        go_wp2
        go_end0
        exact HQ.out
end Go.Proofs.YtnbhhnkcfbfdcaaGreatDoor
