/- Several texts in one (JrRb, JrRc, JrRd): each begins with its own words. -/
import Derived.Test.YtnbhhnkcfbfdcaaGreatDoorZN
/- The document's own trees (package truchmanref13): within, value over inner. -/
namespace Go.Proofs.YtnbhhnkcfbfdcaaGreatDoor
open Go Go.RowKit
set_option linter.unusedVariables false

theorem nrow_one {w : World} {e : TypeId} {g : Nat} {x : ND} (h : w.heap[g]? = some (.cells (ndC x).toArray e (0, 0))) : NRow e w g (.slice (some ⟨g, 0, none⟩) 1 1) [x] :=
  ⟨rfl, .inr ⟨g, 1, (ndC x).toArray, rfl, Nat.le_refl _, h, Nat.le_refl _, by unfold maxLen; decide, rfl, rfl⟩⟩
set_option maxRecDepth 20000 in
set_option maxHeartbeats 1000000 in
theorem within_any (k : UInt8) (key : List UInt8) (nv : Value) (C : Nat) (m : List ND) (w : World) (hm : NRow 28 w C nv m) (hl : m.length ≤ 1099511627775) :
    Calls Tryz.prog 46 #[.int .u8 (k.toNat : Int), .string (bA key), nv] w fun e w' => ∃ v, e = .returned v ∧ NRow 28 w' w.heap.size v ((k, key, [], m.length + 1) :: m) ∧ Below w.heap.size w w' := by
  obtain ⟨a, c, rfl, _⟩ := hm.inn
  have zw : IntKind.i64.wrap ((m.length : Int) + 1) = ((m.length + 1 : Nat) : Int) := by rw [i64_small (by omega) (by omega)]; rfl
  have h1 := heap_alloc_new w (.cells (ndC (k, key, [], m.length + 1)).toArray 28)
  have b1 := alloc_below w (.cells (ndC (k, key, [], m.length + 1)).toArray 28)
  have R1 := Lib.hid (nrow_one h1)
  have M1 := Lib.hid (hm.below b1 (Nat.le_refl _))
  have B1 := Lib.hid b1
  have hlz : [(k, key, ([] : List UInt8), m.length + 1)].length + m.length ≤ 1099511627776 := by simp; omega
  clear hm h1 b1
  go_enter Tryz.func46, Tryz.ntmps46
  go_wp2_with (at_builtin; go_loud (refine wpList_append_nds rfl (.tmp 13) (.tmp 14) 23 rfl 28 Tryz.underlying23 infoM _ w.heap.size [(k, key, [], m.length + 1)] R1.out B1.out.size rfl _ C m M1.out rfl hlz ?_; intro v2 w2 hv2 hb2; have HQ := Lib.hid (And.intro hv2 hb2); clear hv2 hb2))
  go_ret
  exact ⟨_, rfl, HQ.out.1, B1.out.trans HQ.out.2⟩
/-- Three results: nodes, a state, a code. -/
theorem vsc_result {fn : Func} {p q r : Tmp} (h : fn.results = #[.tmp p, .cell q 51, .tmp r]) {tmps : Array Value} {w : World} {d : Nat} {nv : Value} {a : Option Addr} {n cap : Nat} {la k : Int} (hd : StT w d a n cap la) (hp : tmps.getD p undef = nv) (hq : tmps.getD q undef = .pointer (some ⟨d, 0, none⟩)) (hr : tmps.getD r undef = .int .i64 k) :
    (results fn tmps).run Tryz.prog w = .ok (.tuple #[nv, .agg #[.slice a n cap, .int .i64 la], .int .i64 k]) w := by
  have h1 := run_loadVar_row (P := Tryz.prog) w d 51 51 #[.slice a n cap, .int .i64 la] (0, 0) _ hd Tryz.underlying51 rfl (by kernel_rfl)
  have hp' : tmps[p]?.getD undef = nv := by simpa using hp
  have hq' : tmps[q]?.getD undef = .pointer (some ⟨d, 0, none⟩) := by simpa using hq
  have hr' : tmps[r]?.getD undef = .int .i64 k := by simpa using hr
  simp [results, h, hp', hq', hr', asAddr, h1]
/-- What value, or inner, tells: nodes and the state behind them, or what is wrong. -/
def RVp (a : Option Addr) (ts : List TK) (la : Int) (R : TRs) (w : World) (e : Ending) (w' : World) : Prop :=
  ∃ nv A n c m, e = .returned (.tuple #[nv, .agg #[.slice A n c, .int .i64 la], .int .i64 R.e]) ∧ (R.e = 0 → m = R.l ∧ n = R.r.length ∧ n ≤ c ∧ ∀ wx, TInO wx a ts → TInO wx A R.r) ∧ NRow 28 w' w.heap.size nv m ∧ m.length ≤ ts.length ∧ Below w.heap.size w w'
def rvT (E : Int) (f d : Nat) (key : List UInt8) : List TK → TRs
  | [] => ⟨[], [], E⟩
  | t :: ts1 => vTr E f t key d ts1
def ValR (la : Int) (f : Nat) : Prop := ∀ (a : Option Addr) (cap : Nat) (ts : List TK) (key : List UInt8) (d : Nat) (w : World), TInO w a ts → ts.length ≤ cap → SgE ts → d ≤ 32 → 4 * ts.length + 2 ≤ f + 4 → ts.length ≤ 1099511627775 →
  Calls Tryz.prog 23 #[.agg #[.slice a ts.length cap, .int .i64 la], .string (bA key), .int .i64 (d : Nat)] w (RVp a ts la (rvT (eE (some la)) f d key ts) w)
/-- What stands behind a first sign: of the document. -/
def rpT' (E : Int) (f : Nat) (ob : Bool) (d : Nat) : List TK → TRs
  | [] => ⟨[], [], E⟩
  | u :: ts1 => if u.1 = cls ob then ⟨[], ts1, 0⟩ else mTr E f ob u d [] ts1
theorem pTr_rp {E : Int} {f : Nat} {ob : Bool} {d : Nat} {ts : List TK} (h : ¬ d = 32) : pTr E (f + 1) ob d ts = rpT' E f ob (d + 1) ts := by
  cases ts with
  | nil => exact pTr_cut h
  | cons u ts1 =>
    unfold rpT'
    by_cases hu : u.1 = cls ob
    · rw [pTr_none h hu]; simp only [if_pos hu]
    · rw [pTr_some h hu]; simp only [if_neg hu]
def InR (la : Int) (f : Nat) : Prop := ∀ (ob : Bool) (a : Option Addr) (cap : Nat) (ts : List TK) (d : Nat) (w : World), TInO w a ts → ts.length ≤ cap → SgE ts → d ≤ 32 → 4 * ts.length ≤ f → ts.length ≤ 1099511627775 →
  Calls Tryz.prog 45 #[.agg #[.slice a ts.length cap, .int .i64 la], .int .u8 ((cls ob).toNat : Int), .int .i64 (d : Nat)] w (RVp a ts la (rpT' (eE (some la)) f ob d ts) w)
/-- value's blocks: the state that came in, and the one that it tells. -/
structure VlB (w wr : World) (a : Option Addr) (n cap : Nat) (la : Int) : Prop where
  s : StT wr w.heap.size a n cap la
  r : StT wr (w.heap.size + 1) none 0 0 0
  b : Below w.heap.size w wr
theorem vlb_first (w : World) (a : Option Addr) (n cap : Nat) (la : Int) : VlB w ((w.alloc (.cells #[.slice a n cap, .int .i64 la] 51)).alloc (.cells #[.slice none 0 0, .int .i64 0] 51)) a n cap la := by
  obtain ⟨w1, hw1⟩ : ∃ w1, w1 = w.alloc (.cells #[.slice a n cap, .int .i64 la] 51) := ⟨_, rfl⟩
  have z1 : w1.heap.size = w.heap.size + 1 := by rw [hw1]; simp
  have s1 : StT w1 w.heap.size a n cap la := by rw [hw1]; exact st_alloc w a n cap la
  have l1 := alloc_below w (.cells #[.slice a n cap, .int .i64 la] 51)
  have l3 := alloc_below w1 (.cells #[.slice none 0 0, .int .i64 0] 51)
  have r3 := st_alloc w1 none 0 0 0
  rw [← hw1] at l1
  rw [z1] at r3
  rw [← hw1]
  exact ⟨s1.below l3 (by omega), r3, l1.trans (l3.mono (by omega))⟩
theorem VlB.next {w wr w' : World} {a : Option Addr} {n cap : Nat} {la : Int} (h : VlB w wr a n cap la) (hb : Below wr.heap.size wr w') : VlB w w' a n cap la :=
  ⟨h.s.below hb h.s.lt, h.r.below hb h.r.lt, h.b.trans (hb.mono h.b.size)⟩
theorem VlB.set {w wr : World} {a : Option Addr} {n cap : Nat} {la : Int} (h : VlB w wr a n cap la) (A : Option Addr) (n2 c2 : Nat) (la2 : Int) :
    StT ((wr.setCell ⟨w.heap.size + 1, 0, none⟩ (.slice A n2 c2)).setCell ⟨w.heap.size + 1, 1, none⟩ (.int .i64 la2)) (w.heap.size + 1) A n2 c2 la2 ∧ Below w.heap.size w ((wr.setCell ⟨w.heap.size + 1, 0, none⟩ (.slice A n2 c2)).setCell ⟨w.heap.size + 1, 1, none⟩ (.int .i64 la2)) :=
  ⟨h.r.setAll A n2 c2 la2, set2_below h.b (Nat.le_succ _) _ _⟩
theorem VlB.fin {w W : World} {a : Option Addr} {n cap : Nat} {la : Int} (h : VlB w W a n cap la) (A : Option Addr) (n2 c2 : Nat) (la2 : Int) {w2 : World}
    (hw : w2 = ((W.setCell ⟨w.heap.size + 1, 0, none⟩ (.slice A n2 c2)).setCell ⟨w.heap.size + 1, 1, none⟩ (.int .i64 la2)).drew) :
    StT w2 (w.heap.size + 1) A n2 c2 la2 ∧ Below w.heap.size w w2 := by
  subst hw
  obtain ⟨h1, h2⟩ := h.set A n2 c2 la2
  exact ⟨h1, ⟨h2.os, h2.tape, h2.output, h2.size, h2.block⟩⟩
theorem VlB.leaf1 {w W : World} {a : Option Addr} {n cap : Nat} {la : Int} (h : VlB w W a n cap la) (A : Option Addr) (n2 c2 : Nat) (la2 : Int) (y : ND) {w2 : World}
    (hw : w2 = (((W.setCell ⟨w.heap.size + 1, 0, none⟩ (.slice A n2 c2)).setCell ⟨w.heap.size + 1, 1, none⟩ (.int .i64 la2)).alloc (.cells #[.int .u8 (y.1.toNat : Int), .string (bA y.2.1), .string (bA y.2.2.1), .int .i64 (y.2.2.2 : Nat)] 28)).drew) :
    StT w2 (w.heap.size + 1) A n2 c2 la2 ∧ NRow 28 w2 w.heap.size (.slice (some ⟨W.heap.size, 0, none⟩) 1 1) [y] ∧ Below w.heap.size w w2 := by
  subst hw
  obtain ⟨h1, h2⟩ := h.set A n2 c2 la2
  have hz : ((W.setCell ⟨w.heap.size + 1, 0, none⟩ (.slice A n2 c2)).setCell ⟨w.heap.size + 1, 1, none⟩ (.int .i64 la2)).heap.size = W.heap.size := by simp
  generalize (W.setCell ⟨w.heap.size + 1, 0, none⟩ (.slice A n2 c2)).setCell ⟨w.heap.size + 1, 1, none⟩ (.int .i64 la2) = W1 at *
  have b1 := alloc_below W1 (.cells #[.int .u8 (y.1.toNat : Int), .string (bA y.2.1), .string (bA y.2.2.1), .int .i64 (y.2.2.2 : Nat)] 28)
  have hb := h2.trans (b1.mono h2.size)
  have hn := heap_alloc_new W1 (.cells #[.int .u8 (y.1.toNat : Int), .string (bA y.2.1), .string (bA y.2.2.1), .int .i64 (y.2.2.2 : Nat)] 28)
  rw [hz] at hn
  have hq := h1.below b1 h1.lt
  exact ⟨hq, (nrow_one (e := 28) (w := (W1.alloc (.cells #[.int .u8 (y.1.toNat : Int), .string (bA y.2.1), .string (bA y.2.2.1), .int .i64 (y.2.2.2 : Nat)] 28)).drew) (x := y) hn).base h.b.size, ⟨hb.os, hb.tape, hb.output, hb.size, hb.block⟩⟩
theorem VlB.leaf2 {w W : World} {a : Option Addr} {n cap : Nat} {la : Int} (h : VlB w W a n cap la) (A : Option Addr) (n2 c2 : Nat) (la2 : Int) (y : ND) {w2 : World}
    (hw : w2 = (((W.alloc (.cells #[.int .u8 (y.1.toNat : Int), .string (bA y.2.1), .string (bA y.2.2.1), .int .i64 (y.2.2.2 : Nat)] 28)).setCell ⟨w.heap.size + 1, 0, none⟩ (.slice A n2 c2)).setCell ⟨w.heap.size + 1, 1, none⟩ (.int .i64 la2)).drew) :
    StT w2 (w.heap.size + 1) A n2 c2 la2 ∧ NRow 28 w2 w.heap.size (.slice (some ⟨W.heap.size, 0, none⟩) 1 1) [y] ∧ Below w.heap.size w w2 := by
  have hl := h.r.lt
  have hn := heap_alloc_new W (.cells #[.int .u8 (y.1.toNat : Int), .string (bA y.2.1), .string (bA y.2.2.1), .int .i64 (y.2.2.2 : Nat)] 28)
  have h' := h.next (alloc_below W (.cells #[.int .u8 (y.1.toNat : Int), .string (bA y.2.1), .string (bA y.2.2.1), .int .i64 (y.2.2.2 : Nat)] 28))
  generalize W.alloc (.cells #[.int .u8 (y.1.toNat : Int), .string (bA y.2.1), .string (bA y.2.2.1), .int .i64 (y.2.2.2 : Nat)] 28) = W1 at *
  obtain ⟨h1, h2⟩ := h'.fin A n2 c2 la2 hw
  refine ⟨h1, (nrow_one (e := 28) (x := y) ?_).base h.b.size, h2⟩
  subst hw
  exact (set2_lt W1 (w.heap.size + 1) _ _ _ (by omega)).trans hn
theorem two_below (w : World) (o1 o2 : Obj) : Below w.heap.size w ((w.alloc o1).alloc o2) :=
  (alloc_below w o1).trans ((alloc_below (w.alloc o1) o2).mono (by simp))
theorem rvp_no {a : Option Addr} {ts : List TK} {la : Int} {R : TRs} {w w' : World} {A : Option Addr} {n c : Nat} (h : R.e ≠ 0) (hb : Below w.heap.size w w') : RVp a ts la R w (.returned (.tuple #[.slice none 0 0, .agg #[.slice A n c, .int .i64 la], .int .i64 R.e])) w' :=
  ⟨_, A, n, c, [], rfl, fun e => absurd e h, nrow_nil _ _ _, Nat.zero_le _, hb⟩
set_option maxRecDepth 20000 in
set_option maxHeartbeats 4000000 in
theorem rval_cut (a : Option Addr) (cap : Nat) (la : Int) (key : List UInt8) (d : Int) (w : World) (R : TRs) (hR : R.e = eE (some la)) :
    Calls Tryz.prog 23 #[.agg #[.slice a 0 cap, .int .i64 la], .string (bA key), .int .i64 d] w (RVp a [] la R w) := by
  have V0 := vlb_first w a 0 cap la
  have HN := Lib.hid (fun w => rn_none a cap la w)
  have HE := Lib.hid hR
  have p1 : (eE (some la) != 0) = true := bne_iff_ne.mpr (eE_ne _)
  clear hR
  go_enter Tryz.func23, Tryz.ntmps23
  go_upto_region 1 with fail
  generalize (w.alloc (.cells #[.slice a 0 cap, .int .i64 la] 51)).alloc (.cells #[.slice none 0 0, .int .i64 0] 51) = w0 at *
  have a0 := V0.s.c0; have a1 := V0.s.c1
  have VV0 := Lib.hid V0
  clear V0
  go_wp2_with fail
  with_reducible refine (HN.out _).mono ?_
  rintro e w1 ⟨rfl, b1⟩
  have V1 := Lib.hid (VV0.out.next b1)
  clear b1 a0 a1
  generalize eE (some la) = E at *
  unfold tkV
  go_upto_region 2 with fail
  have V2 := Lib.hid (V1.out.next (two_below w1 (.cells #[.int .u8 0, .string (bA [])] 78) (.cells #[.slice a 0 cap, .int .i64 la] 51)))
  clear V1
  generalize (w1.alloc (.cells #[.int .u8 0, .string (bA [])] 78)).alloc (.cells #[.slice a 0 cap, .int .i64 la] 51) = W at *
  have a0 := V2.out.s.c0; have a1 := V2.out.s.c1
  have r0 := V2.out.r.c0; have r1 := V2.out.r.c1; have rf := V2.out.r.fr
  have m1 : ¬ w.heap.size + 1 = w.heap.size := by omega
  go_wp2_with fail
  go_region_held3 (fun wx => wx.cell? ⟨w.heap.size, 0, none⟩ = some (.slice a 0 cap) ∧ wx.cell? ⟨w.heap.size, 1, none⟩ = some (.int .i64 la)) (go_keep) (first | fail)
  all_goals go_wp2
  all_goals
    have HF := V2.out.fin a 0 cap la rfl
    refine bodyPost_ret (vsc_result Tryz.results23 HF.1 rfl rfl rfl) rfl ?_
    have HP := rvp_no (a := a) (ts := []) (la := la) (R := R) (A := a) (n := 0) (c := cap) (by rw [HE.out]; exact bne_iff_ne.mp p1) HF.2
    rw [HE.out] at HP
    exact HP
set_option maxRecDepth 20000 in
set_option maxHeartbeats 4000000 in
theorem rval_sign (x : TK) (a : Option Addr) (cap : Nat) (ts : List TK) (la : Int) (key : List UInt8) (d : Int) (w : World) (R : TRs) (hR : R.e = 3) (h1 : ∀ ob, x.1 ≠ opn ob) (hsg : tSign x.1 = true) (hin : TInO w a (x :: ts)) (hcap : ts.length + 1 ≤ cap) (hl : ts.length ≤ 1099511627776) :
    Calls Tryz.prog 23 #[.agg #[.slice a (ts.length + 1) cap, .int .i64 la], .string (bA key), .int .i64 d] w (RVp a (x :: ts) la R w) := by
  obtain ⟨n, hn⟩ : ∃ n, n = ts.length + 1 := ⟨_, rfl⟩
  have HN := Lib.hid (fun w => rn_some a cap x ts la w)
  have HNn := Lib.hid hn
  have HIN := Lib.hid hin
  have HE := Lib.hid hR
  have hb : ∀ y : UInt8, ((x.1.toNat : Int) == (y.toNat : Int)) = (x.1 == y) := fun y => by
    by_cases e : x.1 = y
    · rw [e]; simp
    · rw [beq_eq_false_iff_ne.mpr e]
      exact beq_eq_false_iff_ne.mpr (fun e2 => e (UInt8.toNat_inj.mp (by omega)))
  have q1 : ((x.1.toNat : Int) == 123) = false := (hb 123).trans (beq_eq_false_iff_ne.mpr (h1 true))
  have q2 : ((x.1.toNat : Int) == 91) = false := (hb 91).trans (beq_eq_false_iff_ne.mpr (h1 false))
  have HS := Lib.hid (fun w => rsign_any x.1 w)
  have HSV := Lib.hid hsg
  clear hb h1 hsg
  rw [← hn]
  have V0 := vlb_first w a n cap la
  clear hR hn hin
  go_enter Tryz.func23, Tryz.ntmps23
  go_upto_region 1 with fail
  generalize (w.alloc (.cells #[.slice a n cap, .int .i64 la] 51)).alloc (.cells #[.slice none 0 0, .int .i64 0] 51) = w0 at *
  have a0 := V0.s.c0; have a1 := V0.s.c1
  have VV0 := Lib.hid V0
  clear V0
  go_wp2_with fail
  have HNX := HN.out w0 (HIN.out.below VV0.out.b (Nat.le_refl _)) hcap hl
  rw [← HNn.out] at HNX
  with_reducible refine HNX.mono ?_
  clear HNX HN
  rintro e w1 ⟨A, rfl, hin1, b1⟩
  have V1 := Lib.hid (VV0.out.next b1)
  have HI1 := Lib.hid hin1
  clear b1 a0 a1 hin1
  unfold tkV
  go_upto_region 2 with fail
  have V2 := Lib.hid (V1.out.next (two_below w1 (.cells #[.int .u8 (x.1.toNat : Int), .string (bA x.2)] 78) (.cells #[.slice A ts.length (cap - 1), .int .i64 la] 51)))
  have b0 := (tk_laid (w := w1) x 78).below (alloc_below _ (.cells #[.slice A ts.length (cap - 1), .int .i64 la] 51)) (by simp)
  have s0 := st_alloc (w1.alloc (.cells #[.int .u8 (x.1.toNat : Int), .string (bA x.2)] 78)) A ts.length (cap - 1) la
  rw [show (w1.alloc (.cells #[.int .u8 (x.1.toNat : Int), .string (bA x.2)] 78)).heap.size = w1.heap.size + 1 by simp] at s0
  clear V1
  generalize (w1.alloc (.cells #[.int .u8 (x.1.toNat : Int), .string (bA x.2)] 78)).alloc (.cells #[.slice A ts.length (cap - 1), .int .i64 la] 51) = W at *
  have a0 := V2.out.s.c0; have a1 := V2.out.s.c1
  have r0 := V2.out.r.c0; have r1 := V2.out.r.c1; have rf := V2.out.r.fr
  have b1 := b0.c1; have b0 := b0.c0
  have s1 := s0.c1; have s0 := s0.c0
  have m1 : ¬ w.heap.size + 1 = w.heap.size := by omega
  go_wp2_with fail
  with_reducible refine (HS.out _).mono ?_
  rintro e w2 ⟨rfl, rfl⟩
  rw [HSV.out]
  go_wp2_with fail
  go_region_held3 (fun wx => wx.cell? ⟨w.heap.size, 0, none⟩ = some (.slice a n cap) ∧ wx.cell? ⟨w.heap.size, 1, none⟩ = some (.int .i64 la)) (go_keep) (first | fail)
  all_goals go_wp2
  all_goals
    have HF := V2.out.fin a n cap la rfl
    refine bodyPost_ret (vsc_result Tryz.results23 HF.1 rfl rfl rfl) rfl ?_
    have HP := rvp_no (a := a) (ts := x :: ts) (la := la) (R := R) (A := a) (n := n) (c := cap) (by rw [HE.out]; decide) HF.2
    rw [HE.out] at HP
    exact HP
set_option maxRecDepth 20000 in
set_option maxHeartbeats 4000000 in
theorem rval_leaf (x : TK) (a : Option Addr) (cap : Nat) (ts : List TK) (la : Int) (key : List UInt8) (d : Int) (w : World) (R : TRs) (hR : R = ⟨[(x.1, key, x.2, 1)], ts, 0⟩) (hsg : tSign x.1 = false) (hin : TInO w a (x :: ts)) (hcap : ts.length + 1 ≤ cap) (hl : ts.length ≤ 1099511627776) :
    Calls Tryz.prog 23 #[.agg #[.slice a (ts.length + 1) cap, .int .i64 la], .string (bA key), .int .i64 d] w (RVp a (x :: ts) la R w) := by
  obtain ⟨n, hn⟩ : ∃ n, n = ts.length + 1 := ⟨_, rfl⟩
  have HN := Lib.hid (fun w => rn_some a cap x ts la w)
  have HNn := Lib.hid hn
  have HIN := Lib.hid hin
  have HE := Lib.hid hR
  have hb : ∀ y : UInt8, ((x.1.toNat : Int) == (y.toNat : Int)) = (x.1 == y) := fun y => by
    by_cases e : x.1 = y
    · rw [e]; simp
    · rw [beq_eq_false_iff_ne.mpr e]
      exact beq_eq_false_iff_ne.mpr (fun e2 => e (UInt8.toNat_inj.mp (by omega)))
  have q1 : ((x.1.toNat : Int) == 123) = false := (hb 123).trans (beq_eq_false_iff_ne.mpr (fun e => by rw [e] at hsg; exact absurd hsg (by decide)))
  have q2 : ((x.1.toNat : Int) == 91) = false := (hb 91).trans (beq_eq_false_iff_ne.mpr (fun e => by rw [e] at hsg; exact absurd hsg (by decide)))
  have HS := Lib.hid (fun w => rsign_any x.1 w)
  have HSV := Lib.hid hsg
  clear hb hsg
  rw [← hn]
  have V0 := vlb_first w a n cap la
  clear hR hn hin
  go_enter Tryz.func23, Tryz.ntmps23
  go_upto_region 1 with fail
  generalize (w.alloc (.cells #[.slice a n cap, .int .i64 la] 51)).alloc (.cells #[.slice none 0 0, .int .i64 0] 51) = w0 at *
  have a0 := V0.s.c0; have a1 := V0.s.c1
  have VV0 := Lib.hid V0
  clear V0
  go_wp2_with fail
  have HNX := HN.out w0 (HIN.out.below VV0.out.b (Nat.le_refl _)) hcap hl
  rw [← HNn.out] at HNX
  with_reducible refine HNX.mono ?_
  clear HNX HN
  rintro e w1 ⟨A, rfl, hin1, b1⟩
  have V1 := Lib.hid (VV0.out.next b1)
  have HI1 := Lib.hid hin1
  clear b1 a0 a1 hin1
  unfold tkV
  go_upto_region 2 with fail
  have V2 := Lib.hid (V1.out.next (two_below w1 (.cells #[.int .u8 (x.1.toNat : Int), .string (bA x.2)] 78) (.cells #[.slice A ts.length (cap - 1), .int .i64 la] 51)))
  have b0 := (tk_laid (w := w1) x 78).below (alloc_below _ (.cells #[.slice A ts.length (cap - 1), .int .i64 la] 51)) (by simp)
  have s0 := st_alloc (w1.alloc (.cells #[.int .u8 (x.1.toNat : Int), .string (bA x.2)] 78)) A ts.length (cap - 1) la
  rw [show (w1.alloc (.cells #[.int .u8 (x.1.toNat : Int), .string (bA x.2)] 78)).heap.size = w1.heap.size + 1 by simp] at s0
  have V2b := V1.out.r.lt
  have hsl := s0.lt
  clear V1
  generalize (w1.alloc (.cells #[.int .u8 (x.1.toNat : Int), .string (bA x.2)] 78)).alloc (.cells #[.slice A ts.length (cap - 1), .int .i64 la] 51) = W at *
  have a0 := V2.out.s.c0; have a1 := V2.out.s.c1
  have r0 := V2.out.r.c0; have r1 := V2.out.r.c1; have rf := V2.out.r.fr
  have b1 := b0.c1; have b0 := b0.c0
  have s1 := s0.c1; have s0 := s0.c0
  have m1 : ¬ w.heap.size + 1 = w.heap.size := by omega
  have hT : w.heap.size + 1 < w1.heap.size := V2b
  go_wp2_with fail
  with_reducible refine (HS.out _).mono ?_
  rintro e w2 ⟨rfl, rfl⟩
  rw [HSV.out]
  have n1 : ¬ w.heap.size + 1 = w1.heap.size := by omega
  have n2 : ¬ w.heap.size + 1 = w1.heap.size + 1 := by omega
  have n4 : ¬ w2.heap.size = w.heap.size + 1 := by omega
  have n5 : ¬ w2.heap.size = w1.heap.size := by omega
  have n6 : ¬ w2.heap.size = w1.heap.size + 1 := by omega
  have n7 : ¬ w.heap.size = w1.heap.size := by omega
  have n8 : ¬ w1.heap.size = w.heap.size := by omega
  have o4 : ¬ w.heap.size + 1 = w2.heap.size := by omega
  have o5 : ¬ w1.heap.size = w2.heap.size := by omega
  have o6 : ¬ w1.heap.size + 1 = w2.heap.size := by omega
  have l4 : w.heap.size + 1 < w2.heap.size := by omega
  have l5 : w1.heap.size < w2.heap.size := by omega
  clear a0 a1
  go_wp2_with fail
  go_region_held3 (fun wx => wx.cell? ⟨w1.heap.size, 0, none⟩ = some (.int .u8 (x.1.toNat : Int)) ∧ wx.cell? ⟨w1.heap.size, 1, none⟩ = some (.string (bA x.2)) ∧ wx.cell? ⟨w1.heap.size + 1, 0, none⟩ = some (.slice A ts.length (cap - 1)) ∧ wx.cell? ⟨w1.heap.size + 1, 1, none⟩ = some (.int .i64 la)) (go_keep) (first | fail)
  all_goals go_wp2
  all_goals
    have HF := (by first | exact V2.out.leaf1 A ts.length (cap - 1) la (x.1, key, x.2, 1) rfl | exact V2.out.leaf2 A ts.length (cap - 1) la (x.1, key, x.2, 1) rfl)
    refine bodyPost_ret (vsc_result Tryz.results23 HF.1 rfl rfl rfl) rfl ?_
    refine ⟨_, A, ts.length, cap - 1, [(x.1, key, x.2, 1)], ?_, fun _ => ?_, HF.2.1, by simp, HF.2.2⟩
    · rw [HE.out]; rfl
    · rw [HE.out]; exact ⟨rfl, rfl, by omega, HI1.out⟩
end Go.Proofs.YtnbhhnkcfbfdcaaGreatDoor
/- The document's value of a list or an object (package truchmanref13). -/
namespace Go.Proofs.YtnbhhnkcfbfdcaaGreatDoor
open Go Go.RowKit
set_option linter.unusedVariables false

theorem below_undrew {w w' : World} (h : Below w.drew.heap.size w.drew w') : Below w.heap.size w w' := ⟨h.os, h.tape, h.output, h.size, h.block⟩
theorem NRow.drew {e : TypeId} {w : World} {B : Nat} {v : Value} {l : List ND} (h : NRow e w B v l) : NRow e w.drew B v l := h.keep fun _ _ => rfl
set_option maxRecDepth 20000 in
set_option maxHeartbeats 4000000 in
theorem rval_deepL (x : TK) (a : Option Addr) (cap : Nat) (ts : List TK) (la : Int) (key : List UInt8) (w : World) (R : TRs) (hR : R.e = 33) (hk : x.1 = opn false) (hin : TInO w a (x :: ts)) (hcap : ts.length + 1 ≤ cap) (hl : ts.length ≤ 1099511627776) :
    Calls Tryz.prog 23 #[.agg #[.slice a (ts.length + 1) cap, .int .i64 la], .string (bA key), .int .i64 32] w (RVp a (x :: ts) la R w) := by
  obtain ⟨n, hn⟩ : ∃ n, n = ts.length + 1 := ⟨_, rfl⟩
  have HN := Lib.hid (fun w => rn_some a cap x ts la w)
  have HNn := Lib.hid hn
  have HIN := Lib.hid hin
  have HE := Lib.hid hR
  have HK := Lib.hid (show (x.1.toNat : Int) = 91 by rw [hk]; rfl)
  clear hk
  rw [← hn]
  have V0 := vlb_first w a n cap la
  clear hR hn hin
  go_enter Tryz.func23, Tryz.ntmps23
  go_upto_region 1 with fail
  generalize (w.alloc (.cells #[.slice a n cap, .int .i64 la] 51)).alloc (.cells #[.slice none 0 0, .int .i64 0] 51) = w0 at *
  have a0 := V0.s.c0; have a1 := V0.s.c1
  have VV0 := Lib.hid V0
  clear V0
  go_wp2_with fail
  have HNX := HN.out w0 (HIN.out.below VV0.out.b (Nat.le_refl _)) hcap hl
  rw [← HNn.out] at HNX
  with_reducible refine HNX.mono ?_
  clear HNX HN
  rintro e w1 ⟨A, rfl, hin1, b1⟩
  have V1 := Lib.hid (VV0.out.next b1)
  have HI1 := Lib.hid hin1
  clear b1 a0 a1 hin1
  unfold tkV
  rw [HK.out]
  go_upto_region 2 with fail
  have V2 := Lib.hid (V1.out.next (two_below w1 (.cells #[.int .u8 91, .string (bA x.2)] 78) (.cells #[.slice A ts.length (cap - 1), .int .i64 la] 51)))
  have b00 := tk_laid (w := w1) x 78
  rw [HK.out] at b00
  have b0 := (b00).below (alloc_below _ (.cells #[.slice A ts.length (cap - 1), .int .i64 la] 51)) (by simp)
  have s0 := st_alloc (w1.alloc (.cells #[.int .u8 91, .string (bA x.2)] 78)) A ts.length (cap - 1) la
  rw [show (w1.alloc (.cells #[.int .u8 91, .string (bA x.2)] 78)).heap.size = w1.heap.size + 1 by simp] at s0
  clear V1
  generalize (w1.alloc (.cells #[.int .u8 91, .string (bA x.2)] 78)).alloc (.cells #[.slice A ts.length (cap - 1), .int .i64 la] 51) = W at *
  have a0 := V2.out.s.c0; have a1 := V2.out.s.c1
  have r0 := V2.out.r.c0; have r1 := V2.out.r.c1; have rf := V2.out.r.fr
  have b1 := b0.c1; have b0 := b0.c0
  rw [HK.out] at b0
  have s1 := s0.c1; have s0 := s0.c0
  have m1 : ¬ w.heap.size + 1 = w.heap.size := by omega
  go_wp2_with fail
  go_region_held3 (fun wx => wx.cell? ⟨w.heap.size, 0, none⟩ = some (.slice a n cap) ∧ wx.cell? ⟨w.heap.size, 1, none⟩ = some (.int .i64 la)) (go_keep) (first | fail)
  all_goals go_wp2
  all_goals
    have HF := V2.out.fin a n cap la rfl
    refine bodyPost_ret (vsc_result Tryz.results23 HF.1 rfl rfl rfl) rfl ?_
    have HP := rvp_no (a := a) (ts := x :: ts) (la := la) (R := R) (A := a) (n := n) (c := cap) (by rw [HE.out]; decide) HF.2
    rw [HE.out] at HP
    exact HP
set_option maxRecDepth 20000 in
set_option maxHeartbeats 4000000 in
theorem rval_deepO (x : TK) (a : Option Addr) (cap : Nat) (ts : List TK) (la : Int) (key : List UInt8) (w : World) (R : TRs) (hR : R.e = 33) (hk : x.1 = opn true) (hin : TInO w a (x :: ts)) (hcap : ts.length + 1 ≤ cap) (hl : ts.length ≤ 1099511627776) :
    Calls Tryz.prog 23 #[.agg #[.slice a (ts.length + 1) cap, .int .i64 la], .string (bA key), .int .i64 32] w (RVp a (x :: ts) la R w) := by
  obtain ⟨n, hn⟩ : ∃ n, n = ts.length + 1 := ⟨_, rfl⟩
  have HN := Lib.hid (fun w => rn_some a cap x ts la w)
  have HNn := Lib.hid hn
  have HIN := Lib.hid hin
  have HE := Lib.hid hR
  have HK := Lib.hid (show (x.1.toNat : Int) = 123 by rw [hk]; rfl)
  clear hk
  rw [← hn]
  have V0 := vlb_first w a n cap la
  clear hR hn hin
  go_enter Tryz.func23, Tryz.ntmps23
  go_upto_region 1 with fail
  generalize (w.alloc (.cells #[.slice a n cap, .int .i64 la] 51)).alloc (.cells #[.slice none 0 0, .int .i64 0] 51) = w0 at *
  have a0 := V0.s.c0; have a1 := V0.s.c1
  have VV0 := Lib.hid V0
  clear V0
  go_wp2_with fail
  have HNX := HN.out w0 (HIN.out.below VV0.out.b (Nat.le_refl _)) hcap hl
  rw [← HNn.out] at HNX
  with_reducible refine HNX.mono ?_
  clear HNX HN
  rintro e w1 ⟨A, rfl, hin1, b1⟩
  have V1 := Lib.hid (VV0.out.next b1)
  have HI1 := Lib.hid hin1
  clear b1 a0 a1 hin1
  unfold tkV
  rw [HK.out]
  go_upto_region 2 with fail
  have V2 := Lib.hid (V1.out.next (two_below w1 (.cells #[.int .u8 123, .string (bA x.2)] 78) (.cells #[.slice A ts.length (cap - 1), .int .i64 la] 51)))
  have b00 := tk_laid (w := w1) x 78
  rw [HK.out] at b00
  have b0 := (b00).below (alloc_below _ (.cells #[.slice A ts.length (cap - 1), .int .i64 la] 51)) (by simp)
  have s0 := st_alloc (w1.alloc (.cells #[.int .u8 123, .string (bA x.2)] 78)) A ts.length (cap - 1) la
  rw [show (w1.alloc (.cells #[.int .u8 123, .string (bA x.2)] 78)).heap.size = w1.heap.size + 1 by simp] at s0
  clear V1
  generalize (w1.alloc (.cells #[.int .u8 123, .string (bA x.2)] 78)).alloc (.cells #[.slice A ts.length (cap - 1), .int .i64 la] 51) = W at *
  have a0 := V2.out.s.c0; have a1 := V2.out.s.c1
  have r0 := V2.out.r.c0; have r1 := V2.out.r.c1; have rf := V2.out.r.fr
  have b1 := b0.c1; have b0 := b0.c0
  rw [HK.out] at b0
  have s1 := s0.c1; have s0 := s0.c0
  have m1 : ¬ w.heap.size + 1 = w.heap.size := by omega
  go_wp2_with fail
  go_region_held3 (fun wx => wx.cell? ⟨w.heap.size, 0, none⟩ = some (.slice a n cap) ∧ wx.cell? ⟨w.heap.size, 1, none⟩ = some (.int .i64 la)) (go_keep) (first | fail)
  all_goals go_wp2
  all_goals
    have HF := V2.out.fin a n cap la rfl
    refine bodyPost_ret (vsc_result Tryz.results23 HF.1 rfl rfl rfl) rfl ?_
    have HP := rvp_no (a := a) (ts := x :: ts) (la := la) (R := R) (A := a) (n := n) (c := cap) (by rw [HE.out]; decide) HF.2
    rw [HE.out] at HP
    exact HP
set_option maxRecDepth 20000 in
set_option maxHeartbeats 4000000 in
theorem rval_openL (x : TK) (a : Option Addr) (cap : Nat) (ts : List TK) (la : Int) (key : List UInt8) (d : Nat) (w : World) {f : Nat} (hI : InR la f) (hs : SgE (x :: ts)) (hd : d < 32) (hf : 4 * ts.length ≤ f) (hk : x.1 = opn false) (hin : TInO w a (x :: ts)) (hcap : ts.length + 1 ≤ cap) (hl : ts.length ≤ 1099511627774) :
    Calls Tryz.prog 23 #[.agg #[.slice a (ts.length + 1) cap, .int .i64 la], .string (bA key), .int .i64 (d : Nat)] w (RVp a (x :: ts) la ((rpT' (eE (some la)) f false (d + 1) ts).wrap 91 key) w) := by
  obtain ⟨n, hn⟩ : ∃ n, n = ts.length + 1 := ⟨_, rfl⟩
  have HN := Lib.hid (fun w => rn_some a cap x ts la w)
  have HNn := Lib.hid hn
  have HIN := Lib.hid hin
  have HI := Lib.hid hI
  have HF := Lib.hid hf
  have HS := Lib.hid hs
  have d1 : (0 : Int) ≤ (d : Int) := by omega
  have d2 : (d : Int) < 32 := by omega
  have d3 : ((32 : Int) ≤ (d : Int)) = False := by simp; omega
  have d4 : ¬ 32 ≤ d := by omega
  have HK := Lib.hid (show (x.1.toNat : Int) = 91 by rw [hk]; rfl)
  clear hk
  rw [← hn]
  have V0 := vlb_first w a n cap la
  clear hI hf hs hn hin
  go_enter Tryz.func23, Tryz.ntmps23
  go_upto_region 1 with fail
  generalize (w.alloc (.cells #[.slice a n cap, .int .i64 la] 51)).alloc (.cells #[.slice none 0 0, .int .i64 0] 51) = w0 at *
  have a0 := V0.s.c0; have a1 := V0.s.c1
  have VV0 := Lib.hid V0
  clear V0
  go_wp2_with fail
  have HNX := HN.out w0 (HIN.out.below VV0.out.b (Nat.le_refl _)) hcap (by omega)
  rw [← HNn.out] at HNX
  with_reducible refine HNX.mono ?_
  clear HNX HN
  rintro e w1 ⟨A, rfl, hin1, b1⟩
  have V1 := Lib.hid (VV0.out.next b1)
  have HI1 := Lib.hid hin1
  clear b1 a0 a1 hin1
  unfold tkV
  rw [HK.out]
  go_upto_region 2 with fail
  have V2 := Lib.hid (V1.out.next (two_below w1 (.cells #[.int .u8 91, .string (bA x.2)] 78) (.cells #[.slice A ts.length (cap - 1), .int .i64 la] 51)))
  have b00 := tk_laid (w := w1) x 78
  rw [HK.out] at b00
  have b0 := (b00).below (alloc_below _ (.cells #[.slice A ts.length (cap - 1), .int .i64 la] 51)) (by simp)
  have s0 := st_alloc (w1.alloc (.cells #[.int .u8 91, .string (bA x.2)] 78)) A ts.length (cap - 1) la
  rw [show (w1.alloc (.cells #[.int .u8 91, .string (bA x.2)] 78)).heap.size = w1.heap.size + 1 by simp] at s0
  have V2b := V1.out.r.lt
  have hsl := s0.lt
  clear V1
  generalize (w1.alloc (.cells #[.int .u8 91, .string (bA x.2)] 78)).alloc (.cells #[.slice A ts.length (cap - 1), .int .i64 la] 51) = W at *
  have a0 := V2.out.s.c0; have a1 := V2.out.s.c1
  have r0 := V2.out.r.c0; have r1 := V2.out.r.c1; have rf := V2.out.r.fr
  have b1 := b0.c1; have b0 := b0.c0
  rw [HK.out] at b0
  have s1 := s0.c1; have s0 := s0.c0
  have m1 : ¬ w.heap.size + 1 = w.heap.size := by omega
  go_wp2_with fail
  have HC : Calls Tryz.prog 45 #[.agg #[.slice A ts.length (cap - 1), .int .i64 la], .int .u8 93, .int .i64 ((d : Int) + 1)] W (RVp A ts la (rpT' (eE (some la)) f false (d + 1) ts) W) := HI.out false A (cap - 1) ts (d + 1) W (HI1.out W (HIN.out.below V2.out.b (Nat.le_refl _))) (by omega) HS.out.tail (by omega) HF.out (by omega)
  refine HC.mono ?_
  clear HC HI
  rintro e w2 ⟨nv, A2, n2, c2, m, rfl, hg, hrow, hml, b2⟩
  have V3 := Lib.hid ((V2.out.next b2).next (alloc_below w2 (.cells #[.slice A2 n2 c2, .int .i64 la] 51)))
  have HG := Lib.hid hg
  have HR3 := Lib.hid (show NRow 28 (w2.alloc (.cells #[.slice A2 n2 c2, .int .i64 la] 51)).drew W.heap.size nv m from NRow.drew (hrow.below (alloc_below w2 (.cells #[.slice A2 n2 c2, .int .i64 la] 51)) (Nat.le_refl _)))
  have hz2 : W.heap.size ≤ w2.heap.size := b2.size
  have k0 := ((alloc_below w2 (.cells #[.slice A2 n2 c2, .int .i64 la] 51)).cell (p := ⟨w1.heap.size, 0, none⟩) (show w1.heap.size < _ by omega)).trans ((b2.cell (p := ⟨w1.heap.size, 0, none⟩) (show w1.heap.size < _ by omega)).trans b0)
  have S2 := Lib.hid (st_alloc w2 A2 n2 c2 la)
  have HW := Lib.hid (show ∀ wx, NRow 28 wx W.heap.size nv m → Calls Tryz.prog 46 #[.int .u8 91, .string (bA key), nv] wx fun e w' => ∃ v, e = .returned v ∧ NRow 28 w' wx.heap.size v ((91, key, [], m.length + 1) :: m) ∧ Below wx.heap.size wx w' from fun wx hm => within_any 91 key nv W.heap.size m wx hm (by omega))
  clear hg hrow a0 a1 r0 r1 rf b0 b1 s0 s1 b2
  go_upto_region 8 with fail
  have hz3 : (w2.alloc (.cells #[.slice A2 n2 c2, .int .i64 la] 51)).heap.size = w2.heap.size + 1 := by simp
  generalize w2.alloc (.cells #[.slice A2 n2 c2, .int .i64 la] 51) = W3 at *
  have s0 := S2.out.c0; have s1 := S2.out.c1
  have n1 : ¬ w.heap.size + 1 = w1.heap.size := by omega
  have n2' : ¬ w.heap.size + 1 = w2.heap.size := by omega
  go_wp2_with fail
  go_region_held3 (fun wx => wx.cell? ⟨w1.heap.size, 0, none⟩ = some (.int .u8 91) ∧ wx.cell? ⟨w2.heap.size, 0, none⟩ = some (.slice A2 n2 c2) ∧ wx.cell? ⟨w2.heap.size, 1, none⟩ = some (.int .i64 la)) (go_keep)
    (first
    | (go_at_call 46; go_loud (with_reducible refine (HW.out _ HR3.out).mono ?_; rintro r w4 ⟨v, rfl, hr4, b4d⟩); have b4 := below_undrew b4d; have HR4 := Lib.hid hr4; have V4 := Lib.hid (V3.out.next b4); have k4 := (b4.cell (p := ⟨w1.heap.size, 0, none⟩) (show w1.heap.size < W3.heap.size by omega)).trans k0; have s40 := (b4.cell (p := ⟨w2.heap.size, 0, none⟩) (show w2.heap.size < W3.heap.size by omega)).trans s0; have s41 := (b4.cell (p := ⟨w2.heap.size, 1, none⟩) (show w2.heap.size < W3.heap.size by omega)).trans s1; have r0 := V4.out.r.c0; have r1 := V4.out.r.c1; have rf := V4.out.r.fr; clear hr4 b4 b4d))
  all_goals go_wp2
  have HF := V4.out.set A2 n2 c2 la
  have HN4 := HR4.out.keep (w' := (w4.setCell ⟨w.heap.size + 1, 0, none⟩ (.slice A2 n2 c2)).setCell ⟨w.heap.size + 1, 1, none⟩ (.int .i64 la)) (fun g hg => set2_lt w4 (w.heap.size + 1) _ _ g (by have h1 := (HR4.out.own hg).1; have h2 : W3.heap.size ≤ g := h1; omega))
  refine bodyPost_ret (vsc_result Tryz.results23 HF.1 rfl rfl rfl) rfl ?_
  have hz4 : w.heap.size ≤ W3.drew.heap.size := V3.out.b.size
  refine ⟨v, A2, n2, c2, (91, key, [], m.length + 1) :: m, by rw [wrap_e]; rfl, fun he => ?_, HN4.base hz4, by simp only [List.length_cons]; omega, HF.2⟩
  rw [wrap_e] at he
  rw [wrap_good he]
  obtain ⟨g1, g2, g3, g4⟩ := HG.out he
  exact ⟨by rw [g1], g2, g3, fun wx hx => g4 wx (HI1.out wx hx)⟩
set_option maxRecDepth 20000 in
set_option maxHeartbeats 4000000 in
theorem rval_openO (x : TK) (a : Option Addr) (cap : Nat) (ts : List TK) (la : Int) (key : List UInt8) (d : Nat) (w : World) {f : Nat} (hI : InR la f) (hs : SgE (x :: ts)) (hd : d < 32) (hf : 4 * ts.length ≤ f) (hk : x.1 = opn true) (hin : TInO w a (x :: ts)) (hcap : ts.length + 1 ≤ cap) (hl : ts.length ≤ 1099511627774) :
    Calls Tryz.prog 23 #[.agg #[.slice a (ts.length + 1) cap, .int .i64 la], .string (bA key), .int .i64 (d : Nat)] w (RVp a (x :: ts) la ((rpT' (eE (some la)) f true (d + 1) ts).wrap 123 key) w) := by
  obtain ⟨n, hn⟩ : ∃ n, n = ts.length + 1 := ⟨_, rfl⟩
  have HN := Lib.hid (fun w => rn_some a cap x ts la w)
  have HNn := Lib.hid hn
  have HIN := Lib.hid hin
  have HI := Lib.hid hI
  have HF := Lib.hid hf
  have HS := Lib.hid hs
  have d1 : (0 : Int) ≤ (d : Int) := by omega
  have d2 : (d : Int) < 32 := by omega
  have d3 : ((32 : Int) ≤ (d : Int)) = False := by simp; omega
  have d4 : ¬ 32 ≤ d := by omega
  have HK := Lib.hid (show (x.1.toNat : Int) = 123 by rw [hk]; rfl)
  clear hk
  rw [← hn]
  have V0 := vlb_first w a n cap la
  clear hI hf hs hn hin
  go_enter Tryz.func23, Tryz.ntmps23
  go_upto_region 1 with fail
  generalize (w.alloc (.cells #[.slice a n cap, .int .i64 la] 51)).alloc (.cells #[.slice none 0 0, .int .i64 0] 51) = w0 at *
  have a0 := V0.s.c0; have a1 := V0.s.c1
  have VV0 := Lib.hid V0
  clear V0
  go_wp2_with fail
  have HNX := HN.out w0 (HIN.out.below VV0.out.b (Nat.le_refl _)) hcap (by omega)
  rw [← HNn.out] at HNX
  with_reducible refine HNX.mono ?_
  clear HNX HN
  rintro e w1 ⟨A, rfl, hin1, b1⟩
  have V1 := Lib.hid (VV0.out.next b1)
  have HI1 := Lib.hid hin1
  clear b1 a0 a1 hin1
  unfold tkV
  rw [HK.out]
  go_upto_region 2 with fail
  have V2 := Lib.hid (V1.out.next (two_below w1 (.cells #[.int .u8 123, .string (bA x.2)] 78) (.cells #[.slice A ts.length (cap - 1), .int .i64 la] 51)))
  have b00 := tk_laid (w := w1) x 78
  rw [HK.out] at b00
  have b0 := (b00).below (alloc_below _ (.cells #[.slice A ts.length (cap - 1), .int .i64 la] 51)) (by simp)
  have s0 := st_alloc (w1.alloc (.cells #[.int .u8 123, .string (bA x.2)] 78)) A ts.length (cap - 1) la
  rw [show (w1.alloc (.cells #[.int .u8 123, .string (bA x.2)] 78)).heap.size = w1.heap.size + 1 by simp] at s0
  have V2b := V1.out.r.lt
  have hsl := s0.lt
  clear V1
  generalize (w1.alloc (.cells #[.int .u8 123, .string (bA x.2)] 78)).alloc (.cells #[.slice A ts.length (cap - 1), .int .i64 la] 51) = W at *
  have a0 := V2.out.s.c0; have a1 := V2.out.s.c1
  have r0 := V2.out.r.c0; have r1 := V2.out.r.c1; have rf := V2.out.r.fr
  have b1 := b0.c1; have b0 := b0.c0
  rw [HK.out] at b0
  have s1 := s0.c1; have s0 := s0.c0
  have m1 : ¬ w.heap.size + 1 = w.heap.size := by omega
  go_wp2_with fail
  have HC : Calls Tryz.prog 45 #[.agg #[.slice A ts.length (cap - 1), .int .i64 la], .int .u8 125, .int .i64 ((d : Int) + 1)] W (RVp A ts la (rpT' (eE (some la)) f true (d + 1) ts) W) := HI.out true A (cap - 1) ts (d + 1) W (HI1.out W (HIN.out.below V2.out.b (Nat.le_refl _))) (by omega) HS.out.tail (by omega) HF.out (by omega)
  refine HC.mono ?_
  clear HC HI
  rintro e w2 ⟨nv, A2, n2, c2, m, rfl, hg, hrow, hml, b2⟩
  have V3 := Lib.hid ((V2.out.next b2).next (alloc_below w2 (.cells #[.slice A2 n2 c2, .int .i64 la] 51)))
  have HG := Lib.hid hg
  have HR3 := Lib.hid (show NRow 28 (w2.alloc (.cells #[.slice A2 n2 c2, .int .i64 la] 51)).drew W.heap.size nv m from NRow.drew (hrow.below (alloc_below w2 (.cells #[.slice A2 n2 c2, .int .i64 la] 51)) (Nat.le_refl _)))
  have hz2 : W.heap.size ≤ w2.heap.size := b2.size
  have k0 := ((alloc_below w2 (.cells #[.slice A2 n2 c2, .int .i64 la] 51)).cell (p := ⟨w1.heap.size, 0, none⟩) (show w1.heap.size < _ by omega)).trans ((b2.cell (p := ⟨w1.heap.size, 0, none⟩) (show w1.heap.size < _ by omega)).trans b0)
  have S2 := Lib.hid (st_alloc w2 A2 n2 c2 la)
  have HW := Lib.hid (show ∀ wx, NRow 28 wx W.heap.size nv m → Calls Tryz.prog 46 #[.int .u8 123, .string (bA key), nv] wx fun e w' => ∃ v, e = .returned v ∧ NRow 28 w' wx.heap.size v ((123, key, [], m.length + 1) :: m) ∧ Below wx.heap.size wx w' from fun wx hm => within_any 123 key nv W.heap.size m wx hm (by omega))
  clear hg hrow a0 a1 r0 r1 rf b0 b1 s0 s1 b2
  go_upto_region 8 with fail
  have hz3 : (w2.alloc (.cells #[.slice A2 n2 c2, .int .i64 la] 51)).heap.size = w2.heap.size + 1 := by simp
  generalize w2.alloc (.cells #[.slice A2 n2 c2, .int .i64 la] 51) = W3 at *
  have s0 := S2.out.c0; have s1 := S2.out.c1
  have n1 : ¬ w.heap.size + 1 = w1.heap.size := by omega
  have n2' : ¬ w.heap.size + 1 = w2.heap.size := by omega
  go_wp2_with fail
  go_region_held3 (fun wx => wx.cell? ⟨w1.heap.size, 0, none⟩ = some (.int .u8 123) ∧ wx.cell? ⟨w2.heap.size, 0, none⟩ = some (.slice A2 n2 c2) ∧ wx.cell? ⟨w2.heap.size, 1, none⟩ = some (.int .i64 la)) (go_keep)
    (first
    | (go_at_call 46; go_loud (with_reducible refine (HW.out _ HR3.out).mono ?_; rintro r w4 ⟨v, rfl, hr4, b4d⟩); have b4 := below_undrew b4d; have HR4 := Lib.hid hr4; have V4 := Lib.hid (V3.out.next b4); have k4 := (b4.cell (p := ⟨w1.heap.size, 0, none⟩) (show w1.heap.size < W3.heap.size by omega)).trans k0; have s40 := (b4.cell (p := ⟨w2.heap.size, 0, none⟩) (show w2.heap.size < W3.heap.size by omega)).trans s0; have s41 := (b4.cell (p := ⟨w2.heap.size, 1, none⟩) (show w2.heap.size < W3.heap.size by omega)).trans s1; have r0 := V4.out.r.c0; have r1 := V4.out.r.c1; have rf := V4.out.r.fr; clear hr4 b4 b4d))
  all_goals go_wp2
  have HF := V4.out.set A2 n2 c2 la
  have HN4 := HR4.out.keep (w' := (w4.setCell ⟨w.heap.size + 1, 0, none⟩ (.slice A2 n2 c2)).setCell ⟨w.heap.size + 1, 1, none⟩ (.int .i64 la)) (fun g hg => set2_lt w4 (w.heap.size + 1) _ _ g (by have h1 := (HR4.out.own hg).1; have h2 : W3.heap.size ≤ g := h1; omega))
  refine bodyPost_ret (vsc_result Tryz.results23 HF.1 rfl rfl rfl) rfl ?_
  have hz4 : w.heap.size ≤ W3.drew.heap.size := V3.out.b.size
  refine ⟨v, A2, n2, c2, (123, key, [], m.length + 1) :: m, by rw [wrap_e]; rfl, fun he => ?_, HN4.base hz4, by simp only [List.length_cons]; omega, HF.2⟩
  rw [wrap_e] at he
  rw [wrap_good he]
  obtain ⟨g1, g2, g3, g4⟩ := HG.out he
  exact ⟨by rw [g1], g2, g3, fun wx hx => g4 wx (HI1.out wx hx)⟩
/-- value, when inner is known. -/
theorem value_up {la : Int} {f : Nat} (hI : InR la f) : ValR la (f + 2) := by
  intro a cap ts key d w hin hcap hs hd hf hl
  match ts with
  | [] => exact rval_cut a cap la key d w _ rfl
  | x :: ts1 =>
    have hcap' : ts1.length + 1 ≤ cap := by simpa using hcap
    have hl' : ts1.length + 1 ≤ 1099511627775 := by simpa using hl
    have hf' : 4 * ts1.length ≤ f := by rw [List.length_cons] at hf; omega
    show Calls Tryz.prog 23 #[.agg #[.slice a (ts1.length + 1) cap, .int .i64 la], .string (bA key), .int .i64 (d : Nat)] w (RVp a (x :: ts1) la (vTr (eE (some la)) (f + 1 + 1) x key d ts1) w)
    by_cases h1 : ∃ ob, x.1 = opn ob
    · obtain ⟨ob, h1⟩ := h1
      rw [vTr_open h1]
      by_cases hd2 : d = 32
      · subst hd2
        rw [pTr_deep rfl, wrap_bad (by decide)]
        cases ob
        · exact rval_deepL x a cap ts1 la key w _ rfl h1 hin hcap' (by omega)
        · exact rval_deepO x a cap ts1 la key w _ rfl h1 hin hcap' (by omega)
      · rw [pTr_rp hd2]
        cases ob
        · exact rval_openL x a cap ts1 la key d w hI hs (by omega) hf' h1 hin hcap' (by omega)
        · exact rval_openO x a cap ts1 la key d w hI hs (by omega) hf' h1 hin hcap' (by omega)
    · by_cases h2 : tSign x.1 = true
      · rw [vTr_bad h2 (fun ob e => h1 ⟨ob, e⟩)]
        exact rval_sign x a cap ts1 la key d w _ rfl (fun ob e => h1 ⟨ob, e⟩) h2 hin hcap' (by omega)
      · rw [vTr_leaf h2]
        exact rval_leaf x a cap ts1 la key d w _ rfl (by simpa using h2) hin hcap' (by omega)
theorem value_none {la : Int} {f : Nat} (hf : f ≤ 1) : ValR la f := by
  intro a cap ts key d w hin hcap hs hd hf2 hl
  match ts with
  | [] => exact rval_cut a cap la key d w _ rfl
  | x :: ts1 => rw [List.length_cons] at hf2; omega
end Go.Proofs.YtnbhhnkcfbfdcaaGreatDoor
/- The document's inner (package truchmanref13): what a round tells, its blocks. -/
namespace Go.Proofs.YtnbhhnkcfbfdcaaGreatDoor
open Go Go.RowKit
set_option linter.unusedVariables false

/-- The parts from the first of some tokens on. -/
def mR (E : Int) (g : Nat) (ob : Bool) (d : Nat) (K : List (List UInt8)) : List TK → TRs
  | [] => ⟨[], [], E⟩
  | u :: ts => mTr E g ob u d K ts
/-- R is what was read, and behind it R1. -/
def Fits (R : TRs) (acc : List ND) (R1 : TRs) : Prop := R.e = R1.e ∧ (R1.e = 0 → R.l = acc ++ R1.l ∧ R.r = R1.r)
theorem Fits.refl (R : TRs) : Fits R [] R := ⟨rfl, fun _ => ⟨rfl, rfl⟩⟩
theorem Fits.front {R : TRs} {acc l : List ND} {R1 : TRs} (h : Fits R acc (R1.front l)) : Fits R (acc ++ l) R1 := by
  obtain ⟨h1, h2⟩ := h
  rw [front_e] at h1 h2
  refine ⟨h1, fun h => ?_⟩
  have := h2 h
  rw [front_good l h] at this
  simp only at this
  rw [List.append_assoc]
  exact this
/-- What a part tells of the whole. -/
structure Tl (E : Int) (g : Nat) (ob : Bool) (d : Nat) (R : TRs) (acc : List ND) (R1 : TRs) (K : List (List UInt8)) : Prop where
  bad : R1.e ≠ 0 → R.e = R1.e
  cut : R1.e = 0 → R1.r = [] → R.e = E
  fin : ∀ c r1, R1.e = 0 → R1.r = c :: r1 → c.1 = cls ob → R.e = 0 ∧ R.l = acc ++ R1.l ∧ R.r = r1
  form : ∀ c r1, R1.e = 0 → R1.r = c :: r1 → ¬ c.1 = cls ob → ¬ c.1 = 44 → R.e = 3
  more : ∀ c r1, R1.e = 0 → R1.r = c :: r1 → ¬ c.1 = cls ob → c.1 = 44 → Fits R (acc ++ R1.l) (mR E g ob d K r1)
theorem tl_of {E : Int} (hE : E ≠ 0) {g : Nat} {ob : Bool} {u : TK} {d : Nat} {K : List (List UInt8)} {ts : List TK} {R : TRs} {acc : List ND} (h : Fits R acc (mTr E (g + 1) ob u d K ts)) : Tl E g ob d R acc (gTr E g ob u d K ts) (addK ob K u) where
  bad := fun h1 => by rw [h.1, mTr_bad h1]
  cut := fun h1 h2 => by rw [h.1, mTr_cut h1 h2]
  fin := fun c r1 h1 h2 h3 => by
    have e := mTr_end (d := d) (keys := K) h1 h2 h3
    rw [e] at h
    exact ⟨h.1, h.2 rfl⟩
  form := fun c r1 h1 h2 h3 h4 => by rw [h.1, mTr_form h1 h2 h3 h4]
  more := fun c r1 h1 h2 h3 h4 => by
    match r1 with
    | [] =>
      have e := mTr_cut2 h1 h2 h3 h4
      rw [e] at h
      exact ⟨h.1, fun e => absurd e hE⟩
    | u2 :: r2 =>
      have e := mTr_more h1 h2 h3 h4
      rw [e] at h
      exact h.front
theorem tl_list {E : Int} (hE : E ≠ 0) {g d : Nat} {ts : List TK} {R : TRs} {acc : List ND} (h : Fits R acc (mR E (g + 2) false d [] ts)) : Tl E (g + 1) false d R acc (rvT E g d [] ts) [] := by
  match ts with
  | [] => exact ⟨fun _ => h.1, fun e => absurd e hE, fun _ _ e => absurd e hE, fun _ _ e => absurd e hE, fun _ _ e => absurd e hE⟩
  | u :: ts1 =>
    have := tl_of hE h
    rw [gTr_list] at this
    exact this
theorem tl_obj {E : Int} (hE : E ≠ 0) {g d : Nat} {u c : TK} {ts : List TK} {K : List (List UInt8)} {R : TRs} {acc : List ND} (h : Fits R acc (mR E (g + 2) true d K (u :: c :: ts))) (hu : u.1 = 115) (hk : ¬ u.2 ∈ K) (hc : c.1 = 58) : Tl E (g + 1) true d R acc (rvT E g d u.2 ts) (K ++ [u.2]) := by
  have := tl_of hE h
  match ts with
  | [] =>
    rw [gTr_cut2 hu hk hc] at this
    exact this
  | v :: ts2 =>
    rw [gTr_some hu hk hc] at this
    exact this
theorem ob_cut {E : Int} {g d : Nat} {K : List (List UInt8)} {R : TRs} {acc : List ND} {ob : Bool} (h : Fits R acc (mR E (g + 2) ob d K [])) : R.e = E := h.1
section
variable {E : Int} (hE : E ≠ 0) {g d : Nat} {u c : TK} {ts : List TK} {K : List (List UInt8)} {R : TRs} {acc : List ND}
include hE
theorem ob_kind (h : Fits R acc (mR E (g + 2) true d K (u :: ts))) (hu : ¬ u.1 = 115) : R.e = 3 := by
  have := (tl_of hE h).bad
  rw [gTr_kind hu] at this
  exact this (by decide)
theorem ob_twice (h : Fits R acc (mR E (g + 2) true d K (u :: ts))) (hu : u.1 = 115) (hk : u.2 ∈ K) : R.e = 8 := by
  have := (tl_of hE h).bad
  rw [gTr_twice hu hk] at this
  exact this (by decide)
theorem ob_cut2 (h : Fits R acc (mR E (g + 2) true d K [u])) (hu : u.1 = 115) (hk : ¬ u.2 ∈ K) : R.e = E := by
  have := (tl_of hE h).bad
  rw [gTr_cut hu hk] at this
  exact this hE
theorem ob_form (h : Fits R acc (mR E (g + 2) true d K (u :: c :: ts))) (hu : u.1 = 115) (hk : ¬ u.2 ∈ K) (hc : ¬ c.1 = 58) : R.e = 3 := by
  have := (tl_of hE h).bad
  rw [gTr_form hu hk hc] at this
  exact this (by decide)
theorem rv_len {key : List UInt8} (hs : SgE ts) (h : (rvT E g d key ts).e = 0) :
    (rvT E g d key ts).r.length + 1 ≤ ts.length ∧ (rvT E g d key ts).l.length + (rvT E g d key ts).r.length ≤ ts.length ∧ SgE (rvT E g d key ts).r := by
  match ts with
  | [] => exact absurd h hE
  | t :: ts1 =>
    obtain ⟨h1, h2, h3⟩ := vTr_len hE hs (show (vTr E g t key d ts1).e = 0 from h)
    exact ⟨by show (vTr E g t key d ts1).r.length + 1 ≤ _; rw [List.length_cons]; omega, by show (vTr E g t key d ts1).l.length + (vTr E g t key d ts1).r.length ≤ _; rw [List.length_cons]; omega, h3⟩
end
theorem bA_eq {l m : List UInt8} (h : bA l = bA m) : l = m := by
  have h1 := congrArg (fun b => b.data.toList) h
  simpa [bA] using h1
theorem keys_mem {k : List UInt8} {K : List (List UInt8)} : bA k ∈ K.map bA ↔ k ∈ K := by
  constructor
  · intro h
    obtain ⟨x, hx, e⟩ := List.mem_map.mp h
    rw [← bA_eq e]; exact hx
  · exact fun h => List.mem_map.mpr ⟨k, h, rfl⟩

/-- The first token, the others, the error, of some that are left. -/
def hdT (ts : List TK) : TK := ts.headD (0, [])
def cdT (E : Int) (ts : List TK) : Int := match ts with | [] => E | _ :: _ => 0
theorem cdT_ne (la : Int) : cdT (eE (some la)) [] ≠ 0 := eE_ne (some la)
theorem nx_any (a : Option Addr) (cap : Nat) (ts : List TK) (la : Int) (w : World) (hin : TInO w a ts) (hcap : ts.length ≤ cap) (hl : ts.length ≤ 1099511627776) :
    Calls Tryz.prog 44 #[.agg #[.slice a ts.length cap, .int .i64 la]] w fun e w' => ∃ A c, e = .returned (.tuple #[tkV (hdT ts), .agg #[.slice A ts.tail.length c, .int .i64 la], .int .i64 (cdT (eE (some la)) ts)]) ∧ ts.tail.length ≤ c ∧ (∀ wx, TInO wx a ts → TInO wx A ts.tail) ∧ Below w.heap.size w w' := by
  match ts with
  | [] =>
    refine (rn_none a cap la w).mono ?_
    rintro e w' ⟨rfl, hb⟩
    exact ⟨a, cap, rfl, Nat.zero_le _, fun _ h => h, hb⟩
  | x :: ts1 =>
    have hl' : ts1.length ≤ 1099511627776 := by rw [List.length_cons] at hl; omega
    refine (rn_some a cap x ts1 la w hin (by simpa using hcap) hl').mono ?_
    rintro e w' ⟨A, rfl, h, hb⟩
    exact ⟨A, cap - 1, rfl, by simp at hcap ⊢; omega, h, hb⟩

/-- All that lay there stays, but the block of v. -/
structure Gb (v : Value) (w w' : World) : Prop where
  os : w'.os = w.os
  tape : w'.tape = w.tape
  output : w'.output = w.output
  size : w.heap.size ≤ w'.heap.size
  block : ∀ k, k < w.heap.size → some k ≠ v.ownBlock → w'.heap[k]? = w.heap[k]?
theorem Gb.cell {v : Value} {w w' : World} (h : Gb v w w') {g o : Nat} (hg : g < w.heap.size) (hn : some g ≠ v.ownBlock) : w'.cell? ⟨g, o, none⟩ = w.cell? ⟨g, o, none⟩ := World.cell?_of_block (h.block g hg hn)
theorem SBts.own {w : World} {B : Nat} {v : Value} {l : List ByteArray} (h : SBts w B v l) {g : Nat} (hg : v.ownBlock = some g) : B ≤ g ∧ g < w.heap.size ∧ ∃ cur, w.heap[g]? = some (.cells cur 9 (0, 0)) := by
  rcases h.2 with ⟨rfl, _⟩ | ⟨g', cap, cur, rfl, h2, h3, _⟩
  · cases hg
  · simp [Value.ownBlock] at hg
    subst hg
    exact ⟨h2, lt_of_block h3, cur, h3⟩
theorem SBts.keep {w w' : World} {B : Nat} {v : Value} {l : List ByteArray} (h : SBts w B v l) (hk : ∀ g, v.ownBlock = some g → w'.heap[g]? = w.heap[g]?) : SBts w' B v l := by
  obtain ⟨hl, h⟩ := h
  refine ⟨hl, ?_⟩
  rcases h with h | ⟨g, cap, cur, h1, h2, h3, h4⟩
  · exact .inl h
  · exact .inr ⟨g, cap, cur, h1, h2, (hk g (by rw [h1]; rfl)).trans h3, h4⟩
/-- Nodes and keys are not in one block. -/
theorem apart {w : World} {B C : Nat} {v k : Value} {l : List ND} {m : List ByteArray} (h : NRow 28 w B v l) (h2 : SBts w C k m) {g : Nat} (hv : v.ownBlock = some g) : some g ≠ k.ownBlock := fun e => by
  obtain ⟨_, _, c1, e1⟩ := h.own hv
  obtain ⟨_, _, c2, e2⟩ := h2.own e.symm
  rw [e1] at e2
  simp only [Option.some.injEq, Obj.cells.injEq] at e2
  exact absurd e2.2.1 (by decide)
theorem NRow.gbk {w w' : World} {B C : Nat} {v k : Value} {l : List ND} {m : List ByteArray} (h : NRow 28 w B v l) (h2 : SBts w C k m) (hg : Gb k w w') : NRow 28 w' B v l :=
  h.keep fun g hv => hg.block g (h.own hv).2.1 (apart h h2 hv)
theorem SBts.gbn {w w' : World} {B C : Nat} {v k : Value} {l : List ND} {m : List ByteArray} (h2 : SBts w C k m) (h : NRow 28 w B v l) (hg : Gb v w w') : SBts w' C k m :=
  h2.keep fun g hk => hg.block g (h2.own hk).2.1 fun e => apart h h2 e.symm hk.symm
/-- 'append(nodes, more...)': what else lies there stays. -/
theorem wpList_append_ndg {P : Program} {ops : Array Oper} {rest : List Oper} {o : Oper} {a : Act} {w : World} {Q : Exit → Act → World → Prop} (hgd : o.guard = none) (sl x : Operand) (t : TypeId)
    (ho : o.op = .call { callee := .builtin .append, args := #[sl, x], argTypes := #[t, t] })
    (e : TypeId) (ht : P.underlying t = some (.slice e)) (hi : (P.info? e).map (fun i => (i.zero, i.size, i.bytes)) = some (some (.agg #[.int .u8 0, .string ⟨#[]⟩, .string ⟨#[]⟩, .int .i64 0]), 4, 48))
    (v : Value) (B : Nat) (l : List ND) (hb : NRow e w B v l) (hB : B ≤ w.heap.size) (hs : a.eval sl = v)
    (u : Value) (C : Nat) (m : List ND) (hm : NRow e w C u m) (hx : a.eval x = u) (hlen : l.length + m.length ≤ 1099511627776)
    (h : ∀ v' w', NRow e w' B v' (l ++ m) → Gb v w w' → wpList P ops Q rest (a.put o.dst v') w') : wpList P ops Q (o :: rest) a w := by
  obtain ⟨i0, hi, hz, hz1, hz2⟩ := info_parts hi
  rcases hm.2 with ⟨rfl, hn⟩ | ⟨g, cap, cur, rfl, _, hg, _⟩
  · have h0 : m = [] := List.eq_nil_of_length_eq_zero hn
    subst h0
    refine wpList_append_own_none hgd sl x t ho B e i0 4 ht hi v l.length (ndCs l) hs hb hx ?_
    exact h v w (by rw [List.append_nil]; exact hb) ⟨rfl, rfl, rfl, Nat.le_refl _, fun _ _ _ => rfl⟩
  · refine wpList_append_own w hgd sl x t ho B e i0 (.agg #[.int .u8 0, .string ⟨#[]⟩, .string ⟨#[]⟩, .int .i64 0]) 4 48 ht hi hz hz1 hz2 rfl (by decide) v l.length (ndCs l) hs hb ⟨g, 0, none⟩ m.length cap (ndCs m) hx (ndCs_length m) (World.ownsRow.cells hm rfl) (ndCs_one _) (by unfold maxLen; omega) (by omega) hB ?_
    intro v' w' hown hgr _
    refine h v' w' ?_ ⟨hgr.os, hgr.tape, hgr.output, hgr.size, fun k hk hne => hgr.block k hk hne⟩
    unfold NRow
    rw [ndCs_append, List.length_append]
    exact hown
/-- 'append(keys, key)'. -/
theorem wpList_append_keyg {ops : Array Oper} {rest : List Oper} {o : Oper} {a : Act} {Q : Exit → Act → World → Prop} (hgd : o.guard = none) (sl x : Operand)
    (ho : o.op = .call { callee := .builtin .append, args := #[sl, x], argTypes := #[103, 103] })
    (v : Value) (wr : World) (B : Nat) (l : List ByteArray) (hb : SBts wr B v l) (hB : B ≤ wr.heap.size) (hs : a.eval sl = v)
    (s : ByteArray) (hx : a.eval x = .slice (some ⟨wr.heap.size, 0, none⟩) 1 1) (hlen : l.length ≤ 1099511627776)
    (h : ∀ v' w', SBts w' B v' (l ++ [s]) → Gb v wr w' → wpList Tryz.prog ops Q rest (a.put o.dst v') w') :
    wpList Tryz.prog ops Q (o :: rest) a (wr.alloc (.cells #[.string s] 9)) := by
  obtain ⟨i0, hi, hz, hz1, hz2⟩ := info_parts infoS
  refine wpList_append_own _ hgd sl x 103 ho B 9 i0 (.string ⟨#[]⟩) 1 16 Tryz.underlying103 hi hz hz1 hz2 rfl (by decide) v l.length (sV l) hs (World.ownsRow.alloc hb _) ⟨wr.heap.size, 0, none⟩ 1 1 [.string s] hx rfl ?_ ?_ (by unfold maxLen; omega) (by omega) (by simp; omega) ?_
  · intro j u hj
    match j, hj with
    | 0, hj =>
      simp at hj
      subst hj
      have h1 := heap_alloc_new wr (.cells #[.string s] 9)
      show World.cell? _ ⟨wr.heap.size, 0 + 0, none⟩ = _
      simp only [World.cell?]
      rw [h1]; rfl
  · intro u hu; simp at hu; subst hu; rfl
  · intro v' w' hown hgr _
    refine h v' w' ?_ ?_
    · unfold SBts
      rw [sV_append, List.length_append]
      exact hown
    · refine ⟨hgr.os, hgr.tape, hgr.output, by have := hgr.size; simp at this; omega, fun k hk hne => ?_⟩
      rw [hgr.block k (by simp; omega) hne]
      exact Below.heap_alloc _ _ _ (by omega)

/-- inner's blocks: the state, the one that it tells, a token, the state behind that. -/
structure InB (w wr : World) (T : Nat) (a : Option Addr) (n cap : Nat) (la : Int) (x : TK) (a2 : Option Addr) (n2 c2 : Nat) : Prop where
  s : StT wr w.heap.size a n cap la
  r : StT wr (w.heap.size + 1) none 0 0 0
  t : TkT 78 wr T x
  q : StT wr (T + 1) a2 n2 c2 la
  hT : w.heap.size + 2 ≤ T
  b : Below w.heap.size w wr
section
variable {w wr w' : World} {T : Nat} {a : Option Addr} {n cap : Nat} {la : Int} {x : TK} {a2 : Option Addr} {n2 c2 : Nat}
theorem InB.vl (h : InB w wr T a n cap la x a2 n2 c2) : VlB w wr a n cap la := ⟨h.s, h.r, h.b⟩
theorem InB.next (h : InB w wr T a n cap la x a2 n2 c2) (hb : Below wr.heap.size wr w') : InB w w' T a n cap la x a2 n2 c2 :=
  ⟨h.s.below hb h.s.lt, h.r.below hb h.r.lt, h.t.below hb h.t.lt, h.q.below hb h.q.lt, h.hT, h.b.trans (hb.mono h.b.size)⟩
theorem InB.gb (h : InB w wr T a n cap la x a2 n2 c2) {v : Value} (hg : Gb v wr w') (hv : ∀ k, v.ownBlock = some k → T + 2 ≤ k) : InB w w' T a n cap la x a2 n2 c2 := by
  have hn : ∀ k, k < T + 2 → some k ≠ v.ownBlock := fun k hk e => by have := hv k e.symm; omega
  have hl := h.hT
  have hz := h.b.size
  refine ⟨(hg.block _ h.s.lt (hn _ (by omega))).trans h.s, (hg.block _ h.r.lt (hn _ (by omega))).trans h.r, (hg.block _ h.t.lt (hn _ (by omega))).trans h.t, (hg.block _ h.q.lt (hn _ (by omega))).trans h.q, hl, ?_⟩
  exact h.b.trans ⟨hg.os, hg.tape, hg.output, hg.size, fun k hk => hg.block k (by omega) (hn k (by omega))⟩
/-- Stores of a token and of the state. -/
theorem InB.setS (h : InB w wr T a n cap la x a2 n2 c2) (y : TK) (A : Option Addr) (m c : Nat) :
    InB w ((((wr.setCell ⟨T, 0, none⟩ (.int .u8 (y.1.toNat : Int))).setCell ⟨T, 1, none⟩ (.string (bA y.2))).setCell ⟨w.heap.size, 0, none⟩ (.slice A m c)).setCell ⟨w.heap.size, 1, none⟩ (.int .i64 la)) T A m c la y a2 n2 c2 := by
  have hl := h.hT
  have e1 : ∀ k, k ≠ T → ((wr.setCell ⟨T, 0, none⟩ (.int .u8 (y.1.toNat : Int))).setCell ⟨T, 1, none⟩ (.string (bA y.2))).heap[k]? = wr.heap[k]? := set2_lt wr T _ _
  have h1 := h.t.setAll y
  have hs : StT ((wr.setCell ⟨T, 0, none⟩ (.int .u8 (y.1.toNat : Int))).setCell ⟨T, 1, none⟩ (.string (bA y.2))) w.heap.size a n cap la := (e1 _ (by omega)).trans h.s
  have hb := set2_below (b := T) h.b (by omega) (.int .u8 (y.1.toNat : Int)) (.string (bA y.2))
  have hr := (e1 (w.heap.size + 1) (by omega)).trans h.r
  have hq := (e1 (T + 1) (by omega)).trans h.q
  generalize (wr.setCell ⟨T, 0, none⟩ (.int .u8 (y.1.toNat : Int))).setCell ⟨T, 1, none⟩ (.string (bA y.2)) = w1 at *
  exact ⟨hs.setAll A m c la, (set2_lt w1 w.heap.size _ _ _ (by omega)).trans hr, (set2_lt w1 w.heap.size _ _ _ (by omega)).trans h1, (set2_lt w1 w.heap.size _ _ _ (by omega)).trans hq, hl, set2_below hb (Nat.le_refl _) _ _⟩
/-- .. of a token and of the state behind it. -/
theorem InB.setQ (h : InB w wr T a n cap la x a2 n2 c2) (y : TK) (A : Option Addr) (m c : Nat) :
    InB w ((((wr.setCell ⟨T, 0, none⟩ (.int .u8 (y.1.toNat : Int))).setCell ⟨T, 1, none⟩ (.string (bA y.2))).setCell ⟨T + 1, 0, none⟩ (.slice A m c)).setCell ⟨T + 1, 1, none⟩ (.int .i64 la)) T a n cap la y A m c := by
  have hl := h.hT
  have e1 : ∀ k, k ≠ T → ((wr.setCell ⟨T, 0, none⟩ (.int .u8 (y.1.toNat : Int))).setCell ⟨T, 1, none⟩ (.string (bA y.2))).heap[k]? = wr.heap[k]? := set2_lt wr T _ _
  have h1 := h.t.setAll y
  have hs := (e1 w.heap.size (by omega)).trans h.s
  have hb := set2_below (b := T) h.b (by omega) (.int .u8 (y.1.toNat : Int)) (.string (bA y.2))
  have hr := (e1 (w.heap.size + 1) (by omega)).trans h.r
  have hq : StT ((wr.setCell ⟨T, 0, none⟩ (.int .u8 (y.1.toNat : Int))).setCell ⟨T, 1, none⟩ (.string (bA y.2))) (T + 1) a2 n2 c2 la := (e1 (T + 1) (by omega)).trans h.q
  generalize (wr.setCell ⟨T, 0, none⟩ (.int .u8 (y.1.toNat : Int))).setCell ⟨T, 1, none⟩ (.string (bA y.2)) = w1 at *
  exact ⟨(set2_lt w1 (T + 1) _ _ _ (by omega)).trans hs, (set2_lt w1 (T + 1) _ _ _ (by omega)).trans hr, (set2_lt w1 (T + 1) _ _ _ (by omega)).trans h1, hq.setAll A m c la, hl, set2_below hb (by omega) _ _⟩
end
/-- Stores into blocks ahead of B leave lists from B on. -/
theorem NRow.set2 {e : TypeId} {w : World} {B b : Nat} {v : Value} {l : List ND} (h : NRow e w B v l) (hb : b < B) (x y : Value) : NRow e ((w.setCell ⟨b, 0, none⟩ x).setCell ⟨b, 1, none⟩ y) B v l :=
  h.keep fun g hg => set2_lt w b x y g (by have := (h.own hg).1; omega)
theorem SBts.set2 {w : World} {B b : Nat} {v : Value} {l : List ByteArray} (h : SBts w B v l) (hb : b < B) (x y : Value) : SBts ((w.setCell ⟨b, 0, none⟩ x).setCell ⟨b, 1, none⟩ y) B v l :=
  h.keep fun g hg => set2_lt w b x y g (by have := (h.own hg).1; omega)
theorem SBts.sin {w : World} {B : Nat} {a : Option Addr} {n c : Nat} {l : List ByteArray} (h : SBts w B (.slice a n c) l) : SIn w a l := by
  obtain ⟨a2, c2, e, h2⟩ := h.inn
  simp only [Value.slice.injEq] at e
  rw [e.1]; exact h2
/-- Where inner's loop stands: nodes nv, keys kv, what is left. -/
def InRel (f : Nat) (w : World) (T : Nat) (ob : Bool) (la : Int) (d : Nat) (R : TRs) (a0 : Option Addr) (ts0 : List TK) (nv kv i : Value) (wr : World) : Prop :=
  ∃ (g : Nat) (acc : List ND) (K : List (List UInt8)) (ts : List TK) (a : Option Addr) (cap : Nat) (x : TK) (a2 : Option Addr) (n2 c2 j : Nat),
    InB w wr T a ts.length cap la x a2 n2 c2 ∧ NRow 28 wr (T + 2) nv acc ∧ SBts wr (T + 2) kv (K.map bA) ∧ i = .int .i64 (j : Nat) ∧ j + ts.length ≤ ts0.length ∧ acc.length + ts.length ≤ ts0.length ∧ K.length ≤ j ∧
    g + 2 ≤ f ∧ 4 * ts.length ≤ g + 2 ∧ ts.length ≤ cap ∧ SgE ts ∧ (∀ wx, TInO wx a0 ts0 → TInO wx a ts) ∧ Fits R acc (mR (eE (some la)) (g + 2) ob d K ts) ∧ (ob = false → K = [])
end Go.Proofs.YtnbhhnkcfbfdcaaGreatDoor
