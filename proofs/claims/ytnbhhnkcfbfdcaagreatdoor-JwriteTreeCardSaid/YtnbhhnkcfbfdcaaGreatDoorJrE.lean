/- Package jtree: parts, over a closure that reads a part; list, object; all of them. -/
import Derived.Test.YtnbhhnkcfbfdcaaGreatDoorZT
import Derived.Deep.LoopGhost
namespace Go.Proofs.YtnbhhnkcfbfdcaaGreatDoor
open Go Go.RowKit Go.Maps
set_option linter.unusedVariables false

/-- R is X with nodes ahead. -/
def Frt (pre : List ND) (X R : TRs) : Prop := R.e = X.e ∧ (X.e = 0 → R.l = pre ++ X.l ∧ R.r = X.r)
theorem frt_more {pre l : List ND} {X R : TRs} (h : Frt pre (X.front l) R) : Frt (pre ++ l) X R := by
  obtain ⟨h1, h2⟩ := h
  rw [front_e] at h1 h2
  refine ⟨h1, fun e => ?_⟩
  obtain ⟨h3, h4⟩ := h2 e
  rw [front_good l e] at h3 h4
  exact ⟨by rw [h3, List.append_assoc], h4⟩
theorem TkT.setTok {t : TypeId} {w : World} {b : Nat} {x : TK} (h : TkT t w b x) (y : TK) : TkT t ((w.setCell ⟨b, 0, none⟩ (.int .u8 (y.1.toNat : Int))).setCell ⟨b, 1, none⟩ (.string (bA y.2))) b y := h.setAll y
theorem setTk_lt (w : World) (b : Nat) (y : TK) : ∀ k, k ≠ b → ((w.setCell ⟨b, 0, none⟩ (.int .u8 (y.1.toNat : Int))).setCell ⟨b, 1, none⟩ (.string (bA y.2))).heap[k]? = w.heap[k]? := fun k hk =>
  (RowKit.Below.heap_setCell _ _ _ _ hk).trans (RowKit.Below.heap_setCell _ _ _ _ hk)
theorem setTk_size (w : World) (b : Nat) (y : TK) : ((w.setCell ⟨b, 0, none⟩ (.int .u8 (y.1.toNat : Int))).setCell ⟨b, 1, none⟩ (.string (bA y.2))).heap.size = w.heap.size := by simp
theorem RdS.setTk {cb rb B b : Nat} {w : World} {v : Value} {L : List ND} {ts : List TK} {la : Option Int} {x : TK} (h : RdS w cb rb B v L ts la) (ht : TkT 68 w b x) (hb : B ≤ b) (y : TK) :
    RdS ((w.setCell ⟨b, 0, none⟩ (.int .u8 (y.1.toNat : Int))).setCell ⟨b, 1, none⟩ (.string (bA y.2))) cb rb B v L ts la :=
  h.keepX (m := b) (Nat.le_of_eq (setTk_size w b y).symm) (fun k _ hk => setTk_lt w b y k hk) hb (nn_of ht (by decide))
theorem Kp.setTk {M cb rb B b : Nat} {w : World} (hb : M ≤ b) (y : TK) : Kp M cb rb B w ((w.setCell ⟨b, 0, none⟩ (.int .u8 (y.1.toNat : Int))).setCell ⟨b, 1, none⟩ (.string (bA y.2))) :=
  ⟨rfl, rfl, rfl, Nat.le_of_eq (setTk_size w b y).symm, fun k hk _ _ _ => setTk_lt w b y k (by omega)⟩
theorem CapL.setTk {rb d M pr pd b : Nat} {w : World} {x : TK} (h : CapL rb d M pr pd w) (ht : TkT 68 w b x) (y : TK) : CapL rb d M pr pd ((w.setCell ⟨b, 0, none⟩ (.int .u8 (y.1.toNat : Int))).setCell ⟨b, 1, none⟩ (.string (bA y.2))) := by
  have hne : ∀ k cs (t : TypeId), w.heap[k]? = some (.cells cs t (0, 0)) → t ≠ 68 → k ≠ b := fun k cs t h1 h2 e => by
    unfold TkT at ht
    rw [e, ht] at h1
    simp only [Option.some.injEq, Obj.cells.injEq] at h1
    exact h2 h1.2.1.symm
  exact h.keep (setTk_lt w b y _ (hne _ _ _ h.r (by decide))) (setTk_lt w b y _ (hne _ _ _ h.d (by decide)))
theorem CapO.setTk {rb d M pk pr pd m b : Nat} {keys : List (List UInt8)} {w : World} {x : TK} (h : CapO rb d M pk pr pd m keys w) (ht : TkT 68 w b x) (y : TK) : CapO rb d M pk pr pd m keys ((w.setCell ⟨b, 0, none⟩ (.int .u8 (y.1.toNat : Int))).setCell ⟨b, 1, none⟩ (.string (bA y.2))) := by
  have hne : ∀ k cs (t : TypeId), w.heap[k]? = some (.cells cs t (0, 0)) → t ≠ 68 → k ≠ b := fun k cs t h1 h2 e => by
    unfold TkT at ht
    rw [e, ht] at h1
    simp only [Option.some.injEq, Obj.cells.injEq] at h1
    exact h2 h1.2.1.symm
  refine h.keep (setTk_lt w b y _ (hne _ _ _ h.cl.r (by decide))) (setTk_lt w b y _ (hne _ _ _ h.cl.d (by decide))) (setTk_lt w b y _ (hne _ _ _ h.k (by decide))) (setTk_lt w b y _ (fun e => ?_))
  obtain ⟨D, ⟨es, clock, h1, _⟩, _⟩ := h.own
  unfold TkT at ht
  rw [e, ht] at h1; cases h1
/-- Between two parts: which tokens are left, what was read. -/
def PRel (N cb rb B M T d : Nat) (ob : Bool) (C : List (List UInt8) → World → Prop) (L : List ND) (la : Option Int) (R : TRs) (w : World) (k : Nat) (wr : World) : Prop :=
  ∃ (f : Nat) (v : Value) (u : TK) (keys : List (List UInt8)) (ts : List TK) (pre : List ND), k = ts.length ∧ RdS wr cb rb B v (L ++ pre) ts la ∧ TkT 68 wr T u ∧ C keys wr ∧ Kp M cb rb B w wr ∧ SgE (u :: ts) ∧ 4 * ts.length + 4 ≤ f ∧ (L ++ pre).length + ts.length + 1 ≤ 1099511627776 ∧ keys.length + ts.length ≤ 1099511627776 ∧ Frt pre (mTr (eE la) f ob u (d + 1) keys ts) R ∧ f ≤ N

def GL (N cb rb B M d pr pd : Nat) (la : Option Int) : Prop := ∀ (f : Nat) (w : World) (v : Value) (L : List ND) (u : TK) (keys : List (List UInt8)) (ts : List TK), f ≤ N → GHyp cb rb B M f d false w v L u keys ts la → CapL rb d M pr pd w →
  Calls Tryz.prog 72 #[tkV u, .pointer (some ⟨pr, 0, none⟩), .pointer (some ⟨pd, 0, none⟩)] w (GPost M cb rb B L la (gTr (eE la) f false u (d + 1) keys ts) (CapL rb d M pr pd) w)
set_option maxRecDepth 20000 in
set_option maxHeartbeats 4000000 in
theorem partsL_any {N cb rb B M d pr pd f : Nat} {la : Option Int} (HG0 : GL N cb rb B M d pr pd la) (w : World) (v : Value) (L : List ND) (ts : List TK) (h : RdS w cb rb B v L ts la) (hc : CapL rb d M pr pd w) (hBM : B ≤ M) (hM : M ≤ w.heap.size) (hs : SgE ts) (hd : d ≤ 32) (hf : 4 * ts.length + 1 ≤ f + 1) (hN : f ≤ N) (hL : L.length + ts.length ≤ 1099511627776) (hk : Kn la (pTr (eE la) (f + 1) false d ts)) :
    Calls Tryz.prog 71 #[.pointer (some ⟨rb, 0, none⟩), .int .u8 93, .int .i64 (d : Nat), .func (.func 72) #[] #[.pointer (some ⟨pr, 0, none⟩), .pointer (some ⟨pd, 0, none⟩)]] w (VPost M cb rb B L la (pTr (eE la) (f + 1) false d ts) w) := by
  have hcM : cb < M := by have := h.lc; omega
  have hrM : rb < M := by have := h.lr; omega
  by_cases h32 : d = 32
  · subst h32
    have HQ := Lib.hid (show VPost M cb rb B L la (pTr (eE la) (f + 1) false 32 ts) w (pan 33) w from vpost_no (by rw [pTr_deep rfl]) (by decide) (Kp.refl w))
    clear h hc hk HG0
    go_enter Tryz.func71, Tryz.ntmps71
    go_wp2
    exact ⟨rfl, HQ.out⟩
  · have p0 : ((d : Int) == 32) = false := beq_eq_false_iff_ne.mpr (by omega)
    have hd2 : d < 32 := by omega
    clear hd
    cases ts with
    | nil =>
      have hR := pTr_cut (E := eE la) (f := f) (ob := false) h32
      obtain ⟨x, rfl⟩ : ∃ x, la = some x := by
        cases la with
        | some x => exact ⟨x, rfl⟩
        | none => exact absurd (show (pTr (eE none) (f + 1) false d []).e = -1 by rw [hR]; rfl) (hk rfl)
      have HN := Lib.hid (token_none h)
      have HE := Lib.hid (show (pTr (eE (some x)) (f + 1) false d []).e = eE (some x) by rw [hR])
      generalize pTr (eE (some x)) (f + 1) false d [] = R at *
      clear hR hk HG0 h hc h32
      go_enter Tryz.func71, Tryz.ntmps71
      go_wp2_with fail
      with_reducible refine HN.out.mono ?_
      rintro e w1 ⟨rfl, o1⟩
      have HQ := Lib.hid (vpost_no (L := L) (la := some x) (rb := rb) (B := B) HE.out (eE_ne _) (Kp.of_only o1 hM))
      clear o1
      unfold pan
      go_wp2
      exact ⟨rfl, HQ.out⟩
    | cons u ts1 =>
      have HN := Lib.hid (token_some h)
      have HC0 := Lib.hid hc
      generalize hRR : pTr (eE la) (f + 1) false d (u :: ts1) = R at *
      have HR := Lib.hid hRR
      have HK := Lib.hid hk
      have HS := Lib.hid hs
      have HB := Lib.hid (And.intro hf (And.intro hN hL))
      have H32 := Lib.hid h32
      have HG := Lib.hid HG0
      clear h hc hRR hk HG0 h32 hs hf hN hL
      go_enter Tryz.func71, Tryz.ntmps71
      go_wp2_with fail
      with_reducible refine HN.out.mono ?_
      rintro e w1 ⟨rfl, s1, o1⟩
      have g2 := tk_laid (w := w1) u 68
      have b2 := alloc_below w1 (.cells #[.int .u8 (u.1.toNat : Int), .string (bA u.2)] 68)
      have S2 := Lib.hid (s1.next b2)
      have hM1 : M ≤ w1.heap.size := Nat.le_trans hM o1.size
      have K2 := Lib.hid ((Kp.of_only (rb := rb) (B := B) o1 hM).trans (Kp.of_below b2 hM1))
      have C2 := Lib.hid ((HC0.out.only o1 hcM).next b2)
      have hM2 := Nat.le_trans hM1 b2.size
      have hMT : M ≤ w1.heap.size := hM1
      clear s1 o1 b2 HN HC0
      unfold tkV
      generalize hw2 : w1.alloc (.cells #[.int .u8 (u.1.toNat : Int), .string (bA u.2)] 68) = w2 at *
      go_upto_region 3 with fail
      (try rw [hw2])
      clear hw2
      generalize w1.heap.size = T at *
      have a0 := g2.c0
      have G2 := Lib.hid g2
      by_cases hcl : u.1 = cls false
      · have p1 : ((u.1.toNat : Int) == 93) = true := by rw [hcl]; rfl
        have HE := Lib.hid (show R = ⟨[], ts1, 0⟩ by rw [← HR.out]; exact pTr_none H32.out hcl)
        have HQ := Lib.hid (vpost_ok (L := L) (N := []) HE.out (by rw [List.append_nil]; exact S2.out) K2.out)
        clear hcl g2
        go_wp2
        first
          | (go_end0; exact HQ.out)
          | (refine bodyPost_ret (results_none rfl _ _ _) rfl ?_; exact HQ.out)
      · have p1 : ((u.1.toNat : Int) == 93) = false := (eq8 u.1 93).trans (decide_eq_false hcl)
        have HX := Lib.hid (show R = mTr (eE la) f false u (d + 1) [] ts1 by rw [← HR.out]; exact pTr_some H32.out hcl)
        have hr0 : PRel N cb rb B M T d false (fun _ => CapL rb d M pr pd) L la R w ts1.length w2 := by
          obtain ⟨hf, hN, hL⟩ := HB.out
          simp only [List.length_cons] at hf hL
          refine ⟨f, v, u, [], ts1, [], rfl, by rw [List.append_nil]; exact S2.out, G2.out, C2.out, K2.out, HS.out, by omega, by rw [List.append_nil]; omega, by rw [List.length_nil]; omega, ?_, hN⟩
          rw [HX.out]
          exact ⟨rfl, fun _ => ⟨rfl, rfl⟩⟩
        have R0 := Lib.hid hr0
        clear hr0 hcl g2 S2 G2 C2 K2 HX HR HS HB hM2
        go_wp2_with fail
        clear a0
        go_loopg [] ts1.length (fun k wr => PRel N cb rb B M T d false (fun _ => CapL rb d M pr pd) L la R w k wr)
        case atStart => exact R0.out
        case round =>
          clear R0 p1
          obtain ⟨f1, v1, u1, keys, ts, pre, rfl, s3, g3, c3, k3, hs, hf, hL, hKL, hfr, hN⟩ := hrel
          obtain ⟨f2, rfl⟩ : ∃ f2, f1 = f2 + 1 := ⟨f1 - 1, by omega⟩
          have hM3 : M ≤ wr.heap.size := Nat.le_trans hM k3.size
          have HFR := Lib.hid hfr
          have hkg : Kn la (gTr (eE la) f2 false u1 (d + 1) keys ts) := fun e => by
            intro e2
            have h0 : ¬ (gTr (eE la) f2 false u1 (d + 1) keys ts).e = 0 := by rw [e2]; decide
            have h1 := hfr.1
            rw [mTr_bad h0] at h1
            exact HK.out e (h1.trans e2)
          have HC := Lib.hid (HG.out f2 wr v1 (L ++ pre) u1 keys ts (by omega) ⟨s3, hBM, hM3, hs, hd2, by omega, by rw [List.length_append] at hL ⊢; omega, hKL, hkg⟩ c3)
          have HLN := Lib.hid (fun e => gTr_len (eE_ne la) (f := f2) (ob := false) (u := u1) (d := d + 1) (keys := keys) (ts := ts) hs e)
          have HM1 := Lib.hid (fun e => mTr_bad (E := eE la) (f := f2) (ob := false) (u := u1) (d := d + 1) (keys := keys) (ts := ts) e)
          have HM2 := Lib.hid (fun e r => mTr_cut (E := eE la) (f := f2) (ob := false) (u := u1) (d := d + 1) (keys := keys) (ts := ts) e r)
          have HM3 := Lib.hid (fun c r1 e r hc => mTr_end (E := eE la) (f := f2) (ob := false) (u := u1) (d := d + 1) (keys := keys) (ts := ts) (c := c) (r1 := r1) e r hc)
          have HM4 := Lib.hid (fun c r1 e r hc hc2 => mTr_form (E := eE la) (f := f2) (ob := false) (u := u1) (d := d + 1) (keys := keys) (ts := ts) (c := c) (r1 := r1) e r hc hc2)
          have HM5 := Lib.hid (fun c e r hc hc2 => mTr_cut2 (E := eE la) (f := f2) (ob := false) (u := u1) (d := d + 1) (keys := keys) (ts := ts) (c := c) e r hc hc2)
          have HM6 := Lib.hid (fun c u2 r2 e r hc hc2 => mTr_more (E := eE la) (f := f2) (ob := false) (u := u1) (d := d + 1) (keys := keys) (ts := ts) (c := c) (u2 := u2) (r2 := r2) e r hc hc2)
          have HBO := Lib.hid (And.intro hf (And.intro hL (And.intro hKL hN)))
          generalize gTr (eE la) f2 false u1 (d + 1) keys ts = Gr at *
          generalize mTr (eE la) (f2 + 1) false u1 (d + 1) keys ts = X at *
          have a0 := g3.c0; have a1 := g3.c1; have af := g3.fr
          have K3 := Lib.hid k3
          have G3 := Lib.hid g3
          clear s3 g3 c3 k3 hs hf hL hKL hfr hN hkg
          unfold tkV at HC
          go_wp2_with fail
          with_reducible refine HC.out.mono ?_
          rintro e w4 ⟨⟨e4, rfl, ⟨v4, s4⟩, c4, t4⟩ | ⟨e4, rfl⟩, k4⟩
          · have hBT : B ≤ T := Nat.le_trans hBM hMT
            have hTc : T ≠ cb := by omega
            have G4 := Lib.hid (t4 T u1 hBT G3.out)
            obtain ⟨l1, l2, l3⟩ := HLN.out e4
            have K4 := Lib.hid (K3.out.trans k4)
            have hM4 : M ≤ w4.heap.size := Nat.le_trans hM K4.out.size
            have HL := Lib.hid (And.intro l1 (And.intro l2 l3))
            have E4 := Lib.hid e4
            clear t4 k4 l1 l2 l3 e4 a0 a1 af G3 K3 HC HLN HM1
            cases hgr : Gr.r with
            | nil =>
              have hX := HM2.out E4.out hgr
              have hRe := HFR.out.1
              rw [hX] at hRe
              obtain ⟨x, rfl⟩ : ∃ x, la = some x := by
                cases la with
                | some x => exact ⟨x, rfl⟩
                | none => exact absurd hRe (HK.out rfl)
              rw [hgr] at s4
              have HN := Lib.hid (token_none s4)
              have HE := Lib.hid (show R.e = eE (some x) from hRe)
              clear hX hRe hgr s4 c4
              go_wp2_with fail
              with_reducible refine HN.out.mono ?_
              rintro e w5 ⟨rfl, o5⟩
              have HQ := Lib.hid (vpost_no (L := L) (la := some x) HE.out (eE_ne _) (K4.out.trans (Kp.of_only o5 hM4)))
              clear o5
              unfold pan
              go_wp2
              exact ⟨rfl, HQ.out⟩
            | cons c r1 =>
              have HGR := Lib.hid hgr
              rw [hgr] at s4
              have HN := Lib.hid (token_some s4)
              have C4 := Lib.hid c4
              clear hgr s4 c4
              go_wp2_with fail
              with_reducible refine HN.out.mono ?_
              rintro e w5 ⟨rfl, s5, o5⟩
              have G5 := Lib.hid (G4.out.only o5 hTc)
              have S6 := Lib.hid (s5.setTk G5.out hBT c)
              have G6 := Lib.hid (G5.out.setTok c)
              have C6 := Lib.hid ((C4.out.only o5 hcM).setTk G5.out c)
              have K6 := Lib.hid ((K4.out.trans (Kp.of_only o5 hM4)).trans (Kp.setTk hMT c))
              have a0 := G5.out.c0; have a1 := G5.out.c1; have af := G5.out.fr
              have hM6 : M ≤ ((w5.setCell ⟨T, 0, none⟩ (.int .u8 (c.1.toNat : Int))).setCell ⟨T, 1, none⟩ (.string (bA c.2))).heap.size := by rw [setTk_size]; exact Nat.le_trans hM4 o5.size
              clear s5 o5 HN G4 C4 K4
              unfold tkV
              go_upto_region 6 with fail
              generalize (w5.setCell ⟨T, 0, none⟩ (.int .u8 (c.1.toNat : Int))).setCell ⟨T, 1, none⟩ (.string (bA c.2)) = w6 at *
              clear a0 a1 af G5
              have a0 := G6.out.c0; have a1 := G6.out.c1; have af := G6.out.fr
              by_cases hcl : c.1 = cls false
              · have p1 : ((c.1.toNat : Int) == 93) = true := by rw [hcl]; rfl
                have HE := Lib.hid (show R = ⟨pre ++ Gr.l, r1, 0⟩ from by
                  have hX := HM3.out c r1 E4.out HGR.out hcl
                  obtain ⟨q1, q2⟩ := HFR.out
                  rw [hX] at q1 q2
                  obtain ⟨q3, q4⟩ := q2 rfl
                  simp only at q1 q3 q4
                  cases R
                  simp only at q1 q3 q4
                  rw [q1, q3, q4])
                have HQ := Lib.hid (vpost_ok (L := L) HE.out (by have := S6.out; rw [List.append_assoc] at this; exact this) K6.out)
                clear hcl
                go_wp2
                first
                  | (go_end0; exact HQ.out)
                  | (refine bodyPost_ret (results_none rfl _ _ _) rfl ?_; exact HQ.out)
              · have p1 : ((c.1.toNat : Int) == 93) = false := (eq8 c.1 93).trans (decide_eq_false hcl)
                by_cases hco : c.1 = 44
                · have HM := Lib.hid (fun w => mustN_ok c 44 44 w rfl hco)
                  have HCL := Lib.hid (And.intro hcl hco)
                  clear hcl hco
                  go_wp2_with fail
                  with_reducible refine (HM.out _).mono ?_
                  rintro e w7 ⟨rfl, b7⟩
                  have S7 := Lib.hid (S6.out.next b7)
                  have G7 := Lib.hid (G6.out.below b7 G6.out.lt)
                  have C7 := Lib.hid (C6.out.next b7)
                  have K7 := Lib.hid (K6.out.trans (Kp.of_below b7 hM6))
                  have hM7 := Nat.le_trans hM6 b7.size
                  clear b7 S6 G6 C6 K6 a0 a1 af p1 HM
                  cases r1 with
                  | nil =>
                    have hX := HM5.out c E4.out HGR.out HCL.out.1 HCL.out.2
                    have hRe := HFR.out.1
                    rw [hX] at hRe
                    obtain ⟨x, rfl⟩ : ∃ x, la = some x := by
                      cases la with
                      | some x => exact ⟨x, rfl⟩
                      | none => exact absurd hRe (HK.out rfl)
                    have HN := Lib.hid (token_none S7.out)
                    have HE := Lib.hid (show R.e = eE (some x) from hRe)
                    clear hX hRe
                    go_wp2_with fail
                    with_reducible refine HN.out.mono ?_
                    rintro e w8 ⟨rfl, o8⟩
                    have HQ := Lib.hid (vpost_no (L := L) (la := some x) HE.out (eE_ne _) (K7.out.trans (Kp.of_only o8 hM7)))
                    clear o8
                    unfold pan
                    go_wp2
                    exact ⟨rfl, HQ.out⟩
                  | cons u2 r2 =>
                    have hX := HM6.out c u2 r2 E4.out HGR.out HCL.out.1 HCL.out.2
                    have hF := HFR.out
                    rw [hX] at hF
                    have HF2 := Lib.hid (frt_more hF)
                    have HN := Lib.hid (token_some S7.out)
                    clear hX hF
                    go_wp2_with fail
                    with_reducible refine HN.out.mono ?_
                    rintro e w8 ⟨rfl, s8, o8⟩
                    have G8 := Lib.hid (G7.out.only o8 hTc)
                    have S9 := Lib.hid (s8.setTk G8.out hBT u2)
                    have G9 := Lib.hid (G8.out.setTok u2)
                    have C9 := Lib.hid ((C7.out.only o8 hcM).setTk G8.out u2)
                    have K9 := Lib.hid ((K7.out.trans (Kp.of_only o8 hM7)).trans (Kp.setTk hMT u2))
                    have a0 := G8.out.c0; have a1 := G8.out.c1; have af := G8.out.fr
                    clear s8 o8 HN S7 G7 C7 K7
                    unfold tkV
                    go_wp2_with fail
                    go_roundg r2.length
                    case measure =>
                      have h1 := congrArg List.length HGR.out
                      simp only [List.length_cons] at h1
                      have := HL.out.1
                      omega
                    case rel =>
                      have h1 := congrArg List.length HGR.out
                      simp only [List.length_cons] at h1
                      obtain ⟨l1, l2, l3⟩ := HL.out
                      obtain ⟨hf, hL, hKL, hN⟩ := HBO.out
                      rw [HGR.out] at l3
                      refine (⟨f2, v4, u2, addK false keys u1, r2, pre ++ Gr.l, rfl, ?_, G9.out, C9.out, K9.out, l3.tail, by omega, ?_, ?_, HF2.out, by omega⟩ : PRel N cb rb B M T d false (fun _ => CapL rb d M pr pd) L la R w r2.length _)
                      · have := S9.out; rw [List.append_assoc] at this; exact this
                      · rw [List.length_append] at hL
                        rw [List.length_append, List.length_append]; omega
                      · have h2 : (addK false keys u1).length ≤ keys.length + 1 := by unfold addK; split <;> simp
                        omega
                · have HM := Lib.hid (fun w => mustN_no c 44 44 w rfl hco)
                  have HE := Lib.hid (show R.e = 3 by rw [HFR.out.1, HM4.out c r1 E4.out HGR.out hcl hco])
                  clear hcl hco
                  go_wp2_with fail
                  with_reducible refine (HM.out _).mono ?_
                  rintro e w7 ⟨rfl, b7⟩
                  have HQ := Lib.hid (vpost_no (L := L) (la := la) HE.out (by decide) (K6.out.trans (Kp.of_below b7 hM6)))
                  clear b7
                  unfold pan
                  go_wp2
                  exact ⟨rfl, HQ.out⟩
          · have HE := Lib.hid (show R.e = Gr.e by rw [HFR.out.1, HM1.out e4])
            have HQ := Lib.hid (vpost_no (L := L) (la := la) HE.out e4 (K3.out.trans k4))
            clear k4
            unfold pan
            go_wp2
            exact ⟨rfl, HQ.out⟩

def GO (N cb rb B M d pk pr pd m : Nat) (la : Option Int) : Prop := ∀ (f : Nat) (w : World) (v : Value) (L : List ND) (u : TK) (keys : List (List UInt8)) (ts : List TK), f ≤ N → GHyp cb rb B M f d true w v L u keys ts la → CapO rb d M pk pr pd m (keys) w →
  Calls Tryz.prog 73 #[tkV u, .pointer (some ⟨pk, 0, none⟩), .pointer (some ⟨pr, 0, none⟩), .pointer (some ⟨pd, 0, none⟩)] w (GPost M cb rb B L la (gTr (eE la) f true u (d + 1) keys ts) (CapO rb d M pk pr pd m (addK true keys u)) w)
set_option maxRecDepth 20000 in
set_option maxHeartbeats 4000000 in
theorem partsO_any {N cb rb B M d pk pr pd m f : Nat} {la : Option Int} (HG0 : GO N cb rb B M d pk pr pd m la) (w : World) (v : Value) (L : List ND) (ts : List TK) (h : RdS w cb rb B v L ts la) (hc : CapO rb d M pk pr pd m ([]) w) (hBM : B ≤ M) (hM : M ≤ w.heap.size) (hs : SgE ts) (hd : d ≤ 32) (hf : 4 * ts.length + 1 ≤ f + 1) (hN : f ≤ N) (hL : L.length + ts.length ≤ 1099511627776) (hk : Kn la (pTr (eE la) (f + 1) true d ts)) :
    Calls Tryz.prog 71 #[.pointer (some ⟨rb, 0, none⟩), .int .u8 125, .int .i64 (d : Nat), .func (.func 73) #[] #[.pointer (some ⟨pk, 0, none⟩), .pointer (some ⟨pr, 0, none⟩), .pointer (some ⟨pd, 0, none⟩)]] w (VPost M cb rb B L la (pTr (eE la) (f + 1) true d ts) w) := by
  have hcM : cb < M := by have := h.lc; omega
  have hrM : rb < M := by have := h.lr; omega
  by_cases h32 : d = 32
  · subst h32
    have HQ := Lib.hid (show VPost M cb rb B L la (pTr (eE la) (f + 1) true 32 ts) w (pan 33) w from vpost_no (by rw [pTr_deep rfl]) (by decide) (Kp.refl w))
    clear h hc hk HG0
    go_enter Tryz.func71, Tryz.ntmps71
    go_wp2
    exact ⟨rfl, HQ.out⟩
  · have p0 : ((d : Int) == 32) = false := beq_eq_false_iff_ne.mpr (by omega)
    have hd2 : d < 32 := by omega
    clear hd
    cases ts with
    | nil =>
      have hR := pTr_cut (E := eE la) (f := f) (ob := true) h32
      obtain ⟨x, rfl⟩ : ∃ x, la = some x := by
        cases la with
        | some x => exact ⟨x, rfl⟩
        | none => exact absurd (show (pTr (eE none) (f + 1) true d []).e = -1 by rw [hR]; rfl) (hk rfl)
      have HN := Lib.hid (token_none h)
      have HE := Lib.hid (show (pTr (eE (some x)) (f + 1) true d []).e = eE (some x) by rw [hR])
      generalize pTr (eE (some x)) (f + 1) true d [] = R at *
      clear hR hk HG0 h hc h32
      go_enter Tryz.func71, Tryz.ntmps71
      go_wp2_with fail
      with_reducible refine HN.out.mono ?_
      rintro e w1 ⟨rfl, o1⟩
      have HQ := Lib.hid (vpost_no (L := L) (la := some x) (rb := rb) (B := B) HE.out (eE_ne _) (Kp.of_only o1 hM))
      clear o1
      unfold pan
      go_wp2
      exact ⟨rfl, HQ.out⟩
    | cons u ts1 =>
      have HN := Lib.hid (token_some h)
      have HC0 := Lib.hid hc
      generalize hRR : pTr (eE la) (f + 1) true d (u :: ts1) = R at *
      have HR := Lib.hid hRR
      have HK := Lib.hid hk
      have HS := Lib.hid hs
      have HB := Lib.hid (And.intro hf (And.intro hN hL))
      have H32 := Lib.hid h32
      have HG := Lib.hid HG0
      clear h hc hRR hk HG0 h32 hs hf hN hL
      go_enter Tryz.func71, Tryz.ntmps71
      go_wp2_with fail
      with_reducible refine HN.out.mono ?_
      rintro e w1 ⟨rfl, s1, o1⟩
      have g2 := tk_laid (w := w1) u 68
      have b2 := alloc_below w1 (.cells #[.int .u8 (u.1.toNat : Int), .string (bA u.2)] 68)
      have S2 := Lib.hid (s1.next b2)
      have hM1 : M ≤ w1.heap.size := Nat.le_trans hM o1.size
      have K2 := Lib.hid ((Kp.of_only (rb := rb) (B := B) o1 hM).trans (Kp.of_below b2 hM1))
      have C2 := Lib.hid ((HC0.out.only o1 hcM).next b2)
      have hM2 := Nat.le_trans hM1 b2.size
      have hMT : M ≤ w1.heap.size := hM1
      clear s1 o1 b2 HN HC0
      unfold tkV
      generalize hw2 : w1.alloc (.cells #[.int .u8 (u.1.toNat : Int), .string (bA u.2)] 68) = w2 at *
      go_upto_region 3 with fail
      (try rw [hw2])
      clear hw2
      generalize w1.heap.size = T at *
      have a0 := g2.c0
      have G2 := Lib.hid g2
      by_cases hcl : u.1 = cls true
      · have p1 : ((u.1.toNat : Int) == 125) = true := by rw [hcl]; rfl
        have HE := Lib.hid (show R = ⟨[], ts1, 0⟩ by rw [← HR.out]; exact pTr_none H32.out hcl)
        have HQ := Lib.hid (vpost_ok (L := L) (N := []) HE.out (by rw [List.append_nil]; exact S2.out) K2.out)
        clear hcl g2
        go_wp2
        first
          | (go_end0; exact HQ.out)
          | (refine bodyPost_ret (results_none rfl _ _ _) rfl ?_; exact HQ.out)
      · have p1 : ((u.1.toNat : Int) == 125) = false := (eq8 u.1 125).trans (decide_eq_false hcl)
        have HX := Lib.hid (show R = mTr (eE la) f true u (d + 1) [] ts1 by rw [← HR.out]; exact pTr_some H32.out hcl)
        have hr0 : PRel N cb rb B M T d true (fun ks => CapO rb d M pk pr pd m ks) L la R w ts1.length w2 := by
          obtain ⟨hf, hN, hL⟩ := HB.out
          simp only [List.length_cons] at hf hL
          refine ⟨f, v, u, [], ts1, [], rfl, by rw [List.append_nil]; exact S2.out, G2.out, C2.out, K2.out, HS.out, by omega, by rw [List.append_nil]; omega, by rw [List.length_nil]; omega, ?_, hN⟩
          rw [HX.out]
          exact ⟨rfl, fun _ => ⟨rfl, rfl⟩⟩
        have R0 := Lib.hid hr0
        clear hr0 hcl g2 S2 G2 C2 K2 HX HR HS HB hM2
        go_wp2_with fail
        clear a0
        go_loopg [] ts1.length (fun k wr => PRel N cb rb B M T d true (fun ks => CapO rb d M pk pr pd m ks) L la R w k wr)
        case atStart => exact R0.out
        case round =>
          clear R0 p1
          obtain ⟨f1, v1, u1, keys, ts, pre, rfl, s3, g3, c3, k3, hs, hf, hL, hKL, hfr, hN⟩ := hrel
          obtain ⟨f2, rfl⟩ : ∃ f2, f1 = f2 + 1 := ⟨f1 - 1, by omega⟩
          have hM3 : M ≤ wr.heap.size := Nat.le_trans hM k3.size
          have HFR := Lib.hid hfr
          have hkg : Kn la (gTr (eE la) f2 true u1 (d + 1) keys ts) := fun e => by
            intro e2
            have h0 : ¬ (gTr (eE la) f2 true u1 (d + 1) keys ts).e = 0 := by rw [e2]; decide
            have h1 := hfr.1
            rw [mTr_bad h0] at h1
            exact HK.out e (h1.trans e2)
          have HC := Lib.hid (HG.out f2 wr v1 (L ++ pre) u1 keys ts (by omega) ⟨s3, hBM, hM3, hs, hd2, by omega, by rw [List.length_append] at hL ⊢; omega, hKL, hkg⟩ c3)
          have HLN := Lib.hid (fun e => gTr_len (eE_ne la) (f := f2) (ob := true) (u := u1) (d := d + 1) (keys := keys) (ts := ts) hs e)
          have HM1 := Lib.hid (fun e => mTr_bad (E := eE la) (f := f2) (ob := true) (u := u1) (d := d + 1) (keys := keys) (ts := ts) e)
          have HM2 := Lib.hid (fun e r => mTr_cut (E := eE la) (f := f2) (ob := true) (u := u1) (d := d + 1) (keys := keys) (ts := ts) e r)
          have HM3 := Lib.hid (fun c r1 e r hc => mTr_end (E := eE la) (f := f2) (ob := true) (u := u1) (d := d + 1) (keys := keys) (ts := ts) (c := c) (r1 := r1) e r hc)
          have HM4 := Lib.hid (fun c r1 e r hc hc2 => mTr_form (E := eE la) (f := f2) (ob := true) (u := u1) (d := d + 1) (keys := keys) (ts := ts) (c := c) (r1 := r1) e r hc hc2)
          have HM5 := Lib.hid (fun c e r hc hc2 => mTr_cut2 (E := eE la) (f := f2) (ob := true) (u := u1) (d := d + 1) (keys := keys) (ts := ts) (c := c) e r hc hc2)
          have HM6 := Lib.hid (fun c u2 r2 e r hc hc2 => mTr_more (E := eE la) (f := f2) (ob := true) (u := u1) (d := d + 1) (keys := keys) (ts := ts) (c := c) (u2 := u2) (r2 := r2) e r hc hc2)
          have HBO := Lib.hid (And.intro hf (And.intro hL (And.intro hKL hN)))
          generalize gTr (eE la) f2 true u1 (d + 1) keys ts = Gr at *
          generalize mTr (eE la) (f2 + 1) true u1 (d + 1) keys ts = X at *
          have a0 := g3.c0; have a1 := g3.c1; have af := g3.fr
          have K3 := Lib.hid k3
          have G3 := Lib.hid g3
          clear s3 g3 c3 k3 hs hf hL hKL hfr hN hkg
          unfold tkV at HC
          go_wp2_with fail
          with_reducible refine HC.out.mono ?_
          rintro e w4 ⟨⟨e4, rfl, ⟨v4, s4⟩, c4, t4⟩ | ⟨e4, rfl⟩, k4⟩
          · have hBT : B ≤ T := Nat.le_trans hBM hMT
            have hTc : T ≠ cb := by omega
            have G4 := Lib.hid (t4 T u1 hBT G3.out)
            obtain ⟨l1, l2, l3⟩ := HLN.out e4
            have K4 := Lib.hid (K3.out.trans k4)
            have hM4 : M ≤ w4.heap.size := Nat.le_trans hM K4.out.size
            have HL := Lib.hid (And.intro l1 (And.intro l2 l3))
            have E4 := Lib.hid e4
            clear t4 k4 l1 l2 l3 e4 a0 a1 af G3 K3 HC HLN HM1
            cases hgr : Gr.r with
            | nil =>
              have hX := HM2.out E4.out hgr
              have hRe := HFR.out.1
              rw [hX] at hRe
              obtain ⟨x, rfl⟩ : ∃ x, la = some x := by
                cases la with
                | some x => exact ⟨x, rfl⟩
                | none => exact absurd hRe (HK.out rfl)
              rw [hgr] at s4
              have HN := Lib.hid (token_none s4)
              have HE := Lib.hid (show R.e = eE (some x) from hRe)
              clear hX hRe hgr s4 c4
              go_wp2_with fail
              with_reducible refine HN.out.mono ?_
              rintro e w5 ⟨rfl, o5⟩
              have HQ := Lib.hid (vpost_no (L := L) (la := some x) HE.out (eE_ne _) (K4.out.trans (Kp.of_only o5 hM4)))
              clear o5
              unfold pan
              go_wp2
              exact ⟨rfl, HQ.out⟩
            | cons c r1 =>
              have HGR := Lib.hid hgr
              rw [hgr] at s4
              have HN := Lib.hid (token_some s4)
              have C4 := Lib.hid c4
              clear hgr s4 c4
              go_wp2_with fail
              with_reducible refine HN.out.mono ?_
              rintro e w5 ⟨rfl, s5, o5⟩
              have G5 := Lib.hid (G4.out.only o5 hTc)
              have S6 := Lib.hid (s5.setTk G5.out hBT c)
              have G6 := Lib.hid (G5.out.setTok c)
              have C6 := Lib.hid ((C4.out.only o5 hcM).setTk G5.out c)
              have K6 := Lib.hid ((K4.out.trans (Kp.of_only o5 hM4)).trans (Kp.setTk hMT c))
              have a0 := G5.out.c0; have a1 := G5.out.c1; have af := G5.out.fr
              have hM6 : M ≤ ((w5.setCell ⟨T, 0, none⟩ (.int .u8 (c.1.toNat : Int))).setCell ⟨T, 1, none⟩ (.string (bA c.2))).heap.size := by rw [setTk_size]; exact Nat.le_trans hM4 o5.size
              clear s5 o5 HN G4 C4 K4
              unfold tkV
              go_upto_region 6 with fail
              generalize (w5.setCell ⟨T, 0, none⟩ (.int .u8 (c.1.toNat : Int))).setCell ⟨T, 1, none⟩ (.string (bA c.2)) = w6 at *
              clear a0 a1 af G5
              have a0 := G6.out.c0; have a1 := G6.out.c1; have af := G6.out.fr
              by_cases hcl : c.1 = cls true
              · have p1 : ((c.1.toNat : Int) == 125) = true := by rw [hcl]; rfl
                have HE := Lib.hid (show R = ⟨pre ++ Gr.l, r1, 0⟩ from by
                  have hX := HM3.out c r1 E4.out HGR.out hcl
                  obtain ⟨q1, q2⟩ := HFR.out
                  rw [hX] at q1 q2
                  obtain ⟨q3, q4⟩ := q2 rfl
                  simp only at q1 q3 q4
                  cases R
                  simp only at q1 q3 q4
                  rw [q1, q3, q4])
                have HQ := Lib.hid (vpost_ok (L := L) HE.out (by have := S6.out; rw [List.append_assoc] at this; exact this) K6.out)
                clear hcl
                go_wp2
                first
                  | (go_end0; exact HQ.out)
                  | (refine bodyPost_ret (results_none rfl _ _ _) rfl ?_; exact HQ.out)
              · have p1 : ((c.1.toNat : Int) == 125) = false := (eq8 c.1 125).trans (decide_eq_false hcl)
                by_cases hco : c.1 = 44
                · have HM := Lib.hid (fun w => mustN_ok c 44 44 w rfl hco)
                  have HCL := Lib.hid (And.intro hcl hco)
                  clear hcl hco
                  go_wp2_with fail
                  with_reducible refine (HM.out _).mono ?_
                  rintro e w7 ⟨rfl, b7⟩
                  have S7 := Lib.hid (S6.out.next b7)
                  have G7 := Lib.hid (G6.out.below b7 G6.out.lt)
                  have C7 := Lib.hid (C6.out.next b7)
                  have K7 := Lib.hid (K6.out.trans (Kp.of_below b7 hM6))
                  have hM7 := Nat.le_trans hM6 b7.size
                  clear b7 S6 G6 C6 K6 a0 a1 af p1 HM
                  cases r1 with
                  | nil =>
                    have hX := HM5.out c E4.out HGR.out HCL.out.1 HCL.out.2
                    have hRe := HFR.out.1
                    rw [hX] at hRe
                    obtain ⟨x, rfl⟩ : ∃ x, la = some x := by
                      cases la with
                      | some x => exact ⟨x, rfl⟩
                      | none => exact absurd hRe (HK.out rfl)
                    have HN := Lib.hid (token_none S7.out)
                    have HE := Lib.hid (show R.e = eE (some x) from hRe)
                    clear hX hRe
                    go_wp2_with fail
                    with_reducible refine HN.out.mono ?_
                    rintro e w8 ⟨rfl, o8⟩
                    have HQ := Lib.hid (vpost_no (L := L) (la := some x) HE.out (eE_ne _) (K7.out.trans (Kp.of_only o8 hM7)))
                    clear o8
                    unfold pan
                    go_wp2
                    exact ⟨rfl, HQ.out⟩
                  | cons u2 r2 =>
                    have hX := HM6.out c u2 r2 E4.out HGR.out HCL.out.1 HCL.out.2
                    have hF := HFR.out
                    rw [hX] at hF
                    have HF2 := Lib.hid (frt_more hF)
                    have HN := Lib.hid (token_some S7.out)
                    clear hX hF
                    go_wp2_with fail
                    with_reducible refine HN.out.mono ?_
                    rintro e w8 ⟨rfl, s8, o8⟩
                    have G8 := Lib.hid (G7.out.only o8 hTc)
                    have S9 := Lib.hid (s8.setTk G8.out hBT u2)
                    have G9 := Lib.hid (G8.out.setTok u2)
                    have C9 := Lib.hid ((C7.out.only o8 hcM).setTk G8.out u2)
                    have K9 := Lib.hid ((K7.out.trans (Kp.of_only o8 hM7)).trans (Kp.setTk hMT u2))
                    have a0 := G8.out.c0; have a1 := G8.out.c1; have af := G8.out.fr
                    clear s8 o8 HN S7 G7 C7 K7
                    unfold tkV
                    go_wp2_with fail
                    go_roundg r2.length
                    case measure =>
                      have h1 := congrArg List.length HGR.out
                      simp only [List.length_cons] at h1
                      have := HL.out.1
                      omega
                    case rel =>
                      have h1 := congrArg List.length HGR.out
                      simp only [List.length_cons] at h1
                      obtain ⟨l1, l2, l3⟩ := HL.out
                      obtain ⟨hf, hL, hKL, hN⟩ := HBO.out
                      rw [HGR.out] at l3
                      refine (⟨f2, v4, u2, addK true keys u1, r2, pre ++ Gr.l, rfl, ?_, G9.out, C9.out, K9.out, l3.tail, by omega, ?_, ?_, HF2.out, by omega⟩ : PRel N cb rb B M T d true (fun ks => CapO rb d M pk pr pd m ks) L la R w r2.length _)
                      · have := S9.out; rw [List.append_assoc] at this; exact this
                      · rw [List.length_append] at hL
                        rw [List.length_append, List.length_append]; omega
                      · have h2 : (addK true keys u1).length ≤ keys.length + 1 := by unfold addK; split <;> simp
                        omega
                · have HM := Lib.hid (fun w => mustN_no c 44 44 w rfl hco)
                  have HE := Lib.hid (show R.e = 3 by rw [HFR.out.1, HM4.out c r1 E4.out HGR.out hcl hco])
                  clear hcl hco
                  go_wp2_with fail
                  with_reducible refine (HM.out _).mono ?_
                  rintro e w7 ⟨rfl, b7⟩
                  have HQ := Lib.hid (vpost_no (L := L) (la := la) HE.out (by decide) (K6.out.trans (Kp.of_below b7 hM6)))
                  clear b7
                  unfold pan
                  go_wp2
                  exact ⟨rfl, HQ.out⟩
          · have HE := Lib.hid (show R.e = Gr.e by rw [HFR.out.1, HM1.out e4])
            have HQ := Lib.hid (vpost_no (L := L) (la := la) HE.out e4 (K3.out.trans k4))
            clear k4
            unfold pan
            go_wp2
            exact ⟨rfl, HQ.out⟩

set_option maxRecDepth 20000 in
set_option maxHeartbeats 1000000 in
theorem list_any {cb rb B f : Nat} (hv : ∀ f', f' ≤ f → ValC cb rb B f') (w : World) (v : Value) (L : List ND) (d : Nat) (ts : List TK) (la : Option Int) (h : RdS w cb rb B v L ts la) (hs : SgE ts) (hd : d ≤ 32) (hf : 4 * ts.length + 1 ≤ f + 1) (hL : L.length + ts.length ≤ 1099511627776) (hk : Kn la (pTr (eE la) (f + 1) false d ts)) :
    Calls Tryz.prog 51 #[.pointer (some ⟨rb, 0, none⟩), .int .i64 (d : Nat)] w (VPost w.heap.size cb rb B L la (pTr (eE la) (f + 1) false d ts) w) := by
  have b2 : Below w.heap.size w ((w.alloc (.cells #[.pointer (some ⟨rb, 0, none⟩)] 61)).alloc (.cells #[.int .i64 (d : Nat)] 3)) := (alloc_below w _).trans ((alloc_below (w.alloc (.cells #[.pointer (some ⟨rb, 0, none⟩)] 61)) _).mono (alloc_below w _).size)
  have s2 := h.next b2
  have n2 : CapL rb d w.heap.size w.heap.size (w.heap.size + 1) ((w.alloc (.cells #[.pointer (some ⟨rb, 0, none⟩)] 61)).alloc (.cells #[.int .i64 (d : Nat)] 3)) := by
    refine ⟨?_, ?_, Nat.le_refl _, Nat.le_succ _⟩
    · have h1 := heap_alloc_new w (.cells #[.pointer (some ⟨rb, 0, none⟩)] 61)
      have h2 := (alloc_below (w.alloc (.cells #[.pointer (some ⟨rb, 0, none⟩)] 61)) (.cells #[.int .i64 (d : Nat)] 3)).block w.heap.size (lt_of_block h1)
      exact h2.trans h1
    · have h1 := heap_alloc_new (w.alloc (.cells #[.pointer (some ⟨rb, 0, none⟩)] 61)) (.cells #[.int .i64 (d : Nat)] 3)
      have e : (w.alloc (.cells #[.pointer (some ⟨rb, 0, none⟩)] 61)).heap.size = w.heap.size + 1 := by simp
      rw [e] at h1; exact h1
  have hG : GL f cb rb B w.heap.size d w.heap.size (w.heap.size + 1) la := by
    intro f' w' v' L' u keys ts' hle hh hcap
    cases f' with
    | zero => exact absurd hh.2.2.2.2.2.1 (by omega)
    | succ f' => exact glist_any (hv f' (by omega)) w' v' L' u keys ts' la hh hcap
  have HP := Lib.hid (partsL_any hG _ v L ts s2 n2 h.hB b2.size hs hd hf (Nat.le_refl _) hL hk)
  have HB := Lib.hid b2
  have c0 := n2.c0; have c1 := n2.c1
  have hmf : ∀ (fn : Fn) (first cap : Array Value) (w : World), (Instr.makeFunc fn first cap).run Tryz.prog w = .ok (.func fn first cap) w := fun _ _ _ _ => rfl
  clear hv h hs hk hf hL s2 n2 hG b2
  generalize pTr (eE la) (f + 1) false d ts = R at *
  go_enter Tryz.func51, Tryz.ntmps51
  go_wp2_with fail
  generalize (w.alloc (.cells #[.pointer (some ⟨rb, 0, none⟩)] 61)).alloc (.cells #[.int .i64 (d : Nat)] 3) = w2 at *
  with_reducible refine HP.out.mono ?_
  rintro e w3 ⟨⟨e3, rfl, v3, s3⟩ | ⟨e3, rfl⟩, k3⟩
  · have HQ := Lib.hid (show VPost w.heap.size cb rb B L la R w (.returned (.tuple #[])) w3 from ⟨.inl ⟨e3, rfl, v3, s3⟩, (Kp.of_below HB.out (Nat.le_refl _)).trans k3⟩)
    clear e3 s3 k3
    go_wp2
    go_end0
    exact HQ.out
  · have HQ := Lib.hid (show VPost w.heap.size cb rb B L la R w (pan R.e) w3 from ⟨.inr ⟨e3, rfl⟩, (Kp.of_below HB.out (Nat.le_refl _)).trans k3⟩)
    clear k3
    unfold pan
    go_wp2
    exact ⟨rfl, HQ.out⟩
set_option maxRecDepth 20000 in
set_option maxHeartbeats 1000000 in
theorem object_any {cb rb B f : Nat} (hv : ∀ f', f' ≤ f → ValC cb rb B f') (w : World) (v : Value) (L : List ND) (d : Nat) (ts : List TK) (la : Option Int) (h : RdS w cb rb B v L ts la) (hs : SgE ts) (hd : d ≤ 32) (hf : 4 * ts.length + 1 ≤ f + 1) (hL : L.length + ts.length ≤ 1099511627776) (hk : Kn la (pTr (eE la) (f + 1) true d ts)) :
    Calls Tryz.prog 52 #[.pointer (some ⟨rb, 0, none⟩), .int .i64 (d : Nat)] w (VPost w.heap.size cb rb B L la (pTr (eE la) (f + 1) true d ts) w) := by
  obtain ⟨w1, hw1⟩ : ∃ w1, w1 = w.alloc (.cells #[.pointer (some ⟨rb, 0, none⟩)] 61) := ⟨_, rfl⟩
  obtain ⟨w2, hw2⟩ : ∃ w2, w2 = w1.alloc (.cells #[.int .i64 (d : Nat)] 3) := ⟨_, rfl⟩
  obtain ⟨w3, hw3⟩ : ∃ w3, w3 = w2.alloc (.map #[] 0) := ⟨_, rfl⟩
  obtain ⟨w4, hw4⟩ : ∃ w4, w4 = w3.alloc (.cells #[.map (some (w.heap.size + 2))] 107) := ⟨_, rfl⟩
  have z1 : w1.heap.size = w.heap.size + 1 := by rw [hw1]; simp
  have z2 : w2.heap.size = w.heap.size + 2 := by rw [hw2]; simp [z1]
  have z3 : w3.heap.size = w.heap.size + 3 := by rw [hw3]; simp [z2]
  have z4 : w4.heap.size = w.heap.size + 4 := by rw [hw4]; simp [z3]
  have l1 := alloc_below w (.cells #[.pointer (some ⟨rb, 0, none⟩)] 61)
  have l2 := alloc_below w1 (.cells #[.int .i64 (d : Nat)] 3)
  have l3 := alloc_below w2 (.map #[] 0)
  have l4 := alloc_below w3 (.cells #[.map (some (w.heap.size + 2))] 107)
  have q1 := heap_alloc_new w (.cells #[.pointer (some ⟨rb, 0, none⟩)] 61)
  have q2 := heap_alloc_new w1 (.cells #[.int .i64 (d : Nat)] 3)
  have q4 := heap_alloc_new w3 (.cells #[.map (some (w.heap.size + 2))] 107)
  have q3 := World.ownsMap_made (H := Unit) w2 Tryz.prog 9 unitElem
  rw [← hw1] at l1 q1
  rw [← hw2] at l2 q2
  rw [← hw3] at l3 q3
  rw [← hw4] at l4 q4
  rw [z1] at q2
  rw [z2] at q3
  rw [z3] at q4
  have b2 : Below w.heap.size w w4 := ((l1.trans (l2.mono (by omega))).trans (l3.mono (by omega))).trans (l4.mono (by omega))
  have s2 := h.next b2
  have n2 : CapO rb d w.heap.size (w.heap.size + 3) w.heap.size (w.heap.size + 1) (w.heap.size + 2) [] w4 := by
    refine ⟨⟨?_, ?_, Nat.le_refl _, Nat.le_succ _⟩, q4, by omega, by omega, .map [], ?_, KeyD.none⟩
    · exact (l4.block _ (by omega)).trans ((l3.block _ (by omega)).trans ((l2.block _ (by omega)).trans q1))
    · exact (l4.block _ (by omega)).trans ((l3.block _ (by omega)).trans q2)
    · rw [hw4]; exact q3.alloc _
  have hG : GO f cb rb B w.heap.size d (w.heap.size + 3) w.heap.size (w.heap.size + 1) (w.heap.size + 2) la := by
    intro f' w' v' L' u keys ts' hle hh hcap
    cases f' with
    | zero => exact absurd hh.2.2.2.2.2.1 (by omega)
    | succ f' =>
      by_cases hu : u.1 = 115
      · by_cases hin : u.2 ∈ keys
        · exact gobj_twice w' v' L' u keys ts' la hh hcap hu hin
        · exact gobj_some (hv f' (by omega)) w' v' L' u keys ts' la hh hcap hu hin
      · exact gobj_kind w' v' L' u keys ts' la hh hcap hu
  have HP := Lib.hid (partsO_any hG _ v L ts s2 n2 h.hB b2.size hs hd hf (Nat.le_refl _) hL hk)
  have HB := Lib.hid b2
  have HN := Lib.hid n2
  have hmf : ∀ (fn : Fn) (first cap : Array Value) (w : World), (Instr.makeFunc fn first cap).run Tryz.prog w = .ok (.func fn first cap) w := fun _ _ _ _ => rfl
  have hmm := @run_makeMap Tryz.prog
  have c0 := n2.cl.c0; have c1 := n2.cl.c1
  rw [hw4, hw3, hw2, hw1] at c0 c1
  have hw4' := Lib.hid (show w4 = (((w.alloc (.cells #[.pointer (some ⟨rb, 0, none⟩)] 61)).alloc (.cells #[.int .i64 (d : Nat)] 3)).alloc (.map #[] 0)).alloc (.cells #[.map (some (w.heap.size + 2))] 107) by rw [hw4, hw3, hw2, hw1])
  clear hv h hs hk hf hL s2 n2 hG b2 q1 q2 q3 q4 l1 l2 l3 l4 z1 z2 z3 z4 hw1 hw2 hw3 hw4
  generalize pTr (eE la) (f + 1) true d ts = R at *
  go_enter Tryz.func52, Tryz.ntmps52
  go_wp2_with fail
  rw [← hw4'.out]
  with_reducible refine HP.out.mono ?_
  rintro e w3 ⟨⟨e3, rfl, v3, s3⟩ | ⟨e3, rfl⟩, k3⟩
  · have HQ := Lib.hid (show VPost w.heap.size cb rb B L la R w (.returned (.tuple #[])) w3 from ⟨.inl ⟨e3, rfl, v3, s3⟩, (Kp.of_below HB.out (Nat.le_refl _)).trans k3⟩)
    clear e3 s3 k3
    go_wp2
    go_end0
    exact HQ.out
  · have HQ := Lib.hid (show VPost w.heap.size cb rb B L la R w (pan R.e) w3 from ⟨.inr ⟨e3, rfl⟩, (Kp.of_below HB.out (Nat.le_refl _)).trans k3⟩)
    clear k3
    unfold pan
    go_wp2
    exact ⟨rfl, HQ.out⟩
theorem part_any {cb rb B f : Nat} (hv : ∀ f', f' + 1 ≤ f → ValC cb rb B f') : PartC cb rb B f := by
  intro ob w v L d ts la h hs hd hf hL hk
  cases f with
  | zero => exact absurd hf (by omega)
  | succ f =>
    cases ob
    · exact list_any (fun f' h' => hv f' (by omega)) w v L d ts la h hs hd hf hL hk
    · exact object_any (fun f' h' => hv f' (by omega)) w v L d ts la h hs hd hf hL hk
theorem val_all {cb rb B : Nat} : ∀ f, ValC cb rb B f := by
  intro f
  induction f using Nat.strongRecOn with
  | _ f ih =>
    cases f with
    | zero => exact fun w v L t key d ts la _ _ _ hf _ _ => absurd hf (by omega)
    | succ f => exact value_any (part_any (fun f' h' => ih f' (by omega)))
end Go.Proofs.YtnbhhnkcfbfdcaaGreatDoor
