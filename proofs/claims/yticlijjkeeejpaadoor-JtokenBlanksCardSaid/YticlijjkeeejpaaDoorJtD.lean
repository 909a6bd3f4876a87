/- Package jtoken's Next, All. -/
import Derived.Test.YticlijjkeeejpaaDoorJtC
namespace Go.Proofs.YticlijjkeeejpaaDoor
open Go Go.RowKit
set_option linter.unusedVariables false

/-- 12.2: the token that begins at the first byte that is no blank. -/
def CS.tRes (c : CS) : TN := if c.er = 0 then tNx c.bs else ⟨(0, []), 0, c.er⟩
theorem fB_none {l : List UInt8} (h : l.drop (bL l) = []) : fB l = (0, false) := by unfold fB; rw [h]
theorem fB_some {l : List UInt8} {x : UInt8} {t : List UInt8} (h : l.drop (bL l) = x :: t) : fB l = (x, true) := by unfold fB; rw [h]
/-- What Next tells. -/
def NxT (c : CS) (b : Nat) (r : TN) (w : World) (e : Ending) (w' : World) : Prop := e = .returned (tkV r.tok) ∧ (∃ c', CurT 52 w' b c' ∧ CAt c r.k r.e c') ∧ Only b w w'
set_option maxRecDepth 20000 in
set_option maxHeartbeats 1000000 in
theorem next_bad {b : Nat} {c : CS} {w : World} (h : CurT 52 w b c) (hc : c.ok) (h0 : ¬ c.er = 0) :
    Calls Tryd.prog 10 #[.pointer (some ⟨b, 0, none⟩)] w (NxT c b c.tRes w) := by
  have HR := Lib.hid (show c.tRes = ⟨(0, []), 0, c.er⟩ by unfold CS.tRes; rw [if_neg h0])
  have hne : w.heap.size ≠ b := by have := h.lt; omega
  have HF := Lib.hid (fun w h => first_bad (w := w) (b := b) h hc h0)
  have HA := Lib.hid (show CAt c 0 c.er c from ⟨hc, rfl, rfl, rfl, fun e => absurd e h0⟩)
  have s0 := BgS.first h
  clear h hc h0
  go_enter Tryd.func10, Tryd.ntmps10
  go_wp2_with fail
  generalize w.alloc (.cells #[.int .u8 0, .string ⟨#[]⟩] 33) = w0 at s0 ⊢
  with_reducible refine (HF.out _ s0.cur).mono ?_
  rintro e w1 ⟨rfl, hq1, ho1⟩
  have s1 := s0.step hq1 ho1 hne
  have a0 := s1.2.1.c0; have a1 := s1.2.1.c1; have af := s1.2.1.fr
  have HX := s1.fin (Nat.le_refl _) hne (0, [])
  clear s0 ho1 hq1
  go_wp2
  refine bodyPost_ret (tok_result Tryd.results10 HX.2.1 rfl) rfl ?_
  exact ⟨by rw [HR.out], ⟨_, HX.1, by rw [HR.out]; exact HA.out⟩, HX.2.2⟩
set_option maxRecDepth 20000 in
set_option maxHeartbeats 1000000 in
theorem next_none {b : Nat} {c : CS} {w : World} (h : CurT 52 w b c) (hc : c.ok) (h0 : c.er = 0) (hd : c.bs.drop (bL c.bs) = []) :
    Calls Tryd.prog 10 #[.pointer (some ⟨b, 0, none⟩)] w (NxT c b c.tRes w) := by
  have HR := Lib.hid (show c.tRes = ⟨(0, []), bL c.bs, 0⟩ by unfold CS.tRes; rw [if_pos h0, tNx_none hd])
  have hne : w.heap.size ≠ b := by have := h.lt; omega
  have HF := Lib.hid (fun w h => first_any (w := w) (b := b) h hc h0)
  rw [fB_none hd] at HF
  have HA := Lib.hid (CAt.past hc h0 (bl_len c.bs))
  have s0 := BgS.first h
  clear h hc h0 hd
  go_enter Tryd.func10, Tryd.ntmps10
  go_wp2_with fail
  generalize w.alloc (.cells #[.int .u8 0, .string ⟨#[]⟩] 33) = w0 at s0 ⊢
  with_reducible refine (HF.out _ s0.cur).mono ?_
  rintro e w1 ⟨rfl, hq1, ho1⟩
  have s1 := s0.step hq1 ho1 hne
  have a0 := s1.2.1.c0; have a1 := s1.2.1.c1; have af := s1.2.1.fr
  have HX := s1.fin (Nat.le_refl _) hne (0, [])
  clear s0 ho1 hq1
  go_wp2
  refine bodyPost_ret (tok_result Tryd.results10 HX.2.1 rfl) rfl ?_
  exact ⟨by rw [HR.out], ⟨_, HX.1, by rw [HR.out]; exact HA.out⟩, HX.2.2⟩
/-- A block that has just been laid over a call's world. -/
theorem tk_laid {w : World} (y : TK) (t : TypeId) : TkT t (w.alloc (.cells #[.int .u8 (y.1.toNat : Int), .string (bA y.2)] t)) w.heap.size y := tk_alloc y t
set_option maxRecDepth 20000 in
set_option maxHeartbeats 2000000 in
theorem next_some {b : Nat} {c : CS} {w : World} {x : UInt8} {t : List UInt8} (h : CurT 52 w b c) (hc : c.ok) (h0 : c.er = 0) (hd : c.bs.drop (bL c.bs) = x :: t) (hs : c.s.size ≤ 140737488351232) (ht : Hds w) (hg : 0 ≠ b) :
    Calls Tryd.prog 10 #[.pointer (some ⟨b, 0, none⟩)] w (NxT c b c.tRes w) := by
  have HR := Lib.hid (show c.tRes = ⟨(tBeg x (x :: t)).tok, bL c.bs + (tBeg x (x :: t)).k, (tBeg x (x :: t)).e⟩ by unfold CS.tRes; rw [if_pos h0, tNx_some hd])
  have hne : w.heap.size ≠ b := by have := h.lt; omega
  have HF := Lib.hid (fun w h => first_any (w := w) (b := b) h hc h0)
  rw [fB_some hd] at HF
  have hpo := CS.past_fine hc (bl_len c.bs)
  have hpb : (c.past (bL c.bs)).bs = x :: t := (CS.bs_past _ _).trans hd
  have HB := Lib.hid (fun w h ht => begun_any (w := w) (b := b) (c := c.past (bL c.bs)) h hpo h0 hpb hs ht hg)
  have HT := Lib.hid (show ∀ w', Only b w w' → Hds w' from fun w' h => ht.only h hg)
  have HY := Lib.hid (fun he => tBeg_bad (x := x) (l := x :: t) he)
  have s0 := BgS.first h
  clear h hc h0 hd hpo hpb ht hg
  generalize tBeg x (x :: t) = r at *
  go_enter Tryd.func10, Tryd.ntmps10
  go_wp2_with fail
  generalize w.alloc (.cells #[.int .u8 0, .string ⟨#[]⟩] 33) = w0 at s0 ⊢
  with_reducible refine (HF.out _ s0.cur).mono ?_
  rintro e w1 ⟨rfl, hq1, ho1⟩
  have s1 := s0.step hq1 ho1 hne
  have t1 := HT.out _ s1.2.2
  clear s0 ho1 hq1
  go_wp2_with fail
  with_reducible refine (HB.out _ s1.cur t1).mono ?_
  rintro e w2 ⟨y, rfl, hy, ⟨c2, hq2, hA2⟩, ho2⟩
  have s2 := s1.step hq2 ho2 hne
  have HA2 := Lib.hid hA2
  have hy2 := Lib.hid hy
  have g2 := tk_laid (w := w2) y 33
  have s3 := s2.next (alloc_below w2 (.cells #[.int .u8 (y.1.toNat : Int), .string (bA y.2)] 33))
  have hG : w2.heap.size ≠ w.heap.size := by have := s2.2.1.lt; omega
  have hx2 := s2.2.1.lt
  clear s1 hq2 ho2 t1 hA2 hy s2
  unfold tkV
  have HE := Lib.hid (fun w h => err_any (w := w) (b := b) (c := c2) h)
  rw [HA2.out.2.2.2.1] at HE
  by_cases he : r.e = 0
  · have p1 : (r.e != 0) = false := by rw [he]; rfl
    have hyr := Lib.hid (hy2.out he)
    clear he hy2
    go_wp2_with fail
    with_reducible refine (HE.out _ s3.cur).mono ?_
    rintro e w3 ⟨rfl, hw3⟩
    rw [hw3]; clear hw3
    generalize w2.alloc (.cells #[.int .u8 (y.1.toNat : Int), .string (bA y.2)] 33) = w4 at g2 s3 ⊢
    generalize w2.heap.size = G2 at *
    have a0 := s3.2.1.c0; have a1 := s3.2.1.c1; have af := s3.2.1.fr
    have b0 := g2.c0; have b1 := g2.c1
    have HX := s3.fin (Nat.le_refl _) hne y
    clear s3 g2
    go_wp2
    refine bodyPost_ret (tok_result Tryd.results10 HX.2.1 rfl) rfl ?_
    exact ⟨by rw [HR.out, hyr.out], ⟨_, HX.1, by rw [HR.out]; exact HA2.out.more⟩, HX.2.2⟩
  · have p1 : (r.e != 0) = true := bne_iff_ne.mpr he
    have hyr := Lib.hid (HY.out he).1
    have hhe := Lib.hid he
    clear he hy2
    go_wp2_with fail
    with_reducible refine (HE.out _ s3.cur).mono ?_
    rintro e w3 ⟨rfl, hw3⟩
    rw [hw3]; clear hw3
    generalize w2.alloc (.cells #[.int .u8 (y.1.toNat : Int), .string (bA y.2)] 33) = w4 at g2 s3 ⊢
    generalize w2.heap.size = G2 at *
    have a0 := s3.2.1.c0; have a1 := s3.2.1.c1; have af := s3.2.1.fr
    have HX := s3.fin (Nat.le_refl _) hne (0, [])
    clear s3 g2
    go_wp2
    refine bodyPost_ret (tok_result Tryd.results10 HX.2.1 rfl) rfl ?_
    exact ⟨by rw [HR.out, hyr.out], ⟨_, HX.1, by rw [HR.out]; exact HA2.out.more⟩, HX.2.2⟩
theorem tnext_any {b : Nat} {c : CS} {w : World} (h : CurT 52 w b c) (hc : c.ok) (hs : c.s.size ≤ 140737488351232) (ht : Hds w) (hg : 0 ≠ b) :
    Calls Tryd.prog 10 #[.pointer (some ⟨b, 0, none⟩)] w (NxT c b c.tRes w) := by
  by_cases h0 : c.er = 0
  · match hd : c.bs.drop (bL c.bs) with
    | [] => exact next_none h hc h0 hd
    | x :: t => exact next_some h hc h0 hd hs ht hg
  · exact next_bad h hc h0

theorem new_bytes (s : ByteArray) : (CS.new s).bs = s.data.toList := by
  unfold CS.bs CS.new
  rw [List.drop_zero, List.take_of_length_le (by rw [toList_size]; exact Nat.le_refl _)]
theorem ret_vi {v : Value} {a b : Int} (h : a = b) : Ending.returned (.tuple #[v, .int .i64 a]) = .returned (.tuple #[v, .int .i64 b]) := by rw [h]
def AlRel (s : ByteArray) (b B : Nat) (W : World) (v : Value) (wr : World) : Prop :=
  ∃ (k : Nat) (pre : List TK), k ≤ s.size ∧ pre.length ≤ k ∧ TRow 33 wr B v pre ∧ B ≤ wr.heap.size ∧ CurT 52 wr b ((CS.new s).past k) ∧ Below W.heap.size W wr ∧
    Hid (tAll s.data.toList = if (tAll (s.data.toList.drop k)).2 = 0 then (pre ++ (tAll (s.data.toList.drop k)).1, 0) else ([], (tAll (s.data.toList.drop k)).2))
set_option maxRecDepth 20000 in
set_option maxHeartbeats 2000000 in
theorem all_any (s : ByteArray) (w : World) (hs : s.size ≤ 1099511627776) (ht : Hds w) :
    Calls Tryd.prog 7 #[.string s] w fun e w' => ∃ v, e = .returned (.tuple #[v, .int .i64 (tAll s.data.toList).2]) ∧ TRow 33 w' w.heap.size v (tAll s.data.toList).1 ∧ Below w.heap.size w w' := by
  have HT := Lib.hid (show ∀ w', Below w.heap.size w w' → Hds w' from fun w' h => ht.below h ht.lt)
  have hgl := ht.lt
  have HN := Lib.hid (new_cur s w (by omega))
  clear ht
  go_enter Tryd.func7, Tryd.ntmps7
  go_wp2_with fail
  with_reducible refine HN.out.mono ?_
  rintro e w1 ⟨b, rfl, hb1, hq1, hbel1⟩
  have hbl := hq1.lt
  have HR := Lib.hid (show AlRel s b w1.heap.size w (.slice none 0 0) w1 from ⟨0, [], Nat.zero_le _, Nat.le_refl _, trow_nil _ _ _, Nat.le_refl _, hq1, hbel1, Lib.hid (by
    rw [List.drop_zero]
    by_cases h : (tAll s.data.toList).2 = 0
    · rw [if_pos h, List.nil_append, ← h]
    · rw [if_neg h, ← (tAll_fine _ s.data.toList rfl).1 h])⟩)
  generalize hB : w1.heap.size = B at *
  have hBw : w.heap.size ≤ B := by omega
  have hgb : 0 ≠ b := by omega
  clear hq1 hbel1 hB HN
  go_wp2_with fail
  go_loopw [2, 3, 4] (fun _ _ v wr => AlRel s b B w v wr) (fun _ _ _ wr => s.size + 1 - atOf b wr)
  case atStart => exact HR.out
  case round =>
    clear HR
    obtain ⟨k, pre, hk, hpre, hrow, hBr, hq, hbel, hall⟩ := hrel
    have hok0 : (CS.new s).ok := CS.new_ok (by omega)
    have hlen : (CS.new s).bs.length = s.size := by rw [new_bytes, toList_size]
    have hok := Lib.hid (CS.past_fine hok0 (k := k) (by omega))
    have hat := Lib.hid (atOf_cur hq)
    have hres : ((CS.new s).past k).tRes = tNx (s.data.toList.drop k) := by
      show (if (0 : Int) = 0 then tNx ((CS.new s).past k).bs else _) = _
      rw [if_pos rfl, CS.bs_past, new_bytes]
    have HNx := Lib.hid (tnext_any hq hok.out (show s.size ≤ 140737488351232 by omega) (HT.out _ hbel) hgb)
    rw [hres] at HNx
    have hdl : (s.data.toList.drop k).length = s.size - k := by rw [List.length_drop, toList_size]
    have hF := Lib.hid (fun h h0 => tNx_fine (l := s.data.toList.drop k) h h0)
    have hE := Lib.hid (fun h => tAll_err (l := s.data.toList.drop k) h)
    have hZ := Lib.hid (fun h h0 => tAll_end (l := s.data.toList.drop k) h h0)
    have hS := Lib.hid (fun h h0 => tAll_step (l := s.data.toList.drop k) h h0)
    have hbw : w.heap.size ≤ b := hb1
    have hpl : pre.length ≤ 1099511627776 := by omega
    clear hlen hok0 hres
    generalize tNx (s.data.toList.drop k) = r at *
    go_wp2_with fail
    refine HNx.out.mono ?_
    rintro e w2 ⟨rfl, ⟨c2, hq2, hA2⟩, ho2⟩
    have hbel2 := hbel.trans (ho2.below hbw hbel.size)
    have hrow2 := hrow.only ho2 hbl
    have hB2 : B ≤ w2.heap.size := Nat.le_trans hBr ho2.size
    have q3 := hq2.allocOld (.cells #[.int .u8 (r.tok.1.toNat : Int), .string (bA r.tok.2)] 33)
    have g3 := tk_laid (w := w2) r.tok 33
    have al3 := alloc_below w2 (.cells #[.int .u8 (r.tok.1.toNat : Int), .string (bA r.tok.2)] 33)
    have hrow3 := hrow2.below al3 (Nat.le_refl _)
    have hbel3 := hbel2.trans (al3.mono hbel2.size)
    have hB3 : B ≤ (w2.alloc (.cells #[.int .u8 (r.tok.1.toNat : Int), .string (bA r.tok.2)] 33)).heap.size := Nat.le_trans hB2 al3.size
    have HA2 := Lib.hid hA2
    have HE := Lib.hid (fun w h => err_any (w := w) (b := b) (c := c2) h)
    rw [hA2.2.2.2.1] at HE
    clear hq hrow hbel ho2 hbel2 hrow2 hq2 al3 hA2 HNx
    unfold tkV
    by_cases he : r.e = 0
    · have p1 : (r.e != 0) = false := by rw [he]; rfl
      by_cases hz : r.tok.1 = 0
      · have p2 : ((r.tok.1.toNat : Int) == 0) = true := by rw [hz]; rfl
        have HQ := Lib.hid (hZ.out he hz)
        clear he hz hF hE hZ hS
        go_wp2_with fail
        with_reducible refine (HE.out _ q3).mono ?_
        rintro e w3 ⟨rfl, hw3⟩
        rw [hw3]; clear hw3
        generalize w2.alloc (.cells #[.int .u8 (r.tok.1.toNat : Int), .string (bA r.tok.2)] 33) = w4 at *
        generalize w2.heap.size = G2 at *
        have b0 := g3.c0
        go_wp2
        go_ret2
        have hall2 := hall.out
        rw [HQ.out] at hall2
        simp at hall2
        exact ⟨_, ret_vi (by rw [hall2]), by rw [hall2]; exact hrow3.base hBw, hbel3⟩
      · have p2 : ((r.tok.1.toNat : Int) == 0) = false := (eq8 r.tok.1 0).trans (decide_eq_false hz)
        have HQ := Lib.hid (hS.out he hz)
        obtain ⟨f1, f2, _, _⟩ := hF.out he hz
        have hc2 := HA2.out.2.2.2.2 he
        rw [CS.past_past] at hc2
        rw [hc2] at q3
        clear he hz hF hE hZ hS
        go_wp2_with fail
        with_reducible refine (HE.out _ (by rw [hc2]; exact q3)).mono ?_
        rintro e w3 ⟨rfl, hw3⟩
        rw [hw3]; clear hw3
        generalize w2.alloc (.cells #[.int .u8 (r.tok.1.toNat : Int), .string (bA r.tok.2)] 33) = w4 at *
        generalize w2.heap.size = G2 at *
        have b0 := g3.c0; have b1 := g3.c1
        have HA := Lib.hid hall
        clear hall
        go_wp2_with (at_builtin; go_loud (refine wpList_append_tok rfl (.tmp 22) (.tmp 24) 23 rfl 33 Tryd.underlying23 infoJ _ w4 B pre hrow3 hB3 rfl _ _ r.tok rfl rfl rfl hpl ?_; intro v5 w5 hv5 hb5))
        have q5 := Below.cur hb5 q3 hbl
        have hbel5 := hbel3.trans (hb5.mono hBw)
        have hB5 := Nat.le_trans hB3 hb5.size
        go_roundw
        case rel =>
          refine ⟨k + r.k, pre ++ [r.tok], by omega, by rw [List.length_append, List.length_singleton]; omega, hv5, hB5, q5, hbel5, Lib.hid ?_⟩
          have h1 := HA.out.out
          rw [HQ.out, List.drop_drop] at h1
          rw [h1]
          by_cases h : (tAll (s.data.toList.drop (k + r.k))).2 = 0
          · rw [if_pos h, if_pos h]; simp
          · rw [if_neg h, if_neg h]; simp [h]
        case measure =>
          rw [atOf_cur q5, hat.out]
          show s.size + 1 - (0 + (k + r.k)) < s.size + 1 - (0 + k)
          omega
    · have p1 : (r.e != 0) = true := bne_iff_ne.mpr he
      have HQ := Lib.hid (hE.out he)
      have HX := Lib.hid he
      clear he hF hE hZ hS
      go_wp2_with fail
      with_reducible refine (HE.out _ q3).mono ?_
      rintro e w3 ⟨rfl, hw3⟩
      rw [hw3]; clear hw3
      go_wp2_with fail
      with_reducible refine (HE.out _ q3).mono ?_
      rintro e w3 ⟨rfl, hw3⟩
      rw [hw3]; clear hw3
      generalize w2.alloc (.cells #[.int .u8 (r.tok.1.toNat : Int), .string (bA r.tok.2)] 33) = w4 at *
      generalize w2.heap.size = G2 at *
      go_wp2
      go_ret2
      have hall2 := hall.out
      rw [HQ.out] at hall2
      simp only [if_neg HX.out] at hall2
      exact ⟨_, ret_vi (by rw [hall2]), by rw [hall2]; exact trow_nil _ _ _, hbel3⟩
end Go.Proofs.YticlijjkeeejpaaDoor
