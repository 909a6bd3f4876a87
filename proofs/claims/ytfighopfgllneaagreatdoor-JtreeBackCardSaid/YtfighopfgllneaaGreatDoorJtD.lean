/- Package jtoken's Next, All. -/
import Derived.Test.YtfighopfgllneaaGreatDoorJtC
namespace Go.Proofs.YtfighopfgllneaaGreatDoor
open Go Go.RowKit
set_option linter.unusedVariables false

/-- 12.2: the token that begins at the first byte that is no blank. -/
def CS.tRes (c : CS) : TN := if c.er = 0 then tNx c.bs else ⟨(0, []), 0, c.er⟩
theorem fB_none {l : List UInt8} (h : l.drop (bL l) = []) : fB l = (0, false) := by unfold fB; rw [h]
theorem fB_some {l : List UInt8} {x : UInt8} {t : List UInt8} (h : l.drop (bL l) = x :: t) : fB l = (x, true) := by unfold fB; rw [h]
/-- What Next tells. -/
def NxT (c : CS) (b : Nat) (r : TN) (w : World) (e : Ending) (w' : World) : Prop := e = .returned (tkV r.tok) ∧ (∃ c', CurT 71 w' b c' ∧ CAt c r.k r.e c') ∧ Only b w w'
set_option maxRecDepth 20000 in
set_option maxHeartbeats 1000000 in
theorem next_bad {b : Nat} {c : CS} {w : World} (h : CurT 71 w b c) (hc : c.ok) (h0 : ¬ c.er = 0) :
    Calls Tryz.prog 30 #[.pointer (some ⟨b, 0, none⟩)] w (NxT c b c.tRes w) := by
  have HR := Lib.hid (show c.tRes = ⟨(0, []), 0, c.er⟩ by unfold CS.tRes; rw [if_neg h0])
  have hne : w.heap.size ≠ b := by have := h.lt; omega
  have HF := Lib.hid (fun w h => first_bad (w := w) (b := b) h hc h0)
  have HA := Lib.hid (show CAt c 0 c.er c from ⟨hc, rfl, rfl, rfl, fun e => absurd e h0⟩)
  have s0 := BgS.first h
  clear h hc h0
  go_enter Tryz.func30, Tryz.ntmps30
  go_wp2_with fail
  generalize w.alloc (.cells #[.int .u8 0, .string ⟨#[]⟩] 54) = w0 at s0 ⊢
  with_reducible refine (HF.out _ s0.cur).mono ?_
  rintro e w1 ⟨rfl, hq1, ho1⟩
  have s1 := s0.step hq1 ho1 hne
  have a0 := s1.2.1.c0; have a1 := s1.2.1.c1; have af := s1.2.1.fr
  have HX := s1.fin (Nat.le_refl _) hne (0, [])
  clear s0 ho1 hq1
  go_wp2
  refine bodyPost_ret (tok_result Tryz.results30 HX.2.1 rfl) rfl ?_
  exact ⟨by rw [HR.out], ⟨_, HX.1, by rw [HR.out]; exact HA.out⟩, HX.2.2⟩
set_option maxRecDepth 20000 in
set_option maxHeartbeats 1000000 in
theorem next_none {b : Nat} {c : CS} {w : World} (h : CurT 71 w b c) (hc : c.ok) (h0 : c.er = 0) (hd : c.bs.drop (bL c.bs) = []) :
    Calls Tryz.prog 30 #[.pointer (some ⟨b, 0, none⟩)] w (NxT c b c.tRes w) := by
  have HR := Lib.hid (show c.tRes = ⟨(0, []), bL c.bs, 0⟩ by unfold CS.tRes; rw [if_pos h0, tNx_none hd])
  have hne : w.heap.size ≠ b := by have := h.lt; omega
  have HF := Lib.hid (fun w h => first_any (w := w) (b := b) h hc h0)
  rw [fB_none hd] at HF
  have HA := Lib.hid (CAt.past hc h0 (bl_len c.bs))
  have s0 := BgS.first h
  clear h hc h0 hd
  go_enter Tryz.func30, Tryz.ntmps30
  go_wp2_with fail
  generalize w.alloc (.cells #[.int .u8 0, .string ⟨#[]⟩] 54) = w0 at s0 ⊢
  with_reducible refine (HF.out _ s0.cur).mono ?_
  rintro e w1 ⟨rfl, hq1, ho1⟩
  have s1 := s0.step hq1 ho1 hne
  have a0 := s1.2.1.c0; have a1 := s1.2.1.c1; have af := s1.2.1.fr
  have HX := s1.fin (Nat.le_refl _) hne (0, [])
  clear s0 ho1 hq1
  go_wp2
  refine bodyPost_ret (tok_result Tryz.results30 HX.2.1 rfl) rfl ?_
  exact ⟨by rw [HR.out], ⟨_, HX.1, by rw [HR.out]; exact HA.out⟩, HX.2.2⟩
/-- A block that has just been laid over a call's world. -/
theorem tk_laid {w : World} (y : TK) (t : TypeId) : TkT t (w.alloc (.cells #[.int .u8 (y.1.toNat : Int), .string (bA y.2)] t)) w.heap.size y := tk_alloc y t
set_option maxRecDepth 20000 in
set_option maxHeartbeats 2000000 in
theorem next_some {b : Nat} {c : CS} {w : World} {x : UInt8} {t : List UInt8} (h : CurT 71 w b c) (hc : c.ok) (h0 : c.er = 0) (hd : c.bs.drop (bL c.bs) = x :: t) (hs : c.s.size ≤ 140737488352256) (ht : Hds w) (hg : 0 ≠ b) :
    Calls Tryz.prog 30 #[.pointer (some ⟨b, 0, none⟩)] w (NxT c b c.tRes w) := by
  have HR := Lib.hid (show c.tRes = ⟨(tBeg x (x :: t)).tok, bL c.bs + (tBeg x (x :: t)).k, (tBeg x (x :: t)).e⟩ by unfold CS.tRes; rw [if_pos h0, tNx_some hd])
  have hne : w.heap.size ≠ b := by have := h.lt; omega
  have HF := Lib.hid (fun w h => first_any (w := w) (b := b) h hc h0)
  rw [fB_some hd] at HF
  have hpo := CS.past_fine hc (bl_len c.bs)
  have hpb : (c.past (bL c.bs)).bs = x :: t := (CS.bs_past _ _).trans hd
  have HB := Lib.hid (fun w h ht => begun_any (w := w) (b := b) (c := c.past (bL c.bs)) h hpo h0 hpb hs ht hg)
  have HT := Lib.hid (show ∀ w', Only b w w' → Hds w' from fun w' h => ht.only h hg)
  have HY := Lib.hid (fun he => tBeg_bad (x := x) (l := x :: t) he)
  have s0 := BgS.first h
  clear h hc h0 hd hpo hpb ht hg
  generalize tBeg x (x :: t) = r at *
  go_enter Tryz.func30, Tryz.ntmps30
  go_wp2_with fail
  generalize w.alloc (.cells #[.int .u8 0, .string ⟨#[]⟩] 54) = w0 at s0 ⊢
  with_reducible refine (HF.out _ s0.cur).mono ?_
  rintro e w1 ⟨rfl, hq1, ho1⟩
  have s1 := s0.step hq1 ho1 hne
  have t1 := HT.out _ s1.2.2
  clear s0 ho1 hq1
  go_wp2_with fail
  with_reducible refine (HB.out _ s1.cur t1).mono ?_
  rintro e w2 ⟨y, rfl, hy, ⟨c2, hq2, hA2⟩, ho2⟩
  have s2 := s1.step hq2 ho2 hne
  have HA2 := Lib.hid hA2
  have hy2 := Lib.hid hy
  have g2 := tk_laid (w := w2) y 54
  have s3 := s2.next (alloc_below w2 (.cells #[.int .u8 (y.1.toNat : Int), .string (bA y.2)] 54))
  have hG : w2.heap.size ≠ w.heap.size := by have := s2.2.1.lt; omega
  have hx2 := s2.2.1.lt
  clear s1 hq2 ho2 t1 hA2 hy s2
  unfold tkV
  have HE := Lib.hid (fun w h => err_any (w := w) (b := b) (c := c2) h)
  rw [HA2.out.2.2.2.1] at HE
  by_cases he : r.e = 0
  · have p1 : (r.e != 0) = false := by rw [he]; rfl
    have hyr := Lib.hid (hy2.out he)
    clear he hy2
    go_wp2_with fail
    with_reducible refine (HE.out _ s3.cur).mono ?_
    rintro e w3 ⟨rfl, hw3⟩
    rw [hw3]; clear hw3
    generalize w2.alloc (.cells #[.int .u8 (y.1.toNat : Int), .string (bA y.2)] 54) = w4 at g2 s3 ⊢
    generalize w2.heap.size = G2 at *
    have a0 := s3.2.1.c0; have a1 := s3.2.1.c1; have af := s3.2.1.fr
    have b0 := g2.c0; have b1 := g2.c1
    have HX := s3.fin (Nat.le_refl _) hne y
    clear s3 g2
    go_wp2
    refine bodyPost_ret (tok_result Tryz.results30 HX.2.1 rfl) rfl ?_
    exact ⟨by rw [HR.out, hyr.out], ⟨_, HX.1, by rw [HR.out]; exact HA2.out.more⟩, HX.2.2⟩
  · have p1 : (r.e != 0) = true := bne_iff_ne.mpr he
    have hyr := Lib.hid (HY.out he).1
    have hhe := Lib.hid he
    clear he hy2
    go_wp2_with fail
    with_reducible refine (HE.out _ s3.cur).mono ?_
    rintro e w3 ⟨rfl, hw3⟩
    rw [hw3]; clear hw3
    generalize w2.alloc (.cells #[.int .u8 (y.1.toNat : Int), .string (bA y.2)] 54) = w4 at g2 s3 ⊢
    generalize w2.heap.size = G2 at *
    have a0 := s3.2.1.c0; have a1 := s3.2.1.c1; have af := s3.2.1.fr
    have HX := s3.fin (Nat.le_refl _) hne (0, [])
    clear s3 g2
    go_wp2
    refine bodyPost_ret (tok_result Tryz.results30 HX.2.1 rfl) rfl ?_
    exact ⟨by rw [HR.out, hyr.out], ⟨_, HX.1, by rw [HR.out]; exact HA2.out.more⟩, HX.2.2⟩
theorem tnext_any {b : Nat} {c : CS} {w : World} (h : CurT 71 w b c) (hc : c.ok) (hs : c.s.size ≤ 140737488352256) (ht : Hds w) (hg : 0 ≠ b) :
    Calls Tryz.prog 30 #[.pointer (some ⟨b, 0, none⟩)] w (NxT c b c.tRes w) := by
  by_cases h0 : c.er = 0
  · match hd : c.bs.drop (bL c.bs) with
    | [] => exact next_none h hc h0 hd
    | x :: t => exact next_some h hc h0 hd hs ht hg
  · exact next_bad h hc h0

theorem new_bytes (s : ByteArray) : (CS.new s).bs = s.data.toList := by
  unfold CS.bs CS.new
  rw [List.drop_zero, List.take_of_length_le (by rw [toList_size]; exact Nat.le_refl _)]
theorem ret_vi {v : Value} {a b : Int} (h : a = b) : Ending.returned (.tuple #[v, .int .i64 a]) = .returned (.tuple #[v, .int .i64 b]) := by rw [h]
def AlRel (s : ByteArray) (b B : Nat) (W : World) (v : Value) (wr : World) : Prop :=
  ∃ (k : Nat) (pre : List TK), k ≤ s.size ∧ pre.length ≤ k ∧ TRow 54 wr B v pre ∧ B ≤ wr.heap.size ∧ CurT 71 wr b ((CS.new s).past k) ∧ Below W.heap.size W wr ∧
    Hid (tAll s.data.toList = if (tAll (s.data.toList.drop k)).2 = 0 then (pre ++ (tAll (s.data.toList.drop k)).1, 0) else ([], (tAll (s.data.toList.drop k)).2))
end Go.Proofs.YtfighopfgllneaaGreatDoor
