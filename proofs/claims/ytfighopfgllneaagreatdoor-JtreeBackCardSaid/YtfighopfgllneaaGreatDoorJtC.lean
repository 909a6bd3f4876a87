/- Package jtoken's begun, Next. -/
import Derived.Test.YtfighopfgllneaaGreatDoorJtB
import Derived.Test.YtfighopfgllneaaGreatDoorJsRd
import Derived.Test.YtfighopfgllneaaGreatDoorZG
namespace Go.Proofs.YtfighopfgllneaaGreatDoor
open Go Go.RowKit
set_option linter.unusedVariables false

theorem CS.jRes_jL {c : CS} (h : c.er = 0) : c.jRes = jL c.bs := by
  match hb : c.bs with
  | [] => rw [CS.jRes_nil h hb]; rfl
  | x :: t =>
    rw [jL_cons]
    by_cases hx : x.toNat = 34
    · rw [CS.jRes_in h hb hx, if_pos hx]
    · rw [CS.jRes_other h hb hx, if_neg hx]
theorem eq8 (x y : UInt8) : ((x.toNat : Int) == (y.toNat : Int)) = decide (x = y) := by
  by_cases e : x = y
  · rw [e]; simp
  · rw [decide_eq_false e]
    exact beq_eq_false_iff_ne.mpr (fun e2 => e (UInt8.toNat_inj.mp (by omega)))
/-- The cursor at b, the token at G, all else as it was. -/
def BgS (c : CS) (b G : Nat) (W wr : World) : Prop := CurT 71 wr b c ∧ TkT 54 wr G (0, []) ∧ Only b W wr
theorem BgS.cur {c : CS} {b G : Nat} {W wr : World} (h : BgS c b G W wr) : CurT 71 wr b c := h.1
theorem BgS.next {c : CS} {b G : Nat} {W wr w' : World} (h : BgS c b G W wr) (hb : Below wr.heap.size wr w') : BgS c b G W w' :=
  ⟨Below.cur hb h.1 h.1.lt, h.2.1.below hb h.2.1.lt, only_then h.2.2 hb h.2.2.size⟩
theorem BgS.step {c c' : CS} {b G : Nat} {W wr w' : World} (h : BgS c b G W wr) (hq : CurT 71 w' b c') (ho : Only b wr w') (hne : G ≠ b) : BgS c' b G W w' :=
  ⟨hq, h.2.1.only ho hne, h.2.2.trans ho⟩
theorem BgS.fin {c : CS} {b G : Nat} {W wr : World} (h : BgS c b G W wr) (hG : W.heap.size ≤ G) (hne : G ≠ b) (y : TK) :
    CurT 71 ((wr.setCell ⟨G, 0, none⟩ (.int .u8 (y.1.toNat : Int))).setCell ⟨G, 1, none⟩ (.string (bA y.2))) b c ∧
    TkT 54 ((wr.setCell ⟨G, 0, none⟩ (.int .u8 (y.1.toNat : Int))).setCell ⟨G, 1, none⟩ (.string (bA y.2))) G y ∧
    Only b W ((wr.setCell ⟨G, 0, none⟩ (.int .u8 (y.1.toNat : Int))).setCell ⟨G, 1, none⟩ (.string (bA y.2))) :=
  ⟨(Only.setTk wr G y).cur h.1 (Ne.symm hne), h.2.1.setAll y, only_then h.2.2 ((Only.setTk wr G y).below hG h.2.2.size) (Nat.le_refl _)⟩
theorem BgS.first {c : CS} {b : Nat} {w : World} (h : CurT 71 w b c) : BgS c b w.heap.size w (w.alloc (.cells #[.int .u8 0, .string ⟨#[]⟩] 54)) :=
  ⟨h.allocOld _, tk_alloc (w := w) ((0, []) : TK) 54, (Only.refl _ _).alloc _⟩
/-- What begun tells: a token just if nothing is wrong. -/
def BgT (c : CS) (b : Nat) (r : TN) (w : World) (e : Ending) (w' : World) : Prop := ∃ y : TK, e = .returned (tkV y) ∧ (r.e = 0 → y = r.tok) ∧ (∃ c', CurT 71 w' b c' ∧ CAt c r.k r.e c') ∧ Only b w w'
theorem sign_is {x : UInt8} {v : Bool} (h : tSign x = v) (w : World) :
    Calls Tryz.prog 60 #[.int .u8 (x.toNat : Int)] w fun e w' => e = .returned (.bool v) ∧ Below w.heap.size w w' := by
  rw [← h]; exact sign_any x w
theorem am_dig {x : UInt8} {v : Bool} (h : tDig x = v) (w : World) :
    Calls Tryz.prog 58 #[.int .u8 (x.toNat : Int), .slice (some ⟨w.heap.size, 0, none⟩) 11 11] (w.alloc (.cells #[.int .u8 45, .int .u8 48, .int .u8 49, .int .u8 50, .int .u8 51, .int .u8 52, .int .u8 53, .int .u8 54, .int .u8 55, .int .u8 56, .int .u8 57] 5)) fun e w' => e = .returned (.bool v) ∧ Below w.heap.size w w' :=
  among_new x w 11 [45, 48, 49, 50, 51, 52, 53, 54, 55, 56, 57] _ _ _ h rfl rfl (by decide)

set_option maxRecDepth 20000 in
set_option maxHeartbeats 1000000 in
theorem begun_sign {b : Nat} {c : CS} {w : World} {x : UInt8} {t : List UInt8} (h : CurT 71 w b c) (hc : c.ok) (h0 : c.er = 0) (hb : c.bs = x :: t) (hx : tSign x = true) :
    Calls Tryz.prog 48 #[.pointer (some ⟨b, 0, none⟩), .int .u8 (x.toNat : Int)] w (BgT c b (tBeg x (x :: t)) w) := by
  have HR := Lib.hid (show tBeg x (x :: t) = ⟨(x, []), 1, 0⟩ by unfold tBeg; rw [if_pos hx])
  have hne : w.heap.size ≠ b := by have := h.lt; omega
  have HS := Lib.hid (sign_is hx)
  have HB := Lib.hid (fun w h => byte_next (w := w) (b := b) h hc h0 hb)
  have HA := Lib.hid (CAt.past hc h0 (show 1 ≤ c.bs.length by rw [hb]; simp))
  have s0 := BgS.first h
  clear hx hb h
  go_enter Tryz.func48, Tryz.ntmps48
  go_wp2_with fail
  generalize w.alloc (.cells #[.int .u8 0, .string ⟨#[]⟩] 54) = w0 at s0 ⊢
  with_reducible refine (HS.out _).mono ?_
  rintro e w1 ⟨rfl, hb1⟩
  have s1 := s0.next hb1
  clear s0 hb1
  go_wp2_with fail
  with_reducible refine (HB.out _ s1.cur).mono ?_
  rintro e w2 ⟨rfl, hq2, ho2⟩
  have s2 := s1.step hq2 ho2 hne
  have a0 := s2.2.1.c0; have a1 := s2.2.1.c1; have af := s2.2.1.fr
  have HF := s2.fin (Nat.le_refl _) hne (x, [])
  clear s1 ho2 hq2
  go_wp2
  refine bodyPost_ret (tok_result Tryz.results48 HF.2.1 rfl) rfl ?_
  exact ⟨_, rfl, fun _ => by rw [HR.out], ⟨_, HF.1, by rw [HR.out]; exact HA.out⟩, HF.2.2⟩
set_option maxRecDepth 20000 in
set_option maxHeartbeats 1000000 in
theorem begun_text {b : Nat} {c : CS} {w : World} {x : UInt8} {t : List UInt8} (h : CurT 71 w b c) (hc : c.ok) (h0 : c.er = 0) (hb : c.bs = x :: t) (hx : tSign x = false) (hx2 : x = 34) (hs : c.s.size ≤ 140737488352256) (ht : Hds w) (hg : 0 ≠ b) :
    Calls Tryz.prog 48 #[.pointer (some ⟨b, 0, none⟩), .int .u8 (x.toNat : Int)] w (BgT c b (tBeg x (x :: t)) w) := by
  have hj := CS.jRes_jL h0
  rw [hb] at hj
  have HR := Lib.hid (show ((tBeg x (x :: t)).e = 0 → (115, c.jRes.t) = (tBeg x (x :: t)).tok) ∧ (tBeg x (x :: t)).e = c.jRes.e ∧ ((tBeg x (x :: t)).e = 0 → (tBeg x (x :: t)).k = c.jRes.k) by
    rw [hj]; unfold tBeg; rw [if_neg (by rw [hx]; decide), if_pos hx2]
    by_cases he : (jL (x :: t)).e = 0
    · rw [if_pos he]; exact ⟨fun _ => rfl, he.symm, fun _ => rfl⟩
    · rw [if_neg he]; exact ⟨fun h => absurd h he, rfl, fun h => absurd h he⟩)
  have hne : w.heap.size ≠ b := by have := h.lt; omega
  have HS := Lib.hid (sign_is hx)
  have HB := Lib.hid (fun w h ht => jread_any (w := w) (b := b) h hc hs ht hg)
  have HT := Lib.hid (show ∀ w', Only b w w' → Hds w' from fun w' h => ht.only h hg)
  have p1 : ((x.toNat : Int) == 34) = true := by rw [hx2]; rfl
  obtain ⟨T, hT⟩ : ∃ T, T = bA c.jRes.t := ⟨_, rfl⟩
  have HTT := Lib.hid hT
  rw [← hT] at HB
  have s0 := BgS.first h
  clear hx hb h hx2 hj ht hg hT
  go_enter Tryz.func48, Tryz.ntmps48
  go_wp2_with fail
  generalize w.alloc (.cells #[.int .u8 0, .string ⟨#[]⟩] 54) = w0 at s0 ⊢
  with_reducible refine (HS.out _).mono ?_
  rintro e w1 ⟨rfl, hb1⟩
  have s1 := s0.next hb1
  have t1 := Lib.hid (HT.out _ s1.2.2)
  clear s0 hb1
  go_wp2_with fail
  with_reducible refine (HB.out _ s1.cur t1.out).mono ?_
  rintro e w2 ⟨rfl, ⟨c2, hq2, hA2⟩, ho2⟩
  have s2 := s1.step hq2 ho2 hne
  have a0 := s2.2.1.c0; have a1 := s2.2.1.c1; have af := s2.2.1.fr
  have HF := s2.fin (Nat.le_refl _) hne (115, c.jRes.t)
  have HA := Lib.hid hA2
  rw [← HTT.out] at HF
  clear s1 ho2 hq2 hA2
  go_wp2
  refine bodyPost_ret (tok_result Tryz.results48 HF.2.1 rfl) rfl ?_
  refine ⟨_, rfl, HR.out.1, ⟨_, HF.1, ?_⟩, HF.2.2⟩
  obtain ⟨z1, z2, z3⟩ := HR.out
  by_cases he : c.jRes.e = 0
  · rw [z2, z3 (z2.trans he)]; exact HA.out
  · rw [z2]; exact HA.out.no he
set_option maxRecDepth 20000 in
set_option maxHeartbeats 1000000 in
theorem begun_num {b : Nat} {c : CS} {w : World} {x : UInt8} {t : List UInt8} (h : CurT 71 w b c) (hc : c.ok) (h0 : c.er = 0) (hb : c.bs = x :: t) (hx : tSign x = false) (hx2 : ¬ x = 34) (hx3 : tDig x = true) (hs : c.s.size ≤ 140737488352256) :
    Calls Tryz.prog 48 #[.pointer (some ⟨b, 0, none⟩), .int .u8 (x.toNat : Int)] w (BgT c b (tBeg x (x :: t)) w) := by
  have hn : c.nc = nCode (x :: t) := by unfold CS.nc; rw [if_pos h0, hb]
  have hnt : c.nt = if nCode (x :: t) = 0 then (x :: t).take (nE (x :: t)) else [] := by unfold CS.nt; rw [hn, hb]
  have HR := Lib.hid (show ((tBeg x (x :: t)).e = 0 → (110, c.nt) = (tBeg x (x :: t)).tok) ∧ (tBeg x (x :: t)).e = c.nc ∧ ((tBeg x (x :: t)).e = 0 → (tBeg x (x :: t)).k = nE c.bs) by
    rw [hn, hnt, hb]; unfold tBeg; rw [if_neg (by rw [hx]; decide), if_neg hx2, if_pos hx3]
    by_cases he : nCode (x :: t) = 0
    · rw [if_pos he, if_pos he]; exact ⟨fun _ => rfl, he.symm, fun _ => rfl⟩
    · rw [if_neg he]; exact ⟨fun h => absurd h he, rfl, fun h => absurd h he⟩)
  have hne : w.heap.size ≠ b := by have := h.lt; omega
  have HS := Lib.hid (sign_is hx)
  have HD := Lib.hid (am_dig hx3)
  have HB := Lib.hid (fun w h => nread_any (w := w) (b := b) h hc hs)
  have p1 : ((x.toNat : Int) == 34) = false := (eq8 x 34).trans (decide_eq_false hx2)
  obtain ⟨T, hT⟩ : ∃ T, T = bA c.nt := ⟨_, rfl⟩
  have HTT := Lib.hid hT
  rw [← hT] at HB
  have s0 := BgS.first h
  clear hx hb h hx2 hx3 hn hnt hT
  go_enter Tryz.func48, Tryz.ntmps48
  go_wp2_with fail
  generalize w.alloc (.cells #[.int .u8 0, .string ⟨#[]⟩] 54) = w0 at s0 ⊢
  with_reducible refine (HS.out _).mono ?_
  rintro e w1 ⟨rfl, hb1⟩
  have s1 := s0.next hb1
  clear s0 hb1
  go_wp2_with fail
  with_reducible refine (HD.out _).mono ?_
  rintro e w2 ⟨rfl, hb2⟩
  have s2 := s1.next hb2
  clear s1 hb2
  go_wp2_with fail
  with_reducible refine (HB.out _ s2.cur).mono ?_
  rintro e w3 ⟨rfl, ⟨c3, hq3, hA3⟩, ho3⟩
  have s3 := s2.step hq3 ho3 hne
  have a0 := s3.2.1.c0; have a1 := s3.2.1.c1; have af := s3.2.1.fr
  have HF := s3.fin (Nat.le_refl _) hne (110, c.nt)
  have HA := Lib.hid hA3
  rw [← HTT.out] at HF
  clear s2 ho3 hq3 hA3
  go_wp2
  refine bodyPost_ret (tok_result Tryz.results48 HF.2.1 rfl) rfl ?_
  refine ⟨_, rfl, HR.out.1, ⟨_, HF.1, ?_⟩, HF.2.2⟩
  obtain ⟨z1, z2, z3⟩ := HR.out
  by_cases he : c.nc = 0
  · rw [z2, z3 (z2.trans he)]; exact HA.out
  · rw [z2]; exact HA.out.no he
/-- A word that begins with x, of kind k. -/
theorem word_res {c : CS} {b : Nat} {w w' : World} {x k : UInt8} {t : List UInt8} {c' : CS} (hb : c.bs = x :: t) (hr : tBeg x (x :: t) = tWn k (x :: t)) (hA : CAt c (tW k).length (tWd (tW k) c.bs) c') :
    ((tBeg x (x :: t)).e = 0 → (k, []) = (tBeg x (x :: t)).tok) ∧ CAt c (tBeg x (x :: t)).k (tBeg x (x :: t)).e c' := by
  rw [hr]
  rw [hb] at hA
  unfold tWn
  by_cases he : tWd (tW k) (x :: t) = 0
  · rw [if_pos he]
    rw [he] at hA
    exact ⟨fun _ => rfl, hA⟩
  · rw [if_neg he]
    exact ⟨fun h => absurd h he, hA.no he⟩
set_option maxRecDepth 20000 in
set_option maxHeartbeats 1000000 in
theorem begun_t {b : Nat} {c : CS} {w : World} {x : UInt8} {t : List UInt8} (h : CurT 71 w b c) (hc : c.ok) (h0 : c.er = 0) (hb : c.bs = x :: t) (hx : x = 116) :
    Calls Tryz.prog 48 #[.pointer (some ⟨b, 0, none⟩), .int .u8 (x.toNat : Int)] w (BgT c b (tBeg x (x :: t)) w) := by
  have hr : tBeg x (x :: t) = tWn 116 (x :: t) := by rw [hx]; rfl
  have HR := Lib.hid (fun w w' c' => word_res (b := b) (w := w) (w' := w') (c' := c') hb hr)
  have hne : w.heap.size ≠ b := by have := h.lt; omega
  have HS := Lib.hid (sign_is (show tSign x = false by rw [hx]; decide))
  have HD := Lib.hid (am_dig (show tDig x = false by rw [hx]; decide))
  have HB := Lib.hid (fun w h => spelt_any (w := w) (b := b) 116 (.inl rfl) h hc h0)
  have p1 : ((x.toNat : Int) == 34) = false := by rw [hx]; rfl
  have p2 : ((x.toNat : Int) == 116) = true := by rw [hx]; rfl
  have s0 := BgS.first h
  clear hx hb h hr
  go_enter Tryz.func48, Tryz.ntmps48
  go_wp2_with fail
  generalize w.alloc (.cells #[.int .u8 0, .string ⟨#[]⟩] 54) = w0 at s0 ⊢
  with_reducible refine (HS.out _).mono ?_
  rintro e w1 ⟨rfl, hb1⟩
  have s1 := s0.next hb1
  clear s0 hb1
  go_wp2_with fail
  with_reducible refine (HD.out _).mono ?_
  rintro e w2 ⟨rfl, hb2⟩
  have s2 := s1.next hb2
  clear s1 hb2
  go_wp2_with fail
  refine (HB.out _ s2.cur).mono ?_
  rintro e w3 ⟨rfl, ⟨c3, hq3, hA3⟩, ho3⟩
  have s3 := s2.step hq3 ho3 hne
  have a0 := s3.2.1.c0; have a1 := s3.2.1.c1; have af := s3.2.1.fr
  have HF := s3.fin (Nat.le_refl _) hne (116, [])
  have HA := Lib.hid (HR.out w w3 c3 hA3)
  clear s2 ho3 hq3 hA3
  unfold tkV
  go_wp2
  refine bodyPost_ret (tok_result Tryz.results48 HF.2.1 rfl) rfl ?_
  exact ⟨_, rfl, HA.out.1, ⟨_, HF.1, HA.out.2⟩, HF.2.2⟩
set_option maxRecDepth 20000 in
set_option maxHeartbeats 1000000 in
theorem begun_f {b : Nat} {c : CS} {w : World} {x : UInt8} {t : List UInt8} (h : CurT 71 w b c) (hc : c.ok) (h0 : c.er = 0) (hb : c.bs = x :: t) (hx : x = 102) :
    Calls Tryz.prog 48 #[.pointer (some ⟨b, 0, none⟩), .int .u8 (x.toNat : Int)] w (BgT c b (tBeg x (x :: t)) w) := by
  have hr : tBeg x (x :: t) = tWn 102 (x :: t) := by rw [hx]; rfl
  have HR := Lib.hid (fun w w' c' => word_res (b := b) (w := w) (w' := w') (c' := c') hb hr)
  have hne : w.heap.size ≠ b := by have := h.lt; omega
  have HS := Lib.hid (sign_is (show tSign x = false by rw [hx]; decide))
  have HD := Lib.hid (am_dig (show tDig x = false by rw [hx]; decide))
  have HB := Lib.hid (fun w h => spelt_any (w := w) (b := b) 102 (.inr (.inl rfl)) h hc h0)
  have p1 : ((x.toNat : Int) == 34) = false := by rw [hx]; rfl
  have p2 : ((x.toNat : Int) == 116) = false := by rw [hx]; rfl
  have p3 : ((x.toNat : Int) == 102) = true := by rw [hx]; rfl
  have s0 := BgS.first h
  clear hx hb h hr
  go_enter Tryz.func48, Tryz.ntmps48
  go_wp2_with fail
  generalize w.alloc (.cells #[.int .u8 0, .string ⟨#[]⟩] 54) = w0 at s0 ⊢
  with_reducible refine (HS.out _).mono ?_
  rintro e w1 ⟨rfl, hb1⟩
  have s1 := s0.next hb1
  clear s0 hb1
  go_wp2_with fail
  with_reducible refine (HD.out _).mono ?_
  rintro e w2 ⟨rfl, hb2⟩
  have s2 := s1.next hb2
  clear s1 hb2
  go_wp2_with fail
  refine (HB.out _ s2.cur).mono ?_
  rintro e w3 ⟨rfl, ⟨c3, hq3, hA3⟩, ho3⟩
  have s3 := s2.step hq3 ho3 hne
  have a0 := s3.2.1.c0; have a1 := s3.2.1.c1; have af := s3.2.1.fr
  have HF := s3.fin (Nat.le_refl _) hne (102, [])
  have HA := Lib.hid (HR.out w w3 c3 hA3)
  clear s2 ho3 hq3 hA3
  unfold tkV
  go_wp2
  refine bodyPost_ret (tok_result Tryz.results48 HF.2.1 rfl) rfl ?_
  exact ⟨_, rfl, HA.out.1, ⟨_, HF.1, HA.out.2⟩, HF.2.2⟩
set_option maxRecDepth 20000 in
set_option maxHeartbeats 1000000 in
theorem begun_n {b : Nat} {c : CS} {w : World} {x : UInt8} {t : List UInt8} (h : CurT 71 w b c) (hc : c.ok) (h0 : c.er = 0) (hb : c.bs = x :: t) (hx : x = 110) :
    Calls Tryz.prog 48 #[.pointer (some ⟨b, 0, none⟩), .int .u8 (x.toNat : Int)] w (BgT c b (tBeg x (x :: t)) w) := by
  have hr : tBeg x (x :: t) = tWn 122 (x :: t) := by rw [hx]; rfl
  have HR := Lib.hid (fun w w' c' => word_res (b := b) (w := w) (w' := w') (c' := c') hb hr)
  have hne : w.heap.size ≠ b := by have := h.lt; omega
  have HS := Lib.hid (sign_is (show tSign x = false by rw [hx]; decide))
  have HD := Lib.hid (am_dig (show tDig x = false by rw [hx]; decide))
  have HB := Lib.hid (fun w h => spelt_any (w := w) (b := b) 122 (.inr (.inr rfl)) h hc h0)
  have p1 : ((x.toNat : Int) == 34) = false := by rw [hx]; rfl
  have p2 : ((x.toNat : Int) == 116) = false := by rw [hx]; rfl
  have p3 : ((x.toNat : Int) == 102) = false := by rw [hx]; rfl
  have p4 : ((x.toNat : Int) == 110) = true := by rw [hx]; rfl
  have s0 := BgS.first h
  clear hx hb h hr
  go_enter Tryz.func48, Tryz.ntmps48
  go_wp2_with fail
  generalize w.alloc (.cells #[.int .u8 0, .string ⟨#[]⟩] 54) = w0 at s0 ⊢
  with_reducible refine (HS.out _).mono ?_
  rintro e w1 ⟨rfl, hb1⟩
  have s1 := s0.next hb1
  clear s0 hb1
  go_wp2_with fail
  with_reducible refine (HD.out _).mono ?_
  rintro e w2 ⟨rfl, hb2⟩
  have s2 := s1.next hb2
  clear s1 hb2
  go_wp2_with fail
  refine (HB.out _ s2.cur).mono ?_
  rintro e w3 ⟨rfl, ⟨c3, hq3, hA3⟩, ho3⟩
  have s3 := s2.step hq3 ho3 hne
  have a0 := s3.2.1.c0; have a1 := s3.2.1.c1; have af := s3.2.1.fr
  have HF := s3.fin (Nat.le_refl _) hne (122, [])
  have HA := Lib.hid (HR.out w w3 c3 hA3)
  clear s2 ho3 hq3 hA3
  unfold tkV
  go_wp2
  refine bodyPost_ret (tok_result Tryz.results48 HF.2.1 rfl) rfl ?_
  exact ⟨_, rfl, HA.out.1, ⟨_, HF.1, HA.out.2⟩, HF.2.2⟩
set_option maxRecDepth 20000 in
set_option maxHeartbeats 1000000 in
theorem begun_no {b : Nat} {c : CS} {w : World} {x : UInt8} {t : List UInt8} (h : CurT 71 w b c) (hc : c.ok) (h0 : c.er = 0) (hb : c.bs = x :: t) (hx : tSign x = false) (hx2 : ¬ x = 34) (hx3 : tDig x = false) (hx4 : ¬ x = 116) (hx5 : ¬ x = 102) (hx6 : ¬ x = 110) :
    Calls Tryz.prog 48 #[.pointer (some ⟨b, 0, none⟩), .int .u8 (x.toNat : Int)] w (BgT c b (tBeg x (x :: t)) w) := by
  have HR := Lib.hid (show tBeg x (x :: t) = ⟨(0, []), 0, 3⟩ by
    unfold tBeg; rw [if_neg (by rw [hx]; decide), if_neg hx2, if_neg (by rw [hx3]; decide), if_neg hx4, if_neg hx5, if_neg hx6])
  have hne : w.heap.size ≠ b := by have := h.lt; omega
  have HS := Lib.hid (sign_is hx)
  have HD := Lib.hid (am_dig hx3)
  have HB := Lib.hid (fun w h => fail_fresh (w := w) (b := b) h h0 3)
  have HA := Lib.hid (CAt.bad0 hc 0 (show (3 : Int) ≠ 0 by decide))
  have p1 : ((x.toNat : Int) == 34) = false := (eq8 x 34).trans (decide_eq_false hx2)
  have p2 : ((x.toNat : Int) == 116) = false := (eq8 x 116).trans (decide_eq_false hx4)
  have p3 : ((x.toNat : Int) == 102) = false := (eq8 x 102).trans (decide_eq_false hx5)
  have p4 : ((x.toNat : Int) == 110) = false := (eq8 x 110).trans (decide_eq_false hx6)
  have s0 := BgS.first h
  clear hx hb h hx2 hx3 hx4 hx5 hx6
  go_enter Tryz.func48, Tryz.ntmps48
  go_wp2_with fail
  generalize w.alloc (.cells #[.int .u8 0, .string ⟨#[]⟩] 54) = w0 at s0 ⊢
  with_reducible refine (HS.out _).mono ?_
  rintro e w1 ⟨rfl, hb1⟩
  have s1 := s0.next hb1
  clear s0 hb1
  go_wp2_with fail
  with_reducible refine (HD.out _).mono ?_
  rintro e w2 ⟨rfl, hb2⟩
  have s2 := s1.next hb2
  clear s1 hb2
  go_wp2_with fail
  with_reducible refine (HB.out _ s2.cur).mono ?_
  rintro e w3 ⟨rfl, hq3, ho3⟩
  have s3 := s2.step hq3 ho3 hne
  have a0 := s3.2.1.c0; have a1 := s3.2.1.c1; have af := s3.2.1.fr
  have HF := s3.fin (Nat.le_refl _) hne (0, [])
  clear s2 ho3 hq3
  go_wp2
  refine bodyPost_ret (tok_result Tryz.results48 HF.2.1 rfl) rfl ?_
  exact ⟨_, rfl, fun _ => by rw [HR.out], ⟨_, HF.1, by rw [HR.out]; exact HA.out⟩, HF.2.2⟩
theorem begun_any {b : Nat} {c : CS} {w : World} {x : UInt8} {t : List UInt8} (h : CurT 71 w b c) (hc : c.ok) (h0 : c.er = 0) (hb : c.bs = x :: t) (hs : c.s.size ≤ 140737488352256) (ht : Hds w) (hg : 0 ≠ b) :
    Calls Tryz.prog 48 #[.pointer (some ⟨b, 0, none⟩), .int .u8 (x.toNat : Int)] w (BgT c b (tBeg x (x :: t)) w) := by
  by_cases c1 : tSign x = true
  · exact begun_sign h hc h0 hb c1
  · have c1 := (Bool.not_eq_true _).mp c1
    by_cases c2 : x = 34
    · exact begun_text h hc h0 hb c1 c2 hs ht hg
    · by_cases c3 : tDig x = true
      · exact begun_num h hc h0 hb c1 c2 c3 hs
      · have c3 := (Bool.not_eq_true _).mp c3
        by_cases c4 : x = 116
        · exact begun_t h hc h0 hb c4
        · by_cases c5 : x = 102
          · exact begun_f h hc h0 hb c5
          · by_cases c6 : x = 110
            · exact begun_n h hc h0 hb c6
            · exact begun_no h hc h0 hb c1 c2 c3 c4 c5 c6
end Go.Proofs.YtfighopfgllneaaGreatDoor
