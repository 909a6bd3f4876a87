/- Several texts in one (JtC, JtD, JrMem): each begins with its own words. -/
import Derived.Test.YtnbhhnkcfbfdcaaGreatDoorZK
import Derived.Test.YtnbhhnkcfbfdcaaGreatDoorZJ
import Derived.Test.YtnbhhnkcfbfdcaaGreatDoorZD
import Derived.Laws.AppendOwnNone
import Derived.Laws.OwnMore
import Derived.Deep.AppendLies
import Derived.Lib.SmallJoins
/- Package jtoken's begun, Next. -/
namespace Go.Proofs.YtnbhhnkcfbfdcaaGreatDoor
open Go Go.RowKit
set_option linter.unusedVariables false

theorem CS.jRes_jL {c : CS} (h : c.er = 0) : c.jRes = jL c.bs := by
  match hb : c.bs with
  | [] => rw [CS.jRes_nil h hb]; rfl
  | x :: t =>
    rw [jL_cons]
    by_cases hx : x.toNat = 34
    · rw [CS.jRes_in h hb hx, if_pos hx]
    · rw [CS.jRes_other h hb hx, if_neg hx]
theorem eq8 (x y : UInt8) : ((x.toNat : Int) == (y.toNat : Int)) = decide (x = y) := by
  by_cases e : x = y
  · rw [e]; simp
  · rw [decide_eq_false e]
    exact beq_eq_false_iff_ne.mpr (fun e2 => e (UInt8.toNat_inj.mp (by omega)))
/-- The cursor at b, the token at G, all else as it was. -/
def BgS (c : CS) (b G : Nat) (W wr : World) : Prop := CurT 89 wr b c ∧ TkT 68 wr G (0, []) ∧ Only b W wr
theorem BgS.cur {c : CS} {b G : Nat} {W wr : World} (h : BgS c b G W wr) : CurT 89 wr b c := h.1
theorem BgS.next {c : CS} {b G : Nat} {W wr w' : World} (h : BgS c b G W wr) (hb : Below wr.heap.size wr w') : BgS c b G W w' :=
  ⟨Below.cur hb h.1 h.1.lt, h.2.1.below hb h.2.1.lt, only_then h.2.2 hb h.2.2.size⟩
theorem BgS.step {c c' : CS} {b G : Nat} {W wr w' : World} (h : BgS c b G W wr) (hq : CurT 89 w' b c') (ho : Only b wr w') (hne : G ≠ b) : BgS c' b G W w' :=
  ⟨hq, h.2.1.only ho hne, h.2.2.trans ho⟩
theorem BgS.fin {c : CS} {b G : Nat} {W wr : World} (h : BgS c b G W wr) (hG : W.heap.size ≤ G) (hne : G ≠ b) (y : TK) :
    CurT 89 ((wr.setCell ⟨G, 0, none⟩ (.int .u8 (y.1.toNat : Int))).setCell ⟨G, 1, none⟩ (.string (bA y.2))) b c ∧
    TkT 68 ((wr.setCell ⟨G, 0, none⟩ (.int .u8 (y.1.toNat : Int))).setCell ⟨G, 1, none⟩ (.string (bA y.2))) G y ∧
    Only b W ((wr.setCell ⟨G, 0, none⟩ (.int .u8 (y.1.toNat : Int))).setCell ⟨G, 1, none⟩ (.string (bA y.2))) :=
  ⟨(Only.setTk wr G y).cur h.1 (Ne.symm hne), h.2.1.setAll y, only_then h.2.2 ((Only.setTk wr G y).below hG h.2.2.size) (Nat.le_refl _)⟩
theorem BgS.first {c : CS} {b : Nat} {w : World} (h : CurT 89 w b c) : BgS c b w.heap.size w (w.alloc (.cells #[.int .u8 0, .string ⟨#[]⟩] 68)) :=
  ⟨h.allocOld _, tk_alloc (w := w) ((0, []) : TK) 68, (Only.refl _ _).alloc _⟩
/-- What begun tells: a token just if nothing is wrong. -/
def BgT (c : CS) (b : Nat) (r : TN) (w : World) (e : Ending) (w' : World) : Prop := ∃ y : TK, e = .returned (tkV y) ∧ (r.e = 0 → y = r.tok) ∧ (∃ c', CurT 89 w' b c' ∧ CAt c r.k r.e c') ∧ Only b w w'
theorem sign_is {x : UInt8} {v : Bool} (h : tSign x = v) (w : World) :
    Calls Tryz.prog 87 #[.int .u8 (x.toNat : Int)] w fun e w' => e = .returned (.bool v) ∧ Below w.heap.size w w' := by
  rw [← h]; exact sign_any x w
theorem am_dig {x : UInt8} {v : Bool} (h : tDig x = v) (w : World) :
    Calls Tryz.prog 85 #[.int .u8 (x.toNat : Int), .slice (some ⟨w.heap.size, 0, none⟩) 11 11] (w.alloc (.cells #[.int .u8 45, .int .u8 48, .int .u8 49, .int .u8 50, .int .u8 51, .int .u8 52, .int .u8 53, .int .u8 54, .int .u8 55, .int .u8 56, .int .u8 57] 5)) fun e w' => e = .returned (.bool v) ∧ Below w.heap.size w w' :=
  among_new x w 11 [45, 48, 49, 50, 51, 52, 53, 54, 55, 56, 57] _ _ _ h rfl rfl (by decide)

set_option maxRecDepth 20000 in
set_option maxHeartbeats 1000000 in
theorem begun_sign {b : Nat} {c : CS} {w : World} {x : UInt8} {t : List UInt8} (h : CurT 89 w b c) (hc : c.ok) (h0 : c.er = 0) (hb : c.bs = x :: t) (hx : tSign x = true) :
    Calls Tryz.prog 76 #[.pointer (some ⟨b, 0, none⟩), .int .u8 (x.toNat : Int)] w (BgT c b (tBeg x (x :: t)) w) := by
  have HR := Lib.hid (show tBeg x (x :: t) = ⟨(x, []), 1, 0⟩ by unfold tBeg; rw [if_pos hx])
  have hne : w.heap.size ≠ b := by have := h.lt; omega
  have HS := Lib.hid (sign_is hx)
  have HB := Lib.hid (fun w h => byte_next (w := w) (b := b) h hc h0 hb)
  have HA := Lib.hid (CAt.past hc h0 (show 1 ≤ c.bs.length by rw [hb]; simp))
  have s0 := BgS.first h
  clear hx hb h
  go_enter Tryz.func76, Tryz.ntmps76
  go_wp2_with fail
  generalize w.alloc (.cells #[.int .u8 0, .string ⟨#[]⟩] 68) = w0 at s0 ⊢
  with_reducible refine (HS.out _).mono ?_
  rintro e w1 ⟨rfl, hb1⟩
  have s1 := s0.next hb1
  clear s0 hb1
  go_wp2_with fail
  with_reducible refine (HB.out _ s1.cur).mono ?_
  rintro e w2 ⟨rfl, hq2, ho2⟩
  have s2 := s1.step hq2 ho2 hne
  have a0 := s2.2.1.c0; have a1 := s2.2.1.c1; have af := s2.2.1.fr
  have HF := s2.fin (Nat.le_refl _) hne (x, [])
  clear s1 ho2 hq2
  go_wp2
  refine bodyPost_ret (tok_result Tryz.results76 HF.2.1 rfl) rfl ?_
  exact ⟨_, rfl, fun _ => by rw [HR.out], ⟨_, HF.1, by rw [HR.out]; exact HA.out⟩, HF.2.2⟩
set_option maxRecDepth 20000 in
set_option maxHeartbeats 1000000 in
theorem begun_text {b : Nat} {c : CS} {w : World} {x : UInt8} {t : List UInt8} (h : CurT 89 w b c) (hc : c.ok) (h0 : c.er = 0) (hb : c.bs = x :: t) (hx : tSign x = false) (hx2 : x = 34) (hs : c.s.size ≤ 140737488352256) (ht : Hds w) (hg : 1 ≠ b) :
    Calls Tryz.prog 76 #[.pointer (some ⟨b, 0, none⟩), .int .u8 (x.toNat : Int)] w (BgT c b (tBeg x (x :: t)) w) := by
  have hj := CS.jRes_jL h0
  rw [hb] at hj
  have HR := Lib.hid (show ((tBeg x (x :: t)).e = 0 → (115, c.jRes.t) = (tBeg x (x :: t)).tok) ∧ (tBeg x (x :: t)).e = c.jRes.e ∧ ((tBeg x (x :: t)).e = 0 → (tBeg x (x :: t)).k = c.jRes.k) by
    rw [hj]; unfold tBeg; rw [if_neg (by rw [hx]; decide), if_pos hx2]
    by_cases he : (jL (x :: t)).e = 0
    · rw [if_pos he]; exact ⟨fun _ => rfl, he.symm, fun _ => rfl⟩
    · rw [if_neg he]; exact ⟨fun h => absurd h he, rfl, fun h => absurd h he⟩)
  have hne : w.heap.size ≠ b := by have := h.lt; omega
  have HS := Lib.hid (sign_is hx)
  have HB := Lib.hid (fun w h ht => jread_any (w := w) (b := b) h hc hs ht hg)
  have HT := Lib.hid (show ∀ w', Only b w w' → Hds w' from fun w' h => ht.only h hg)
  have p1 : ((x.toNat : Int) == 34) = true := by rw [hx2]; rfl
  obtain ⟨T, hT⟩ : ∃ T, T = bA c.jRes.t := ⟨_, rfl⟩
  have HTT := Lib.hid hT
  rw [← hT] at HB
  have s0 := BgS.first h
  clear hx hb h hx2 hj ht hg hT
  go_enter Tryz.func76, Tryz.ntmps76
  go_wp2_with fail
  generalize w.alloc (.cells #[.int .u8 0, .string ⟨#[]⟩] 68) = w0 at s0 ⊢
  with_reducible refine (HS.out _).mono ?_
  rintro e w1 ⟨rfl, hb1⟩
  have s1 := s0.next hb1
  have t1 := Lib.hid (HT.out _ s1.2.2)
  clear s0 hb1
  go_wp2_with fail
  with_reducible refine (HB.out _ s1.cur t1.out).mono ?_
  rintro e w2 ⟨rfl, ⟨c2, hq2, hA2⟩, ho2⟩
  have s2 := s1.step hq2 ho2 hne
  have a0 := s2.2.1.c0; have a1 := s2.2.1.c1; have af := s2.2.1.fr
  have HF := s2.fin (Nat.le_refl _) hne (115, c.jRes.t)
  have HA := Lib.hid hA2
  rw [← HTT.out] at HF
  clear s1 ho2 hq2 hA2
  go_wp2
  refine bodyPost_ret (tok_result Tryz.results76 HF.2.1 rfl) rfl ?_
  refine ⟨_, rfl, HR.out.1, ⟨_, HF.1, ?_⟩, HF.2.2⟩
  obtain ⟨z1, z2, z3⟩ := HR.out
  by_cases he : c.jRes.e = 0
  · rw [z2, z3 (z2.trans he)]; exact HA.out
  · rw [z2]; exact HA.out.no he
set_option maxRecDepth 20000 in
set_option maxHeartbeats 1000000 in
theorem begun_num {b : Nat} {c : CS} {w : World} {x : UInt8} {t : List UInt8} (h : CurT 89 w b c) (hc : c.ok) (h0 : c.er = 0) (hb : c.bs = x :: t) (hx : tSign x = false) (hx2 : ¬ x = 34) (hx3 : tDig x = true) (hs : c.s.size ≤ 140737488352256) :
    Calls Tryz.prog 76 #[.pointer (some ⟨b, 0, none⟩), .int .u8 (x.toNat : Int)] w (BgT c b (tBeg x (x :: t)) w) := by
  have hn : c.nc = nCode (x :: t) := by unfold CS.nc; rw [if_pos h0, hb]
  have hnt : c.nt = if nCode (x :: t) = 0 then (x :: t).take (nE (x :: t)) else [] := by unfold CS.nt; rw [hn, hb]
  have HR := Lib.hid (show ((tBeg x (x :: t)).e = 0 → (110, c.nt) = (tBeg x (x :: t)).tok) ∧ (tBeg x (x :: t)).e = c.nc ∧ ((tBeg x (x :: t)).e = 0 → (tBeg x (x :: t)).k = nE c.bs) by
    rw [hn, hnt, hb]; unfold tBeg; rw [if_neg (by rw [hx]; decide), if_neg hx2, if_pos hx3]
    by_cases he : nCode (x :: t) = 0
    · rw [if_pos he, if_pos he]; exact ⟨fun _ => rfl, he.symm, fun _ => rfl⟩
    · rw [if_neg he]; exact ⟨fun h => absurd h he, rfl, fun h => absurd h he⟩)
  have hne : w.heap.size ≠ b := by have := h.lt; omega
  have HS := Lib.hid (sign_is hx)
  have HD := Lib.hid (am_dig hx3)
  have HB := Lib.hid (fun w h => nread_any (w := w) (b := b) h hc hs)
  have p1 : ((x.toNat : Int) == 34) = false := (eq8 x 34).trans (decide_eq_false hx2)
  obtain ⟨T, hT⟩ : ∃ T, T = bA c.nt := ⟨_, rfl⟩
  have HTT := Lib.hid hT
  rw [← hT] at HB
  have s0 := BgS.first h
  clear hx hb h hx2 hx3 hn hnt hT
  go_enter Tryz.func76, Tryz.ntmps76
  go_wp2_with fail
  generalize w.alloc (.cells #[.int .u8 0, .string ⟨#[]⟩] 68) = w0 at s0 ⊢
  with_reducible refine (HS.out _).mono ?_
  rintro e w1 ⟨rfl, hb1⟩
  have s1 := s0.next hb1
  clear s0 hb1
  go_wp2_with fail
  with_reducible refine (HD.out _).mono ?_
  rintro e w2 ⟨rfl, hb2⟩
  have s2 := s1.next hb2
  clear s1 hb2
  go_wp2_with fail
  with_reducible refine (HB.out _ s2.cur).mono ?_
  rintro e w3 ⟨rfl, ⟨c3, hq3, hA3⟩, ho3⟩
  have s3 := s2.step hq3 ho3 hne
  have a0 := s3.2.1.c0; have a1 := s3.2.1.c1; have af := s3.2.1.fr
  have HF := s3.fin (Nat.le_refl _) hne (110, c.nt)
  have HA := Lib.hid hA3
  rw [← HTT.out] at HF
  clear s2 ho3 hq3 hA3
  go_wp2
  refine bodyPost_ret (tok_result Tryz.results76 HF.2.1 rfl) rfl ?_
  refine ⟨_, rfl, HR.out.1, ⟨_, HF.1, ?_⟩, HF.2.2⟩
  obtain ⟨z1, z2, z3⟩ := HR.out
  by_cases he : c.nc = 0
  · rw [z2, z3 (z2.trans he)]; exact HA.out
  · rw [z2]; exact HA.out.no he
/-- A word that begins with x, of kind k. -/
theorem word_res {c : CS} {b : Nat} {w w' : World} {x k : UInt8} {t : List UInt8} {c' : CS} (hb : c.bs = x :: t) (hr : tBeg x (x :: t) = tWn k (x :: t)) (hA : CAt c (tW k).length (tWd (tW k) c.bs) c') :
    ((tBeg x (x :: t)).e = 0 → (k, []) = (tBeg x (x :: t)).tok) ∧ CAt c (tBeg x (x :: t)).k (tBeg x (x :: t)).e c' := by
  rw [hr]
  rw [hb] at hA
  unfold tWn
  by_cases he : tWd (tW k) (x :: t) = 0
  · rw [if_pos he]
    rw [he] at hA
    exact ⟨fun _ => rfl, hA⟩
  · rw [if_neg he]
    exact ⟨fun h => absurd h he, hA.no he⟩
set_option maxRecDepth 20000 in
set_option maxHeartbeats 1000000 in
theorem begun_t {b : Nat} {c : CS} {w : World} {x : UInt8} {t : List UInt8} (h : CurT 89 w b c) (hc : c.ok) (h0 : c.er = 0) (hb : c.bs = x :: t) (hx : x = 116) :
    Calls Tryz.prog 76 #[.pointer (some ⟨b, 0, none⟩), .int .u8 (x.toNat : Int)] w (BgT c b (tBeg x (x :: t)) w) := by
  have hr : tBeg x (x :: t) = tWn 116 (x :: t) := by rw [hx]; rfl
  have HR := Lib.hid (fun w w' c' => word_res (b := b) (w := w) (w' := w') (c' := c') hb hr)
  have hne : w.heap.size ≠ b := by have := h.lt; omega
  have HS := Lib.hid (sign_is (show tSign x = false by rw [hx]; decide))
  have HD := Lib.hid (am_dig (show tDig x = false by rw [hx]; decide))
  have HB := Lib.hid (fun w h => spelt_any (w := w) (b := b) 116 (.inl rfl) h hc h0)
  have p1 : ((x.toNat : Int) == 34) = false := by rw [hx]; rfl
  have p2 : ((x.toNat : Int) == 116) = true := by rw [hx]; rfl
  have s0 := BgS.first h
  clear hx hb h hr
  go_enter Tryz.func76, Tryz.ntmps76
  go_wp2_with fail
  generalize w.alloc (.cells #[.int .u8 0, .string ⟨#[]⟩] 68) = w0 at s0 ⊢
  with_reducible refine (HS.out _).mono ?_
  rintro e w1 ⟨rfl, hb1⟩
  have s1 := s0.next hb1
  clear s0 hb1
  go_wp2_with fail
  with_reducible refine (HD.out _).mono ?_
  rintro e w2 ⟨rfl, hb2⟩
  have s2 := s1.next hb2
  clear s1 hb2
  go_wp2_with fail
  refine (HB.out _ s2.cur).mono ?_
  rintro e w3 ⟨rfl, ⟨c3, hq3, hA3⟩, ho3⟩
  have s3 := s2.step hq3 ho3 hne
  have a0 := s3.2.1.c0; have a1 := s3.2.1.c1; have af := s3.2.1.fr
  have HF := s3.fin (Nat.le_refl _) hne (116, [])
  have HA := Lib.hid (HR.out w w3 c3 hA3)
  clear s2 ho3 hq3 hA3
  unfold tkV
  go_wp2
  refine bodyPost_ret (tok_result Tryz.results76 HF.2.1 rfl) rfl ?_
  exact ⟨_, rfl, HA.out.1, ⟨_, HF.1, HA.out.2⟩, HF.2.2⟩
set_option maxRecDepth 20000 in
set_option maxHeartbeats 1000000 in
theorem begun_f {b : Nat} {c : CS} {w : World} {x : UInt8} {t : List UInt8} (h : CurT 89 w b c) (hc : c.ok) (h0 : c.er = 0) (hb : c.bs = x :: t) (hx : x = 102) :
    Calls Tryz.prog 76 #[.pointer (some ⟨b, 0, none⟩), .int .u8 (x.toNat : Int)] w (BgT c b (tBeg x (x :: t)) w) := by
  have hr : tBeg x (x :: t) = tWn 102 (x :: t) := by rw [hx]; rfl
  have HR := Lib.hid (fun w w' c' => word_res (b := b) (w := w) (w' := w') (c' := c') hb hr)
  have hne : w.heap.size ≠ b := by have := h.lt; omega
  have HS := Lib.hid (sign_is (show tSign x = false by rw [hx]; decide))
  have HD := Lib.hid (am_dig (show tDig x = false by rw [hx]; decide))
  have HB := Lib.hid (fun w h => spelt_any (w := w) (b := b) 102 (.inr (.inl rfl)) h hc h0)
  have p1 : ((x.toNat : Int) == 34) = false := by rw [hx]; rfl
  have p2 : ((x.toNat : Int) == 116) = false := by rw [hx]; rfl
  have p3 : ((x.toNat : Int) == 102) = true := by rw [hx]; rfl
  have s0 := BgS.first h
  clear hx hb h hr
  go_enter Tryz.func76, Tryz.ntmps76
  go_wp2_with fail
  generalize w.alloc (.cells #[.int .u8 0, .string ⟨#[]⟩] 68) = w0 at s0 ⊢
  with_reducible refine (HS.out _).mono ?_
  rintro e w1 ⟨rfl, hb1⟩
  have s1 := s0.next hb1
  clear s0 hb1
  go_wp2_with fail
  with_reducible refine (HD.out _).mono ?_
  rintro e w2 ⟨rfl, hb2⟩
  have s2 := s1.next hb2
  clear s1 hb2
  go_wp2_with fail
  refine (HB.out _ s2.cur).mono ?_
  rintro e w3 ⟨rfl, ⟨c3, hq3, hA3⟩, ho3⟩
  have s3 := s2.step hq3 ho3 hne
  have a0 := s3.2.1.c0; have a1 := s3.2.1.c1; have af := s3.2.1.fr
  have HF := s3.fin (Nat.le_refl _) hne (102, [])
  have HA := Lib.hid (HR.out w w3 c3 hA3)
  clear s2 ho3 hq3 hA3
  unfold tkV
  go_wp2
  refine bodyPost_ret (tok_result Tryz.results76 HF.2.1 rfl) rfl ?_
  exact ⟨_, rfl, HA.out.1, ⟨_, HF.1, HA.out.2⟩, HF.2.2⟩
set_option maxRecDepth 20000 in
set_option maxHeartbeats 1000000 in
theorem begun_n {b : Nat} {c : CS} {w : World} {x : UInt8} {t : List UInt8} (h : CurT 89 w b c) (hc : c.ok) (h0 : c.er = 0) (hb : c.bs = x :: t) (hx : x = 110) :
    Calls Tryz.prog 76 #[.pointer (some ⟨b, 0, none⟩), .int .u8 (x.toNat : Int)] w (BgT c b (tBeg x (x :: t)) w) := by
  have hr : tBeg x (x :: t) = tWn 122 (x :: t) := by rw [hx]; rfl
  have HR := Lib.hid (fun w w' c' => word_res (b := b) (w := w) (w' := w') (c' := c') hb hr)
  have hne : w.heap.size ≠ b := by have := h.lt; omega
  have HS := Lib.hid (sign_is (show tSign x = false by rw [hx]; decide))
  have HD := Lib.hid (am_dig (show tDig x = false by rw [hx]; decide))
  have HB := Lib.hid (fun w h => spelt_any (w := w) (b := b) 122 (.inr (.inr rfl)) h hc h0)
  have p1 : ((x.toNat : Int) == 34) = false := by rw [hx]; rfl
  have p2 : ((x.toNat : Int) == 116) = false := by rw [hx]; rfl
  have p3 : ((x.toNat : Int) == 102) = false := by rw [hx]; rfl
  have p4 : ((x.toNat : Int) == 110) = true := by rw [hx]; rfl
  have s0 := BgS.first h
  clear hx hb h hr
  go_enter Tryz.func76, Tryz.ntmps76
  go_wp2_with fail
  generalize w.alloc (.cells #[.int .u8 0, .string ⟨#[]⟩] 68) = w0 at s0 ⊢
  with_reducible refine (HS.out _).mono ?_
  rintro e w1 ⟨rfl, hb1⟩
  have s1 := s0.next hb1
  clear s0 hb1
  go_wp2_with fail
  with_reducible refine (HD.out _).mono ?_
  rintro e w2 ⟨rfl, hb2⟩
  have s2 := s1.next hb2
  clear s1 hb2
  go_wp2_with fail
  refine (HB.out _ s2.cur).mono ?_
  rintro e w3 ⟨rfl, ⟨c3, hq3, hA3⟩, ho3⟩
  have s3 := s2.step hq3 ho3 hne
  have a0 := s3.2.1.c0; have a1 := s3.2.1.c1; have af := s3.2.1.fr
  have HF := s3.fin (Nat.le_refl _) hne (122, [])
  have HA := Lib.hid (HR.out w w3 c3 hA3)
  clear s2 ho3 hq3 hA3
  unfold tkV
  go_wp2
  refine bodyPost_ret (tok_result Tryz.results76 HF.2.1 rfl) rfl ?_
  exact ⟨_, rfl, HA.out.1, ⟨_, HF.1, HA.out.2⟩, HF.2.2⟩
set_option maxRecDepth 20000 in
set_option maxHeartbeats 1000000 in
theorem begun_no {b : Nat} {c : CS} {w : World} {x : UInt8} {t : List UInt8} (h : CurT 89 w b c) (hc : c.ok) (h0 : c.er = 0) (hb : c.bs = x :: t) (hx : tSign x = false) (hx2 : ¬ x = 34) (hx3 : tDig x = false) (hx4 : ¬ x = 116) (hx5 : ¬ x = 102) (hx6 : ¬ x = 110) :
    Calls Tryz.prog 76 #[.pointer (some ⟨b, 0, none⟩), .int .u8 (x.toNat : Int)] w (BgT c b (tBeg x (x :: t)) w) := by
  have HR := Lib.hid (show tBeg x (x :: t) = ⟨(0, []), 0, 3⟩ by
    unfold tBeg; rw [if_neg (by rw [hx]; decide), if_neg hx2, if_neg (by rw [hx3]; decide), if_neg hx4, if_neg hx5, if_neg hx6])
  have hne : w.heap.size ≠ b := by have := h.lt; omega
  have HS := Lib.hid (sign_is hx)
  have HD := Lib.hid (am_dig hx3)
  have HB := Lib.hid (fun w h => fail_fresh (w := w) (b := b) h h0 3)
  have HA := Lib.hid (CAt.bad0 hc 0 (show (3 : Int) ≠ 0 by decide))
  have p1 : ((x.toNat : Int) == 34) = false := (eq8 x 34).trans (decide_eq_false hx2)
  have p2 : ((x.toNat : Int) == 116) = false := (eq8 x 116).trans (decide_eq_false hx4)
  have p3 : ((x.toNat : Int) == 102) = false := (eq8 x 102).trans (decide_eq_false hx5)
  have p4 : ((x.toNat : Int) == 110) = false := (eq8 x 110).trans (decide_eq_false hx6)
  have s0 := BgS.first h
  clear hx hb h hx2 hx3 hx4 hx5 hx6
  go_enter Tryz.func76, Tryz.ntmps76
  go_wp2_with fail
  generalize w.alloc (.cells #[.int .u8 0, .string ⟨#[]⟩] 68) = w0 at s0 ⊢
  with_reducible refine (HS.out _).mono ?_
  rintro e w1 ⟨rfl, hb1⟩
  have s1 := s0.next hb1
  clear s0 hb1
  go_wp2_with fail
  with_reducible refine (HD.out _).mono ?_
  rintro e w2 ⟨rfl, hb2⟩
  have s2 := s1.next hb2
  clear s1 hb2
  go_wp2_with fail
  with_reducible refine (HB.out _ s2.cur).mono ?_
  rintro e w3 ⟨rfl, hq3, ho3⟩
  have s3 := s2.step hq3 ho3 hne
  have a0 := s3.2.1.c0; have a1 := s3.2.1.c1; have af := s3.2.1.fr
  have HF := s3.fin (Nat.le_refl _) hne (0, [])
  clear s2 ho3 hq3
  go_wp2
  refine bodyPost_ret (tok_result Tryz.results76 HF.2.1 rfl) rfl ?_
  exact ⟨_, rfl, fun _ => by rw [HR.out], ⟨_, HF.1, by rw [HR.out]; exact HA.out⟩, HF.2.2⟩
theorem begun_any {b : Nat} {c : CS} {w : World} {x : UInt8} {t : List UInt8} (h : CurT 89 w b c) (hc : c.ok) (h0 : c.er = 0) (hb : c.bs = x :: t) (hs : c.s.size ≤ 140737488352256) (ht : Hds w) (hg : 1 ≠ b) :
    Calls Tryz.prog 76 #[.pointer (some ⟨b, 0, none⟩), .int .u8 (x.toNat : Int)] w (BgT c b (tBeg x (x :: t)) w) := by
  by_cases c1 : tSign x = true
  · exact begun_sign h hc h0 hb c1
  · have c1 := (Bool.not_eq_true _).mp c1
    by_cases c2 : x = 34
    · exact begun_text h hc h0 hb c1 c2 hs ht hg
    · by_cases c3 : tDig x = true
      · exact begun_num h hc h0 hb c1 c2 c3 hs
      · have c3 := (Bool.not_eq_true _).mp c3
        by_cases c4 : x = 116
        · exact begun_t h hc h0 hb c4
        · by_cases c5 : x = 102
          · exact begun_f h hc h0 hb c5
          · by_cases c6 : x = 110
            · exact begun_n h hc h0 hb c6
            · exact begun_no h hc h0 hb c1 c2 c3 c4 c5 c6
end Go.Proofs.YtnbhhnkcfbfdcaaGreatDoor
/- Package jtoken's Next, All. -/
namespace Go.Proofs.YtnbhhnkcfbfdcaaGreatDoor
open Go Go.RowKit
set_option linter.unusedVariables false

/-- 12.2: the token that begins at the first byte that is no blank. -/
def CS.tRes (c : CS) : TN := if c.er = 0 then tNx c.bs else ⟨(0, []), 0, c.er⟩
theorem fB_none {l : List UInt8} (h : l.drop (bL l) = []) : fB l = (0, false) := by unfold fB; rw [h]
theorem fB_some {l : List UInt8} {x : UInt8} {t : List UInt8} (h : l.drop (bL l) = x :: t) : fB l = (x, true) := by unfold fB; rw [h]
/-- What Next tells. -/
def NxT (c : CS) (b : Nat) (r : TN) (w : World) (e : Ending) (w' : World) : Prop := e = .returned (tkV r.tok) ∧ (∃ c', CurT 89 w' b c' ∧ CAt c r.k r.e c') ∧ Only b w w'
set_option maxRecDepth 20000 in
set_option maxHeartbeats 1000000 in
theorem next_bad {b : Nat} {c : CS} {w : World} (h : CurT 89 w b c) (hc : c.ok) (h0 : ¬ c.er = 0) :
    Calls Tryz.prog 53 #[.pointer (some ⟨b, 0, none⟩)] w (NxT c b c.tRes w) := by
  have HR := Lib.hid (show c.tRes = ⟨(0, []), 0, c.er⟩ by unfold CS.tRes; rw [if_neg h0])
  have hne : w.heap.size ≠ b := by have := h.lt; omega
  have HF := Lib.hid (fun w h => first_bad (w := w) (b := b) h hc h0)
  have HA := Lib.hid (show CAt c 0 c.er c from ⟨hc, rfl, rfl, rfl, fun e => absurd e h0⟩)
  have s0 := BgS.first h
  clear h hc h0
  go_enter Tryz.func53, Tryz.ntmps53
  go_wp2_with fail
  generalize w.alloc (.cells #[.int .u8 0, .string ⟨#[]⟩] 68) = w0 at s0 ⊢
  with_reducible refine (HF.out _ s0.cur).mono ?_
  rintro e w1 ⟨rfl, hq1, ho1⟩
  have s1 := s0.step hq1 ho1 hne
  have a0 := s1.2.1.c0; have a1 := s1.2.1.c1; have af := s1.2.1.fr
  have HX := s1.fin (Nat.le_refl _) hne (0, [])
  clear s0 ho1 hq1
  go_wp2
  refine bodyPost_ret (tok_result Tryz.results53 HX.2.1 rfl) rfl ?_
  exact ⟨by rw [HR.out], ⟨_, HX.1, by rw [HR.out]; exact HA.out⟩, HX.2.2⟩
set_option maxRecDepth 20000 in
set_option maxHeartbeats 1000000 in
theorem next_none {b : Nat} {c : CS} {w : World} (h : CurT 89 w b c) (hc : c.ok) (h0 : c.er = 0) (hd : c.bs.drop (bL c.bs) = []) :
    Calls Tryz.prog 53 #[.pointer (some ⟨b, 0, none⟩)] w (NxT c b c.tRes w) := by
  have HR := Lib.hid (show c.tRes = ⟨(0, []), bL c.bs, 0⟩ by unfold CS.tRes; rw [if_pos h0, tNx_none hd])
  have hne : w.heap.size ≠ b := by have := h.lt; omega
  have HF := Lib.hid (fun w h => first_any (w := w) (b := b) h hc h0)
  rw [fB_none hd] at HF
  have HA := Lib.hid (CAt.past hc h0 (bl_len c.bs))
  have s0 := BgS.first h
  clear h hc h0 hd
  go_enter Tryz.func53, Tryz.ntmps53
  go_wp2_with fail
  generalize w.alloc (.cells #[.int .u8 0, .string ⟨#[]⟩] 68) = w0 at s0 ⊢
  with_reducible refine (HF.out _ s0.cur).mono ?_
  rintro e w1 ⟨rfl, hq1, ho1⟩
  have s1 := s0.step hq1 ho1 hne
  have a0 := s1.2.1.c0; have a1 := s1.2.1.c1; have af := s1.2.1.fr
  have HX := s1.fin (Nat.le_refl _) hne (0, [])
  clear s0 ho1 hq1
  go_wp2
  refine bodyPost_ret (tok_result Tryz.results53 HX.2.1 rfl) rfl ?_
  exact ⟨by rw [HR.out], ⟨_, HX.1, by rw [HR.out]; exact HA.out⟩, HX.2.2⟩
/-- A block that has just been laid over a call's world. -/
theorem tk_laid {w : World} (y : TK) (t : TypeId) : TkT t (w.alloc (.cells #[.int .u8 (y.1.toNat : Int), .string (bA y.2)] t)) w.heap.size y := tk_alloc y t
set_option maxRecDepth 20000 in
set_option maxHeartbeats 2000000 in
theorem next_some {b : Nat} {c : CS} {w : World} {x : UInt8} {t : List UInt8} (h : CurT 89 w b c) (hc : c.ok) (h0 : c.er = 0) (hd : c.bs.drop (bL c.bs) = x :: t) (hs : c.s.size ≤ 140737488352256) (ht : Hds w) (hg : 1 ≠ b) :
    Calls Tryz.prog 53 #[.pointer (some ⟨b, 0, none⟩)] w (NxT c b c.tRes w) := by
  have HR := Lib.hid (show c.tRes = ⟨(tBeg x (x :: t)).tok, bL c.bs + (tBeg x (x :: t)).k, (tBeg x (x :: t)).e⟩ by unfold CS.tRes; rw [if_pos h0, tNx_some hd])
  have hne : w.heap.size ≠ b := by have := h.lt; omega
  have HF := Lib.hid (fun w h => first_any (w := w) (b := b) h hc h0)
  rw [fB_some hd] at HF
  have hpo := CS.past_fine hc (bl_len c.bs)
  have hpb : (c.past (bL c.bs)).bs = x :: t := (CS.bs_past _ _).trans hd
  have HB := Lib.hid (fun w h ht => begun_any (w := w) (b := b) (c := c.past (bL c.bs)) h hpo h0 hpb hs ht hg)
  have HT := Lib.hid (show ∀ w', Only b w w' → Hds w' from fun w' h => ht.only h hg)
  have HY := Lib.hid (fun he => tBeg_bad (x := x) (l := x :: t) he)
  have s0 := BgS.first h
  clear h hc h0 hd hpo hpb ht hg
  generalize tBeg x (x :: t) = r at *
  go_enter Tryz.func53, Tryz.ntmps53
  go_wp2_with fail
  generalize w.alloc (.cells #[.int .u8 0, .string ⟨#[]⟩] 68) = w0 at s0 ⊢
  with_reducible refine (HF.out _ s0.cur).mono ?_
  rintro e w1 ⟨rfl, hq1, ho1⟩
  have s1 := s0.step hq1 ho1 hne
  have t1 := HT.out _ s1.2.2
  clear s0 ho1 hq1
  go_wp2_with fail
  with_reducible refine (HB.out _ s1.cur t1).mono ?_
  rintro e w2 ⟨y, rfl, hy, ⟨c2, hq2, hA2⟩, ho2⟩
  have s2 := s1.step hq2 ho2 hne
  have HA2 := Lib.hid hA2
  have hy2 := Lib.hid hy
  have g2 := tk_laid (w := w2) y 68
  have s3 := s2.next (alloc_below w2 (.cells #[.int .u8 (y.1.toNat : Int), .string (bA y.2)] 68))
  have hG : w2.heap.size ≠ w.heap.size := by have := s2.2.1.lt; omega
  have hx2 := s2.2.1.lt
  clear s1 hq2 ho2 t1 hA2 hy s2
  unfold tkV
  have HE := Lib.hid (fun w h => err_any (w := w) (b := b) (c := c2) h)
  rw [HA2.out.2.2.2.1] at HE
  by_cases he : r.e = 0
  · have p1 : (r.e != 0) = false := by rw [he]; rfl
    have hyr := Lib.hid (hy2.out he)
    clear he hy2
    go_wp2_with fail
    with_reducible refine (HE.out _ s3.cur).mono ?_
    rintro e w3 ⟨rfl, hw3⟩
    rw [hw3]; clear hw3
    generalize w2.alloc (.cells #[.int .u8 (y.1.toNat : Int), .string (bA y.2)] 68) = w4 at g2 s3 ⊢
    generalize w2.heap.size = G2 at *
    have a0 := s3.2.1.c0; have a1 := s3.2.1.c1; have af := s3.2.1.fr
    have b0 := g2.c0; have b1 := g2.c1
    have HX := s3.fin (Nat.le_refl _) hne y
    clear s3 g2
    go_wp2
    refine bodyPost_ret (tok_result Tryz.results53 HX.2.1 rfl) rfl ?_
    exact ⟨by rw [HR.out, hyr.out], ⟨_, HX.1, by rw [HR.out]; exact HA2.out.more⟩, HX.2.2⟩
  · have p1 : (r.e != 0) = true := bne_iff_ne.mpr he
    have hyr := Lib.hid (HY.out he).1
    have hhe := Lib.hid he
    clear he hy2
    go_wp2_with fail
    with_reducible refine (HE.out _ s3.cur).mono ?_
    rintro e w3 ⟨rfl, hw3⟩
    rw [hw3]; clear hw3
    generalize w2.alloc (.cells #[.int .u8 (y.1.toNat : Int), .string (bA y.2)] 68) = w4 at g2 s3 ⊢
    generalize w2.heap.size = G2 at *
    have a0 := s3.2.1.c0; have a1 := s3.2.1.c1; have af := s3.2.1.fr
    have HX := s3.fin (Nat.le_refl _) hne (0, [])
    clear s3 g2
    go_wp2
    refine bodyPost_ret (tok_result Tryz.results53 HX.2.1 rfl) rfl ?_
    exact ⟨by rw [HR.out, hyr.out], ⟨_, HX.1, by rw [HR.out]; exact HA2.out.more⟩, HX.2.2⟩
theorem tnext_any {b : Nat} {c : CS} {w : World} (h : CurT 89 w b c) (hc : c.ok) (hs : c.s.size ≤ 140737488352256) (ht : Hds w) (hg : 1 ≠ b) :
    Calls Tryz.prog 53 #[.pointer (some ⟨b, 0, none⟩)] w (NxT c b c.tRes w) := by
  by_cases h0 : c.er = 0
  · match hd : c.bs.drop (bL c.bs) with
    | [] => exact next_none h hc h0 hd
    | x :: t => exact next_some h hc h0 hd hs ht hg
  · exact next_bad h hc h0

theorem new_bytes (s : ByteArray) : (CS.new s).bs = s.data.toList := by
  unfold CS.bs CS.new
  rw [List.drop_zero, List.take_of_length_le (by rw [toList_size]; exact Nat.le_refl _)]
theorem ret_vi {v : Value} {a b : Int} (h : a = b) : Ending.returned (.tuple #[v, .int .i64 a]) = .returned (.tuple #[v, .int .i64 b]) := by rw [h]
def AlRel (s : ByteArray) (b B : Nat) (W : World) (v : Value) (wr : World) : Prop :=
  ∃ (k : Nat) (pre : List TK), k ≤ s.size ∧ pre.length ≤ k ∧ TRow 68 wr B v pre ∧ B ≤ wr.heap.size ∧ CurT 89 wr b ((CS.new s).past k) ∧ Below W.heap.size W wr ∧
    Hid (tAll s.data.toList = if (tAll (s.data.toList.drop k)).2 = 0 then (pre ++ (tAll (s.data.toList.drop k)).1, 0) else ([], (tAll (s.data.toList.drop k)).2))
end Go.Proofs.YtnbhhnkcfbfdcaaGreatDoor
/- Nodes in memory: lists of them that the call made ('NRow'), or that are there ('NIn'); 'append' of one, of many; what a reader of trees keeps ('Kp'). Of no package but the types' facts. -/
namespace Go.Proofs.YtnbhhnkcfbfdcaaGreatDoor
open Go Go.RowKit
set_option linter.unusedVariables false

def ndC (x : ND) : List Value := [.int .u8 (x.1.toNat : Int), .string (bA x.2.1), .string (bA x.2.2.1), .int .i64 (x.2.2.2 : Nat)]
def ndV (x : ND) : Value := .agg #[.int .u8 (x.1.toNat : Int), .string (bA x.2.1), .string (bA x.2.2.1), .int .i64 (x.2.2.2 : Nat)]
/-- Nodes as cells. -/
def ndCs (l : List ND) : List Value := l.flatMap ndC
theorem ndCs_cons (x : ND) (l : List ND) : ndCs (x :: l) = .int .u8 (x.1.toNat : Int) :: .string (bA x.2.1) :: .string (bA x.2.2.1) :: .int .i64 (x.2.2.2 : Nat) :: ndCs l := rfl
theorem ndCs_append (l m : List ND) : ndCs (l ++ m) = ndCs l ++ ndCs m := List.flatMap_append
theorem ndCs_length : ∀ l : List ND, (ndCs l).length = l.length * 4
  | [] => rfl
  | x :: l => by rw [ndCs_cons]; simp only [List.length_cons]; rw [ndCs_length l]; omega
theorem ndCs_one (l : List ND) : ∀ v ∈ ndCs l, v.oneCell' = true := by
  intro v hv
  obtain ⟨x, _, hx⟩ := List.mem_flatMap.mp hv
  simp [ndC] at hx
  rcases hx with rfl | rfl | rfl | rfl <;> rfl
theorem ndCs_get : ∀ (l : List ND) (k : Nat) (h : k < l.length), (ndCs l)[k * 4]? = some (.int .u8 (l[k].1.toNat : Int)) ∧ (ndCs l)[k * 4 + 1]? = some (.string (bA l[k].2.1)) ∧ (ndCs l)[k * 4 + 2]? = some (.string (bA l[k].2.2.1)) ∧ (ndCs l)[k * 4 + 3]? = some (.int .i64 (l[k].2.2.2 : Nat))
  | x :: l, 0, _ => ⟨rfl, rfl, rfl, rfl⟩
  | x :: l, k + 1, h => by
    have := ndCs_get l k (by simpa using h)
    rw [ndCs_cons, show (k + 1) * 4 = k * 4 + 1 + 1 + 1 + 1 by omega]
    exact this
/-- A size written into a node. -/
theorem ndCs_set (L : List ND) (k : UInt8) (key t : List UInt8) (a n : Nat) (R : List ND) : (ndCs (L ++ [(k, key, t, a)] ++ R)).set (L.length * 4 + 3) (.int .i64 (n : Nat)) = ndCs (L ++ (k, key, t, n) :: R) := by
  rw [List.append_assoc, ndCs_append, ndCs_append L, List.set_append_right _ _ (by rw [ndCs_length]; omega), ndCs_length, show L.length * 4 + 3 - L.length * 4 = 3 by omega]
  rfl
/-- The slice v, that the call itself made, holds the nodes l. -/
def NRow (e : TypeId) (w : World) (B : Nat) (v : Value) (l : List ND) : Prop := w.ownsRow B e 4 v l.length (ndCs l)
/-- The slice at a, of so many nodes, holds l. -/
def NIn (w : World) (a : Option Addr) (l : List ND) : Prop :=
  ∀ j (h : j < l.length), ∃ b, a = some ⟨b, 0, none⟩ ∧ b < w.heap.size ∧ w.cell? ⟨b, j * 4, none⟩ = some (.int .u8 (l[j].1.toNat : Int)) ∧ w.cell? ⟨b, j * 4 + 1, none⟩ = some (.string (bA l[j].2.1)) ∧ w.cell? ⟨b, j * 4 + 2, none⟩ = some (.string (bA l[j].2.2.1)) ∧ w.cell? ⟨b, j * 4 + 3, none⟩ = some (.int .i64 (l[j].2.2.2 : Nat))
theorem NIn.below {w w' : World} {a : Option Addr} {l : List ND} {N : Nat} (h : NIn w a l) (hb : Below N w w') (hN : w.heap.size ≤ N) : NIn w' a l := fun j hj => by
  obtain ⟨b, e, hlt, h1, h2, h3, h4⟩ := h j hj
  have hl : b < N := Nat.lt_of_lt_of_le hlt hN
  exact ⟨b, e, Nat.lt_of_lt_of_le hlt hb.size, (hb.cell (p := ⟨b, j * 4, none⟩) hl).trans h1, (hb.cell (p := ⟨b, j * 4 + 1, none⟩) hl).trans h2, (hb.cell (p := ⟨b, j * 4 + 2, none⟩) hl).trans h3, (hb.cell (p := ⟨b, j * 4 + 3, none⟩) hl).trans h4⟩
theorem nrow_nil (e : TypeId) (w : World) (B : Nat) : NRow e w B (.slice none 0 0) [] := ⟨rfl, .inl ⟨rfl, rfl⟩⟩
theorem NRow.keep {e : TypeId} {w w' : World} {B : Nat} {v : Value} {l : List ND} (h : NRow e w B v l) (hk : ∀ g, v.ownBlock = some g → w'.heap[g]? = w.heap[g]?) : NRow e w' B v l := by
  obtain ⟨hl, h⟩ := h
  refine ⟨hl, ?_⟩
  rcases h with h | ⟨g, cap, cur, h1, h2, h3, h4⟩
  · exact .inl h
  · exact .inr ⟨g, cap, cur, h1, h2, (hk g (by rw [h1]; rfl)).trans h3, h4⟩
theorem NRow.own {e : TypeId} {w : World} {B : Nat} {v : Value} {l : List ND} (h : NRow e w B v l) {g : Nat} (hg : v.ownBlock = some g) : B ≤ g ∧ g < w.heap.size ∧ ∃ cur, w.heap[g]? = some (.cells cur e (0, 0)) := by
  rcases h.2 with ⟨rfl, _⟩ | ⟨g', cap, cur, rfl, h2, h3, _⟩
  · cases hg
  · simp [Value.ownBlock] at hg
    subst hg
    exact ⟨h2, lt_of_block h3, cur, h3⟩
theorem NRow.below {e : TypeId} {w w' : World} {B N : Nat} {v : Value} {l : List ND} (h : NRow e w B v l) (hb : Below N w w') (hN : w.heap.size ≤ N) : NRow e w' B v l :=
  h.keep fun g hg => hb.block g (Nat.lt_of_lt_of_le (h.own hg).2.1 hN)
theorem NRow.base {e : TypeId} {w : World} {B N : Nat} {v : Value} {l : List ND} (h : NRow e w N v l) (hB : B ≤ N) : NRow e w B v l := by
  obtain ⟨hl, h⟩ := h
  refine ⟨hl, ?_⟩
  rcases h with h | ⟨g, cap, cur, h1, h2, h3, h4⟩
  · exact .inl h
  · exact .inr ⟨g, cap, cur, h1, by omega, h3, h4⟩
theorem NRow.inn {e : TypeId} {w : World} {B : Nat} {v : Value} {l : List ND} (h : NRow e w B v l) : ∃ a cap, v = .slice a l.length cap ∧ NIn w a l := by
  rcases h.2 with ⟨rfl, hn⟩ | ⟨g, cap, cur, rfl, _, hg, _⟩
  · have h0 : l = [] := List.eq_nil_of_length_eq_zero hn
    subst h0
    exact ⟨none, 0, rfl, fun j hj => by simp at hj⟩
  · refine ⟨_, cap, rfl, fun j hj => ⟨g, rfl, lt_of_block hg, ?_, ?_, ?_, ?_⟩⟩
    · rw [World.ownsRow.cellAt h (j * 4) (by omega), (ndCs_get l j hj).1]
    · rw [World.ownsRow.cellAt h (j * 4 + 1) (by omega), (ndCs_get l j hj).2.1]
    · rw [World.ownsRow.cellAt h (j * 4 + 2) (by omega), (ndCs_get l j hj).2.2.1]
    · rw [World.ownsRow.cellAt h (j * 4 + 3) (by omega), (ndCs_get l j hj).2.2.2]
theorem infoN : (Tryz.prog.info? 90).map (fun i => (i.zero, i.size, i.bytes)) = some (some (.agg #[.int .u8 0, .string ⟨#[]⟩, .string ⟨#[]⟩, .int .i64 0]), 4, 48) := by kernel_rfl
theorem infoM : (Tryz.prog.info? 28).map (fun i => (i.zero, i.size, i.bytes)) = some (some (.agg #[.int .u8 0, .string ⟨#[]⟩, .string ⟨#[]⟩, .int .i64 0]), 4, 48) := by kernel_rfl
/-- A block that has just been laid is one node. -/
theorem node_cells {w : World} {g : Nat} {e : TypeId} {y : ND} {fz : Nat × Nat} (h : w.heap[g]? = some (.cells (ndC y).toArray e fz)) : ∀ j u, (ndCs [y])[j]? = some u → w.cell? ((Addr.mk g 0 none).add j) = some u := by
  intro j u hu
  have := World.news_of_block h j u (by simpa [ndCs] using hu)
  exact this
/-- 'append(list, x)' on a list that the call itself made, in a region that draws its order. -/
theorem step_append_nd {P : Program} {ops : Array Oper} {o : Oper} {a : Act} {w : World} {K : Act → World → Prop} {Q : Exit → Act → World → Prop} {E : Prop} (hgd : o.guard = none) (sl x : Operand) (t : TypeId)
    (ho : o.op = .call { callee := .builtin .append, args := #[sl, x], argTypes := #[t, t] })
    (e : TypeId) (ht : P.underlying t = some (.slice e)) (hi : (P.info? e).map (fun i => (i.zero, i.size, i.bytes)) = some (some (.agg #[.int .u8 0, .string ⟨#[]⟩, .string ⟨#[]⟩, .int .i64 0]), 4, 48))
    (v : Value) (B : Nat) (l : List ND) (hb : NRow e w B v l) (hB : B ≤ w.heap.size) (hs : a.eval sl = v)
    (g : Nat) (y : ND) (hg : w.heap[g]? = some (.cells (ndC y).toArray e (0, 0))) (hx : a.eval x = .slice (some ⟨g, 0, none⟩) 1 1) (hlen : l.length ≤ 1099511627776)
    (h : ∀ g cap w', NRow e w' B (.slice (some ⟨g, 0, none⟩) (l.length + 1) cap) (l ++ [y]) → w.grownBy w' v.ownBlock → g < w'.heap.size → K (a.put o.dst (.slice (some ⟨g, 0, none⟩) (l.length + 1) cap)) w') :
    if Region.wanted o (yielded ops a.tmps) = true then Oper.wp P o a w K Q else E := by
  obtain ⟨i0, hi, hz, hz1, hz2⟩ := info_parts hi
  refine step_append_lies w hgd sl x t ho B e i0 (.agg #[.int .u8 0, .string ⟨#[]⟩, .string ⟨#[]⟩, .int .i64 0]) 4 48 ht hi hz hz1 hz2 rfl (by decide) v l.length (ndCs l) hs hb ⟨g, 0, none⟩ 1 1 (ndCs [y]) hx rfl (node_cells hg) (ndCs_one _) (by decide) (by unfold maxLen; omega) (by omega) hB _ rfl ?_
  intro g' cap w' hown hgr _ hlt
  refine h g' cap w' ?_ hgr hlt
  unfold NRow
  rw [ndCs_append, List.length_append]
  exact hown
/-- .. elsewhere. -/
theorem wpList_append_nd {P : Program} {ops : Array Oper} {rest : List Oper} {o : Oper} {a : Act} {w : World} {Q : Exit → Act → World → Prop} (hgd : o.guard = none) (sl x : Operand) (t : TypeId)
    (ho : o.op = .call { callee := .builtin .append, args := #[sl, x], argTypes := #[t, t] })
    (e : TypeId) (ht : P.underlying t = some (.slice e)) (hi : (P.info? e).map (fun i => (i.zero, i.size, i.bytes)) = some (some (.agg #[.int .u8 0, .string ⟨#[]⟩, .string ⟨#[]⟩, .int .i64 0]), 4, 48))
    (v : Value) (B : Nat) (l : List ND) (hb : NRow e w B v l) (hB : B ≤ w.heap.size) (hs : a.eval sl = v)
    (g : Nat) (y : ND) (hg : w.heap[g]? = some (.cells (ndC y).toArray e (0, 0))) (hx : a.eval x = .slice (some ⟨g, 0, none⟩) 1 1) (hlen : l.length ≤ 1099511627776)
    (h : ∀ v' w', NRow e w' B v' (l ++ [y]) → Below B w w' → wpList P ops Q rest (a.put o.dst v') w') : wpList P ops Q (o :: rest) a w := by
  obtain ⟨i0, hi, hz, hz1, hz2⟩ := info_parts hi
  refine wpList_append_own w hgd sl x t ho B e i0 (.agg #[.int .u8 0, .string ⟨#[]⟩, .string ⟨#[]⟩, .int .i64 0]) 4 48 ht hi hz hz1 hz2 rfl (by decide) v l.length (ndCs l) hs hb ⟨g, 0, none⟩ 1 1 (ndCs [y]) hx rfl (node_cells hg) (ndCs_one _) (by unfold maxLen; omega) (by omega) hB ?_
  intro v' w' hown hgr _
  refine h v' w' ?_ ⟨hgr.os, hgr.tape, hgr.output, hgr.size, fun k hk => hgr.block k (by omega) (fun e => ?_)⟩
  · unfold NRow
    rw [ndCs_append, List.length_append]
    exact hown
  · have := (hb.own e.symm).1; omega
/-- 'append(list, more...)' of nodes that are there. -/
theorem wpList_append_nds {P : Program} {ops : Array Oper} {rest : List Oper} {o : Oper} {a : Act} {w : World} {Q : Exit → Act → World → Prop} (hgd : o.guard = none) (sl x : Operand) (t : TypeId)
    (ho : o.op = .call { callee := .builtin .append, args := #[sl, x], argTypes := #[t, t] })
    (e : TypeId) (ht : P.underlying t = some (.slice e)) (hi : (P.info? e).map (fun i => (i.zero, i.size, i.bytes)) = some (some (.agg #[.int .u8 0, .string ⟨#[]⟩, .string ⟨#[]⟩, .int .i64 0]), 4, 48))
    (v : Value) (B : Nat) (l : List ND) (hb : NRow e w B v l) (hB : B ≤ w.heap.size) (hs : a.eval sl = v)
    (u : Value) (C : Nat) (m : List ND) (hm : NRow e w C u m) (hx : a.eval x = u) (hlen : l.length + m.length ≤ 1099511627776)
    (h : ∀ v' w', NRow e w' B v' (l ++ m) → Below B w w' → wpList P ops Q rest (a.put o.dst v') w') : wpList P ops Q (o :: rest) a w := by
  obtain ⟨i0, hi, hz, hz1, hz2⟩ := info_parts hi
  rcases hm.2 with ⟨rfl, hn⟩ | ⟨g, cap, cur, rfl, _, hg, _⟩
  · have h0 : m = [] := List.eq_nil_of_length_eq_zero hn
    subst h0
    refine wpList_append_own_none hgd sl x t ho B e i0 4 ht hi v l.length (ndCs l) hs hb hx ?_
    exact h v w (by rw [List.append_nil]; exact hb) (Below.refl _ _)
  · refine wpList_append_own w hgd sl x t ho B e i0 (.agg #[.int .u8 0, .string ⟨#[]⟩, .string ⟨#[]⟩, .int .i64 0]) 4 48 ht hi hz hz1 hz2 rfl (by decide) v l.length (ndCs l) hs hb ⟨g, 0, none⟩ m.length cap (ndCs m) hx (ndCs_length m) (World.ownsRow.cells hm rfl) (ndCs_one _) (by unfold maxLen; omega) (by omega) hB ?_
    intro v' w' hown hgr _
    refine h v' w' ?_ ⟨hgr.os, hgr.tape, hgr.output, hgr.size, fun k hk => hgr.block k (by omega) (fun e => ?_)⟩
    · unfold NRow
      rw [ndCs_append, List.length_append]
      exact hown
    · have := (hb.own e.symm).1; omega

/-- Block k is no row of nodes. -/
def NN (w : World) (k : Nat) : Prop := ∀ cs fz, w.heap[k]? ≠ some (.cells cs 90 fz)
/-- What a reader leaves as it was: of what lay below M, all but the cursor, the reader, and rows of nodes from B on. -/
structure Kp (M cb rb B : Nat) (w w' : World) : Prop where
  os : w'.os = w.os
  tape : w'.tape = w.tape
  output : w'.output = w.output
  size : w.heap.size ≤ w'.heap.size
  block : ∀ k, k < M → k ≠ cb → k ≠ rb → (k < B ∨ NN w k) → w'.heap[k]? = w.heap[k]?
section
variable {M cb rb B : Nat} {w w1 w2 : World}
theorem Kp.refl (w : World) : Kp M cb rb B w w := ⟨rfl, rfl, rfl, Nat.le_refl _, fun _ _ _ _ _ => rfl⟩
theorem Kp.trans (h : Kp M cb rb B w w1) (h2 : Kp M cb rb B w1 w2) : Kp M cb rb B w w2 :=
  ⟨h2.os.trans h.os, h2.tape.trans h.tape, h2.output.trans h.output, Nat.le_trans h.size h2.size, fun k hk hc hr hn => by
    have e1 := h.block k hk hc hr hn
    refine (h2.block k hk hc hr ?_).trans e1
    rcases hn with hn | hn
    · exact .inl hn
    · exact .inr fun cs fz => by rw [e1]; exact hn cs fz⟩
theorem Kp.mono {N : Nat} (h : Kp N cb rb B w w1) (hM : M ≤ N) : Kp M cb rb B w w1 := ⟨h.os, h.tape, h.output, h.size, fun k hk => h.block k (by omega)⟩
theorem Kp.of_only (h : Only cb w w1) (hM : M ≤ w.heap.size) : Kp M cb rb B w w1 := ⟨h.os, h.tape, h.output, h.size, fun k hk hc _ _ => h.block k (by omega) hc⟩
theorem Kp.of_below {N : Nat} (h : Below N w w1) (hM : M ≤ N) : Kp M cb rb B w w1 := ⟨h.os, h.tape, h.output, h.size, fun k hk _ _ _ => h.block k (by omega)⟩
theorem Kp.grown {v : Value} {l : List ND} (h : w.grownBy w1 v.ownBlock) (hr : NRow 90 w B v l) (hM : M ≤ w.heap.size) : Kp M cb rb B w w1 :=
  ⟨h.os, h.tape, h.output, h.size, fun k hk _ _ hn => h.block k (by omega) (fun e => by
    obtain ⟨o1, _, cur, o3⟩ := hr.own e.symm
    rcases hn with hn | hn
    · omega
    · exact hn _ _ o3)⟩
theorem Kp.setRd (w : World) (o : Nat) (x : Value) : Kp M cb rb B w (w.setCell ⟨rb, o, none⟩ x) :=
  ⟨rfl, rfl, rfl, by simp, fun k hk _ hr _ => RowKit.Below.heap_setCell _ _ _ _ hr⟩
theorem Kp.drewN (h : Kp M cb rb B w w1) (n : Nat) : Kp M cb rb B w (w1.drewN n) := ⟨h.os, h.tape, h.output, h.size, h.block⟩
theorem Kp.drew (h : Kp M cb rb B w w1) : Kp M cb rb B w w1.drew := ⟨h.os, h.tape, h.output, h.size, h.block⟩
theorem Kp.below (h : Kp M cb rb B w w1) (hM : B ≤ M) {N : Nat} (hN : N ≤ B) (hc : N ≤ cb) (hr : N ≤ rb) : Below N w w1 :=
  ⟨h.os, h.tape, h.output, h.size, fun k hk => h.block k (by omega) (by omega) (by omega) (.inl (by omega))⟩
end
/-- A reader of trees: its cursor in block cb, itself in block rb; its nodes L, the tokens that are left ts, and la. -/
structure RdS (w : World) (cb rb B : Nat) (v : Value) (L : List ND) (ts : List TK) (la : Option Int) : Prop where
  cur : ∃ c, CurT 89 w cb c ∧ c.ok ∧ c.er = 0 ∧ c.s.size ≤ 140737488352256 ∧ SfL ts la c.bs
  rd : w.heap[rb]? = some (.cells #[.pointer (some ⟨cb, 0, none⟩), v] 65 (0, 0))
  row : NRow 90 w B v L
  lc : cb < B
  lr : rb < B
  ne : cb ≠ rb
  hB : B ≤ w.heap.size
  hd : Hds w
  hg : 1 < B ∧ 1 ≠ cb ∧ 1 ≠ rb
section
variable {cb rb B : Nat} {w w' : World} {v : Value} {L : List ND} {ts ts' : List TK} {la : Option Int}
theorem RdS.step (h : RdS w cb rb B v L ts la) (ho : Only cb w w') (hq : ∃ c, CurT 89 w' cb c ∧ c.ok ∧ c.er = 0 ∧ c.s.size ≤ 140737488352256 ∧ SfL ts' la c.bs) : RdS w' cb rb B v L ts' la where
  cur := hq
  rd := (ho.block rb (Nat.lt_of_lt_of_le h.lr h.hB) h.ne.symm).trans h.rd
  row := h.row.keep fun g hg => ho.block g (h.row.own hg).2.1 (by have := (h.row.own hg).1; have := h.lc; omega)
  lc := h.lc
  lr := h.lr
  ne := h.ne
  hB := Nat.le_trans h.hB ho.size
  hd := h.hd.only ho h.hg.2.1
  hg := h.hg
theorem RdS.next (h : RdS w cb rb B v L ts la) (hb : Below w.heap.size w w') : RdS w' cb rb B v L ts la := by
  refine h.step (Only.of_below hb) ?_
  obtain ⟨c, h1, h2⟩ := h.cur
  exact ⟨c, Below.cur hb h1 h1.lt, h2⟩
theorem RdS.drewN (h : RdS w cb rb B v L ts la) (n : Nat) : RdS (w.drewN n) cb rb B v L ts la := h.next (drew_below w n)
theorem RdS.drew (h : RdS w cb rb B v L ts la) : RdS w.drew cb rb B v L ts la := h.next (drew_below w 1)
theorem RdS.alloc (h : RdS w cb rb B v L ts la) (o : Obj) : RdS (w.alloc o) cb rb B v L ts la := h.next (alloc_below w o)
theorem RdS.c0 (h : RdS w cb rb B v L ts la) : w.cell? ⟨rb, 0, none⟩ = some (.pointer (some ⟨cb, 0, none⟩)) := by rw [cell_of_row w rb 0 _ _ _ h.rd]; rfl
theorem RdS.c1 (h : RdS w cb rb B v L ts la) : w.cell? ⟨rb, 1, none⟩ = some v := by rw [cell_of_row w rb 1 _ _ _ h.rd]; rfl
theorem RdS.fr (h : RdS w cb rb B v L ts la) (o : Nat) : w.frozen? ⟨rb, o, none⟩ = false := by have := h.rd; simp [World.frozen?, this]
/-- Behind an append to its nodes, that was stored. -/
theorem RdS.more {v' : Value} {M : List ND} (h : RdS w cb rb B v L ts la) (hg : w.grownBy w' v.ownBlock) (hr : NRow 90 w' B v' M) : RdS (w'.setCell ⟨rb, 1, none⟩ v') cb rb B v' M ts la := by
  have hlt : rb < w.heap.size := Nat.lt_of_lt_of_le h.lr h.hB
  have hlc : cb < w.heap.size := Nat.lt_of_lt_of_le h.lc h.hB
  have hne : ∀ k, k < B → some k ≠ v.ownBlock := fun k hk e => by have := (h.row.own e.symm).1; omega
  have hrd := (hg.block rb hlt (hne rb h.lr)).trans h.rd
  have hblk : ∀ k, k < B → k ≠ rb → (w'.setCell ⟨rb, 1, none⟩ v').heap[k]? = w.heap[k]? := fun k hk hkr =>
    (RowKit.Below.heap_setCell _ _ _ _ hkr).trans (hg.block k (Nat.lt_of_lt_of_le hk h.hB) (hne k hk))
  refine ⟨?_, heap_setCell_block hrd _, ?_, h.lc, h.lr, h.ne, ?_, ?_, h.hg⟩
  · obtain ⟨c, h1, h2⟩ := h.cur
    exact ⟨c, (hblk cb h.lc h.ne).trans h1, h2⟩
  · exact hr.keep fun g hg2 => RowKit.Below.heap_setCell _ _ _ _ (by have := (hr.own hg2).1; have := h.lr; show g ≠ rb; omega)
  · have := hg.size; have := h.hB; simp; omega
  · exact fun k hk => (World.cell?_of_block (hblk _ h.hg.1 h.hg.2.2)).trans (h.hd k hk)
end
end Go.Proofs.YtnbhhnkcfbfdcaaGreatDoor
