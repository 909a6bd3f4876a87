/- Package pread: Next. -/
import Derived.Test.YtjpppnfkpnfhoaaDoorPrA
import Derived.Test.YtjpppnfkpnfhoaaDoorReadA
namespace Go.Proofs.YtjpppnfkpnfhoaaDoor
open Go Go.RowKit
set_option linter.unusedVariables false

theorem rl64 {b : Nat} {c : CS} {w : World} (h : CurT 82 w b c) (hc : c.ok) (ht : Tab w) (hg : 0 ≠ b) :
    Calls Tryd.prog 45 #[.pointer (some ⟨b, 0, none⟩)] w fun e w' => e = .returned (.int .u64 ((c.cNum 1 : Nat) : Int)) ∧ CurT 82 w' b (c.cTo 1) ∧ Only b w w' := readLow64_any h hc ht hg
theorem rl32 {b : Nat} {c : CS} {w : World} (h : CurT 82 w b c) (hc : c.ok) (ht : Tab w) (hg : 0 ≠ b) :
    Calls Tryd.prog 46 #[.pointer (some ⟨b, 0, none⟩)] w fun e w' => e = .returned (.int .u32 ((c.cNum 5 : Nat) : Int)) ∧ CurT 82 w' b (c.cTo 5) ∧ Only b w w' := readLow32_any h hc ht hg
theorem cNum5_lt {c : CS} (hc : c.ok) : c.cNum 5 < 4294967296 := by
  have h1 := valL_lt (c.takeS (4 : Nat)).data.toList
  have h2 := takeS_size c 4 hc
  rw [toList_size] at h1
  have h3 : 256 ^ (c.takeS (4 : Nat)).size ≤ 256 ^ 4 := Nat.pow_le_pow_right (by decide) h2
  have h4 : (256 : Nat) ^ 4 = 4294967296 := by decide
  show valL (c.takeS (4 : Nat)).data.toList < _
  omega
/-- What Next holds while it runs: the cursor, the field so far, the result. -/
structure NxS (w W : World) (b f r : Nat) (D : CS) (G : FD) : Prop where
  cur : CurT 82 W b D
  fld : PfT 38 W f G
  res : PfT 38 W r fZ
  only : Only b w W
  fb : f ≠ b
  rb : r ≠ b
  fr : f ≠ r
  rw : w.heap.size ≤ r
  fw : w.heap.size ≤ f
theorem NxS.calls {w W W' : World} {b f r : Nat} {D D' : CS} {G : FD} (h : NxS w W b f r D G) (hc : CurT 82 W' b D') (ho : Only b W W') : NxS w W' b f r D' G :=
  ⟨hc, h.fld.only ho h.fb, h.res.only ho h.rb, h.only.trans ho, h.fb, h.rb, h.fr, h.rw, h.fw⟩
theorem NxS.setNum {w W : World} {b f r : Nat} {D : CS} {n v : Int} {u : Nat} {s : ByteArray} (h : NxS w W b f r D (n, v, u, s)) (u' : Nat) : NxS w (W.setCell ⟨f, 2, none⟩ (.int .u64 (u' : Nat))) b f r D (n, v, u', s) :=
  ⟨set_cur h.cur (Ne.symm h.fb), h.fld.setNum u', set_fd h.res (Ne.symm h.fr), set_only h.only h.fw, h.fb, h.rb, h.fr, h.rw, h.fw⟩
theorem NxS.setTxt {w W : World} {b f r : Nat} {D : CS} {n v : Int} {u : Nat} {s : ByteArray} (h : NxS w W b f r D (n, v, u, s)) (s' : ByteArray) : NxS w (W.setCell ⟨f, 3, none⟩ (.string s')) b f r D (n, v, u, s') :=
  ⟨set_cur h.cur (Ne.symm h.fb), h.fld.setTxt s', set_fd h.res (Ne.symm h.fr), set_only h.only h.fw, h.fb, h.rb, h.fr, h.rw, h.fw⟩
theorem NxS.give {w W : World} {b f r : Nat} {D : CS} {G : FD} (h : NxS w W b f r D G) (y : FD) : PfT 38 ((((W.setCell ⟨r, 0, none⟩ (.int .i64 y.1)).setCell ⟨r, 1, none⟩ (.int .i64 y.2.1)).setCell ⟨r, 2, none⟩ (.int .u64 (y.2.2.1 : Nat))).setCell ⟨r, 3, none⟩ (.string y.2.2.2)) r y ∧
    CurT 82 ((((W.setCell ⟨r, 0, none⟩ (.int .i64 y.1)).setCell ⟨r, 1, none⟩ (.int .i64 y.2.1)).setCell ⟨r, 2, none⟩ (.int .u64 (y.2.2.1 : Nat))).setCell ⟨r, 3, none⟩ (.string y.2.2.2)) b D ∧
    Only b w ((((W.setCell ⟨r, 0, none⟩ (.int .i64 y.1)).setCell ⟨r, 1, none⟩ (.int .i64 y.2.1)).setCell ⟨r, 2, none⟩ (.int .u64 (y.2.2.1 : Nat))).setCell ⟨r, 3, none⟩ (.string y.2.2.2)) :=
  ⟨h.res.setAll y, set_cur (set_cur (set_cur (set_cur h.cur (Ne.symm h.rb)) (Ne.symm h.rb)) (Ne.symm h.rb)) (Ne.symm h.rb), set_only (set_only (set_only (set_only h.only h.rw) h.rw) h.rw) h.rw⟩
/-- The blocks of Next as it begins: behind the tag. -/
theorem nx_begin {w w2 : World} {b : Nat} {c d : CS} (n v : Int) (hb : b < w.heap.size) (h2 : CurT 82 w2 b d) (o2 : Only b (w.alloc (.cells #[.int .i64 0, .int .i64 0, .int .u64 0, .string ⟨#[]⟩] 38)) w2) :
    NxS w ((w2.alloc (.cells #[.int .i64 n, .int .i64 v] 58)).alloc (.cells #[.int .i64 n, .int .i64 v, .int .u64 0, .string ⟨#[]⟩] 38)) b (w2.heap.size + 1) w.heap.size d (n, v, 0, ⟨#[]⟩) := by
  have R0 := fd_alloc w fZ 38
  have s2 := o2.size
  rw [World.size_alloc] at s2
  have R2 := R0.only o2 (by omega)
  have F4 := fd_alloc (w2.alloc (.cells #[.int .i64 n, .int .i64 v] 58)) (n, v, 0, ⟨#[]⟩) 38
  rw [World.size_alloc] at F4
  exact ⟨(h2.allocOld _).allocOld _, F4, (R2.alloc _).alloc _, ((((Only.refl b w).alloc _).trans o2).alloc _).alloc _, by omega, by omega, by omega, Nat.le_refl _, by omega⟩
theorem nx_tag {w w2 : World} (n v : Int) (o : Obj) : TgT 58 (w2.alloc (.cells #[.int .i64 n, .int .i64 v] 58)) w2.heap.size n v := tg_alloc 58 w2 n v

set_option maxRecDepth 10000 in
set_option maxHeartbeats 1000000 in
theorem next_0_ok {b : Nat} {c : CS} {w : World} (h : CurT 82 w b c) (hc : c.ok) (hv : mW c.vVal = 0) (he : (c.gTo.cTo 0).er = 0) :
    Calls Tryd.prog 34 #[.pointer (some ⟨b, 0, none⟩)] w fun e w' => e = .returned (pfV c.fVal) ∧ CurT 82 w' b c.fTo ∧ Only b w w' := by
  have hbl := h.lt
  have hgo := CS.gTo_ok hc
  have h1 := h.allocOld (.cells #[.int .i64 0, .int .i64 0, .int .u64 0, .string ⟨#[]⟩] 38)
  have HV := Lib.hid (fun w (h : CurT 82 w b c) => tread_any h hc)
  rw [hv] at HV
  have HC := Lib.hid (fun w (h : CurT 82 w b c.gTo) => (show Calls Tryd.prog 44 #[.pointer (some ⟨b, 0, none⟩)] w fun e w' => e = .returned (.int .u64 ((c.gTo.vVal : Nat) : Int)) ∧ CurT 82 w' b (c.gTo.cTo 0) ∧ Only b w w' from vread_any h hgo))
  have HR := Lib.hid (show c.fTo = c.gTo.cTo 0 ∧ c.fVal = (((mN c.vVal : Nat) : Int), 0, c.gTo.vVal, ⟨#[]⟩) by
    have e1 : c.fTo = c.gTo.cTo 0 := by unfold CS.fTo; rw [hv]
    refine ⟨e1, ?_⟩
    unfold CS.fVal
    rw [e1, if_pos he]
    unfold CS.fGot; rw [hv]; rfl)
  have hE : (c.gTo.cTo 0).er = 0 := he
  obtain ⟨N, hN⟩ : ∃ N, N = mN c.vVal := ⟨_, rfl⟩
  obtain ⟨d, hd⟩ : ∃ d, d = c.gTo := ⟨_, rfl⟩
  rw [← hN] at HV
  have HR2 := Lib.hid (show c.fVal = (((N : Nat) : Int), 0, c.gTo.vVal, ⟨#[]⟩) by rw [HR.out.2, hN])
  rw [← hd] at HV HC HR HR2 hE
  obtain ⟨U, hU⟩ : ∃ U, U = d.vVal := ⟨_, rfl⟩
  obtain ⟨D, hD⟩ : ∃ D, D = d.cTo 0 := ⟨_, rfl⟩
  rw [← hU] at HC HR2
  rw [← hD] at HC HR hE
  have HE := Lib.hid (fun w (h : CurT 82 w b D) => err_any h)
  have pE : (D.er != 0) = false := by rw [hE]; rfl
  clear hN hd hU hD hv he hE
  go_enter Tryd.func34, Tryd.ntmps34
  go_wp2_with fail
  with_reducible refine (HV.out _ h1).mono ?_
  rintro e w2 ⟨rfl, h2, o2⟩
  have S4 := nx_begin (c := c) (N : Nat) 0 hbl h2 o2
  have A3 := nx_tag (w := w) (w2 := w2) (N : Nat) 0 (.cells #[] 0)
  have a0 := A3.c0; have a1 := A3.c1
  clear h2 o2 h1 hbl A3
  obtain ⟨w4, hw4⟩ : ∃ w4, w4 = ((w2.alloc (.cells #[.int .i64 (N : Nat), .int .i64 0] 58)).alloc (.cells #[.int .i64 (N : Nat), .int .i64 0, .int .u64 0, .string ⟨#[]⟩] 38)) := ⟨_, rfl⟩
  rw [← hw4] at S4
  go_upto_region 3 with fail
  rw [← hw4]
  have HS := Lib.hid S4
  have q1 := S4.fld.c1
  clear S4 hw4 a0 a1
  go_wp2_with fail
  with_reducible refine (HC.out _ HS.out.cur).mono ?_
  rintro e w5 ⟨rfl, h5, o5⟩
  have S5 := HS.out.calls h5 o5
  have S6 := Lib.hid (S5.setNum U)
  have f0 := S5.fld.fr
  have k2 := S5.fld.c2; have k3 := S5.fld.c3
  clear S5 h5 o5 q1
  go_wp2_with fail
  obtain ⟨w6, hw6⟩ : ∃ w6, w6 = w5.setCell ⟨w2.heap.size + 1, 2, none⟩ (.int .u64 (U : Nat)) := ⟨_, rfl⟩
  rw [← hw6] at S6 ⊢
  clear hw6 f0 k2 k3
  with_reducible refine (HE.out _ S6.out.cur).mono ?_
  rintro e w7 ⟨rfl, rfl⟩
  have g0 := S6.out.fld.c0; have g1 := S6.out.fld.c1; have g2 := S6.out.fld.c2; have g3 := S6.out.fld.c3
  have r0 := S6.out.res.c0; have r1 := S6.out.res.c1; have r2 := S6.out.res.c2; have r3 := S6.out.res.c3; have rf := S6.out.res.fr
  have hG := Lib.hid (S6.out.give ((N : Nat), 0, U, ⟨#[]⟩))
  go_wp2
  exact bodyPost_ret (fd_result Tryd.underlying38 rfl (by kernel_rfl) Tryd.results34 hG.out.1 rfl) rfl ⟨by rw [HR2.out] <;> rfl, by rw [HR.out.1]; exact hG.out.2.1, hG.out.2.2⟩

set_option maxRecDepth 10000 in
set_option maxHeartbeats 1000000 in
theorem next_0_no {b : Nat} {c : CS} {w : World} (h : CurT 82 w b c) (hc : c.ok) (hv : mW c.vVal = 0) (he : ¬ (c.gTo.cTo 0).er = 0) :
    Calls Tryd.prog 34 #[.pointer (some ⟨b, 0, none⟩)] w fun e w' => e = .returned (pfV c.fVal) ∧ CurT 82 w' b c.fTo ∧ Only b w w' := by
  have hbl := h.lt
  have hgo := CS.gTo_ok hc
  have h1 := h.allocOld (.cells #[.int .i64 0, .int .i64 0, .int .u64 0, .string ⟨#[]⟩] 38)
  have HV := Lib.hid (fun w (h : CurT 82 w b c) => tread_any h hc)
  rw [hv] at HV
  have HC := Lib.hid (fun w (h : CurT 82 w b c.gTo) => (show Calls Tryd.prog 44 #[.pointer (some ⟨b, 0, none⟩)] w fun e w' => e = .returned (.int .u64 ((c.gTo.vVal : Nat) : Int)) ∧ CurT 82 w' b (c.gTo.cTo 0) ∧ Only b w w' from vread_any h hgo))
  have HR := Lib.hid (show c.fTo = c.gTo.cTo 0 ∧ c.fVal = fZ by
    have e1 : c.fTo = c.gTo.cTo 0 := by unfold CS.fTo; rw [hv]
    refine ⟨e1, ?_⟩
    unfold CS.fVal
    rw [e1, if_neg he])
  have hE : ¬ (c.gTo.cTo 0).er = 0 := he
  obtain ⟨N, hN⟩ : ∃ N, N = mN c.vVal := ⟨_, rfl⟩
  obtain ⟨d, hd⟩ : ∃ d, d = c.gTo := ⟨_, rfl⟩
  rw [← hN] at HV
  have HR2 := Lib.hid (show c.fVal = fZ by rw [HR.out.2])
  rw [← hd] at HV HC HR hE
  obtain ⟨U, hU⟩ : ∃ U, U = d.vVal := ⟨_, rfl⟩
  obtain ⟨D, hD⟩ : ∃ D, D = d.cTo 0 := ⟨_, rfl⟩
  rw [← hU] at HC
  rw [← hD] at HC HR hE
  have HE := Lib.hid (fun w (h : CurT 82 w b D) => err_any h)
  have pE : (D.er != 0) = true := by exact bne_iff_ne.mpr hE
  clear hN hd hU hD hv he hE
  go_enter Tryd.func34, Tryd.ntmps34
  go_wp2_with fail
  with_reducible refine (HV.out _ h1).mono ?_
  rintro e w2 ⟨rfl, h2, o2⟩
  have S4 := nx_begin (c := c) (N : Nat) 0 hbl h2 o2
  have A3 := nx_tag (w := w) (w2 := w2) (N : Nat) 0 (.cells #[] 0)
  have a0 := A3.c0; have a1 := A3.c1
  clear h2 o2 h1 hbl A3
  obtain ⟨w4, hw4⟩ : ∃ w4, w4 = ((w2.alloc (.cells #[.int .i64 (N : Nat), .int .i64 0] 58)).alloc (.cells #[.int .i64 (N : Nat), .int .i64 0, .int .u64 0, .string ⟨#[]⟩] 38)) := ⟨_, rfl⟩
  rw [← hw4] at S4
  go_upto_region 3 with fail
  rw [← hw4]
  have HS := Lib.hid S4
  have q1 := S4.fld.c1
  clear S4 hw4 a0 a1
  go_wp2_with fail
  with_reducible refine (HC.out _ HS.out.cur).mono ?_
  rintro e w5 ⟨rfl, h5, o5⟩
  have S5 := HS.out.calls h5 o5
  have S6 := Lib.hid (S5.setNum U)
  have f0 := S5.fld.fr
  have k2 := S5.fld.c2; have k3 := S5.fld.c3
  clear S5 h5 o5 q1
  go_wp2_with fail
  obtain ⟨w6, hw6⟩ : ∃ w6, w6 = w5.setCell ⟨w2.heap.size + 1, 2, none⟩ (.int .u64 (U : Nat)) := ⟨_, rfl⟩
  rw [← hw6] at S6 ⊢
  clear hw6 f0 k2 k3
  with_reducible refine (HE.out _ S6.out.cur).mono ?_
  rintro e w7 ⟨rfl, rfl⟩
  have g0 := S6.out.fld.c0; have g1 := S6.out.fld.c1; have g2 := S6.out.fld.c2; have g3 := S6.out.fld.c3
  have r0 := S6.out.res.c0; have r1 := S6.out.res.c1; have r2 := S6.out.res.c2; have r3 := S6.out.res.c3; have rf := S6.out.res.fr
  have hG := Lib.hid (S6.out.give fZ)
  go_wp2
  exact bodyPost_ret (fd_result Tryd.underlying38 rfl (by kernel_rfl) Tryd.results34 hG.out.1 rfl) rfl ⟨by rw [HR2.out] <;> rfl, by rw [HR.out.1]; exact hG.out.2.1, hG.out.2.2⟩

set_option maxRecDepth 10000 in
set_option maxHeartbeats 1000000 in
theorem next_1_ok {b : Nat} {c : CS} {w : World} (h : CurT 82 w b c) (hc : c.ok) (ht : Tab w) (hg : 0 ≠ b) (hv : mW c.vVal = 1) (he : (c.gTo.cTo 1).er = 0) :
    Calls Tryd.prog 34 #[.pointer (some ⟨b, 0, none⟩)] w fun e w' => e = .returned (pfV c.fVal) ∧ CurT 82 w' b c.fTo ∧ Only b w w' := by
  have hbl := h.lt
  have hgo := CS.gTo_ok hc
  have h1 := h.allocOld (.cells #[.int .i64 0, .int .i64 0, .int .u64 0, .string ⟨#[]⟩] 38)
  have HV := Lib.hid (fun w (h : CurT 82 w b c) => tread_any h hc)
  rw [hv] at HV
  have HT := Lib.hid ht
  clear ht
  have HC := Lib.hid (fun w (h : CurT 82 w b c.gTo) (ht : Tab w) => (show Calls Tryd.prog 45 #[.pointer (some ⟨b, 0, none⟩)] w fun e w' => e = .returned (.int .u64 ((c.gTo.cNum 1 : Nat) : Int)) ∧ CurT 82 w' b (c.gTo.cTo 1) ∧ Only b w w' from rl64 h hgo ht hg))
  have HR := Lib.hid (show c.fTo = c.gTo.cTo 1 ∧ c.fVal = (((mN c.vVal : Nat) : Int), 1, c.gTo.cNum 1, ⟨#[]⟩) by
    have e1 : c.fTo = c.gTo.cTo 1 := by unfold CS.fTo; rw [hv]
    refine ⟨e1, ?_⟩
    unfold CS.fVal
    rw [e1, if_pos he]
    unfold CS.fGot; rw [hv]; rfl)
  have hE : (c.gTo.cTo 1).er = 0 := he
  obtain ⟨N, hN⟩ : ∃ N, N = mN c.vVal := ⟨_, rfl⟩
  obtain ⟨d, hd⟩ : ∃ d, d = c.gTo := ⟨_, rfl⟩
  rw [← hN] at HV
  have HR2 := Lib.hid (show c.fVal = (((N : Nat) : Int), 1, c.gTo.cNum 1, ⟨#[]⟩) by rw [HR.out.2, hN])
  rw [← hd] at HV HC HR HR2 hE
  obtain ⟨U, hU⟩ : ∃ U, U = d.cNum 1 := ⟨_, rfl⟩
  obtain ⟨D, hD⟩ : ∃ D, D = d.cTo 1 := ⟨_, rfl⟩
  rw [← hU] at HC HR2
  rw [← hD] at HC HR hE
  have HE := Lib.hid (fun w (h : CurT 82 w b D) => err_any h)
  have pE : (D.er != 0) = false := by rw [hE]; rfl
  clear hN hd hU hD hv he hE
  go_enter Tryd.func34, Tryd.ntmps34
  go_wp2_with fail
  with_reducible refine (HV.out _ h1).mono ?_
  rintro e w2 ⟨rfl, h2, o2⟩
  have S4 := nx_begin (c := c) (N : Nat) 1 hbl h2 o2
  have A3 := nx_tag (w := w) (w2 := w2) (N : Nat) 1 (.cells #[] 0)
  have a0 := A3.c0; have a1 := A3.c1
  clear h2 o2 h1 hbl A3
  obtain ⟨w4, hw4⟩ : ∃ w4, w4 = ((w2.alloc (.cells #[.int .i64 (N : Nat), .int .i64 1] 58)).alloc (.cells #[.int .i64 (N : Nat), .int .i64 1, .int .u64 0, .string ⟨#[]⟩] 38)) := ⟨_, rfl⟩
  rw [← hw4] at S4
  go_upto_region 3 with fail
  rw [← hw4]
  have HS := Lib.hid S4
  have q1 := S4.fld.c1
  have ht4 := Lib.hid (show Tab w4 from fun k hk => by rw [World.cell?_of_block (w := w) (HS.out.only.block 0 HT.out.lt hg)]; exact HT.out k hk)
  clear S4 hw4 a0 a1
  go_wp2_with fail
  with_reducible refine (HC.out _ HS.out.cur ht4.out).mono ?_
  rintro e w5 ⟨rfl, h5, o5⟩
  have S5 := HS.out.calls h5 o5
  have S6 := Lib.hid (S5.setNum U)
  have f0 := S5.fld.fr
  have k2 := S5.fld.c2; have k3 := S5.fld.c3
  clear S5 h5 o5 q1
  go_wp2_with fail
  obtain ⟨w6, hw6⟩ : ∃ w6, w6 = w5.setCell ⟨w2.heap.size + 1, 2, none⟩ (.int .u64 (U : Nat)) := ⟨_, rfl⟩
  rw [← hw6] at S6 ⊢
  clear hw6 f0 k2 k3
  with_reducible refine (HE.out _ S6.out.cur).mono ?_
  rintro e w7 ⟨rfl, rfl⟩
  have g0 := S6.out.fld.c0; have g1 := S6.out.fld.c1; have g2 := S6.out.fld.c2; have g3 := S6.out.fld.c3
  have r0 := S6.out.res.c0; have r1 := S6.out.res.c1; have r2 := S6.out.res.c2; have r3 := S6.out.res.c3; have rf := S6.out.res.fr
  have hG := Lib.hid (S6.out.give ((N : Nat), 1, U, ⟨#[]⟩))
  go_wp2
  exact bodyPost_ret (fd_result Tryd.underlying38 rfl (by kernel_rfl) Tryd.results34 hG.out.1 rfl) rfl ⟨by rw [HR2.out] <;> rfl, by rw [HR.out.1]; exact hG.out.2.1, hG.out.2.2⟩

set_option maxRecDepth 10000 in
set_option maxHeartbeats 1000000 in
theorem next_1_no {b : Nat} {c : CS} {w : World} (h : CurT 82 w b c) (hc : c.ok) (ht : Tab w) (hg : 0 ≠ b) (hv : mW c.vVal = 1) (he : ¬ (c.gTo.cTo 1).er = 0) :
    Calls Tryd.prog 34 #[.pointer (some ⟨b, 0, none⟩)] w fun e w' => e = .returned (pfV c.fVal) ∧ CurT 82 w' b c.fTo ∧ Only b w w' := by
  have hbl := h.lt
  have hgo := CS.gTo_ok hc
  have h1 := h.allocOld (.cells #[.int .i64 0, .int .i64 0, .int .u64 0, .string ⟨#[]⟩] 38)
  have HV := Lib.hid (fun w (h : CurT 82 w b c) => tread_any h hc)
  rw [hv] at HV
  have HT := Lib.hid ht
  clear ht
  have HC := Lib.hid (fun w (h : CurT 82 w b c.gTo) (ht : Tab w) => (show Calls Tryd.prog 45 #[.pointer (some ⟨b, 0, none⟩)] w fun e w' => e = .returned (.int .u64 ((c.gTo.cNum 1 : Nat) : Int)) ∧ CurT 82 w' b (c.gTo.cTo 1) ∧ Only b w w' from rl64 h hgo ht hg))
  have HR := Lib.hid (show c.fTo = c.gTo.cTo 1 ∧ c.fVal = fZ by
    have e1 : c.fTo = c.gTo.cTo 1 := by unfold CS.fTo; rw [hv]
    refine ⟨e1, ?_⟩
    unfold CS.fVal
    rw [e1, if_neg he])
  have hE : ¬ (c.gTo.cTo 1).er = 0 := he
  obtain ⟨N, hN⟩ : ∃ N, N = mN c.vVal := ⟨_, rfl⟩
  obtain ⟨d, hd⟩ : ∃ d, d = c.gTo := ⟨_, rfl⟩
  rw [← hN] at HV
  have HR2 := Lib.hid (show c.fVal = fZ by rw [HR.out.2])
  rw [← hd] at HV HC HR hE
  obtain ⟨U, hU⟩ : ∃ U, U = d.cNum 1 := ⟨_, rfl⟩
  obtain ⟨D, hD⟩ : ∃ D, D = d.cTo 1 := ⟨_, rfl⟩
  rw [← hU] at HC
  rw [← hD] at HC HR hE
  have HE := Lib.hid (fun w (h : CurT 82 w b D) => err_any h)
  have pE : (D.er != 0) = true := by exact bne_iff_ne.mpr hE
  clear hN hd hU hD hv he hE
  go_enter Tryd.func34, Tryd.ntmps34
  go_wp2_with fail
  with_reducible refine (HV.out _ h1).mono ?_
  rintro e w2 ⟨rfl, h2, o2⟩
  have S4 := nx_begin (c := c) (N : Nat) 1 hbl h2 o2
  have A3 := nx_tag (w := w) (w2 := w2) (N : Nat) 1 (.cells #[] 0)
  have a0 := A3.c0; have a1 := A3.c1
  clear h2 o2 h1 hbl A3
  obtain ⟨w4, hw4⟩ : ∃ w4, w4 = ((w2.alloc (.cells #[.int .i64 (N : Nat), .int .i64 1] 58)).alloc (.cells #[.int .i64 (N : Nat), .int .i64 1, .int .u64 0, .string ⟨#[]⟩] 38)) := ⟨_, rfl⟩
  rw [← hw4] at S4
  go_upto_region 3 with fail
  rw [← hw4]
  have HS := Lib.hid S4
  have q1 := S4.fld.c1
  have ht4 := Lib.hid (show Tab w4 from fun k hk => by rw [World.cell?_of_block (w := w) (HS.out.only.block 0 HT.out.lt hg)]; exact HT.out k hk)
  clear S4 hw4 a0 a1
  go_wp2_with fail
  with_reducible refine (HC.out _ HS.out.cur ht4.out).mono ?_
  rintro e w5 ⟨rfl, h5, o5⟩
  have S5 := HS.out.calls h5 o5
  have S6 := Lib.hid (S5.setNum U)
  have f0 := S5.fld.fr
  have k2 := S5.fld.c2; have k3 := S5.fld.c3
  clear S5 h5 o5 q1
  go_wp2_with fail
  obtain ⟨w6, hw6⟩ : ∃ w6, w6 = w5.setCell ⟨w2.heap.size + 1, 2, none⟩ (.int .u64 (U : Nat)) := ⟨_, rfl⟩
  rw [← hw6] at S6 ⊢
  clear hw6 f0 k2 k3
  with_reducible refine (HE.out _ S6.out.cur).mono ?_
  rintro e w7 ⟨rfl, rfl⟩
  have g0 := S6.out.fld.c0; have g1 := S6.out.fld.c1; have g2 := S6.out.fld.c2; have g3 := S6.out.fld.c3
  have r0 := S6.out.res.c0; have r1 := S6.out.res.c1; have r2 := S6.out.res.c2; have r3 := S6.out.res.c3; have rf := S6.out.res.fr
  have hG := Lib.hid (S6.out.give fZ)
  go_wp2
  exact bodyPost_ret (fd_result Tryd.underlying38 rfl (by kernel_rfl) Tryd.results34 hG.out.1 rfl) rfl ⟨by rw [HR2.out] <;> rfl, by rw [HR.out.1]; exact hG.out.2.1, hG.out.2.2⟩

set_option maxRecDepth 10000 in
set_option maxHeartbeats 1000000 in
theorem next_5_ok {b : Nat} {c : CS} {w : World} (h : CurT 82 w b c) (hc : c.ok) (ht : Tab w) (hg : 0 ≠ b) (hv : mW c.vVal = 5) (he : (c.gTo.cTo 5).er = 0) :
    Calls Tryd.prog 34 #[.pointer (some ⟨b, 0, none⟩)] w fun e w' => e = .returned (pfV c.fVal) ∧ CurT 82 w' b c.fTo ∧ Only b w w' := by
  have hbl := h.lt
  have hgo := CS.gTo_ok hc
  have h1 := h.allocOld (.cells #[.int .i64 0, .int .i64 0, .int .u64 0, .string ⟨#[]⟩] 38)
  have HV := Lib.hid (fun w (h : CurT 82 w b c) => tread_any h hc)
  rw [hv] at HV
  have HT := Lib.hid ht
  clear ht
  have HC := Lib.hid (fun w (h : CurT 82 w b c.gTo) (ht : Tab w) => (show Calls Tryd.prog 46 #[.pointer (some ⟨b, 0, none⟩)] w fun e w' => e = .returned (.int .u32 ((c.gTo.cNum 5 : Nat) : Int)) ∧ CurT 82 w' b (c.gTo.cTo 5) ∧ Only b w w' from rl32 h hgo ht hg))
  have HR := Lib.hid (show c.fTo = c.gTo.cTo 5 ∧ c.fVal = (((mN c.vVal : Nat) : Int), 5, c.gTo.cNum 5, ⟨#[]⟩) by
    have e1 : c.fTo = c.gTo.cTo 5 := by unfold CS.fTo; rw [hv]
    refine ⟨e1, ?_⟩
    unfold CS.fVal
    rw [e1, if_pos he]
    unfold CS.fGot; rw [hv]; rfl)
  have h32 := cNum5_lt hgo
  have hE : (c.gTo.cTo 5).er = 0 := he
  obtain ⟨N, hN⟩ : ∃ N, N = mN c.vVal := ⟨_, rfl⟩
  obtain ⟨d, hd⟩ : ∃ d, d = c.gTo := ⟨_, rfl⟩
  rw [← hN] at HV
  have HR2 := Lib.hid (show c.fVal = (((N : Nat) : Int), 5, c.gTo.cNum 5, ⟨#[]⟩) by rw [HR.out.2, hN])
  rw [← hd] at HV HC HR HR2 hE h32
  obtain ⟨U, hU⟩ : ∃ U, U = d.cNum 5 := ⟨_, rfl⟩
  obtain ⟨D, hD⟩ : ∃ D, D = d.cTo 5 := ⟨_, rfl⟩
  rw [← hU] at HC HR2 h32
  rw [← hD] at HC HR hE
  have HE := Lib.hid (fun w (h : CurT 82 w b D) => err_any h)
  have pE : (D.er != 0) = false := by rw [hE]; rfl
  clear hN hd hU hD hv he hE
  go_enter Tryd.func34, Tryd.ntmps34
  go_wp2_with fail
  with_reducible refine (HV.out _ h1).mono ?_
  rintro e w2 ⟨rfl, h2, o2⟩
  have S4 := nx_begin (c := c) (N : Nat) 5 hbl h2 o2
  have A3 := nx_tag (w := w) (w2 := w2) (N : Nat) 5 (.cells #[] 0)
  have a0 := A3.c0; have a1 := A3.c1
  clear h2 o2 h1 hbl A3
  obtain ⟨w4, hw4⟩ : ∃ w4, w4 = ((w2.alloc (.cells #[.int .i64 (N : Nat), .int .i64 5] 58)).alloc (.cells #[.int .i64 (N : Nat), .int .i64 5, .int .u64 0, .string ⟨#[]⟩] 38)) := ⟨_, rfl⟩
  rw [← hw4] at S4
  go_upto_region 3 with fail
  rw [← hw4]
  have HS := Lib.hid S4
  have q1 := S4.fld.c1
  have ht4 := Lib.hid (show Tab w4 from fun k hk => by rw [World.cell?_of_block (w := w) (HS.out.only.block 0 HT.out.lt hg)]; exact HT.out k hk)
  clear S4 hw4 a0 a1
  go_wp2_with fail
  with_reducible refine (HC.out _ HS.out.cur ht4.out).mono ?_
  rintro e w5 ⟨rfl, h5, o5⟩
  have S5 := HS.out.calls h5 o5
  have S6 := Lib.hid (S5.setNum U)
  have f0 := S5.fld.fr
  have k2 := S5.fld.c2; have k3 := S5.fld.c3
  clear S5 h5 o5 q1
  go_wp2_with fail
  obtain ⟨w6, hw6⟩ : ∃ w6, w6 = w5.setCell ⟨w2.heap.size + 1, 2, none⟩ (.int .u64 (U : Nat)) := ⟨_, rfl⟩
  rw [← hw6] at S6 ⊢
  clear hw6 f0 k2 k3
  with_reducible refine (HE.out _ S6.out.cur).mono ?_
  rintro e w7 ⟨rfl, rfl⟩
  have g0 := S6.out.fld.c0; have g1 := S6.out.fld.c1; have g2 := S6.out.fld.c2; have g3 := S6.out.fld.c3
  have r0 := S6.out.res.c0; have r1 := S6.out.res.c1; have r2 := S6.out.res.c2; have r3 := S6.out.res.c3; have rf := S6.out.res.fr
  have hG := Lib.hid (S6.out.give ((N : Nat), 5, U, ⟨#[]⟩))
  go_wp2
  exact bodyPost_ret (fd_result Tryd.underlying38 rfl (by kernel_rfl) Tryd.results34 hG.out.1 rfl) rfl ⟨by rw [HR2.out] <;> rfl, by rw [HR.out.1]; exact hG.out.2.1, hG.out.2.2⟩

set_option maxRecDepth 10000 in
set_option maxHeartbeats 1000000 in
theorem next_5_no {b : Nat} {c : CS} {w : World} (h : CurT 82 w b c) (hc : c.ok) (ht : Tab w) (hg : 0 ≠ b) (hv : mW c.vVal = 5) (he : ¬ (c.gTo.cTo 5).er = 0) :
    Calls Tryd.prog 34 #[.pointer (some ⟨b, 0, none⟩)] w fun e w' => e = .returned (pfV c.fVal) ∧ CurT 82 w' b c.fTo ∧ Only b w w' := by
  have hbl := h.lt
  have hgo := CS.gTo_ok hc
  have h1 := h.allocOld (.cells #[.int .i64 0, .int .i64 0, .int .u64 0, .string ⟨#[]⟩] 38)
  have HV := Lib.hid (fun w (h : CurT 82 w b c) => tread_any h hc)
  rw [hv] at HV
  have HT := Lib.hid ht
  clear ht
  have HC := Lib.hid (fun w (h : CurT 82 w b c.gTo) (ht : Tab w) => (show Calls Tryd.prog 46 #[.pointer (some ⟨b, 0, none⟩)] w fun e w' => e = .returned (.int .u32 ((c.gTo.cNum 5 : Nat) : Int)) ∧ CurT 82 w' b (c.gTo.cTo 5) ∧ Only b w w' from rl32 h hgo ht hg))
  have HR := Lib.hid (show c.fTo = c.gTo.cTo 5 ∧ c.fVal = fZ by
    have e1 : c.fTo = c.gTo.cTo 5 := by unfold CS.fTo; rw [hv]
    refine ⟨e1, ?_⟩
    unfold CS.fVal
    rw [e1, if_neg he])
  have h32 := cNum5_lt hgo
  have hE : ¬ (c.gTo.cTo 5).er = 0 := he
  obtain ⟨N, hN⟩ : ∃ N, N = mN c.vVal := ⟨_, rfl⟩
  obtain ⟨d, hd⟩ : ∃ d, d = c.gTo := ⟨_, rfl⟩
  rw [← hN] at HV
  have HR2 := Lib.hid (show c.fVal = fZ by rw [HR.out.2])
  rw [← hd] at HV HC HR hE h32
  obtain ⟨U, hU⟩ : ∃ U, U = d.cNum 5 := ⟨_, rfl⟩
  obtain ⟨D, hD⟩ : ∃ D, D = d.cTo 5 := ⟨_, rfl⟩
  rw [← hU] at HC h32
  rw [← hD] at HC HR hE
  have HE := Lib.hid (fun w (h : CurT 82 w b D) => err_any h)
  have pE : (D.er != 0) = true := by exact bne_iff_ne.mpr hE
  clear hN hd hU hD hv he hE
  go_enter Tryd.func34, Tryd.ntmps34
  go_wp2_with fail
  with_reducible refine (HV.out _ h1).mono ?_
  rintro e w2 ⟨rfl, h2, o2⟩
  have S4 := nx_begin (c := c) (N : Nat) 5 hbl h2 o2
  have A3 := nx_tag (w := w) (w2 := w2) (N : Nat) 5 (.cells #[] 0)
  have a0 := A3.c0; have a1 := A3.c1
  clear h2 o2 h1 hbl A3
  obtain ⟨w4, hw4⟩ : ∃ w4, w4 = ((w2.alloc (.cells #[.int .i64 (N : Nat), .int .i64 5] 58)).alloc (.cells #[.int .i64 (N : Nat), .int .i64 5, .int .u64 0, .string ⟨#[]⟩] 38)) := ⟨_, rfl⟩
  rw [← hw4] at S4
  go_upto_region 3 with fail
  rw [← hw4]
  have HS := Lib.hid S4
  have q1 := S4.fld.c1
  have ht4 := Lib.hid (show Tab w4 from fun k hk => by rw [World.cell?_of_block (w := w) (HS.out.only.block 0 HT.out.lt hg)]; exact HT.out k hk)
  clear S4 hw4 a0 a1
  go_wp2_with fail
  with_reducible refine (HC.out _ HS.out.cur ht4.out).mono ?_
  rintro e w5 ⟨rfl, h5, o5⟩
  have S5 := HS.out.calls h5 o5
  have S6 := Lib.hid (S5.setNum U)
  have f0 := S5.fld.fr
  have k2 := S5.fld.c2; have k3 := S5.fld.c3
  clear S5 h5 o5 q1
  go_wp2_with fail
  obtain ⟨w6, hw6⟩ : ∃ w6, w6 = w5.setCell ⟨w2.heap.size + 1, 2, none⟩ (.int .u64 (U : Nat)) := ⟨_, rfl⟩
  rw [← hw6] at S6 ⊢
  clear hw6 f0 k2 k3
  with_reducible refine (HE.out _ S6.out.cur).mono ?_
  rintro e w7 ⟨rfl, rfl⟩
  have g0 := S6.out.fld.c0; have g1 := S6.out.fld.c1; have g2 := S6.out.fld.c2; have g3 := S6.out.fld.c3
  have r0 := S6.out.res.c0; have r1 := S6.out.res.c1; have r2 := S6.out.res.c2; have r3 := S6.out.res.c3; have rf := S6.out.res.fr
  have hG := Lib.hid (S6.out.give fZ)
  go_wp2
  exact bodyPost_ret (fd_result Tryd.underlying38 rfl (by kernel_rfl) Tryd.results34 hG.out.1 rfl) rfl ⟨by rw [HR2.out] <;> rfl, by rw [HR.out.1]; exact hG.out.2.1, hG.out.2.2⟩

set_option maxRecDepth 10000 in
set_option maxHeartbeats 1000000 in
theorem next_2_ok {b : Nat} {c : CS} {w : World} (h : CurT 82 w b c) (hc : c.ok) (hv : mW c.vVal = 2) (he : (c.gTo.cTo 2).er = 0) :
    Calls Tryd.prog 34 #[.pointer (some ⟨b, 0, none⟩)] w fun e w' => e = .returned (pfV c.fVal) ∧ CurT 82 w' b c.fTo ∧ Only b w w' := by
  have hbl := h.lt
  have hgo := CS.gTo_ok hc
  have h1 := h.allocOld (.cells #[.int .i64 0, .int .i64 0, .int .u64 0, .string ⟨#[]⟩] 38)
  have HV := Lib.hid (fun w (h : CurT 82 w b c) => tread_any h hc)
  rw [hv] at HV
  have HC := Lib.hid (fun w (h : CurT 82 w b c.gTo) => (show Calls Tryd.prog 47 #[.pointer (some ⟨b, 0, none⟩)] w fun e w' => e = .returned (.string c.gTo.xTxt) ∧ CurT 82 w' b (c.gTo.cTo 2) ∧ Only b w w' from rtxt_any h hgo))
  have HR := Lib.hid (show c.fTo = c.gTo.cTo 2 ∧ c.fVal = (((mN c.vVal : Nat) : Int), 2, 0, c.gTo.xTxt) by
    have e1 : c.fTo = c.gTo.cTo 2 := by unfold CS.fTo; rw [hv]
    refine ⟨e1, ?_⟩
    unfold CS.fVal
    rw [e1, if_pos he]
    unfold CS.fGot; rw [hv]; rfl)
  have hE : (c.gTo.cTo 2).er = 0 := he
  obtain ⟨N, hN⟩ : ∃ N, N = mN c.vVal := ⟨_, rfl⟩
  obtain ⟨d, hd⟩ : ∃ d, d = c.gTo := ⟨_, rfl⟩
  rw [← hN] at HV
  have HR2 := Lib.hid (show c.fVal = (((N : Nat) : Int), 2, 0, c.gTo.xTxt) by rw [HR.out.2, hN])
  rw [← hd] at HV HC HR HR2 hE
  obtain ⟨U, hU⟩ : ∃ U, U = d.xTxt := ⟨_, rfl⟩
  obtain ⟨D, hD⟩ : ∃ D, D = d.cTo 2 := ⟨_, rfl⟩
  rw [← hU] at HC HR2
  rw [← hD] at HC HR hE
  have HE := Lib.hid (fun w (h : CurT 82 w b D) => err_any h)
  have pE : (D.er != 0) = false := by rw [hE]; rfl
  clear hN hd hU hD hv he hE
  go_enter Tryd.func34, Tryd.ntmps34
  go_wp2_with fail
  with_reducible refine (HV.out _ h1).mono ?_
  rintro e w2 ⟨rfl, h2, o2⟩
  have S4 := nx_begin (c := c) (N : Nat) 2 hbl h2 o2
  have A3 := nx_tag (w := w) (w2 := w2) (N : Nat) 2 (.cells #[] 0)
  have a0 := A3.c0; have a1 := A3.c1
  clear h2 o2 h1 hbl A3
  obtain ⟨w4, hw4⟩ : ∃ w4, w4 = ((w2.alloc (.cells #[.int .i64 (N : Nat), .int .i64 2] 58)).alloc (.cells #[.int .i64 (N : Nat), .int .i64 2, .int .u64 0, .string ⟨#[]⟩] 38)) := ⟨_, rfl⟩
  rw [← hw4] at S4
  go_upto_region 3 with fail
  rw [← hw4]
  have HS := Lib.hid S4
  have q1 := S4.fld.c1
  clear S4 hw4 a0 a1
  go_wp2_with fail
  with_reducible refine (HC.out _ HS.out.cur).mono ?_
  rintro e w5 ⟨rfl, h5, o5⟩
  have S5 := HS.out.calls h5 o5
  have S6 := Lib.hid (S5.setTxt U)
  have f0 := S5.fld.fr
  have k2 := S5.fld.c2; have k3 := S5.fld.c3
  clear S5 h5 o5 q1
  go_wp2_with fail
  obtain ⟨w6, hw6⟩ : ∃ w6, w6 = w5.setCell ⟨w2.heap.size + 1, 3, none⟩ (.string U) := ⟨_, rfl⟩
  rw [← hw6] at S6 ⊢
  clear hw6 f0 k2 k3
  with_reducible refine (HE.out _ S6.out.cur).mono ?_
  rintro e w7 ⟨rfl, rfl⟩
  have g0 := S6.out.fld.c0; have g1 := S6.out.fld.c1; have g2 := S6.out.fld.c2; have g3 := S6.out.fld.c3
  have r0 := S6.out.res.c0; have r1 := S6.out.res.c1; have r2 := S6.out.res.c2; have r3 := S6.out.res.c3; have rf := S6.out.res.fr
  have hG := Lib.hid (S6.out.give ((N : Nat), 2, 0, U))
  go_wp2
  exact bodyPost_ret (fd_result Tryd.underlying38 rfl (by kernel_rfl) Tryd.results34 hG.out.1 rfl) rfl ⟨by rw [HR2.out] <;> rfl, by rw [HR.out.1]; exact hG.out.2.1, hG.out.2.2⟩

set_option maxRecDepth 10000 in
set_option maxHeartbeats 1000000 in
theorem next_2_no {b : Nat} {c : CS} {w : World} (h : CurT 82 w b c) (hc : c.ok) (hv : mW c.vVal = 2) (he : ¬ (c.gTo.cTo 2).er = 0) :
    Calls Tryd.prog 34 #[.pointer (some ⟨b, 0, none⟩)] w fun e w' => e = .returned (pfV c.fVal) ∧ CurT 82 w' b c.fTo ∧ Only b w w' := by
  have hbl := h.lt
  have hgo := CS.gTo_ok hc
  have h1 := h.allocOld (.cells #[.int .i64 0, .int .i64 0, .int .u64 0, .string ⟨#[]⟩] 38)
  have HV := Lib.hid (fun w (h : CurT 82 w b c) => tread_any h hc)
  rw [hv] at HV
  have HC := Lib.hid (fun w (h : CurT 82 w b c.gTo) => (show Calls Tryd.prog 47 #[.pointer (some ⟨b, 0, none⟩)] w fun e w' => e = .returned (.string c.gTo.xTxt) ∧ CurT 82 w' b (c.gTo.cTo 2) ∧ Only b w w' from rtxt_any h hgo))
  have HR := Lib.hid (show c.fTo = c.gTo.cTo 2 ∧ c.fVal = fZ by
    have e1 : c.fTo = c.gTo.cTo 2 := by unfold CS.fTo; rw [hv]
    refine ⟨e1, ?_⟩
    unfold CS.fVal
    rw [e1, if_neg he])
  have hE : ¬ (c.gTo.cTo 2).er = 0 := he
  obtain ⟨N, hN⟩ : ∃ N, N = mN c.vVal := ⟨_, rfl⟩
  obtain ⟨d, hd⟩ : ∃ d, d = c.gTo := ⟨_, rfl⟩
  rw [← hN] at HV
  have HR2 := Lib.hid (show c.fVal = fZ by rw [HR.out.2])
  rw [← hd] at HV HC HR hE
  obtain ⟨U, hU⟩ : ∃ U, U = d.xTxt := ⟨_, rfl⟩
  obtain ⟨D, hD⟩ : ∃ D, D = d.cTo 2 := ⟨_, rfl⟩
  rw [← hU] at HC
  rw [← hD] at HC HR hE
  have HE := Lib.hid (fun w (h : CurT 82 w b D) => err_any h)
  have pE : (D.er != 0) = true := by exact bne_iff_ne.mpr hE
  clear hN hd hU hD hv he hE
  go_enter Tryd.func34, Tryd.ntmps34
  go_wp2_with fail
  with_reducible refine (HV.out _ h1).mono ?_
  rintro e w2 ⟨rfl, h2, o2⟩
  have S4 := nx_begin (c := c) (N : Nat) 2 hbl h2 o2
  have A3 := nx_tag (w := w) (w2 := w2) (N : Nat) 2 (.cells #[] 0)
  have a0 := A3.c0; have a1 := A3.c1
  clear h2 o2 h1 hbl A3
  obtain ⟨w4, hw4⟩ : ∃ w4, w4 = ((w2.alloc (.cells #[.int .i64 (N : Nat), .int .i64 2] 58)).alloc (.cells #[.int .i64 (N : Nat), .int .i64 2, .int .u64 0, .string ⟨#[]⟩] 38)) := ⟨_, rfl⟩
  rw [← hw4] at S4
  go_upto_region 3 with fail
  rw [← hw4]
  have HS := Lib.hid S4
  have q1 := S4.fld.c1
  clear S4 hw4 a0 a1
  go_wp2_with fail
  with_reducible refine (HC.out _ HS.out.cur).mono ?_
  rintro e w5 ⟨rfl, h5, o5⟩
  have S5 := HS.out.calls h5 o5
  have S6 := Lib.hid (S5.setTxt U)
  have f0 := S5.fld.fr
  have k2 := S5.fld.c2; have k3 := S5.fld.c3
  clear S5 h5 o5 q1
  go_wp2_with fail
  obtain ⟨w6, hw6⟩ : ∃ w6, w6 = w5.setCell ⟨w2.heap.size + 1, 3, none⟩ (.string U) := ⟨_, rfl⟩
  rw [← hw6] at S6 ⊢
  clear hw6 f0 k2 k3
  with_reducible refine (HE.out _ S6.out.cur).mono ?_
  rintro e w7 ⟨rfl, rfl⟩
  have g0 := S6.out.fld.c0; have g1 := S6.out.fld.c1; have g2 := S6.out.fld.c2; have g3 := S6.out.fld.c3
  have r0 := S6.out.res.c0; have r1 := S6.out.res.c1; have r2 := S6.out.res.c2; have r3 := S6.out.res.c3; have rf := S6.out.res.fr
  have hG := Lib.hid (S6.out.give fZ)
  go_wp2
  exact bodyPost_ret (fd_result Tryd.underlying38 rfl (by kernel_rfl) Tryd.results34 hG.out.1 rfl) rfl ⟨by rw [HR2.out] <;> rfl, by rw [HR.out.1]; exact hG.out.2.1, hG.out.2.2⟩

theorem fnext_any {b : Nat} {c : CS} {w : World} (h : CurT 82 w b c) (hc : c.ok) (ht : Tab w) (hg : 0 ≠ b) :
    Calls Tryd.prog 34 #[.pointer (some ⟨b, 0, none⟩)] w fun e w' => e = .returned (pfV c.fVal) ∧ CurT 82 w' b c.fTo ∧ Only b w w' := by
  rcases mW_four c.vVal with hv | hv | hv | hv
  · by_cases he : (c.gTo.cTo 0).er = 0
    · exact next_0_ok h hc hv he
    · exact next_0_no h hc hv he
  · by_cases he : (c.gTo.cTo 1).er = 0
    · exact next_1_ok h hc ht hg hv he
    · exact next_1_no h hc ht hg hv he
  · by_cases he : (c.gTo.cTo 5).er = 0
    · exact next_5_ok h hc ht hg hv he
    · exact next_5_no h hc ht hg hv he
  · by_cases he : (c.gTo.cTo 2).er = 0
    · exact next_2_ok h hc hv he
    · exact next_2_no h hc hv he
end Go.Proofs.YtjpppnfkpnfhoaaDoor
