/- Package ptag: Put, meant, Read; slices.Clone of bytes. -/
import Derived.Test.YtjpppnfkpnfhoaaDoorPtA
namespace Go.Proofs.YtjpppnfkpnfhoaaDoor
open Go Go.RowKit
set_option linter.unusedVariables false

theorem add_at (b off j : Nat) : (Addr.mk b off none).add j = ⟨b, off + j, none⟩ := by unfold Addr.add; split <;> simp_all

set_option maxHeartbeats 2000000 in
/-- slices.Clone of bytes that were there: a list of the call's own, of the same bytes. -/
theorem clone_any (a : Option Addr) (cap : Nat) (l : List UInt8) (w : World) (hl : l.length ≤ 140737488351232) (hin : BIn w a l) :
    Calls Tryd.prog 39 #[.slice a l.length cap] w fun e w' => ∃ v, e = .returned v ∧ Bts 5 w' w.heap.size v l ∧ Below w.heap.size w w' := by
  have q : ∀ (w : World) (a : Option Addr) (n c n' c' : Nat), (binOp .eql 35 (.slice a n c) (.slice none n' c')).run Tryd.prog w = .ok (.bool a.isNone) w := fun w a n c n' c' => Lib.run_eql_slice_nil w _ _ a n c n' c' Tryd.underlying35
  match a with
  | none =>
    have hz : l = [] := by
      cases l with
      | nil => rfl
      | cons x t => obtain ⟨b, off, e, _⟩ := hin 0 (by simp); cases e
    subst hz
    have HB := Lib.hid (show Bts 5 w w.heap.size (.slice none 0 0) [] from ⟨by simp [bV], .inl ⟨rfl, rfl⟩⟩)
    clear hin
    go_enter Tryd.func39, Tryd.ntmps39
    go_wp2
    go_ret
    exact ⟨_, rfl, HB.out, Below.refl _ _⟩
  | some A =>
    obtain ⟨i0, hi, hz0, hz1, hz2⟩ := info_parts info8
    have HC := Lib.hid (show ∀ j u, (bV l)[j]? = some u → w.cell? (A.add j) = some u from fun j u hj => by
      have hjl : j < l.length := by
        have := (List.getElem?_eq_some_iff.1 hj).1
        rwa [bV_length] at this
      obtain ⟨b, off, e, _, hc⟩ := hin j hjl
      obtain rfl : A = ⟨b, off, none⟩ := by simpa using e
      rw [add_at, hc, ← bV_get l j hjl]; exact hj)
    clear hin
    go_enter Tryd.func39, Tryd.ntmps39
    go_wp2_with (at_builtin; refine wpList_append_own _ rfl _ _ 35 rfl w.heap.size 5 i0 (.int .u8 0) 1 1 Tryd.underlying35 hi hz0 hz1 hz2 rfl (by decide) _ _ _ rfl (World.ownsRow_made w #[] 0 (Nat.le_refl _) (Nat.zero_le _) rfl) A l.length cap (bV l) rfl ?qc1 ?qc2 ?qc3 ?qc4 ?qc5 ?qc6 ?_)
    case qc1 => rw [bV_length, Nat.mul_one]
    case qc2 => intro j u hj; exact Lib.cell?_alloc_some _ (HC.out j u hj)
    case qc3 => exact bV_one l
    case qc4 => unfold maxLen; omega
    case qc5 => omega
    case qc6 => simp
    intro v' w1 hown hgrow hnil
    go_wp2
    go_ret
    refine ⟨v', rfl, by unfold Bts; simpa using hown, ?_⟩
    exact ((Below.refl _ w).alloc (Nat.le_refl _) _).grown hgrow (by simp) (by intro k hk; simp [Value.ownBlock] at hk; omega)

theorem tput_any (a : Option Addr) (cap : Nat) (l : List UInt8) (n v : Int) (w : World) (hl : l.length ≤ 140737488351232) (hin : BIn w a l) :
    Calls Tryd.prog 25 #[.slice a l.length cap, tgV n v] w fun e w' => ∃ x, e = .returned x ∧ Bts 5 w' w.heap.size x (l ++ tagL n v) ∧ Below w.heap.size w w' := by
  have HM := Lib.hid (fun w => may_any n v w)
  rcases Bool.eq_false_or_eq_true (tagB n v) with h | h
  · rw [h] at HM
    have HW := Lib.hid (fun w => whole_any n v w h)
    have hU := tagU_lt h
    have HP := Lib.hid (fun w hin => vput_any a cap l (tagU n v) w hl (by omega) hin)
    have HR := Lib.hid (show tagL n v = vB (tagU n v) from if_pos h)
    have HI := Lib.hid hin
    clear h hin hU
    go_enter Tryd.func25, Tryd.ntmps25
    go_wp2_with fail
    with_reducible refine (HM.out _).mono ?_
    rintro e w1 ⟨rfl, b1⟩
    have k1 := Lib.hid (below_on (tg_grow 58 w n v) b1 (by simp))
    have A1 := (tg_alloc 58 w n v).below b1 (by simp)
    have c0 := A1.c0; have c1 := A1.c1
    clear b1 A1
    go_wp2_with fail
    with_reducible refine (HW.out _).mono ?_
    rintro e w2 ⟨rfl, b2⟩
    have k2 := Lib.hid (grown_then k1.out b2)
    clear b2 c0 c1
    go_wp2_with fail
    with_reducible refine (HP.out _ (HI.out.below k2.out)).mono ?_
    rintro e w3 ⟨x, rfl, hb, b3⟩
    have k3 := Lib.hid (grown_then k2.out b3)
    have hb3 := Lib.hid (hb.base k2.out.size)
    clear b3 hb
    go_wp2
    go_ret
    exact ⟨_, rfl, by rw [HR.out]; exact hb3.out, k3.out⟩
  · rw [h] at HM
    have HC := Lib.hid (fun w hin => clone_any a cap l w hl hin)
    have HR := Lib.hid (show l ++ tagL n v = l by unfold tagL; simp [h])
    have HI := Lib.hid hin
    clear h hin
    go_enter Tryd.func25, Tryd.ntmps25
    go_wp2_with fail
    with_reducible refine (HM.out _).mono ?_
    rintro e w1 ⟨rfl, b1⟩
    have k1 := Lib.hid (below_on (tg_grow 58 w n v) b1 (by simp))
    clear b1
    go_wp2_with fail
    with_reducible refine (HC.out _ (HI.out.below k1.out)).mono ?_
    rintro e w3 ⟨x, rfl, hb, b3⟩
    have k3 := Lib.hid (grown_then k1.out b3)
    have hb3 := Lib.hid (hb.base k1.out.size)
    clear b3 hb
    go_wp2
    go_ret
    exact ⟨_, rfl, by rw [HR.out]; exact hb3.out, k3.out⟩

theorem meant_any (u : Nat) (w : World) (hu : u < 18446744073709551616) :
    Calls Tryd.prog 52 #[.int .u64 u] w fun e w' => e = .returned (tgV (mN u : Nat) (mW u : Nat)) ∧ Below w.heap.size w w' := by
  obtain ⟨q, hq⟩ : ∃ q, q = u / 8 := ⟨_, rfl⟩
  obtain ⟨r, hr⟩ : ∃ r, r = u % 8 := ⟨_, rfl⟩
  have m1 : (u : Int).tmod 8 = (r : Int) := by rw [Int.tmod_eq_emod_of_nonneg (by omega)]; omega
  have m1' : (u : Int) % 8 = (r : Int) := by omega
  have m2 : (u : Int) / 8 = (q : Int) := by omega
  have m2' : (u : Int).tdiv 8 = (q : Int) := by rw [Int.tdiv_eq_ediv_of_nonneg (by omega)]; omega
  have m3 : IntKind.i64.wrap (q : Int) = (q : Int) := IntWalk.i64_in _ (by omega)
  have m4 : IntKind.i64.wrap (r : Int) = (r : Int) := IntWalk.i64_in _ (by omega)
  have m5 : IntKind.u64.wrap (q : Int) = (q : Int) := IntWalk.u64_in _ (by omega)
  have m6 : IntKind.u64.wrap (r : Int) = (r : Int) := IntWalk.u64_in _ (by omega)
  have HM := Lib.hid (fun w => may_any (q : Int) (r : Int) w)
  rcases Bool.eq_false_or_eq_true (tagB (q : Nat) (r : Nat)) with h | h
  · rw [h] at HM
    have HR := Lib.hid (show mN u = q ∧ mW u = r by subst hq hr; exact mN_yes h)
    clear h hq hr
    go_enter Tryd.func52, Tryd.ntmps52
    go_wp2_with fail
    with_reducible refine (HM.out _).mono ?_
    rintro e w1 ⟨rfl, b1⟩
    obtain ⟨A0, A1, B1⟩ := tg_two b1
    have hB := Lib.hid B1
    have hA := Lib.hid (A0.set (q : Int) (r : Int))
    have c0 := A1.c0; have c1 := A1.c1; have f0 := A0.fr; have d0 := A0.c0; have d1 := A0.c1
    clear b1 A0 A1 B1
    go_wp2
    exact bodyPost_ret (tg_result Tryd.underlying58 rfl (by kernel_rfl) Tryd.results52 hA.out rfl) rfl ⟨ret_tg (by rw [HR.out.1]) (by rw [HR.out.2]), tg_set_below hB.out (Nat.le_refl _)⟩
  · rw [h] at HM
    have HR := Lib.hid (show mN u = 0 ∧ mW u = 0 by subst hq hr; exact mN_no h)
    clear h hq hr
    go_enter Tryd.func52, Tryd.ntmps52
    go_wp2_with fail
    with_reducible refine (HM.out _).mono ?_
    rintro e w1 ⟨rfl, b1⟩
    obtain ⟨A0, A1, B1⟩ := tg_two b1
    have hB := Lib.hid B1
    have hA := Lib.hid (A0.set 0 0)
    have c0 := A1.c0; have c1 := A1.c1; have f0 := A0.fr; have d0 := A0.c0; have d1 := A0.c1
    clear b1 A0 A1 B1
    go_wp2
    exact bodyPost_ret (tg_result Tryd.underlying58 rfl (by kernel_rfl) Tryd.results52 hA.out rfl) rfl ⟨ret_tg (by rw [HR.out.1]; rfl) (by rw [HR.out.2]; rfl), tg_set_below hB.out (Nat.le_refl _)⟩

theorem tread_any {b : Nat} {c : CS} {w : World} (h : CurT 82 w b c) (hc : c.ok) :
    Calls Tryd.prog 43 #[.pointer (some ⟨b, 0, none⟩)] w fun e w' => e = .returned (tgV (mN c.vVal : Nat) (mW c.vVal : Nat)) ∧ CurT 82 w' b c.gTo ∧ Only b w w' := by
  have qE := fun a d w => tg_eql a d 0 0 w
  have qG := fun (x y : Operand) xs ys w => run_eqGuard_agg w .eql 58 x y xs ys tg_guard
  have hbl := h.lt
  have A0 := tg_alloc 58 w 0 0
  have h1 := h.allocOld (.cells #[.int .i64 0, .int .i64 0] 58)
  have O1 := Lib.hid ((Only.refl b w).alloc (.cells #[.int .i64 0, .int .i64 0] 58))
  have HV := Lib.hid (fun w (h : CurT 82 w b c) => vread_any h hc)
  have HN := Lib.hid (fun w => meant_any c.vVal w (CS.vVal_lt c))
  obtain ⟨N, hN⟩ : ∃ N, N = mN c.vVal := ⟨_, rfl⟩
  obtain ⟨R, hR⟩ : ∃ R, R = mW c.vVal := ⟨_, rfl⟩
  rw [← hN, ← hR] at HN ⊢
  obtain ⟨U, hU⟩ : ∃ U, U = c.vVal := ⟨_, rfl⟩
  obtain ⟨d, hd⟩ : ∃ d, d = c.vTo := ⟨_, rfl⟩
  by_cases h0 : N = 0
  · have hR0 : R = 0 := by rw [hR]; exact mW_zero (by rw [← hN]; exact h0)
    have HG := Lib.hid (show c.gTo = d.fail 14 by rw [hd]; exact CS.gTo_no (by rw [← hN]; exact h0))
    subst h0; subst hR0
    have e0 : ((0 : Nat) : Int) = 0 := rfl
    rw [← hU, ← hd] at HV
    rw [← hU, e0] at HN
    rw [e0]
    clear hN hR hU hd hc e0
    go_enter Tryd.func43, Tryd.ntmps43
    go_wp2_with fail
    with_reducible refine (HV.out _ h1).mono ?_
    rintro e w2 ⟨rfl, h2, o2⟩
    have O2 := Lib.hid (O1.out.trans o2)
    have A2 := A0.only o2 (by omega)
    clear o2 A0 h1
    go_wp2_with fail
    with_reducible refine (HN.out _).mono ?_
    rintro e w3 ⟨rfl, b3⟩
    have O3 := Lib.hid (O2.out.trans (Only.of_below b3))
    have h3 := Below.cur b3 h2 h2.lt
    have A3 := A2.below b3 A2.lt
    have g3 := O3.out.size
    have H4 := Lib.hid (h3.allocOld (.cells #[.int .i64 0, .int .i64 0] 58))
    have A4 := Lib.hid (A3.below (tg_grow 58 w3 0 0) A3.lt)
    have T4 := Lib.hid (tg_alloc 58 w3 0 0)
    have O4 := Lib.hid (O3.out.alloc (.cells #[.int .i64 0, .int .i64 0] 58))
    have n4 : w3.heap.size ≠ b := by have := h3.lt; omega
    have n5 : w.heap.size ≠ b := by omega
    have l3 : w.heap.size < w3.heap.size := A3.lt
    clear b3 h2 A2 h3 A3 g3 hbl
    go_wp2_with fail
    with_reducible refine (fail_any H4.out 14).mono ?_
    rintro e w5 ⟨rfl, h5, o5⟩
    have O5 := Lib.hid (O4.out.trans o5)
    have A5 := A4.out.only o5 n5
    have T5 := T4.out.only o5 n4
    have c0 := T5.c0; have c1 := T5.c1; have f0 := A5.fr; have d0 := A5.c0; have d1 := A5.c1
    have hA := Lib.hid (A5.set 0 0)
    have hC := Lib.hid (tg_set_cur (x := .int .i64 0) (y := .int .i64 0) h5 (Ne.symm n5))
    clear A5 T5 o5 h5
    go_wp2
    exact bodyPost_ret (tg_result Tryd.underlying58 rfl (by kernel_rfl) Tryd.results43 hA.out rfl) rfl ⟨rfl, by rw [HG.out]; exact hC.out, tg_set_only O5.out (Nat.le_refl _)⟩
  · have HG := Lib.hid (show c.gTo = d by rw [hd]; exact CS.gTo_yes (by rw [← hN]; exact h0))
    have pN : decide ((N : Int) = 0) = false := decide_eq_false (by omega)
    have pN' : decide (N = 0) = false := decide_eq_false h0
    have pN2 : ((N : Int) == 0) = false := beq_eq_false_iff_ne.mpr (by omega)
    have pN3 : (N == 0) = false := beq_eq_false_iff_ne.mpr h0
    rw [← hU, ← hd] at HV
    rw [← hU] at HN
    clear hN hR hU hd hc h0
    go_enter Tryd.func43, Tryd.ntmps43
    go_wp2_with fail
    with_reducible refine (HV.out _ h1).mono ?_
    rintro e w2 ⟨rfl, h2, o2⟩
    have O2 := Lib.hid (O1.out.trans o2)
    have A2 := A0.only o2 (by omega)
    clear o2 A0 h1
    go_wp2_with fail
    with_reducible refine (HN.out _).mono ?_
    rintro e w3 ⟨rfl, b3⟩
    have O3 := Lib.hid (O2.out.trans (Only.of_below b3))
    have h3 := Below.cur b3 h2 h2.lt
    have A3 := A2.below b3 A2.lt
    have g3 := O3.out.size
    have H4 := Lib.hid (h3.allocOld (.cells #[.int .i64 N, .int .i64 R] 58))
    have A4 := Lib.hid (A3.below (tg_grow 58 w3 N R) A3.lt)
    have T4 := Lib.hid (tg_alloc 58 w3 N R)
    have O4 := Lib.hid (O3.out.alloc (.cells #[.int .i64 N, .int .i64 R] 58))
    have n4 : w3.heap.size ≠ b := by have := h3.lt; omega
    have n5 : w.heap.size ≠ b := by omega
    have l3 : w.heap.size < w3.heap.size := A3.lt
    have f0 := A3.fr; have d0 := A3.c0; have d1 := A3.c1
    have hA := Lib.hid ((A3.set (N : Int) (R : Int)).below (tg_grow 58 _ N R) (by simpa [World.setCell] using A3.lt))
    have hC := Lib.hid ((tg_set_cur (x := .int .i64 (N : Int)) (y := .int .i64 (R : Int)) h3 (Ne.symm n5)).allocOld (.cells #[.int .i64 N, .int .i64 R] 58))
    have hO := Lib.hid ((tg_set_only (x := .int .i64 (N : Int)) (y := .int .i64 (R : Int)) O3.out (Nat.le_refl _)).alloc (.cells #[.int .i64 N, .int .i64 R] 58))
    clear b3 h2 A2 h3 A3 g3 hbl H4 A4 T4 O4
    go_wp2
    exact bodyPost_ret (tg_result Tryd.underlying58 rfl (by kernel_rfl) Tryd.results43 hA.out rfl) rfl ⟨rfl, by rw [HG.out]; exact hC.out, hO.out⟩
end Go.Proofs.YtjpppnfkpnfhoaaDoor
