/- JtokenAll, walked. -/
import Derived.Test.YticlijjkeeejpaaDoorJtWork
namespace Go.Proofs.YticlijjkeeejpaaDoor
open Go Go.RowKit
set_option linter.unusedVariables false

theorem kall_long (s : ByteArray) (w : World) (h : 300 < s.size) (hh : Hds w) :
    Calls Tryd.prog 3 #[.string s] w fun e w' => e = .returned (.bool true) ∧ Below w.heap.size w w' := by
  have p1 : decide (300 < (s.size : Int)) = true := decide_eq_true (by omega)
  have HT := Lib.hid hh
  clear hh
  go_enter Tryd.func3, Tryd.ntmps3
  go_wp2_with ((with_reducible refine (works12_any _ HT.out).mono ?_); rintro e w2 ⟨rfl, hbel2⟩)
  go_ret
  exact ⟨rfl, hbel2⟩
/-- A list of tokens from now on. -/
def TUp (w : World) (a : Option Addr) (l : List TK) : Prop := ∀ wx, Below w.heap.size w wx → TIn wx a l
theorem TIn.up {w : World} {a : Option Addr} {l : List TK} (h : TIn w a l) : TUp w a l := fun wx hb => h.below hb (Nat.le_refl _)
theorem kback {w : World} (a : Option Addr) (cap : Nat) (l : List TK) (hl : l.length ≤ 1099511627776) (hin : TIn w a l) :
    Calls Tryd.prog 16 #[.slice a l.length cap] w fun e w' => ∃ d k, e = .returned (.slice d l.length k) ∧ TIn w' d l ∧ Below w.heap.size w w' := by
  refine (back_any a cap l w hl hin).mono ?_
  rintro e w' ⟨v, he, hrow, hb⟩
  obtain ⟨d, k, hv, hi⟩ := hrow.inn
  rw [hv] at he
  exact ⟨d, k, he, hi, hb⟩
theorem kall_call (s : ByteArray) (w : World) (hs : s.size ≤ 1099511627776) (ht : Hds w) :
    Calls Tryd.prog 7 #[.string s] w fun e w' => ∃ a k, e = .returned (.tuple #[.slice a (tAll s.data.toList).1.length k, .int .i64 (tAll s.data.toList).2]) ∧ TIn w' a (tAll s.data.toList).1 ∧ Below w.heap.size w w' := by
  refine (all_any s w hs ht).mono ?_
  rintro e w' ⟨v, he, hrow, hb⟩
  obtain ⟨d, k, hv, hi⟩ := hrow.inn
  rw [hv] at he
  exact ⟨d, k, he, hi, hb⟩
theorem kall_ref (s : ByteArray) (w : World) (hs : s.size ≤ 1099511627776) :
    Calls Tryd.prog 8 #[.string s] w fun e w' => ∃ a k, e = .returned (.tuple #[.slice a (tAll s.data.toList).1.length k, .int .i64 (tAll s.data.toList).2]) ∧ TIn w' a (tAll s.data.toList).1 ∧ Below w.heap.size w w' := by
  refine (rall_any s w hs).mono ?_
  rintro e w' ⟨v, he, hrow, hb⟩
  obtain ⟨d, k, hv, hi⟩ := hrow.inn
  rw [hv] at he
  exact ⟨d, k, he, hi, hb⟩
set_option maxRecDepth 100000 in
set_option maxHeartbeats 4000000 in
theorem kall_short (s : ByteArray) (w : World) (h : s.size ≤ 300) (hh : Hds w) :
    Calls Tryd.prog 3 #[.string s] w fun e w' => e = .returned (.bool true) ∧ Below w.heap.size w w' := by
  have p1 : decide (300 < (s.size : Int)) = false := decide_eq_false (by omega)
  have HT := Lib.hid (show ∀ w', Below w.heap.size w w' → Hds w' from fun w' hb => hh.below hb hh.lt)
  have hgl := hh.lt
  have HA := Lib.hid (kall_call s w (by omega) hh)
  have HB := Lib.hid (fun w => kall_ref s w (by omega))
  have hok : (CS.new s).ok := CS.new_ok (by omega)
  have HN := Lib.hid (fun b w h ht hg => tnext_any (b := b) (w := w) (c := CS.new s) h hok (show s.size ≤ _ by omega) ht hg)
  have HRN := Lib.hid (fun w => rnext_any (CS.new s) w hok (show s.size ≤ _ by omega))
  have HL : (tAll s.data.toList).1.length ≤ 1099511627776 := by
    have := (tAll_fine _ s.data.toList rfl).2.1
    rw [toList_size] at this; omega
  have HZ := Lib.hid (show ¬ (CS.new s).tRes.e = 0 → (CS.new s).tRes.tok = (0, []) from fun he => by
    have e1 : (CS.new s).tRes = tNx (CS.new s).bs := by unfold CS.tRes; rw [if_pos (show (CS.new s).er = 0 from rfl)]
    rw [e1] at he ⊢
    exact tNx_bad he)
  unfold NxT at HN
  unfold RNx at HRN
  generalize (tAll s.data.toList).1 = L at *
  generalize (tAll s.data.toList).2 = C at *
  generalize (CS.new s).tRes = r at *
  clear hh hok
  go_enter Tryd.func3, Tryd.ntmps3
  go_wp2_with fail
  refine HA.out.mono ?_
  rintro e w1 ⟨a1, k1, rfl, i1, b1⟩
  go_wp2_with fail
  refine (HB.out _).mono ?_
  rintro e w2 ⟨a2, k2, rfl, i2, b2⟩
  have U1 := Lib.hid (i1.below b2 (Nat.le_refl _)).up
  have U2 := Lib.hid i2.up
  have B2 := Lib.hid (grown_then b1 b2)
  clear i1 i2 b1 b2 HA HB
  go_wp2_with fail
  with_reducible refine (new_cur s _ (by omega)).mono ?_
  rintro e w3 ⟨b, rfl, hb3, q3, b3⟩
  have hbw : w.heap.size ≤ b := Nat.le_trans B2.out.size hb3
  have hs2 := B2.out.size
  have t3 := Lib.hid (HT.out _ (grown_then B2.out b3))
  go_wp2_with fail
  refine (HN.out b _ q3 t3.out (by omega)).mono ?_
  rintro e w4 ⟨rfl, ⟨c4, q4, hA4⟩, ho4⟩
  have K4 := b3.trans (ho4.below hb3 b3.size)
  have HA4 := Lib.hid hA4
  have tk5 := tk_laid (w := w4) r.tok 33
  have q5 := q4.allocOld (.cells #[.int .u8 (r.tok.1.toNat : Int), .string (bA r.tok.2)] 33)
  have K5 := K4.trans ((alloc_below w4 (.cells #[.int .u8 (r.tok.1.toNat : Int), .string (bA r.tok.2)] 33)).mono K4.size)
  have hT5 := tk5.lt
  unfold tkV
  clear b3 t3 q3 ho4 K4 q4 hA4
  go_wp2_with fail
  with_reducible refine (ref_new s _ (by omega)).mono ?_
  rintro e w6 ⟨rfl, b6⟩
  generalize w4.alloc (.cells #[.int .u8 (r.tok.1.toNat : Int), .string (bA r.tok.2)] 33) = w5 at *
  generalize w4.heap.size = T5 at *
  have tk6 := tk5.below b6 tk5.lt
  have q6 := Below.cur b6 q5 q5.lt
  have K6 := K5.trans (b6.mono K5.size)
  clear tk5 q5 K5 b6 hT5
  go_wp2_with fail
  refine (HRN.out _).mono ?_
  rintro e w7 ⟨c7, rfl, hA7, b7⟩
  have HA7 := Lib.hid hA7
  have tk7 := tk6.below b7 tk6.lt
  have q7 := Below.cur b7 q6 q6.lt
  have K7 := K6.trans (b7.mono K6.size)
  clear tk6 q6 K6 b7 hA7 HRN HN
  have hst : ∃ w9, w9 = ((w7.alloc (.cells #[.string c7.s, .int .i64 c7.at_, .int .i64 c7.en, .int .i64 c7.er] 36)).alloc (.cells #[.int .u8 (r.tok.1.toNat : Int), .string (bA r.tok.2)] 37)) ∧ CurT 36 w9 w7.heap.size c7 ∧ TkT 37 w9 (w7.heap.size + 1) r.tok ∧ Below w7.heap.size w7 w9 := by
    have x4 := cur_alloc (w := w7) (c := c7) 36
    have b4 := alloc_below w7 (.cells #[.string c7.s, .int .i64 c7.at_, .int .i64 c7.en, .int .i64 c7.er] 36)
    have s4 : (w7.alloc (.cells #[.string c7.s, .int .i64 c7.at_, .int .i64 c7.en, .int .i64 c7.er] 36)).heap.size = w7.heap.size + 1 := by simp
    refine ⟨_, rfl, x4.allocOld _, ?_, b4.trans ((alloc_below _ _).mono b4.size)⟩
    have := tk_alloc (w := (w7.alloc (.cells #[.string c7.s, .int .i64 c7.at_, .int .i64 c7.en, .int .i64 c7.er] 36))) r.tok 37
    rw [s4] at this
    exact this
  obtain ⟨w9, hw9, x9, y9, b9⟩ := hst
  have tk9 := tk7.below b9 tk7.lt
  have q9 := Below.cur b9 q7 q7.lt
  have K9 := Lib.hid (K7.trans (b9.mono K7.size))
  clear tk7 q7 K7 b9
  unfold CS.val tkV
  go_upto_region 8 with fail
  rw [← hw9]
  clear hw9
  generalize w7.heap.size = G9 at *
  have hc4 := HA4.out.1
  have he4 := HA4.out.2.2.2.1
  have he7 := HA7.out.2.2.2.1
  have f0 := tk9.c0; have f1 := tk9.c1
  have g0 := y9.c0; have g1 := y9.c1
  have HE := Lib.hid (fun n => err_any (w := w9.drewN n) (q9.drewN n))
  rw [he4] at HE
  have a3 := x9.c3
  rw [he7] at a3
  have HRest : Hid (∀ wx, Below w2.heap.size w2 wx → Hds wx ∧ TIn wx a1 L ∧ TIn wx a2 L ∧ Below w.heap.size w wx) := Lib.hid (fun wx hb => by
    have hw := B2.out.trans (hb.mono B2.out.size)
    exact ⟨HT.out _ hw, U1.out _ hb, U2.out _ hb, hw⟩)
  have d1 : (!decide (r.tok = r.tok)) = false := by simp
  by_cases hz : r.tok.1 = 0
  · have p2 : ((r.tok.1.toNat : Int) != 0) = false := by rw [hz]; rfl
    clear hz HT U1 U2 B2 he4 he7 hc4
    go_quiet (first | (go_at_call 13; exact Calls.quiet_of_same (HE.out _)))
    go_wp2_with fail
    have K := fun n => HRest.out (w9.drewN n) (Below.drewN K9.out n)
    with_reducible refine (kback a1 k1 L HL (K _).2.1).mono ?_
    rintro e w10 ⟨d3, k3, rfl, i3, b3⟩
    have hbn := Lib.hid ((Below.drewN K9.out _).trans (b3.mono (Below.drewN K9.out _).size))
    have R10 := HRest.out _ hbn.out
    clear b3 K
    go_wp2_with fail
    with_reducible refine (same_any d3 a2 k3 k2 L L _ HL i3 R10.2.2.1).mono ?_
    rintro e w11 ⟨rfl, b4⟩
    have hbn2 := Lib.hid (hbn.out.trans (b4.mono hbn.out.size))
    have R11 := HRest.out _ hbn2.out
    clear b4 i3 R10
    go_wp2_with fail
    with_reducible refine (works12_any _ R11.1).mono ?_
    rintro e w12 ⟨rfl, b5⟩
    have hf := Lib.hid (grown_then R11.2.2.2 b5)
    clear b5
    go_wp2
    go_ret
    exact ⟨rfl, hf.out⟩
  · have p2 : ((r.tok.1.toNat : Int) != 0) = true := bne_iff_ne.mpr (fun e => hz (UInt8.toNat_inj.mp (by simpa using e)))
    have he0 : r.e = 0 := by
      rcases Int.decEq r.e 0 with h | h
      · have := HZ.out h
        rw [this] at hz; exact absurd rfl hz
      · exact h
    have h4 := HA4.out.2.2.2.2 he0
    have h7 := HA7.out.2.2.2.2 he0
    have HAt := Lib.hid (fun n => at_any (w := w9.drewN n) (q9.drewN n) hc4)
    have a1c := x9.c1
    rw [h7] at a1c
    rw [h4] at HAt
    generalize ((CS.new s).past r.k).at_ = A at *
    clear hz HT U1 U2 B2 he4 he7 hc4 h4 h7 he0
    go_quiet (first | (go_at_call 13; exact Calls.quiet_of_same (HE.out _)) | (go_at_call 14; exact Calls.quiet_of_same (HAt.out _)))
    go_wp2_with fail
    have K := fun n => HRest.out (w9.drewN n) (Below.drewN K9.out n)
    with_reducible refine (kback a1 k1 L HL (K _).2.1).mono ?_
    rintro e w10 ⟨d3, k3, rfl, i3, b3⟩
    have hbn := Lib.hid ((Below.drewN K9.out _).trans (b3.mono (Below.drewN K9.out _).size))
    have R10 := HRest.out _ hbn.out
    clear b3 K
    go_wp2_with fail
    with_reducible refine (same_any d3 a2 k3 k2 L L _ HL i3 R10.2.2.1).mono ?_
    rintro e w11 ⟨rfl, b4⟩
    have hbn2 := Lib.hid (hbn.out.trans (b4.mono hbn.out.size))
    have R11 := HRest.out _ hbn2.out
    clear b4 i3 R10
    go_wp2_with fail
    with_reducible refine (works12_any _ R11.1).mono ?_
    rintro e w12 ⟨rfl, b5⟩
    have hf := Lib.hid (grown_then R11.2.2.2 b5)
    clear b5
    go_wp2
    go_ret
    exact ⟨rfl, hf.out⟩
theorem kall_any (s : ByteArray) (w : World) (hs : s.size ≤ 140737488351232) (hh : Hds w) :
    Calls Tryd.prog 3 #[.string s] w fun e w' => e = .returned (.bool true) ∧ Below w.heap.size w w' := by
  by_cases h : 300 < s.size
  · exact kall_long s w h hh
  · exact kall_short s w (by omega) hh
end Go.Proofs.YticlijjkeeejpaaDoor
