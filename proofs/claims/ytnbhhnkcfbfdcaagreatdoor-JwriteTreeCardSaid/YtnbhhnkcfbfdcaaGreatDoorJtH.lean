/- The document's own Next (package truchmanref12), its other ways. -/
import Derived.Test.YtnbhhnkcfbfdcaaGreatDoorJtG
namespace Go.Proofs.YtnbhhnkcfbfdcaaGreatDoor
open Go Go.RowKit
set_option linter.unusedVariables false

theorem dig_is {x : UInt8} (h : tDig x = true) : ((x.toNat : Int) == 45) = true ∨ (((x.toNat : Int) == 45) = false ∧ decide ((48 : Int) ≤ (x.toNat : Int)) = true ∧ decide ((x.toNat : Int) ≤ 57) = true) := by
  by_cases h1 : x = 45
  · rw [h1]; exact .inl rfl
  · rcases tDig_iff.mp h with h2 | ⟨h2, h3⟩
    · exact absurd h2 h1
    · exact .inr ⟨(eq8 x 45).trans (decide_eq_false h1), decide_eq_true (by omega), decide_eq_true (by omega)⟩
theorem dig_no {x : UInt8} (h : tDig x = false) : ((x.toNat : Int) == 45) = false ∧ (decide ((48 : Int) ≤ (x.toNat : Int)) = false ∨ (decide ((48 : Int) ≤ (x.toNat : Int)) = true ∧ decide ((x.toNat : Int) ≤ 57) = false)) := by
  have h1 : ¬ x = 45 := fun e => by rw [e] at h; exact absurd h (by decide)
  have h2 : ¬ (48 ≤ x.toNat ∧ x.toNat ≤ 57) := fun e => by rw [tDig_iff.mpr (.inr e)] at h; cases h
  refine ⟨(eq8 x 45).trans (decide_eq_false h1), ?_⟩
  rcases Nat.lt_or_ge x.toNat 48 with h3 | h3
  · exact .inl (decide_eq_false (by omega))
  · exact .inr ⟨decide_eq_true (by omega), decide_eq_false (by omega)⟩
set_option maxRecDepth 20000 in
set_option maxHeartbeats 4000000 in
theorem rnext_num (c : CS) (w : World) (hc : c.ok) (h0 : c.er = 0) (hz : c.s.size ≤ 140737488351232) {x : UInt8} {t : List UInt8} (hd : c.bs.drop (bL c.bs) = x :: t) (hx : tSign x = false) (hx2 : ¬ x = 34) (hx3 : tDig x = true) :
    Calls Tryz.prog 43 #[.agg #[.string c.s, .int .i64 c.at_, .int .i64 c.en, .int .i64 c.er]] w (RNx c w) := by
  have HC := Lib.hid (And.intro hc (And.intro h0 hz))
  have HR := Lib.hid (show c.tRes = ⟨(tBeg x (x :: t)).tok, bL c.bs + (tBeg x (x :: t)).k, (tBeg x (x :: t)).e⟩ by unfold CS.tRes; rw [if_pos h0, tNx_some hd])
  have HDr := Lib.hid hd
  have HS := Lib.hid (fun w => rsign_any x w)
  rw [hx] at HS
  have HX34 := Lib.hid hx2
  have HDG := Lib.hid (dig_is hx3)
  have HT := Lib.hid (show (nCode (x :: t) = 0 → (tBeg x (x :: t)).tok = (110, (x :: t).take (nE (x :: t))) ∧ (tBeg x (x :: t)).k = nE (x :: t) ∧ (tBeg x (x :: t)).e = 0) ∧ (¬ nCode (x :: t) = 0 → (tBeg x (x :: t)).tok = (0, []) ∧ (tBeg x (x :: t)).e = nCode (x :: t)) by
    unfold tBeg; rw [if_neg (by rw [hx]; decide), if_neg hx2, if_pos hx3]
    by_cases he : nCode (x :: t) = 0
    · rw [if_pos he]; exact ⟨fun _ => ⟨rfl, rfl, rfl⟩, fun h => absurd he h⟩
    · rw [if_neg he]; exact ⟨fun h => absurd h he, fun _ => ⟨rfl, rfl⟩⟩)
  have p1 : (c.er != 0) = false := by rw [h0]; rfl
  have R0 := RS.first c w
  clear hd hx hx2 hx3 h0 hc hz
  go_enter Tryz.func43, Tryz.ntmps43
  go_upto_region 1 with fail
  generalize ((w.alloc (.cells #[.string c.s, .int .i64 c.at_, .int .i64 c.en, .int .i64 c.er] 76)).alloc (.cells #[.string ⟨#[]⟩, .int .i64 0, .int .i64 0, .int .i64 0] 76)).alloc (.cells #[.int .u8 0, .string ⟨#[]⟩] 78) = W at *
  have a3 := R0.1.c3
  go_wp2_with fail
  clear a3
  go_loopw [50] (fun _ wr => RblRel c w wr) (fun _ wr => c.en + 1 - atOf w.heap.size wr)
  case atStart => exact ⟨0, Nat.zero_le _, R0⟩
  case round =>
    obtain ⟨k, hk, R⟩ := hrel
    have hok := CS.past_fine HC.out.1 (Nat.le_trans hk (bl_len c.bs))
    have hbp := CS.bs_past c k
    have hat := Lib.hid (show atOf w.heap.size wr = c.at_ + k from atOf_cur R.1)
    have hsz : (c.past k).s.size ≤ 140737488351232 := HC.out.2.2
    by_cases hkk : k < bL c.bs
    · obtain ⟨y, u, hy, hbl⟩ := blank_at hkk
      obtain ⟨hlt, hls, hx0⟩ := bs_cons hok (hbp.trans hy)
      obtain ⟨A, hA⟩ : ∃ A, A = (c.past k).at_ + 1 := ⟨_, rfl⟩
      have hAw : IntKind.i64.wrap (((c.past k).at_ : Int) + 1) = (A : Int) := by rw [i64_small (by omega) (by omega)]; omega
      have HA := Lib.hid hA
      have hlsI : ((c.past k).at_ : Int) < ((c.past k).s.size : Int) := by omega
      have hdl : decide ((c.past k).at_ < (c.past k).en) = true := decide_eq_true hlt
      have HLE := Lib.hid (show c.at_ + k < c.en from hlt)
      clear hA hy hok hbp
      have hxb : (c.past k).s[(c.past k).at_] = 32 ∨ (c.past k).s[(c.past k).at_] = 9 ∨ (c.past k).s[(c.past k).at_] = 10 ∨ (c.past k).s[(c.past k).at_] = 13 := by rw [hx0]; exact tBl_iff.mp hbl
      clear hx0 hbl
      have RA : RS (c.past (k + 1)) w (wr.setCell ⟨w.heap.size, 1, none⟩ (.int .i64 (A : Int))) := by
        have := R.setAt A
        rw [HA.out] at this ⊢
        exact this
      obtain ⟨a0, a1, a2, a3, af⟩ := R.cells
      have hb4 := bl4 hxb
      clear hxb
      generalize c.past k = d at a0 a1 a2 a3 af hls hlsI hdl hb4 hAw hsz hlt R
      rcases hb4 with b1 | ⟨b1, b2 | ⟨b2, b3 | ⟨b3, b4⟩⟩⟩
      all_goals
        go_wp2
        go_roundw
        case rel => exact ⟨k + 1, hkk, RA⟩
        case measure =>
          have h1 := HLE.out
          rw [atOf_cur RA.1, hat.out]
          show c.en + 1 - (c.at_ + (k + 1)) < c.en + 1 - (c.at_ + k)
          omega
    · obtain rfl : k = bL c.bs := by omega
      have hdb := hbp.trans HDr.out
      obtain ⟨hlt, hls, hx0⟩ := bs_cons hok hdb
      have HP := Lib.hid (And.intro hok (And.intro hdb (show (c.past (bL c.bs)).er = 0 from HC.out.2.1)))
      have HCA := Lib.hid (show ∀ k e c', CAt (c.past (bL c.bs)) k e c' → CAt c (bL c.bs + k) e c' from fun k e c' h => h.more)
      have hnb := drop_bl _ _ _ HDr.out
      clear hok hbp hat hdb
      generalize c.past (bL c.bs) = d at *
      subst hx0
      have hdl : decide (d.at_ < d.en) = true := decide_eq_true hlt
      have hlsI : (d.at_ : Int) < (d.s.size : Int) := by omega
      have hde : ((d.at_ : Int) == (d.en : Int)) = false := beq_eq_false_iff_ne.mpr (by omega)
      have hde2 : (d.at_ == d.en) = false := beq_eq_false_iff_ne.mpr (by omega)
      obtain ⟨n1, n2, n3, n4⟩ := nb4 hnb
      clear hnb
      obtain ⟨a0, a1, a2, a3, af⟩ := R.cells
      have hn : d.nc = nCode (d.s[d.at_] :: t) := by unfold CS.nc; rw [if_pos HP.out.2.2, HP.out.2.1]
      have hnt : d.nt = if nCode (d.s[d.at_] :: t) = 0 then (d.s[d.at_] :: t).take (nE (d.s[d.at_] :: t)) else [] := by unfold CS.nt; rw [hn, HP.out.2.1]
      have HJ := Lib.hid (fun w => rnread_any d w HP.out.1 (by omega))
      have HO := Lib.hid (show ∀ w, Calls Tryz.prog 64 #[.agg #[.string d.nTo.s, .int .i64 d.nTo.at_, .int .i64 d.nTo.en, .int .i64 d.nTo.er], .int .u8 110, .string (bA d.nt)] w fun e w' => e = .returned (.tuple #[.agg #[.string d.nTo.s, .int .i64 d.nTo.at_, .int .i64 d.nTo.en, .int .i64 d.nTo.er], .agg #[.int .u8 ((tBeg d.s[d.at_] (d.s[d.at_] :: t)).tok.1.toNat : Int), .string (bA (tBeg d.s[d.at_] (d.s[d.at_] :: t)).tok.2)]]) ∧ Below w.heap.size w w' by
        intro w
        by_cases he : nCode (d.s[d.at_] :: t) = 0
        · rw [(HT.out.1 he).1, hnt, if_pos he]
          exact tof_ok d.nTo (show d.nTo.er = 0 by unfold CS.nTo; rw [hn, if_pos he]; exact HP.out.2.2) 110 _ w
        · rw [(HT.out.2 he).1]
          exact tof_bad d.nTo (show ¬ d.nTo.er = 0 by unfold CS.nTo; rw [hn, if_neg he]; exact he) 110 d.nt w)
      have HA := Lib.hid (show CAt d (tBeg d.s[d.at_] (d.s[d.at_] :: t)).k (tBeg d.s[d.at_] (d.s[d.at_] :: t)).e d.nTo by
        by_cases he : nCode (d.s[d.at_] :: t) = 0
        · rw [(HT.out.1 he).2.1, (HT.out.1 he).2.2]
          unfold CS.nTo; rw [hn, if_pos he, HP.out.2.1]
          exact CAt.past HP.out.1 HP.out.2.2 (by rw [HP.out.2.1]; exact nE_len _)
        · rw [(HT.out.2 he).2]
          unfold CS.nTo; rw [hn, if_neg he]
          exact CAt.bad0 HP.out.1 _ he)
      unfold CS.val at HJ
      have p34 : ((d.s[d.at_].toNat : Int) == 34) = false := (eq8 _ 34).trans (decide_eq_false HX34.out)
      have hdg := HDG.out
      clear hn hnt
      generalize d.nTo = J at *
      generalize d.nt = L at *
      generalize (tBeg d.s[d.at_] (d.s[d.at_] :: t)).tok = Y at *
      rcases hdg with q1 | ⟨q1, q2, q3⟩
      all_goals

        go_wp2_with fail
        with_reducible refine (HS.out _).mono ?_
        rintro e w1 ⟨rfl, hw1⟩
        rw [hw1]; clear hw1
        go_wp2_with fail
        with_reducible refine (HJ.out _).mono ?_
        rintro e w2 ⟨rfl, hb2⟩
        have R2 := R.next hb2
        clear R hb2 a0 a1 a2 a3 af
        have R3 := R2.next (alloc_below w2 (.cells #[.string J.s, .int .i64 J.at_, .int .i64 J.en, .int .i64 J.er] 76))
        go_wp2_with fail
        with_reducible refine (HO.out _).mono ?_
        rintro e w4 ⟨rfl, hb4⟩
        have R4 := R3.next hb4
        clear R2 R3 hb4
        obtain ⟨z0, z1, z2, z3, zf, g0, g1, gf⟩ := R4.outs
        go_wp2
        have HX := R4.fin J Y rfl
        refine bodyPost_ret (ctok_result Tryz.results43 HX.1 HX.2.1 rfl rfl) rfl ?_
        refine ⟨J, by rw [HR.out], ?_, HX.2.2⟩
        rw [HR.out]
        exact HCA.out _ _ _ HA.out
set_option maxRecDepth 20000 in
set_option maxHeartbeats 4000000 in
theorem rnext_t (c : CS) (w : World) (hc : c.ok) (h0 : c.er = 0) (hz : c.s.size ≤ 140737488351232) {x : UInt8} {t : List UInt8} (hd : c.bs.drop (bL c.bs) = x :: t) (hx : x = 116) :
    Calls Tryz.prog 43 #[.agg #[.string c.s, .int .i64 c.at_, .int .i64 c.en, .int .i64 c.er]] w (RNx c w) := by
  have HC := Lib.hid (And.intro hc (And.intro h0 hz))
  have HR := Lib.hid (show c.tRes = ⟨(tBeg x (x :: t)).tok, bL c.bs + (tBeg x (x :: t)).k, (tBeg x (x :: t)).e⟩ by unfold CS.tRes; rw [if_pos h0, tNx_some hd])
  have HDr := Lib.hid hd
  have HS := Lib.hid (fun w => rsign_any x w)
  rw [show tSign x = false by rw [hx]; decide] at HS
  have HX := Lib.hid hx
  have HTW := Lib.hid (show tBeg x (x :: t) = tWn 116 (x :: t) by rw [hx]; rfl)
  have p1 : (c.er != 0) = false := by rw [h0]; rfl
  have R0 := RS.first c w
  clear hd hx h0 hc hz
  go_enter Tryz.func43, Tryz.ntmps43
  go_upto_region 1 with fail
  generalize ((w.alloc (.cells #[.string c.s, .int .i64 c.at_, .int .i64 c.en, .int .i64 c.er] 76)).alloc (.cells #[.string ⟨#[]⟩, .int .i64 0, .int .i64 0, .int .i64 0] 76)).alloc (.cells #[.int .u8 0, .string ⟨#[]⟩] 78) = W at *
  have a3 := R0.1.c3
  go_wp2_with fail
  clear a3
  go_loopw [50] (fun _ wr => RblRel c w wr) (fun _ wr => c.en + 1 - atOf w.heap.size wr)
  case atStart => exact ⟨0, Nat.zero_le _, R0⟩
  case round =>
    obtain ⟨k, hk, R⟩ := hrel
    have hok := CS.past_fine HC.out.1 (Nat.le_trans hk (bl_len c.bs))
    have hbp := CS.bs_past c k
    have hat := Lib.hid (show atOf w.heap.size wr = c.at_ + k from atOf_cur R.1)
    have hsz : (c.past k).s.size ≤ 140737488351232 := HC.out.2.2
    by_cases hkk : k < bL c.bs
    · obtain ⟨y, u, hy, hbl⟩ := blank_at hkk
      obtain ⟨hlt, hls, hx0⟩ := bs_cons hok (hbp.trans hy)
      obtain ⟨A, hA⟩ : ∃ A, A = (c.past k).at_ + 1 := ⟨_, rfl⟩
      have hAw : IntKind.i64.wrap (((c.past k).at_ : Int) + 1) = (A : Int) := by rw [i64_small (by omega) (by omega)]; omega
      have HA := Lib.hid hA
      have hlsI : ((c.past k).at_ : Int) < ((c.past k).s.size : Int) := by omega
      have hdl : decide ((c.past k).at_ < (c.past k).en) = true := decide_eq_true hlt
      have HLE := Lib.hid (show c.at_ + k < c.en from hlt)
      clear hA hy hok hbp
      have hxb : (c.past k).s[(c.past k).at_] = 32 ∨ (c.past k).s[(c.past k).at_] = 9 ∨ (c.past k).s[(c.past k).at_] = 10 ∨ (c.past k).s[(c.past k).at_] = 13 := by rw [hx0]; exact tBl_iff.mp hbl
      clear hx0 hbl
      have RA : RS (c.past (k + 1)) w (wr.setCell ⟨w.heap.size, 1, none⟩ (.int .i64 (A : Int))) := by
        have := R.setAt A
        rw [HA.out] at this ⊢
        exact this
      obtain ⟨a0, a1, a2, a3, af⟩ := R.cells
      have hb4 := bl4 hxb
      clear hxb
      generalize c.past k = d at a0 a1 a2 a3 af hls hlsI hdl hb4 hAw hsz hlt R
      rcases hb4 with b1 | ⟨b1, b2 | ⟨b2, b3 | ⟨b3, b4⟩⟩⟩
      all_goals
        go_wp2
        go_roundw
        case rel => exact ⟨k + 1, hkk, RA⟩
        case measure =>
          have h1 := HLE.out
          rw [atOf_cur RA.1, hat.out]
          show c.en + 1 - (c.at_ + (k + 1)) < c.en + 1 - (c.at_ + k)
          omega
    · obtain rfl : k = bL c.bs := by omega
      have hdb := hbp.trans HDr.out
      obtain ⟨hlt, hls, hx0⟩ := bs_cons hok hdb
      have HP := Lib.hid (And.intro hok (And.intro hdb (show (c.past (bL c.bs)).er = 0 from HC.out.2.1)))
      have HCA := Lib.hid (show ∀ k e c', CAt (c.past (bL c.bs)) k e c' → CAt c (bL c.bs + k) e c' from fun k e c' h => h.more)
      have hnb := drop_bl _ _ _ HDr.out
      clear hok hbp hat hdb
      generalize c.past (bL c.bs) = d at *
      subst hx0
      have hdl : decide (d.at_ < d.en) = true := decide_eq_true hlt
      have hlsI : (d.at_ : Int) < (d.s.size : Int) := by omega
      have hde : ((d.at_ : Int) == (d.en : Int)) = false := beq_eq_false_iff_ne.mpr (by omega)
      have hde2 : (d.at_ == d.en) = false := beq_eq_false_iff_ne.mpr (by omega)
      obtain ⟨n1, n2, n3, n4⟩ := nb4 hnb
      clear hnb
      obtain ⟨a0, a1, a2, a3, af⟩ := R.cells
      have HWD := Lib.hid (show ∀ w, Calls Tryz.prog 66 #[.agg #[.string d.s, .int .i64 d.at_, .int .i64 d.en, .int .i64 d.er], (.int .u8 (d.s[d.at_].toNat : Int))] w fun e w' => ∃ c', e = .returned (.tuple #[c'.val, tkV (tBeg d.s[d.at_] (d.s[d.at_] :: t)).tok]) ∧ CAt d (tBeg d.s[d.at_] (d.s[d.at_] :: t)).k (tBeg d.s[d.at_] (d.s[d.at_] :: t)).e c' ∧ Below w.heap.size w w' from fun w => by
        have := tword_any d 116 (.inl rfl) w HP.out.1 HP.out.2.2 hsz
        rw [HP.out.2.1] at this
        rw [HTW.out]
        rw [HX.out] at this ⊢; exact this)
      generalize (tBeg d.s[d.at_] (d.s[d.at_] :: t)).tok = Y at *
      have q0 : ((d.s[d.at_].toNat : Int) == 34) = false := by rw [HX.out]; decide
      have q1 : ((d.s[d.at_].toNat : Int) == 45) = false := by rw [HX.out]; decide
      have q2 : decide ((48 : Int) ≤ (d.s[d.at_].toNat : Int)) = true := by rw [HX.out]; decide
      have q3 : decide ((d.s[d.at_].toNat : Int) ≤ 57) = false := by rw [HX.out]; decide
      have q4 : ((d.s[d.at_].toNat : Int) == 116) = true := by rw [HX.out]; decide

      go_wp2_with fail
      with_reducible refine (HS.out _).mono ?_
      rintro e w1 ⟨rfl, hw1⟩
      rw [hw1]; clear hw1
      go_wp2_with fail
      refine (HWD.out _).mono ?_
      rintro e w2 ⟨J, rfl, hJA, hb2⟩
      have HJA := Lib.hid hJA
      have R2 := R.next hb2
      clear R hb2 a0 a1 a2 a3 af hJA
      obtain ⟨z0, z1, z2, z3, zf, g0, g1, gf⟩ := R2.outs
      unfold CS.val tkV
      go_wp2
      have HX := R2.fin J Y rfl
      refine bodyPost_ret (ctok_result Tryz.results43 HX.1 HX.2.1 rfl rfl) rfl ?_
      refine ⟨J, by rw [HR.out], ?_, HX.2.2⟩
      rw [HR.out]
      exact HCA.out _ _ _ HJA.out
set_option maxRecDepth 20000 in
set_option maxHeartbeats 4000000 in
theorem rnext_f (c : CS) (w : World) (hc : c.ok) (h0 : c.er = 0) (hz : c.s.size ≤ 140737488351232) {x : UInt8} {t : List UInt8} (hd : c.bs.drop (bL c.bs) = x :: t) (hx : x = 102) :
    Calls Tryz.prog 43 #[.agg #[.string c.s, .int .i64 c.at_, .int .i64 c.en, .int .i64 c.er]] w (RNx c w) := by
  have HC := Lib.hid (And.intro hc (And.intro h0 hz))
  have HR := Lib.hid (show c.tRes = ⟨(tBeg x (x :: t)).tok, bL c.bs + (tBeg x (x :: t)).k, (tBeg x (x :: t)).e⟩ by unfold CS.tRes; rw [if_pos h0, tNx_some hd])
  have HDr := Lib.hid hd
  have HS := Lib.hid (fun w => rsign_any x w)
  rw [show tSign x = false by rw [hx]; decide] at HS
  have HX := Lib.hid hx
  have HTW := Lib.hid (show tBeg x (x :: t) = tWn 102 (x :: t) by rw [hx]; rfl)
  have p1 : (c.er != 0) = false := by rw [h0]; rfl
  have R0 := RS.first c w
  clear hd hx h0 hc hz
  go_enter Tryz.func43, Tryz.ntmps43
  go_upto_region 1 with fail
  generalize ((w.alloc (.cells #[.string c.s, .int .i64 c.at_, .int .i64 c.en, .int .i64 c.er] 76)).alloc (.cells #[.string ⟨#[]⟩, .int .i64 0, .int .i64 0, .int .i64 0] 76)).alloc (.cells #[.int .u8 0, .string ⟨#[]⟩] 78) = W at *
  have a3 := R0.1.c3
  go_wp2_with fail
  clear a3
  go_loopw [50] (fun _ wr => RblRel c w wr) (fun _ wr => c.en + 1 - atOf w.heap.size wr)
  case atStart => exact ⟨0, Nat.zero_le _, R0⟩
  case round =>
    obtain ⟨k, hk, R⟩ := hrel
    have hok := CS.past_fine HC.out.1 (Nat.le_trans hk (bl_len c.bs))
    have hbp := CS.bs_past c k
    have hat := Lib.hid (show atOf w.heap.size wr = c.at_ + k from atOf_cur R.1)
    have hsz : (c.past k).s.size ≤ 140737488351232 := HC.out.2.2
    by_cases hkk : k < bL c.bs
    · obtain ⟨y, u, hy, hbl⟩ := blank_at hkk
      obtain ⟨hlt, hls, hx0⟩ := bs_cons hok (hbp.trans hy)
      obtain ⟨A, hA⟩ : ∃ A, A = (c.past k).at_ + 1 := ⟨_, rfl⟩
      have hAw : IntKind.i64.wrap (((c.past k).at_ : Int) + 1) = (A : Int) := by rw [i64_small (by omega) (by omega)]; omega
      have HA := Lib.hid hA
      have hlsI : ((c.past k).at_ : Int) < ((c.past k).s.size : Int) := by omega
      have hdl : decide ((c.past k).at_ < (c.past k).en) = true := decide_eq_true hlt
      have HLE := Lib.hid (show c.at_ + k < c.en from hlt)
      clear hA hy hok hbp
      have hxb : (c.past k).s[(c.past k).at_] = 32 ∨ (c.past k).s[(c.past k).at_] = 9 ∨ (c.past k).s[(c.past k).at_] = 10 ∨ (c.past k).s[(c.past k).at_] = 13 := by rw [hx0]; exact tBl_iff.mp hbl
      clear hx0 hbl
      have RA : RS (c.past (k + 1)) w (wr.setCell ⟨w.heap.size, 1, none⟩ (.int .i64 (A : Int))) := by
        have := R.setAt A
        rw [HA.out] at this ⊢
        exact this
      obtain ⟨a0, a1, a2, a3, af⟩ := R.cells
      have hb4 := bl4 hxb
      clear hxb
      generalize c.past k = d at a0 a1 a2 a3 af hls hlsI hdl hb4 hAw hsz hlt R
      rcases hb4 with b1 | ⟨b1, b2 | ⟨b2, b3 | ⟨b3, b4⟩⟩⟩
      all_goals
        go_wp2
        go_roundw
        case rel => exact ⟨k + 1, hkk, RA⟩
        case measure =>
          have h1 := HLE.out
          rw [atOf_cur RA.1, hat.out]
          show c.en + 1 - (c.at_ + (k + 1)) < c.en + 1 - (c.at_ + k)
          omega
    · obtain rfl : k = bL c.bs := by omega
      have hdb := hbp.trans HDr.out
      obtain ⟨hlt, hls, hx0⟩ := bs_cons hok hdb
      have HP := Lib.hid (And.intro hok (And.intro hdb (show (c.past (bL c.bs)).er = 0 from HC.out.2.1)))
      have HCA := Lib.hid (show ∀ k e c', CAt (c.past (bL c.bs)) k e c' → CAt c (bL c.bs + k) e c' from fun k e c' h => h.more)
      have hnb := drop_bl _ _ _ HDr.out
      clear hok hbp hat hdb
      generalize c.past (bL c.bs) = d at *
      subst hx0
      have hdl : decide (d.at_ < d.en) = true := decide_eq_true hlt
      have hlsI : (d.at_ : Int) < (d.s.size : Int) := by omega
      have hde : ((d.at_ : Int) == (d.en : Int)) = false := beq_eq_false_iff_ne.mpr (by omega)
      have hde2 : (d.at_ == d.en) = false := beq_eq_false_iff_ne.mpr (by omega)
      obtain ⟨n1, n2, n3, n4⟩ := nb4 hnb
      clear hnb
      obtain ⟨a0, a1, a2, a3, af⟩ := R.cells
      have HWD := Lib.hid (show ∀ w, Calls Tryz.prog 66 #[.agg #[.string d.s, .int .i64 d.at_, .int .i64 d.en, .int .i64 d.er], (.int .u8 (d.s[d.at_].toNat : Int))] w fun e w' => ∃ c', e = .returned (.tuple #[c'.val, tkV (tBeg d.s[d.at_] (d.s[d.at_] :: t)).tok]) ∧ CAt d (tBeg d.s[d.at_] (d.s[d.at_] :: t)).k (tBeg d.s[d.at_] (d.s[d.at_] :: t)).e c' ∧ Below w.heap.size w w' from fun w => by
        have := tword_any d 102 (.inr (.inl rfl)) w HP.out.1 HP.out.2.2 hsz
        rw [HP.out.2.1] at this
        rw [HTW.out]
        rw [HX.out] at this ⊢; exact this)
      generalize (tBeg d.s[d.at_] (d.s[d.at_] :: t)).tok = Y at *
      have q0 : ((d.s[d.at_].toNat : Int) == 34) = false := by rw [HX.out]; decide
      have q1 : ((d.s[d.at_].toNat : Int) == 45) = false := by rw [HX.out]; decide
      have q2 : decide ((48 : Int) ≤ (d.s[d.at_].toNat : Int)) = true := by rw [HX.out]; decide
      have q3 : decide ((d.s[d.at_].toNat : Int) ≤ 57) = false := by rw [HX.out]; decide
      have q4 : ((d.s[d.at_].toNat : Int) == 116) = false := by rw [HX.out]; decide
      have q5 : ((d.s[d.at_].toNat : Int) == 102) = true := by rw [HX.out]; decide

      go_wp2_with fail
      with_reducible refine (HS.out _).mono ?_
      rintro e w1 ⟨rfl, hw1⟩
      rw [hw1]; clear hw1
      go_wp2_with fail
      refine (HWD.out _).mono ?_
      rintro e w2 ⟨J, rfl, hJA, hb2⟩
      have HJA := Lib.hid hJA
      have R2 := R.next hb2
      clear R hb2 a0 a1 a2 a3 af hJA
      obtain ⟨z0, z1, z2, z3, zf, g0, g1, gf⟩ := R2.outs
      unfold CS.val tkV
      go_wp2
      have HX := R2.fin J Y rfl
      refine bodyPost_ret (ctok_result Tryz.results43 HX.1 HX.2.1 rfl rfl) rfl ?_
      refine ⟨J, by rw [HR.out], ?_, HX.2.2⟩
      rw [HR.out]
      exact HCA.out _ _ _ HJA.out
set_option maxRecDepth 20000 in
set_option maxHeartbeats 4000000 in
theorem rnext_n (c : CS) (w : World) (hc : c.ok) (h0 : c.er = 0) (hz : c.s.size ≤ 140737488351232) {x : UInt8} {t : List UInt8} (hd : c.bs.drop (bL c.bs) = x :: t) (hx : x = 110) :
    Calls Tryz.prog 43 #[.agg #[.string c.s, .int .i64 c.at_, .int .i64 c.en, .int .i64 c.er]] w (RNx c w) := by
  have HC := Lib.hid (And.intro hc (And.intro h0 hz))
  have HR := Lib.hid (show c.tRes = ⟨(tBeg x (x :: t)).tok, bL c.bs + (tBeg x (x :: t)).k, (tBeg x (x :: t)).e⟩ by unfold CS.tRes; rw [if_pos h0, tNx_some hd])
  have HDr := Lib.hid hd
  have HS := Lib.hid (fun w => rsign_any x w)
  rw [show tSign x = false by rw [hx]; decide] at HS
  have HX := Lib.hid hx
  have HTW := Lib.hid (show tBeg x (x :: t) = tWn 122 (x :: t) by rw [hx]; rfl)
  have p1 : (c.er != 0) = false := by rw [h0]; rfl
  have R0 := RS.first c w
  clear hd hx h0 hc hz
  go_enter Tryz.func43, Tryz.ntmps43
  go_upto_region 1 with fail
  generalize ((w.alloc (.cells #[.string c.s, .int .i64 c.at_, .int .i64 c.en, .int .i64 c.er] 76)).alloc (.cells #[.string ⟨#[]⟩, .int .i64 0, .int .i64 0, .int .i64 0] 76)).alloc (.cells #[.int .u8 0, .string ⟨#[]⟩] 78) = W at *
  have a3 := R0.1.c3
  go_wp2_with fail
  clear a3
  go_loopw [50] (fun _ wr => RblRel c w wr) (fun _ wr => c.en + 1 - atOf w.heap.size wr)
  case atStart => exact ⟨0, Nat.zero_le _, R0⟩
  case round =>
    obtain ⟨k, hk, R⟩ := hrel
    have hok := CS.past_fine HC.out.1 (Nat.le_trans hk (bl_len c.bs))
    have hbp := CS.bs_past c k
    have hat := Lib.hid (show atOf w.heap.size wr = c.at_ + k from atOf_cur R.1)
    have hsz : (c.past k).s.size ≤ 140737488351232 := HC.out.2.2
    by_cases hkk : k < bL c.bs
    · obtain ⟨y, u, hy, hbl⟩ := blank_at hkk
      obtain ⟨hlt, hls, hx0⟩ := bs_cons hok (hbp.trans hy)
      obtain ⟨A, hA⟩ : ∃ A, A = (c.past k).at_ + 1 := ⟨_, rfl⟩
      have hAw : IntKind.i64.wrap (((c.past k).at_ : Int) + 1) = (A : Int) := by rw [i64_small (by omega) (by omega)]; omega
      have HA := Lib.hid hA
      have hlsI : ((c.past k).at_ : Int) < ((c.past k).s.size : Int) := by omega
      have hdl : decide ((c.past k).at_ < (c.past k).en) = true := decide_eq_true hlt
      have HLE := Lib.hid (show c.at_ + k < c.en from hlt)
      clear hA hy hok hbp
      have hxb : (c.past k).s[(c.past k).at_] = 32 ∨ (c.past k).s[(c.past k).at_] = 9 ∨ (c.past k).s[(c.past k).at_] = 10 ∨ (c.past k).s[(c.past k).at_] = 13 := by rw [hx0]; exact tBl_iff.mp hbl
      clear hx0 hbl
      have RA : RS (c.past (k + 1)) w (wr.setCell ⟨w.heap.size, 1, none⟩ (.int .i64 (A : Int))) := by
        have := R.setAt A
        rw [HA.out] at this ⊢
        exact this
      obtain ⟨a0, a1, a2, a3, af⟩ := R.cells
      have hb4 := bl4 hxb
      clear hxb
      generalize c.past k = d at a0 a1 a2 a3 af hls hlsI hdl hb4 hAw hsz hlt R
      rcases hb4 with b1 | ⟨b1, b2 | ⟨b2, b3 | ⟨b3, b4⟩⟩⟩
      all_goals
        go_wp2
        go_roundw
        case rel => exact ⟨k + 1, hkk, RA⟩
        case measure =>
          have h1 := HLE.out
          rw [atOf_cur RA.1, hat.out]
          show c.en + 1 - (c.at_ + (k + 1)) < c.en + 1 - (c.at_ + k)
          omega
    · obtain rfl : k = bL c.bs := by omega
      have hdb := hbp.trans HDr.out
      obtain ⟨hlt, hls, hx0⟩ := bs_cons hok hdb
      have HP := Lib.hid (And.intro hok (And.intro hdb (show (c.past (bL c.bs)).er = 0 from HC.out.2.1)))
      have HCA := Lib.hid (show ∀ k e c', CAt (c.past (bL c.bs)) k e c' → CAt c (bL c.bs + k) e c' from fun k e c' h => h.more)
      have hnb := drop_bl _ _ _ HDr.out
      clear hok hbp hat hdb
      generalize c.past (bL c.bs) = d at *
      subst hx0
      have hdl : decide (d.at_ < d.en) = true := decide_eq_true hlt
      have hlsI : (d.at_ : Int) < (d.s.size : Int) := by omega
      have hde : ((d.at_ : Int) == (d.en : Int)) = false := beq_eq_false_iff_ne.mpr (by omega)
      have hde2 : (d.at_ == d.en) = false := beq_eq_false_iff_ne.mpr (by omega)
      obtain ⟨n1, n2, n3, n4⟩ := nb4 hnb
      clear hnb
      obtain ⟨a0, a1, a2, a3, af⟩ := R.cells
      have HWD := Lib.hid (show ∀ w, Calls Tryz.prog 66 #[.agg #[.string d.s, .int .i64 d.at_, .int .i64 d.en, .int .i64 d.er], (.int .u8 122)] w fun e w' => ∃ c', e = .returned (.tuple #[c'.val, tkV (tBeg d.s[d.at_] (d.s[d.at_] :: t)).tok]) ∧ CAt d (tBeg d.s[d.at_] (d.s[d.at_] :: t)).k (tBeg d.s[d.at_] (d.s[d.at_] :: t)).e c' ∧ Below w.heap.size w w' from fun w => by
        have := tword_any d 122 (.inr (.inr rfl)) w HP.out.1 HP.out.2.2 hsz
        rw [HP.out.2.1] at this
        rw [HTW.out]
        exact this)
      generalize (tBeg d.s[d.at_] (d.s[d.at_] :: t)).tok = Y at *
      have q0 : ((d.s[d.at_].toNat : Int) == 34) = false := by rw [HX.out]; decide
      have q1 : ((d.s[d.at_].toNat : Int) == 45) = false := by rw [HX.out]; decide
      have q2 : decide ((48 : Int) ≤ (d.s[d.at_].toNat : Int)) = true := by rw [HX.out]; decide
      have q3 : decide ((d.s[d.at_].toNat : Int) ≤ 57) = false := by rw [HX.out]; decide
      have q4 : ((d.s[d.at_].toNat : Int) == 116) = false := by rw [HX.out]; decide
      have q5 : ((d.s[d.at_].toNat : Int) == 102) = false := by rw [HX.out]; decide
      have q6 : ((d.s[d.at_].toNat : Int) == 110) = true := by rw [HX.out]; decide

      go_wp2_with fail
      with_reducible refine (HS.out _).mono ?_
      rintro e w1 ⟨rfl, hw1⟩
      rw [hw1]; clear hw1
      go_wp2_with fail
      refine (HWD.out _).mono ?_
      rintro e w2 ⟨J, rfl, hJA, hb2⟩
      have HJA := Lib.hid hJA
      have R2 := R.next hb2
      clear R hb2 a0 a1 a2 a3 af hJA
      obtain ⟨z0, z1, z2, z3, zf, g0, g1, gf⟩ := R2.outs
      unfold CS.val tkV
      go_wp2
      have HX := R2.fin J Y rfl
      refine bodyPost_ret (ctok_result Tryz.results43 HX.1 HX.2.1 rfl rfl) rfl ?_
      refine ⟨J, by rw [HR.out], ?_, HX.2.2⟩
      rw [HR.out]
      exact HCA.out _ _ _ HJA.out
set_option maxRecDepth 20000 in
set_option maxHeartbeats 4000000 in
theorem rnext_no (c : CS) (w : World) (hc : c.ok) (h0 : c.er = 0) (hz : c.s.size ≤ 140737488351232) {x : UInt8} {t : List UInt8} (hd : c.bs.drop (bL c.bs) = x :: t) (hx : tSign x = false) (hx2 : ¬ x = 34) (hx3 : tDig x = false) (hx4 : ¬ x = 116) (hx5 : ¬ x = 102) (hx6 : ¬ x = 110) :
    Calls Tryz.prog 43 #[.agg #[.string c.s, .int .i64 c.at_, .int .i64 c.en, .int .i64 c.er]] w (RNx c w) := by
  have HC := Lib.hid (And.intro hc (And.intro h0 hz))
  have HR := Lib.hid (show c.tRes = ⟨(tBeg x (x :: t)).tok, bL c.bs + (tBeg x (x :: t)).k, (tBeg x (x :: t)).e⟩ by unfold CS.tRes; rw [if_pos h0, tNx_some hd])
  have HDr := Lib.hid hd
  have HS := Lib.hid (fun w => rsign_any x w)
  rw [hx] at HS
  have HQ := Lib.hid (And.intro hx2 (And.intro (dig_no hx3) (And.intro hx4 (And.intro hx5 hx6))))
  have HT := Lib.hid (show tBeg x (x :: t) = ⟨(0, []), 0, 3⟩ by
    unfold tBeg; rw [if_neg (by rw [hx]; decide), if_neg hx2, if_neg (by rw [hx3]; decide), if_neg hx4, if_neg hx5, if_neg hx6])
  have p1 : (c.er != 0) = false := by rw [h0]; rfl
  have R0 := RS.first c w
  clear hd hx hx2 hx3 hx4 hx5 hx6 h0 hc hz
  go_enter Tryz.func43, Tryz.ntmps43
  go_upto_region 1 with fail
  generalize ((w.alloc (.cells #[.string c.s, .int .i64 c.at_, .int .i64 c.en, .int .i64 c.er] 76)).alloc (.cells #[.string ⟨#[]⟩, .int .i64 0, .int .i64 0, .int .i64 0] 76)).alloc (.cells #[.int .u8 0, .string ⟨#[]⟩] 78) = W at *
  have a3 := R0.1.c3
  go_wp2_with fail
  clear a3
  go_loopw [50] (fun _ wr => RblRel c w wr) (fun _ wr => c.en + 1 - atOf w.heap.size wr)
  case atStart => exact ⟨0, Nat.zero_le _, R0⟩
  case round =>
    obtain ⟨k, hk, R⟩ := hrel
    have hok := CS.past_fine HC.out.1 (Nat.le_trans hk (bl_len c.bs))
    have hbp := CS.bs_past c k
    have hat := Lib.hid (show atOf w.heap.size wr = c.at_ + k from atOf_cur R.1)
    have hsz : (c.past k).s.size ≤ 140737488351232 := HC.out.2.2
    by_cases hkk : k < bL c.bs
    · obtain ⟨y, u, hy, hbl⟩ := blank_at hkk
      obtain ⟨hlt, hls, hx0⟩ := bs_cons hok (hbp.trans hy)
      obtain ⟨A, hA⟩ : ∃ A, A = (c.past k).at_ + 1 := ⟨_, rfl⟩
      have hAw : IntKind.i64.wrap (((c.past k).at_ : Int) + 1) = (A : Int) := by rw [i64_small (by omega) (by omega)]; omega
      have HA := Lib.hid hA
      have hlsI : ((c.past k).at_ : Int) < ((c.past k).s.size : Int) := by omega
      have hdl : decide ((c.past k).at_ < (c.past k).en) = true := decide_eq_true hlt
      have HLE := Lib.hid (show c.at_ + k < c.en from hlt)
      clear hA hy hok hbp
      have hxb : (c.past k).s[(c.past k).at_] = 32 ∨ (c.past k).s[(c.past k).at_] = 9 ∨ (c.past k).s[(c.past k).at_] = 10 ∨ (c.past k).s[(c.past k).at_] = 13 := by rw [hx0]; exact tBl_iff.mp hbl
      clear hx0 hbl
      have RA : RS (c.past (k + 1)) w (wr.setCell ⟨w.heap.size, 1, none⟩ (.int .i64 (A : Int))) := by
        have := R.setAt A
        rw [HA.out] at this ⊢
        exact this
      obtain ⟨a0, a1, a2, a3, af⟩ := R.cells
      have hb4 := bl4 hxb
      clear hxb
      generalize c.past k = d at a0 a1 a2 a3 af hls hlsI hdl hb4 hAw hsz hlt R
      rcases hb4 with b1 | ⟨b1, b2 | ⟨b2, b3 | ⟨b3, b4⟩⟩⟩
      all_goals
        go_wp2
        go_roundw
        case rel => exact ⟨k + 1, hkk, RA⟩
        case measure =>
          have h1 := HLE.out
          rw [atOf_cur RA.1, hat.out]
          show c.en + 1 - (c.at_ + (k + 1)) < c.en + 1 - (c.at_ + k)
          omega
    · obtain rfl : k = bL c.bs := by omega
      have hdb := hbp.trans HDr.out
      obtain ⟨hlt, hls, hx0⟩ := bs_cons hok hdb
      have HP := Lib.hid (And.intro hok (And.intro hdb (show (c.past (bL c.bs)).er = 0 from HC.out.2.1)))
      have HCA := Lib.hid (show ∀ k e c', CAt (c.past (bL c.bs)) k e c' → CAt c (bL c.bs + k) e c' from fun k e c' h => h.more)
      have hnb := drop_bl _ _ _ HDr.out
      clear hok hbp hat hdb
      generalize c.past (bL c.bs) = d at *
      subst hx0
      have hdl : decide (d.at_ < d.en) = true := decide_eq_true hlt
      have hlsI : (d.at_ : Int) < (d.s.size : Int) := by omega
      have hde : ((d.at_ : Int) == (d.en : Int)) = false := beq_eq_false_iff_ne.mpr (by omega)
      have hde2 : (d.at_ == d.en) = false := beq_eq_false_iff_ne.mpr (by omega)
      obtain ⟨n1, n2, n3, n4⟩ := nb4 hnb
      clear hnb
      obtain ⟨a0, a1, a2, a3, af⟩ := R.cells
      have q0 : ((d.s[d.at_].toNat : Int) == 34) = false := (eq8 _ 34).trans (decide_eq_false HQ.out.1)
      have q4 : ((d.s[d.at_].toNat : Int) == 116) = false := (eq8 _ 116).trans (decide_eq_false HQ.out.2.2.1)
      have q5 : ((d.s[d.at_].toNat : Int) == 102) = false := (eq8 _ 102).trans (decide_eq_false HQ.out.2.2.2.1)
      have q6 : ((d.s[d.at_].toNat : Int) == 110) = false := (eq8 _ 110).trans (decide_eq_false HQ.out.2.2.2.2)
      obtain ⟨q1, hq⟩ := HQ.out.2.1
      have HF := Lib.hid (fun w => ref_fail0 d 3 w HP.out.2.2)
      have HA := Lib.hid (CAt.bad0 HP.out.1 0 (show (3 : Int) ≠ 0 by decide))
      rcases hq with q2 | ⟨q2, q3⟩
      all_goals
        go_wp2_with fail
        with_reducible refine (HS.out _).mono ?_
        rintro e w1 ⟨rfl, hw1⟩
        rw [hw1]; clear hw1
        go_wp2_with fail
        with_reducible refine (HF.out _).mono ?_
        rintro e w2 ⟨rfl, hb2⟩
        have R2 := R.next hb2
        clear R hb2 a0 a1 a2 a3 af
        obtain ⟨z0, z1, z2, z3, zf, g0, g1, gf⟩ := R2.outs
        go_wp2
        have HX := R2.fin (d.bad 3) (0, []) rfl
        refine bodyPost_ret (ctok_result Tryz.results43 HX.1 HX.2.1 rfl rfl) rfl ?_
        refine ⟨d.bad 3, by rw [HR.out, HT.out], ?_, HX.2.2⟩
        rw [HR.out, HT.out]
        exact HCA.out _ _ _ HA.out

theorem rnext_any (c : CS) (w : World) (hc : c.ok) (hz : c.s.size ≤ 140737488351232) :
    Calls Tryz.prog 43 #[.agg #[.string c.s, .int .i64 c.at_, .int .i64 c.en, .int .i64 c.er]] w (RNx c w) := by
  by_cases h0 : c.er = 0
  · match hd : c.bs.drop (bL c.bs) with
    | [] => exact rnext_none c w hc h0 hz hd
    | x :: t =>
      by_cases c1 : tSign x = true
      · exact rnext_sign c w hc h0 hz hd c1
      · have c1 := (Bool.not_eq_true _).mp c1
        by_cases c2 : x = 34
        · exact rnext_text c w hc h0 hz hd c1 c2
        · by_cases c3 : tDig x = true
          · exact rnext_num c w hc h0 hz hd c1 c2 c3
          · have c3 := (Bool.not_eq_true _).mp c3
            by_cases c4 : x = 116
            · exact rnext_t c w hc h0 hz hd c4
            · by_cases c5 : x = 102
              · exact rnext_f c w hc h0 hz hd c5
              · by_cases c6 : x = 110
                · exact rnext_n c w hc h0 hz hd c6
                · exact rnext_no c w hc h0 hz hd c1 c2 c3 c4 c5 c6
  · exact rnext_bad c w hc h0
end Go.Proofs.YtnbhhnkcfbfdcaaGreatDoor
