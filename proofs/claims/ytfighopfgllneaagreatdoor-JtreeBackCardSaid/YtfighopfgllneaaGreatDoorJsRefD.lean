/- The document's own jstring (package truchmanref10): Read. -/
import Derived.Test.YtfighopfgllneaaGreatDoorJsRefC
import Derived.Test.YtfighopfgllneaaGreatDoorJsRd
import Derived.Test.YtfighopfgllneaaGreatDoorZB
namespace Go.Proofs.YtfighopfgllneaaGreatDoor
open Go Go.RowKit
set_option linter.unusedVariables false

/-- Where the document's own reading leaves the cursor. -/
def CS.jTo (c : CS) : CS := if c.jRes.e = 0 then c.past c.jRes.k else c.bad c.jRes.e
theorem ret_jr {c : CS} {a : CS} {b : ByteArray} (h : c.jTo = a) (k : bA c.jRes.t = b) : Ending.returned (.tuple #[a.val, .string b]) = .returned (.tuple #[c.jTo.val, .string (bA c.jRes.t)]) := by rw [h, k]
theorem cut_size2 {c : CS} (h : c.ok) : (c.s.extract 0 c.en).size = c.en := by
  have := h.2.1
  rw [ByteArray.size_extract]; omega
theorem cut_bs (c : CS) (a : Nat) : (c.s.extract 0 c.en).data.toList.drop (c.at_ + a) = c.bs.drop a := by
  rw [cut_toList]; unfold CS.bs; rw [List.drop_drop]
theorem two_made {w : World} (c d : CS) (t : TypeId) : CurT t ((w.alloc (.cells #[.string c.s, .int .i64 c.at_, .int .i64 c.en, .int .i64 c.er] t)).alloc (.cells #[.string d.s, .int .i64 d.at_, .int .i64 d.en, .int .i64 d.er] t)) w.heap.size c ∧ CurT t ((w.alloc (.cells #[.string c.s, .int .i64 c.at_, .int .i64 c.en, .int .i64 c.er] t)).alloc (.cells #[.string d.s, .int .i64 d.at_, .int .i64 d.en, .int .i64 d.er] t)) (w.heap.size + 1) d ∧ Below w.heap.size w ((w.alloc (.cells #[.string c.s, .int .i64 c.at_, .int .i64 c.en, .int .i64 c.er] t)).alloc (.cells #[.string d.s, .int .i64 d.at_, .int .i64 d.en, .int .i64 d.er] t)) := two_laid c d t (Below.refl _ _)

set_option maxRecDepth 100000 in
set_option maxHeartbeats 2000000 in
theorem rjread_err (c : CS) (w : World) (hc : c.ok) (h0 : ¬ c.er = 0) :
    Calls Tryz.prog 37 #[.agg #[.string c.s, .int .i64 c.at_, .int .i64 c.en, .int .i64 c.er]] w fun e w' => e = .returned (.tuple #[c.jTo.val, .string (bA c.jRes.t)]) ∧ Below w.heap.size w w' := by
  obtain ⟨k1, k2, k3⟩ := hc
  have hb : (c.er != 0) = true := bne_iff_ne.mpr h0
  have HR := Lib.hid (show c.jRes = ⟨[], 0, c.er⟩ ∧ c.jTo = c from ⟨CS.jRes_err h0, by unfold CS.jTo; rw [CS.jRes_err h0, if_neg h0]; rfl⟩)
  clear h0
  go_enter Tryz.func37, Tryz.ntmps37
  go_wp2
  go_returns
  exact ⟨ret_jr (c := c) (a := c) HR.out.2 (by rw [HR.out.1]; rfl), by go_grown⟩
set_option maxRecDepth 100000 in
set_option maxHeartbeats 2000000 in
theorem rjread_end (c : CS) (w : World) (hc : c.ok) (h0 : c.er = 0) (h1 : c.at_ = c.en) :
    Calls Tryz.prog 37 #[.agg #[.string c.s, .int .i64 c.at_, .int .i64 c.en, .int .i64 c.er]] w fun e w' => e = .returned (.tuple #[c.jTo.val, .string (bA c.jRes.t)]) ∧ Below w.heap.size w w' := by
  obtain ⟨k1, k2, k3⟩ := hc
  have hb : (c.er != 0) = false := by rw [h0]; rfl
  have hn : c.bs = [] := List.eq_nil_of_length_eq_zero (by rw [CS.bs_length ⟨k1, k2, k3⟩]; omega)
  have HR := Lib.hid (show c.jRes = ⟨[], 0, 1⟩ ∧ c.jTo = c.bad 1 from ⟨CS.jRes_nil h0 hn, by unfold CS.jTo; rw [CS.jRes_nil h0 hn, if_neg (by decide)]⟩)
  have p1 : ((c.at_ : Int) == (c.en : Int)) = true := beq_iff_eq.mpr (by omega)
  have HF := Lib.hid (fun w => ref_fail0 c 1 w h0)
  clear h0 h1 hn
  go_enter Tryz.func37, Tryz.ntmps37
  go_wp2_with fail
  refine (HF.out _).mono ?_
  rintro e w1 ⟨rfl, hb1⟩
  obtain ⟨qq1, qq2, hbel⟩ := two_laid c CS.zero 60 hb1
  clear hb1
  have a0 := qq1.c0; have a1 := qq1.c1; have a2 := qq1.c2; have a3 := qq1.c3; have af := qq1.fr
  have b0 := qq2.c0; have b1 := qq2.c1; have b2 := qq2.c2; have b3 := qq2.c3; have bf := qq2.fr
  go_wp2
  refine bodyPost_ret (v := .tuple #[.agg #[.string c.s, .int .i64 c.at_, .int .i64 c.en, .int .i64 1], .string ⟨#[]⟩]) (by simp [results, Tryz.results37, go_sem, b0, b1, b2, b3]) rfl ⟨ret_jr (c := c) (a := c.bad 1) HR.out.2 (by rw [HR.out.1]; rfl), ?_⟩
  go_grown
set_option maxRecDepth 100000 in
set_option maxHeartbeats 2000000 in
theorem rjread_x (c : CS) (w : World) (hc : c.ok) (h0 : c.er = 0) (h1 : c.at_ < c.en) (hx : ¬ ((c.s.extract 0 c.en)[c.at_]'(by rw [cut_size2 hc]; exact h1)).toNat = 34) :
    Calls Tryz.prog 37 #[.agg #[.string c.s, .int .i64 c.at_, .int .i64 c.en, .int .i64 c.er]] w fun e w' => e = .returned (.tuple #[c.jTo.val, .string (bA c.jRes.t)]) ∧ Below w.heap.size w w' := by
  obtain ⟨k1, k2, k3⟩ := hc
  have hb : (c.er != 0) = false := by rw [h0]; rfl
  have hsz := cut_size2 ⟨k1, k2, k3⟩
  have hd := drop_at (c.s.extract 0 c.en) c.at_ (by rw [hsz]; exact h1)
  have hcb := cut_bs c 0
  rw [Nat.add_zero, hd, List.drop_zero] at hcb
  have p1 : ((c.at_ : Int) == (c.en : Int)) = false := beq_eq_false_iff_ne.mpr (by omega)
  have ik0 : (0 : Int) ≤ (c.at_ : Int) := by omega
  have ik1 : (c.at_ : Int) < (c.en : Int) := by omega
  have ik2 : (c.at_ : Int) < ((c.s.extract 0 c.en).size : Int) := by omega
  have HR := Lib.hid (show c.jRes = ⟨[], 0, 3⟩ ∧ c.jTo = c.bad 3 from ⟨CS.jRes_other h0 hcb.symm hx, by unfold CS.jTo; rw [CS.jRes_other h0 hcb.symm hx, if_neg (by decide)]⟩)
  have HF := Lib.hid (fun w => ref_fail0 c 3 w h0)
  obtain ⟨X, hXe⟩ : ∃ X, X = ((c.s.extract 0 c.en)[c.at_]'(by rw [hsz]; exact h1)).toNat := ⟨_, rfl⟩
  have hXi : (((c.s.extract 0 c.en)[c.at_]'(by rw [hsz]; exact h1)).toNat : Int) = (X : Int) := by omega
  rw [← hXe] at hx
  have p2 : ((X : Int) != 34) = true := bne_iff_ne.mpr (by omega)
  clear h0 hcb hd hx hXe
  go_enter Tryz.func37, Tryz.ntmps37
  go_wp2_with fail
  refine (HF.out _).mono ?_
  rintro e w1 ⟨rfl, hb1⟩
  obtain ⟨qq1, qq2, hbel⟩ := two_laid c CS.zero 60 hb1
  clear hb1
  have a0 := qq1.c0; have a1 := qq1.c1; have a2 := qq1.c2; have a3 := qq1.c3; have af := qq1.fr
  have b0 := qq2.c0; have b1 := qq2.c1; have b2 := qq2.c2; have b3 := qq2.c3; have bf := qq2.fr
  go_wp2
  refine bodyPost_ret (v := .tuple #[.agg #[.string c.s, .int .i64 c.at_, .int .i64 c.en, .int .i64 3], .string ⟨#[]⟩]) (by simp [results, Tryz.results37, go_sem, b0, b1, b2, b3]) rfl ⟨ret_jr (c := c) (a := c.bad 3) HR.out.2 (by rw [HR.out.1]; rfl), ?_⟩
  go_grown
def RJRel (c : CS) (W : World) (z o i : Value) (wr : World) : Prop :=
  ∃ (l : List UInt8) (A : Nat), z = .string ⟨#[]⟩ ∧ o = .string (bA l) ∧ i = .int .i64 (A : Nat) ∧
    Hid (∃ k, A = c.at_ + 1 + k ∧ k ≤ (c.past 1).bs.length ∧ l.length ≤ k ∧ jIn (c.past 1).bs = (⟨l, k, 0⟩ : JT).and (jIn ((c.s.extract 0 c.en).data.toList.drop A))) ∧ A ≤ c.en ∧ l.length ≤ c.en ∧
    CurT 60 wr W.heap.size c ∧ CurT 60 wr (W.heap.size + 1) CS.zero ∧ Below W.heap.size W wr
set_option maxRecDepth 100000 in
set_option maxHeartbeats 2000000 in
theorem rjread_in (c : CS) (w : World) (hc : c.ok) (h0 : c.er = 0) (h1 : c.at_ < c.en) (hs : c.s.size ≤ 140737488351232) (hx : ((c.s.extract 0 c.en)[c.at_]'(by rw [cut_size2 hc]; exact h1)).toNat = 34) :
    Calls Tryz.prog 37 #[.agg #[.string c.s, .int .i64 c.at_, .int .i64 c.en, .int .i64 c.er]] w fun e w' => e = .returned (.tuple #[c.jTo.val, .string (bA c.jRes.t)]) ∧ Below w.heap.size w w' := by
  obtain ⟨k1, k2, k3⟩ := hc
  have hb : (c.er != 0) = false := by rw [h0]; rfl
  have hsz := cut_size2 ⟨k1, k2, k3⟩
  have hd := drop_at (c.s.extract 0 c.en) c.at_ (by rw [hsz]; exact h1)
  have hcb := cut_bs c 0
  rw [Nat.add_zero, hd, List.drop_zero] at hcb
  have p1 : ((c.at_ : Int) == (c.en : Int)) = false := beq_eq_false_iff_ne.mpr (by omega)
  have ik0 : (0 : Int) ≤ (c.at_ : Int) := by omega
  have ik1 : (c.at_ : Int) < (c.en : Int) := by omega
  have ik2 : (c.at_ : Int) < ((c.s.extract 0 c.en).size : Int) := by omega
  have hok : c.ok := ⟨k1, k2, k3⟩
  have hb1 : (c.past 1).bs = (c.s.extract 0 c.en).data.toList.drop (c.at_ + 1) := by rw [CS.bs_past, ← cut_bs]
  have HJ := Lib.hid (CS.jRes_in h0 hcb.symm hx)
  rw [← hb1] at HJ
  have HTO := Lib.hid (show ∀ k, (jIn (c.past 1).bs).e = 0 → (jIn (c.past 1).bs).k = k → c.jTo = c.past (k + 1) from fun k he hk => by
    unfold CS.jTo; rw [HJ.out, if_pos he, if_pos rfl, hk])
  have HNO := Lib.hid (show ¬ (jIn (c.past 1).bs).e = 0 → c.jTo = c.bad (jIn (c.past 1).bs).e ∧ bA c.jRes.t = ⟨#[]⟩ from fun he => by
    constructor
    · unfold CS.jTo; rw [HJ.out, if_neg he, if_neg he]
    · rw [HJ.out, if_neg he]; rfl)
  have HF := Lib.hid (fun k w => ref_fail0 c k w h0)
  have hXi : (((c.s.extract 0 c.en)[c.at_]'(by rw [hsz]; exact h1)).toNat : Int) = 34 := by rw [hx]; rfl
  have za : IntKind.i64.wrap ((c.at_ : Int) + 1) = (c.at_ : Int) + 1 := i64_small (by omega) (by omega)
  have hlb : (c.past 1).bs.length = c.en - (c.at_ + 1) := by rw [hb1, List.length_drop, toList_size, hsz]
  have HE := Lib.hid (And.intro h0 hlb)
  have hst := two_made (w := w) c CS.zero 60
  have HST := Lib.hid hst
  have HB1 := Lib.hid hb1
  clear h0 hcb hd hx hb1 hlb hst hok
  go_enter Tryz.func37, Tryz.ntmps37
  go_wp2_with fail
  go_quiet (fail)
  go_wp2_with fail
  go_loopw [3, 5, 6] (fun z o i wr => RJRel c w z o i wr) (fun _ _ i _ => c.en - (intOf i).toNat)
  case atStart =>
    first
    | exact ⟨[], c.at_ + 1, rfl, rfl, by go_num, Lib.hid ⟨0, rfl, Nat.zero_le _, Nat.le_refl _, by rw [HB1.out, nil_and]⟩, by omega, Nat.zero_le _, HST.out.1, HST.out.2.1, HST.out.2.2⟩
    | exact ⟨[], c.at_ + 1, rfl, rfl, by go_num, Lib.hid ⟨0, rfl, Nat.zero_le _, Nat.le_refl _, by rw [HB1.out, nil_and]⟩, by omega, Nat.zero_le _, CurT.drewN HST.out.1 _, CurT.drewN HST.out.2.1 _, Below.drewN HST.out.2.2 _⟩
  case round =>
    obtain ⟨l, A, rfl, rfl, rfl, hk, hA, hll, qq1, qq2, hbel⟩ := hrel
    have a0 := qq1.c0; have a1 := qq1.c1; have a2 := qq1.c2; have a3 := qq1.c3; have af := qq1.fr
    have b0 := qq2.c0; have b1 := qq2.c1; have b2 := qq2.c2; have b3 := qq2.c3; have bf := qq2.fr
    by_cases hlt : A < c.en
    · have q1 : decide (A < c.en) = true := decide_eq_true hlt
      have jk0 : (0 : Int) ≤ (A : Int) := by omega
      have jk1 : (A : Int) < (c.en : Int) := by omega
      have jk2 : (A : Int) < ((c.s.extract 0 c.en).size : Int) := by omega
      have hin : A < (c.s.extract 0 c.en).size := by rw [hsz]; exact hlt
      have hd := drop_at (c.s.extract 0 c.en) A hin
      have zA : IntKind.i64.wrap ((A : Int) + 1) = (A : Int) + 1 := i64_small (by omega) (by omega)
      by_cases h34 : ((c.s.extract 0 c.en)[A]'hin).toNat = 34
      · have hYi : (((c.s.extract 0 c.en)[A]'hin).toNat : Int) = 34 := by rw [h34]; rfl
        have HR := Lib.hid (show c.jTo = ⟨c.s, A + 1, c.en, c.er⟩ ∧ bA c.jRes.t = bA l by
          obtain ⟨k, e1, e2, e3, e4⟩ := hk.out
          rw [hd, jIn_quote _ _ h34, JT.and_yes _ rfl] at e4
          have e5 : (jIn (c.past 1).bs).e = 0 := by rw [e4]
          refine ⟨?_, ?_⟩
          · rw [HTO.out (k + 1) e5 (by rw [e4])]
            unfold CS.past
            rw [e1]
            congr 1
            omega
          · rw [HJ.out, if_pos e5, e4]; simp)
        have hc1 := (qq1.setAt (A + 1)).c0
        have d0 := (qq1.setAt (A + 1)).c0; have d1 := (qq1.setAt (A + 1)).c1; have d2 := (qq1.setAt (A + 1)).c2; have d3 := (qq1.setAt (A + 1)).c3
        clear hk hd h34
        go_wp2
        refine bodyPost_ret (v := .tuple #[.agg #[.string c.s, .int .i64 ((A : Int) + 1), .int .i64 c.en, .int .i64 c.er], .string (bA l)]) (by simp [results, Tryz.results37, go_sem, b0, b1, b2, b3]) rfl ⟨ret_jr (c := c) (a := ⟨c.s, A + 1, c.en, c.er⟩) HR.out.1 HR.out.2, ?_⟩
        go_grown
      · obtain ⟨Y, hYe⟩ : ∃ Y, Y = ((c.s.extract 0 c.en)[A]'hin).toNat := ⟨_, rfl⟩
        have hYi : (((c.s.extract 0 c.en)[A]'hin).toNat : Int) = (Y : Int) := by omega
        have q2 : ((Y : Int) == 34) = false := beq_eq_false_iff_ne.mpr (by omega)
        have HP := Lib.hid (fun w => rpart_any (c.s.extract 0 c.en) A w (by omega) hin)
        have hjc := jIn_cons ((c.s.extract 0 c.en)[A]'hin) ((c.s.extract 0 c.en).data.toList.drop (A + 1))
        rw [if_neg h34, ← hd] at hjc
        by_cases hpe : (jPart ((c.s.extract 0 c.en).data.toList.drop A)).e = 0
        · rw [if_pos hpe, List.drop_drop] at hjc
          obtain ⟨_, f2, f3, f4⟩ := jPart_fine hpe
          rw [List.length_drop, toList_size, hsz] at f4
          have hpl : pPl A (jPart ((c.s.extract 0 c.en).data.toList.drop A)) = A + (jPart ((c.s.extract 0 c.en).data.toList.drop A)).k := by unfold pPl; rw [if_pos hpe]
          rw [hpl, hpe] at HP
          obtain ⟨K, hK⟩ : ∃ K, K = (jPart ((c.s.extract 0 c.en).data.toList.drop A)).k := ⟨_, rfl⟩
          obtain ⟨M, hM⟩ : ∃ M, M = (jPart ((c.s.extract 0 c.en).data.toList.drop A)).t := ⟨_, rfl⟩
          have HK := Lib.hid (show ∃ k, A + K = c.at_ + 1 + k ∧ k ≤ (c.past 1).bs.length ∧ (l ++ M).length ≤ k ∧ jIn (c.past 1).bs = (⟨l ++ M, k, 0⟩ : JT).and (jIn ((c.s.extract 0 c.en).data.toList.drop (A + K))) by
            obtain ⟨k, e1, e2, e3, e4⟩ := hk.out
            have := HE.out.2
            refine ⟨k + K, by omega, by omega, by rw [List.length_append, hM]; omega, ?_⟩
            rw [e4, hjc, ← hK, ← JT.and_and _ _ _ hpe, JT.and_yes _ hpe, ← hM, ← hK])
          rw [← hK] at HP f2 f3 f4
          rw [← hM] at HP f2
          have hl4 : (l ++ M).length ≤ c.en := by
            obtain ⟨k, e1, e2, e3, _⟩ := HK.out
            omega
          have hcat := Lib.hid (bA_append l M)
          have sl : (bA l).size = l.length := bA_size l
          have sM : (bA M).size = M.length := bA_size M
          have hls : (bA l).size + (bA M).size ≤ 140737488351232 := by rw [sl, sM, ← List.length_append]; omega
          clear hk hjc hpl hK hM hd h34 hYe hpe sl sM
          generalize bA l = TL at *
          generalize bA M = TM at *
          go_wp2_with fail
          with_reducible refine (HP.out _).mono ?_
          rintro e w1 ⟨rfl, hb2⟩
          have qq3 := Below.cur hb2 qq1 qq1.lt
          have qq4 := Below.cur hb2 qq2 qq2.lt
          have hbel2 := grown_then hbel hb2
          clear hb2 qq1 qq2 hbel a0 a1 a2 a3 b0 b1 b2 b3 af bf
          go_wp2
          go_roundw
          case rel => exact ⟨l ++ M, A + K, rfl, by rw [← hcat.out], by go_num, HK, by omega, hl4, qq3, qq4, hbel2⟩
          case measure => simp [intOf]; omega
        · rw [if_neg hpe] at hjc
          have hp0 := jPart_no hpe
          have HR := Lib.hid (show c.jTo = c.bad (jPart ((c.s.extract 0 c.en).data.toList.drop A)).e ∧ bA c.jRes.t = ⟨#[]⟩ by
            obtain ⟨k, e1, e2, e3, e4⟩ := hk.out
            have e5 : (jIn (c.past 1).bs).e = (jPart ((c.s.extract 0 c.en).data.toList.drop A)).e := by rw [e4, JT.and_e, hjc]
            have e6 := HNO.out (by rw [e5]; exact hpe)
            rw [e5] at e6; exact e6)
          have q3 : ((jPart ((c.s.extract 0 c.en).data.toList.drop A)).e != 0) = true := bne_iff_ne.mpr hpe
          have hpl : pPl A (jPart ((c.s.extract 0 c.en).data.toList.drop A)) = 0 := by unfold pPl; rw [if_neg hpe]
          have hpt : (jPart ((c.s.extract 0 c.en).data.toList.drop A)).t = [] := by rw [hp0]
          rw [hpl, hpt] at HP
          generalize (jPart ((c.s.extract 0 c.en).data.toList.drop A)).e = E at *
          clear hk hjc hpl hpt hp0 hd h34 hYe hpe
          go_wp2_with fail
          with_reducible refine (HP.out _).mono ?_
          rintro e w1 ⟨rfl, hb2⟩
          have qq3 := Below.cur hb2 qq1 qq1.lt
          have qq4 := Below.cur hb2 qq2 qq2.lt
          have hbel2 := grown_then hbel hb2
          clear hb2 qq1 qq2 hbel a0 a1 a2 a3 b0 b1 b2 b3 af bf
          have a0 := qq3.c0; have a1 := qq3.c1; have a2 := qq3.c2; have a3 := qq3.c3
          go_wp2_with fail
          refine (HF.out _ _).mono ?_
          rintro e w2 ⟨rfl, hb3⟩
          have qq5 := Below.cur hb3 qq4 qq4.lt
          have hbel3 := grown_then hbel2 hb3
          clear hb3 qq3 qq4 hbel2 a0 a1 a2 a3
          have b0 := qq5.c0; have b1 := qq5.c1; have b2 := qq5.c2; have b3 := qq5.c3; have bf := qq5.fr
          go_wp2
          refine bodyPost_ret (v := .tuple #[.agg #[.string c.s, .int .i64 c.at_, .int .i64 c.en, .int .i64 E], .string ⟨#[]⟩]) (by simp [results, Tryz.results37, go_sem, b0, b1, b2, b3]) rfl ⟨ret_jr (c := c) (a := c.bad E) HR.out.1 HR.out.2, ?_⟩
          go_grown
    · have q1 : decide (A < c.en) = false := decide_eq_false hlt
      have HR := Lib.hid (show c.jTo = c.bad 1 ∧ bA c.jRes.t = ⟨#[]⟩ by
        obtain ⟨k, e1, e2, e3, e4⟩ := hk.out
        rw [drop_none _ _ (by rw [hsz]; omega), jIn_nil] at e4
        have e5 : (jIn (c.past 1).bs).e = 1 := by rw [e4, JT.and_e]
        have e6 := HNO.out (by rw [e5]; decide)
        rw [e5] at e6; exact e6)
      clear hk
      go_wp2_with fail
      refine (HF.out _ _).mono ?_
      rintro e w2 ⟨rfl, hb3⟩
      have qq5 := Below.cur hb3 qq2 qq2.lt
      have hbel3 := grown_then hbel hb3
      clear hb3 qq1 qq2 hbel a0 a1 a2 a3 b0 b1 b2 b3 af bf
      have b0 := qq5.c0; have b1 := qq5.c1; have b2 := qq5.c2; have b3 := qq5.c3; have bf := qq5.fr
      go_wp2
      refine bodyPost_ret (v := .tuple #[.agg #[.string c.s, .int .i64 c.at_, .int .i64 c.en, .int .i64 1], .string ⟨#[]⟩]) (by simp [results, Tryz.results37, go_sem, b0, b1, b2, b3]) rfl ⟨ret_jr (c := c) (a := c.bad 1) HR.out.1 HR.out.2, ?_⟩
      go_grown
theorem rjread_any (c : CS) (w : World) (hc : c.ok) (hs : c.s.size ≤ 140737488351232) :
    Calls Tryz.prog 37 #[.agg #[.string c.s, .int .i64 c.at_, .int .i64 c.en, .int .i64 c.er]] w fun e w' => e = .returned (.tuple #[c.jTo.val, .string (bA c.jRes.t)]) ∧ Below w.heap.size w w' := by
  by_cases h0 : c.er = 0
  · rcases Nat.lt_or_ge c.at_ c.en with h1 | h1
    · by_cases hx : ((c.s.extract 0 c.en)[c.at_]'(by rw [cut_size2 hc]; exact h1)).toNat = 34
      · exact rjread_in c w hc h0 h1 hs hx
      · exact rjread_x c w hc h0 h1 hx
    · exact rjread_end c w hc h0 (by have := hc.1; omega)
  · exact rjread_err c w hc h0
end Go.Proofs.YtfighopfgllneaaGreatDoor
