/- The document's own Whole. -/
import Derived.Test.YtemmeoikenbmgaaDoorJnRefC
import Derived.Test.YtemmeoikenbmgaaDoorJnSpm
import Derived.Test.YtemmeoikenbmgaaDoorDRefC
import Derived.BigQuiet
namespace Go.Proofs.YtemmeoikenbmgaaDoor
open Go Go.RowKit
set_option linter.unusedVariables false

theorem bA_data (l : List UInt8) : (bA l).data.toList = l := by simp [bA]
/-- The parts' block, laid behind a call. -/
theorem pb_new (w1 : World) (W B P : ByteArray) (E C : Int) : PB (w1.alloc (.cells #[.string W, .string B, .string P, .int .i64 E, .int .i64 C] 43)) w1.heap.size W B P E C := heap_alloc_new w1 _
theorem rsplit_zero (s : ByteArray) (w : World) (hs : s.size ≤ 1125899906842624) :
    Calls Tryd.prog 19 #[.string s, .int .i64 0] w fun e w' => ∃ W B P E, e = .returned (.agg #[.string W, .string B, .string P, .int .i64 ((E : Nat) : Int), .int .i64 (nCode s.data.toList)]) ∧ (nCode s.data.toList = 0 → W = bA (wW s.data.toList) ∧ B = bA (wB s.data.toList) ∧ P = bA (wP s.data.toList) ∧ E = nE s.data.toList) ∧ Below w.heap.size w w' := by
  refine (rsplit_any s 0 w (Nat.zero_le _) hs).mono ?_
  rintro e w' ⟨W, B, P, E, rfl, hT, hb⟩
  refine ⟨W, B, P, E, rfl, ?_, hb⟩
  intro hz
  have := hT.1 hz
  rw [List.drop_zero, Nat.zero_add] at this
  exact this
set_option maxRecDepth 20000 in
theorem rwhole_bad (s : ByteArray) (w : World) (hz : s.size ≤ 1048576) (hn : ¬ (nCode s.data.toList = 0 ∧ nE s.data.toList = s.data.toList.length)) :
    Calls Tryd.prog 14 #[.string s] w fun e w' => e = .returned (.tuple #[.int .i64 (wEnd s.data.toList).1, .int .i64 (wEnd s.data.toList).2]) ∧ Below w.heap.size w w' := by
  rw [wEnd_no hn]
  have HS := Lib.hid (rsplit_zero s w (by omega))
  rw [toList_size] at hn
  have HN := Lib.hid hn
  clear hn
  go_enter Tryd.func14, Tryd.ntmps14
  go_wp2_with fail
  with_reducible refine HS.out.mono ?_
  rintro r w1 ⟨W, B, P, E, rfl, hT, b1⟩
  have HT := Lib.hid hT
  clear hT HS
  go_upto_region 2 with fail
  have PN := pb_new w1 W B P ((E : Nat) : Int) (nCode s.data.toList)
  have b2 := b1.alloc b1.size (.cells #[.string W, .string B, .string P, .int .i64 ((E : Nat) : Int), .int .i64 (nCode s.data.toList)] 43)
  generalize w1.alloc (.cells #[.string W, .string B, .string P, .int .i64 ((E : Nat) : Int), .int .i64 (nCode s.data.toList)] 43) = w2 at PN b2 ⊢
  generalize w1.heap.size = g at PN ⊢
  have c3 := PN.c3
  have c4 := PN.c4
  by_cases h0 : nCode s.data.toList = 0
  · have hE := (HT.out h0).2.2.2
    have hne : ¬ E = s.size := fun h => HN.out ⟨h0, hE.symm.trans h⟩
    have p1 : (nCode s.data.toList != 0) = false := by rw [h0]; rfl
    have p2 : ((E : Int) != (s.size : Int)) = true := bne_iff_ne.mpr (by omega)
    have p3 : (E != s.size) = true := bne_iff_ne.mpr hne
    clear h0 hE hne
    go_wp2
    go_ret2
    exact ⟨rfl, b2⟩
  · have p1 : (nCode s.data.toList != 0) = true := bne_iff_ne.mpr h0
    clear h0
    go_wp2
    go_ret2
    exact ⟨rfl, b2⟩

def textOf : Value → ByteArray
  | .string t => t
  | _ => ⟨#[]⟩
def RLzRel (D : List UInt8) (w : World) (v : Value) (wr : World) : Prop := ∃ T : ByteArray, v = .string T ∧ wr = w ∧ T.size ≤ 1048576 ∧ Hid (lz T.data.toList = lz D ∧ ∀ x ∈ T.data.toList, x ∈ D)
theorem lz_cons (t : List UInt8) : lz (48 :: t) = lz t := rfl
theorem lz_other {x : UInt8} (t : List UInt8) (h : x ≠ 48) : lz (x :: t) = x :: t := by
  unfold lz
  rw [List.dropWhile_cons, if_neg (by simpa using h)]
def RPadRel (base : List UInt8) (q : Nat) (w : World) (v i : Value) (wr : World) : Prop := ∃ (T : ByteArray) (k : Nat), v = .string T ∧ i = .int .i64 (k : Nat) ∧ k ≤ q ∧ wr = w ∧ T.size = base.length + k ∧ Hid (T.data.toList = base ++ List.replicate k 48)
set_option maxRecDepth 20000 in
set_option maxHeartbeats 4000000 in
theorem rwhole_good (s : ByteArray) {sg W F B X P : List UInt8} (hf : NForm s.data.toList sg W F B X P) (w : World) (hz : s.size ≤ 1048576) :
    Calls Tryd.prog 14 #[.string s] w fun e w' => e = .returned (.tuple #[.int .i64 (nWorth sg W B (pwV P)).1, .int .i64 (nWorth sg W B (pwV P)).2]) ∧ Below w.heap.size w w' := by
  obtain ⟨f1, f2, f3, f4, f5, f6, f7, f8⟩ := form_to hf
  rw [toList_size] at f2
  have hlen := congrArg List.length hf.eq
  rw [toList_size, List.length_append, List.length_append, List.length_append] at hlen
  have hBl : B.length ≤ F.length := by
    rcases hf.frac with ⟨rfl, rfl⟩ | ⟨rfl, _, _⟩
    · exact Nat.le_refl _
    · simp
  have hPl : P.length ≤ X.length := by
    rcases hf.expo with ⟨rfl, rfl⟩ | ⟨_, _, _, _, rfl, _⟩
    · exact Nat.le_refl _
    · simp
  rw [← nWorth_cap 1099511627776 (by decide) (by omega)]
  have hWB : (W ++ B).all dIs = true := by
    rw [List.all_append, hf.digs]
    rcases hf.frac with ⟨_, rfl⟩ | ⟨_, _, h⟩
    · rfl
    · exact h
  have HS := Lib.hid (rsplit_zero s w (by omega))
  rw [f1, f2, f4, f5, f6] at HS
  have HD := Lib.hid hWB
  have HSg := Lib.hid hf.sign
  have hspos : 0 < s.size := by
    have : W ≠ [] := by rcases hf.lead with rfl | ⟨x, t, rfl, _⟩ <;> simp
    have := List.length_pos_iff.mpr this
    omega
  have hW0 : ∃ x t, W = x :: t ∧ dIs x = true := head_of (by rcases hf.lead with rfl | ⟨x, t, rfl, _⟩ <;> simp) hf.digs
  have HH := Lib.hid (show (sg = [45] → s[0] = 45) ∧ (sg = [] → s[0] ≠ 45) by
    have e := head_at s hspos
    rw [hf.eq] at e
    refine ⟨fun h => ?_, fun h => ?_⟩
    · rw [h] at e; exact (Option.some.inj e).symm
    · obtain ⟨x, t, hx, hd⟩ := hW0
      rw [h, hx] at e
      have e2 : x = s[0] := Option.some.inj e
      rw [← e2]
      exact fun e3 => by rw [e3] at hd; exact absurd hd (by decide))
  have HP := Lib.hid (fun w => rpower (bA P) w (by rw [bA_size]; omega))
  rw [bA_data] at HP
  have hcap : -1099511627776 ≤ capV 1099511627776 P ∧ capV 1099511627776 P ≤ 1099511627776 := by
    unfold capV
    have := Nat.min_le_left 1099511627776 (dV (P.filter dIs))
    split <;> omega
  unfold nWorth
  obtain ⟨C, hC⟩ : ∃ C, C = capV 1099511627776 P := ⟨_, rfl⟩
  rw [← hC] at hcap HP ⊢
  obtain ⟨D, hDD⟩ : ∃ D, D = W ++ B := ⟨_, rfl⟩
  have hDl : D.length ≤ 1048576 := by rw [hDD, List.length_append]; omega
  have HDD := Lib.hid hDD
  rw [← hDD] at HD ⊢
  have sW := bA_size W
  have sB := bA_size B
  have hWs : W.length ≤ 1048576 := by omega
  have hBs : B.length ≤ 1048576 := by omega
  obtain ⟨WT, hWT⟩ : ∃ WT, WT = bA W := ⟨_, rfl⟩
  obtain ⟨BT, hBT⟩ : ∃ BT, BT = bA B := ⟨_, rfl⟩
  obtain ⟨PT, hPT⟩ : ∃ PT, PT = bA P := ⟨_, rfl⟩
  rw [← hWT] at sW
  rw [← hBT] at sB
  rw [← hPT] at HP
  have HWT := Lib.hid (And.intro hWT (And.intro hBT hPT))
  have hWz : WT.size ≤ 1048576 := by omega
  have hBz : BT.size ≤ 1048576 := by omega
  have HSB := Lib.hid sB
  clear f1 f2 f3 f4 f5 f6 f7 f8 hWB hW0 hC hDD hPl hBl hlen hf hWT hBT hPT sW sB hWs hBs
  go_enter Tryd.func14, Tryd.ntmps14
  go_wp2_with fail
  with_reducible refine HS.out.mono ?_
  rintro r w1 ⟨W1, B1, P1, E, rfl, hT, b1⟩
  obtain ⟨h1, h2, h3, h4⟩ := hT (by trivial)
  rw [← HWT.out.1] at h1
  rw [← HWT.out.2.1] at h2
  rw [← HWT.out.2.2] at h3
  subst h1 h2 h3
  rw [h4]
  clear HS hT h4
  go_upto_region 2 with fail
  have PN := pb_new w1 W1 B1 P1 ((s.size : Nat) : Int) 0
  have b2 := b1.alloc b1.size (.cells #[.string W1, .string B1, .string P1, .int .i64 ((s.size : Nat) : Int), .int .i64 0] 43)
  generalize w1.alloc (.cells #[.string W1, .string B1, .string P1, .int .i64 ((s.size : Nat) : Int), .int .i64 0] 43) = w2 at PN b2 ⊢
  generalize w1.heap.size = g at PN ⊢
  have HB2 := Lib.hid b2
  have c0 := PN.c0
  have c1 := PN.c1
  have c2 := PN.c2
  have c3 := PN.c3
  have c4 := PN.c4
  clear b1 b2
  have HWB := Lib.hid (show (W1 ++ B1).data.toList = D by rw [toList_append, HWT.out.1, HWT.out.2.1, bA_data, bA_data, HDD.out])
  have HWBs := Lib.hid (show (W1 ++ B1).size ≤ 1048576 by rw [← toList_size, HWB.out]; exact hDl)
  go_wp2_with fail
  go_loopw [5] (fun v wr => RLzRel D w2 v wr) (fun v _ => (textOf v).size)
  case atStart => exact ⟨W1 ++ B1, rfl, rfl, HWBs.out, Lib.hid ⟨by rw [HWB.out], fun x hx => by rw [HWB.out] at hx; exact hx⟩⟩
  case round =>
    obtain ⟨T, rfl, hww, hTs, hTl⟩ := hrel
    rw [hww]
    clear hww
    have hts := toList_size T
    by_cases hT0 : T.size = 0
    · have pE : (!T.toList.isEmpty) = false := by rw [isEmpty_of, hT0]; rfl
      have pE2 : T.toList.isEmpty = true := by rw [isEmpty_of, hT0]; rfl
      have HR := Lib.hid (show dWorth sg (lz D) (C - (B.length : Nat)) = (0, 0) by
        rw [← hTl.out.1, List.eq_nil_of_length_eq_zero (hts.trans hT0)]; unfold dWorth; rw [if_pos (show lz [] = [] from rfl)])
      clear hT0 hTl hts
      go_wp2
      go_ret2
      exact ⟨by rw [HR.out]; rfl, HB2.out⟩
    · have hpos : 0 < T.size := by omega
      have pE : (!T.toList.isEmpty) = true := by rw [isEmpty_of, decide_eq_false hT0]; rfl
      have pE2 : T.toList.isEmpty = false := by rw [isEmpty_of]; exact decide_eq_false hT0
      have iz : (0 : Int) < (T.size : Int) := by omega
      have iz1 : (1 : Int) ≤ (T.size : Int) := by omega
      have hh : T.data.toList = T[0] :: T.data.toList.drop 1 := by
        have := drop_at hpos
        rwa [List.drop_zero] at this
      obtain ⟨x, hx⟩ : ∃ x, x = T[0] := ⟨_, rfl⟩
      have hxi : (T[0].toNat : Int) = (x.toNat : Int) := by rw [hx]
      rw [← hx] at hh
      by_cases hx48 : x = 48
      · have q1 : ((x.toNat : Int) == 48) = true := by rw [hx48]; rfl
        have HT2 := Lib.hid (show lz (T.extract 1 T.size).data.toList = lz D ∧ ∀ y ∈ (T.extract 1 T.size).data.toList, y ∈ D by
          rw [tail_text]
          refine ⟨?_, fun y hy => hTl.out.2 y (by rw [hh]; exact List.mem_cons_of_mem _ hy)⟩
          rw [← hTl.out.1]
          have : lz T.data.toList = lz (T.data.toList.drop 1) := by rw [hh, hx48]; rfl
          rw [this])
        have HS2 := Lib.hid (show (T.extract 1 T.size).size = T.size - 1 by rw [← toList_size, tail_text, List.length_drop, hts])
        clear hx hh hx48 hTl hts hT0
        generalize x.toNat = X at *
        go_wp2
        go_roundw
        case rel => exact ⟨_, rfl, rfl, by rw [HS2.out]; omega, HT2⟩
        case measure => show (T.extract 1 T.size).size < T.size; rw [HS2.out]; omega
      · have q1 : ((x.toNat : Int) == 48) = false := beq_eq_false_iff_ne.mpr (fun h => hx48 (UInt8.toNat_inj.mp (by show x.toNat = 48; omega)))
        have hlz : lz D = T.data.toList := by rw [← hTl.out.1, hh, lz_other _ hx48]
        have hL : Lead T.data.toList := by rw [← hlz]; exact Lead.of HD.out (by rw [hlz, hh]; simp)
        have HZr := Lib.hid (fun w => rzeros T w (by omega))
        obtain ⟨d, hd⟩ : ∃ d, d = T.data.toList := ⟨_, rfl⟩
        have Hd := Lib.hid hd
        rw [← hd] at HZr hL hts hlz
        obtain ⟨z, hzz⟩ : ∃ z, z = zR d := ⟨_, rfl⟩
        have hzl : z ≤ d.length := by have := cnt_len d; omega
        have HRD := Lib.hid (fun n => show dWorth sg d n = if n < -(z : Int) then (0, 7) else if 30 < (d.length : Int) + n then (0, 4) else sEnd (sg ++ (if n < 0 then d.take ((d.length : Int) + n).toNat else d ++ List.replicate n.toNat 48)) from by unfold dWorth; rw [if_neg hL.1, hzz])
        rw [← hzz] at HZr
        obtain ⟨n, hn⟩ : ∃ n : Int, n = C - (B1.size : Nat) := ⟨_, rfl⟩
        have HDn : dWorth sg (lz D) (C - (B.length : Nat)) = dWorth sg d n := by rw [hlz, ← HSB.out, ← hn]
        rw [HRD.out n] at HDn
        have m1 : IntKind.i64.wrap (C - (B1.size : Int)) = n := by rw [i64_small (by omega) (by omega)]; exact hn.symm
        have m2 : IntKind.i64.wrap (-(z : Int)) = -(z : Int) := i64_small (by omega) (by omega)
        have m3 : IntKind.i64.wrap ((T.size : Int) + n) = (T.size : Int) + n := i64_small (by omega) (by omega)
        have hn1 : -1200000000000 ≤ n ∧ n ≤ 1200000000000 := by omega
        clear hx hh hx48 hTl hT0 hlz hL hd hzz hn HRD
        by_cases hlow : n < -(z : Int)
        · have p1 : decide (n < -(z : Int)) = true := decide_eq_true hlow
          rw [if_pos hlow] at HDn
          have HR := Lib.hid HDn
          clear HDn hlow
          generalize x.toNat = X at *
          go_wp2_with fail
          go_quiet (first | (go_at_call 26; exact Calls.quiet_of_same (HP.out _)))
          go_wp2_with fail
          with_reducible refine (HZr.out _).mono ?_
          rintro r w4 ⟨rfl, hw⟩
          rw [hw]; clear hw
          go_wp2
          go_ret2
          exact ⟨by rw [HR.out]; rfl, Below.drewN HB2.out _⟩
        · have p1 : decide (n < -(z : Int)) = false := decide_eq_false hlow
          rw [if_neg hlow] at HDn
          by_cases hhi : 30 < (d.length : Int) + n
          · have p2 : decide (30 < (T.size : Int) + n) = true := decide_eq_true (by rw [← hts]; exact hhi)
            rw [if_pos hhi] at HDn
            have HR := Lib.hid HDn
            clear HDn hlow hhi
            generalize x.toNat = X at *
            go_wp2_with fail
            go_quiet (first | (go_at_call 26; exact Calls.quiet_of_same (HP.out _)))
            go_wp2_with fail
            with_reducible refine (HZr.out _).mono ?_
            rintro r w4 ⟨rfl, hw⟩
            rw [hw]; clear hw
            go_wp2
            go_ret2
            exact ⟨by rw [HR.out]; rfl, Below.drewN HB2.out _⟩
          · have p2 : decide (30 < (T.size : Int) + n) = false := decide_eq_false (by rw [← hts]; exact hhi)
            rw [if_neg hhi] at HDn
            obtain ⟨base, hbase⟩ : ∃ base, base = if n < 0 then d.take ((d.length : Int) + n).toNat else d := ⟨_, rfl⟩
            have hpad : (if n < 0 then d.take ((d.length : Int) + n).toNat else d ++ List.replicate n.toNat 48) = base ++ List.replicate n.toNat 48 := by
              rw [hbase]
              by_cases h : n < 0
              · rw [if_pos h, if_pos h, show n.toNat = 0 by omega, List.replicate_zero, List.append_nil]
              · rw [if_neg h, if_neg h]
            rw [hpad] at HDn
            have HR := Lib.hid HDn
            have hbl : base.length ≤ 1048576 := by
              rw [hbase]
              split
              · rw [List.length_take]; omega
              · omega
            have HBs := Lib.hid hbase
            have hhi2 : (T.size : Int) + n ≤ 30 := by rw [← hts]; omega
            have hlo2 : 0 ≤ (T.size : Int) + n := by rw [← hts]; omega
            have Hts := Lib.hid hts
            clear HDn hlow hhi hpad hbase
            obtain ⟨j, hj⟩ : ∃ j : Nat, (j : Int) = (T.size : Int) + n := ⟨((T.size : Int) + n).toNat, by omega⟩
            have hjd : ((d.length : Int) + n).toNat = j := by rw [hts]; omega
            obtain ⟨q, hq⟩ : ∃ q : Nat, q = n.toNat := ⟨_, rfl⟩
            have hq30 : q ≤ 30 := by omega
            have HQ := Lib.hid (show ∀ k : Nat, (k : Int) < n ↔ k < q from fun k => by omega)
            rw [← hq] at HR
            have HJ := Lib.hid (show ((T.size : Int) + n).toNat = j by omega)
            have HB0 := Lib.hid (show (n < 0 → base = d.take j) ∧ (¬ n < 0 → base = d) from ⟨fun h => by rw [HBs.out, if_pos h, hjd], fun h => by rw [HBs.out, if_neg h]⟩)
            clear HBs hjd hq hj hts Hts
            generalize x.toNat = X at *
            go_wp2_with fail
            go_quiet (first | (go_at_call 26; exact Calls.quiet_of_same (HP.out _)))
            go_wp2_with fail
            with_reducible refine (HZr.out _).mono ?_
            rintro r w4 ⟨rfl, hw⟩
            rw [hw]; clear hw
            go_upto_if 54 with fail
            go_cut [5] from 8 (fun v wx => ∃ U : ByteArray, v = .string U ∧ U.data.toList = base ∧ Below w.heap.size w wx)
            case first =>
              have bq := Below.drewN HB2.out
              by_cases hneg : n < 0
              · have HU := Lib.hid (show (T.extract 0 ((T.size : Int) + n).toNat).data.toList = base by rw [ext_toList, List.drop_zero, Nat.sub_zero, ← Hd.out, HB0.out.1 hneg, HJ.out])
                have s1 : (0 : Int) ≤ (T.size : Int) + n := hlo2
                have s2 : (T.size : Int) + n ≤ (T.size : Int) := by omega
                rw [decide_eq_true hneg]
                clear hneg
                go_wp2_with fail
                go_meet
                case rel => exact ⟨_, rfl, HU.out, bq _⟩
              · have HU := Lib.hid (show T.data.toList = base by rw [← Hd.out, HB0.out.2 (by omega)])
                rw [decide_eq_false hneg]
                clear hneg
                go_wp2_with fail
                go_meet
                case rel => exact ⟨T, rfl, HU.out, bq _⟩
            case rest =>
              obtain ⟨U, rfl, hU, hbx⟩ := hcut
              have HU := Lib.hid hU
              have HBX := Lib.hid hbx
              clear hU hbx m1 m2 m3 p1 p2 q1 c0 c1 c2 c3 c4 pE pE2 iz iz1 hpos hxi HJ HB0 Hd HP HZr
              go_wp2_with fail
              go_loopw [5, 7] (fun v i wr => RPadRel base q wc v i wr) (fun _ i _ => q + 1 - (intOf i).toNat)
              case atStart => exact ⟨U, 0, rfl, rfl, Nat.zero_le _, rfl, by rw [Nat.add_zero, ← HU.out, toList_size], Lib.hid (by rw [List.replicate_zero, List.append_nil]; exact HU.out)⟩
              case round =>
                obtain ⟨V, k, rfl, rfl, hk, hww, hVs, hV⟩ := hrel
                rw [hww]
                clear hww
                have hVsz : V.size ≤ 2097152 := by omega
                by_cases hlt : k < q
                · have p1 : decide ((k : Int) < n) = true := decide_eq_true ((HQ.out k).mpr hlt)
                  have y3 := next_wrap (a := k) (by omega)
                  have HV2 := Lib.hid (show (V ++ ⟨#[48]⟩).data.toList = base ++ List.replicate (k + 1) 48 by
                    rw [toList_append, hV.out, List.append_assoc, List.replicate_succ'])
                  have HV3 := Lib.hid (show (V ++ ⟨#[48]⟩).size = base.length + (k + 1) by rw [ByteArray.size_append, hVs, Nat.add_assoc]; first | done | rfl)
                  clear hV
                  go_wp2
                  go_roundw
                  case rel => exact ⟨V ++ ⟨#[48]⟩, k + 1, rfl, by go_num, by omega, rfl, HV3.out, HV2⟩
                  case measure => simp [intOf]; omega
                · have p1 : decide ((k : Int) < n) = false := decide_eq_false (fun h => hlt ((HQ.out k).mp h))
                  have hkq : k = q := by omega
                  have HVq := Lib.hid (show V.data.toList = base ++ List.replicate q 48 by rw [hV.out, hkq])
                  have i0 : (0 : Int) < (s.size : Int) := by omega
                  obtain ⟨y, hy⟩ : ∃ y, y = s[0] := ⟨_, rfl⟩
                  have hyi : (s[0].toNat : Int) = (y.toNat : Int) := by rw [hy]
                  have HHy := HH.out
                  rw [← hy] at HHy
                  have HHZ := Lib.hid HHy
                  clear hV hkq hlt hy HHy
                  rcases HSg.out with hs | hs
                  · have hy45 := HHZ.out.2 hs
                    have q2 : ((y.toNat : Int) == 45) = false := beq_eq_false_iff_ne.mpr (fun h => hy45 (UInt8.toNat_inj.mp (by show y.toNat = 45; omega)))
                    have HRd := Lib.hid (fun w => rRead V w (by omega))
                    rw [HVq.out] at HRd
                    have HR2 := HR.out
                    rw [show sg ++ (base ++ List.replicate q 48) = base ++ List.replicate q 48 by rw [hs]; rfl] at HR2
                    have HR3 := Lib.hid HR2
                    clear HR2 hs hy45 HHZ
                    generalize sEnd (base ++ List.replicate q 48) = EE at *
                    generalize y.toNat = Y at *
                    go_wp2_with fail
                    with_reducible refine (HRd.out _).mono ?_
                    rintro r w7 ⟨rfl, hw⟩
                    rw [hw]; clear hw
                    go_wp2
                    go_ret2
                    exact ⟨by rw [HR3.out]; rfl, HBX.out⟩
                  · have hy45 := HHZ.out.1 hs
                    have q2 : ((y.toNat : Int) == 45) = true := by rw [hy45]; rfl
                    have HRd := Lib.hid (fun w => rRead (⟨#[45]⟩ ++ V) w (by rw [ByteArray.size_append]; show 1 + _ ≤ _; omega))
                    rw [show ((⟨#[45]⟩ : ByteArray) ++ V).data.toList = [45] ++ (base ++ List.replicate q 48) from by rw [toList_append, HVq.out]] at HRd
                    have HR2 := HR.out
                    rw [show sg ++ (base ++ List.replicate q 48) = [45] ++ (base ++ List.replicate q 48) by rw [hs]] at HR2
                    have HR3 := Lib.hid HR2
                    clear HR2 hs hy45 HHZ
                    generalize sEnd ([45] ++ (base ++ List.replicate q 48)) = EE at *
                    generalize y.toNat = Y at *
                    go_wp2_with fail
                    with_reducible refine (HRd.out _).mono ?_
                    rintro r w7 ⟨rfl, hw⟩
                    rw [hw]; clear hw
                    go_wp2
                    go_ret2
                    exact ⟨by rw [HR3.out]; rfl, HBX.out⟩
theorem rwhole_any (s : ByteArray) (w : World) (hz : s.size ≤ 1048576) :
    Calls Tryd.prog 14 #[.string s] w fun e w' => e = .returned (.tuple #[.int .i64 (wEnd s.data.toList).1, .int .i64 (wEnd s.data.toList).2]) ∧ Below w.heap.size w w' := by
  by_cases h : nCode s.data.toList = 0 ∧ nE s.data.toList = s.data.toList.length
  · have hf := form_of h.1 h.2
    rw [wEnd_form hf]
    exact rwhole_good s hf w hz
  · exact rwhole_bad s w hz h
end Go.Proofs.YtemmeoikenbmgaaDoor
