/- Package jnum's Whole. -/
import Derived.Test.YtemmeoikenbmgaaDoorJnWo
namespace Go.Proofs.YtemmeoikenbmgaaDoor
open Go Go.RowKit
set_option linter.unusedVariables false

theorem bs_new (s : ByteArray) : (CS.new s).bs = s.data.toList := by
  unfold CS.bs CS.new
  rw [List.drop_zero]; exact take_all s
theorem nc_new (s : ByteArray) : (CS.new s).nc = nCode s.data.toList := by
  unfold CS.nc
  rw [if_pos (show (CS.new s).er = 0 from rfl), bs_new]
theorem nread_new {b : Nat} {s : ByteArray} {w : World} (h : CurT 40 w b (CS.new s)) (hz : s.size ≤ 1048576) :
    Calls Tryd.prog 9 #[.pointer (some ⟨b, 0, none⟩)] w fun e w' => e = .returned (.string (bA (CS.new s).nt)) ∧ (∃ c', CurT 40 w' b c' ∧ CAt (CS.new s) (nE s.data.toList) (nCode s.data.toList) c') ∧ Only b w w' := by
  have := nread_any h (CS.new_ok (by omega)) (show s.size ≤ 140737488351232 by omega)
  rw [bs_new, nc_new] at this; exact this
theorem end_good {b : Nat} {s : ByteArray} {c' : CS} {w : World} (h : CurT 40 w b c') (hA : CAt (CS.new s) s.size 0 c') :
    Calls Tryd.prog 21 #[.pointer (some ⟨b, 0, none⟩)] w fun e w' => e = .returned (.int .i64 0) ∧ Below w.heap.size w w' := by
  have h1 := hA.2.2.2.2 rfl
  have hE : c'.endC = 0 := by
    unfold CS.endC
    rw [if_neg (fun h => by rw [h1] at h; have : (0 : Nat) + s.size < s.size := h.2; omega)]
    exact hA.2.2.2.1
  have := end_any h hA.1
  rw [hE] at this
  refine this.mono ?_
  rintro e w' ⟨rfl, n, hw⟩
  rw [hw]
  exact ⟨rfl, drew_below w n⟩
theorem end_bad {b k : Nat} {e : Int} {s : ByteArray} {c' : CS} {w : World} (h : CurT 40 w b c') (hA : CAt (CS.new s) k e c') (hk : k ≤ s.size) (hn : ¬ (e = 0 ∧ k = s.size)) :
    ∃ z : Int, z ≠ 0 ∧ Calls Tryd.prog 21 #[.pointer (some ⟨b, 0, none⟩)] w fun e w' => e = .returned (.int .i64 z) ∧ Below w.heap.size w w' := by
  refine ⟨c'.endC, ?_, (end_any h hA.1).mono ?_⟩
  · unfold CS.endC
    by_cases he : e = 0
    · have h1 := hA.2.2.2.2 he
      have h2 : c'.er = 0 := hA.2.2.2.1.trans he
      have h3 : c'.at_ < c'.en := by
        rw [h1]
        show 0 + k < s.size
        have : ¬ k = s.size := fun h => hn ⟨he, h⟩
        omega
      rw [if_pos ⟨h2, h3⟩]; decide
    · have h2 : c'.er = e := hA.2.2.2.1
      rw [if_neg (fun h => he (h2.symm.trans h.1)), h2]; exact he
  · rintro e w' ⟨rfl, n, hw⟩
    rw [hw]
    exact ⟨rfl, drew_below w n⟩
theorem sign_off (l : List UInt8) : Lib.trimPrefix l [45] = l.drop (nA l) ∧ Lib.hasPrefix l [45] = decide (l.take (nA l) = [45]) := by
  obtain ⟨h1, h2⟩ := sign_cut l
  by_cases h : l.head? = some 45
  · obtain ⟨r, rfl⟩ : ∃ r, l = 45 :: r := by
      match l, h with
      | x :: r, h => exact ⟨r, by rw [List.head?_cons] at h; rw [Option.some.inj h]⟩
    have hA : nA (45 :: r) = 1 := pL_cons r rfl
    rw [h2 h, h1, decide_eq_true h, hA]
    exact ⟨rfl, rfl⟩
  · have hA : nA l = 0 := by
      match l, h with
      | [], _ => rfl
      | x :: r, h => exact pL_other r (fun hc => h (by rw [contains_one hc]; rfl))
    rw [h1, decide_eq_false h, hA]
    refine ⟨?_, by rw [List.take_zero]; rfl⟩
    unfold Lib.trimPrefix
    rw [h1, decide_eq_false h]; rfl
theorem nwhole_bad (s : ByteArray) (w : World) (hz : s.size ≤ 1048576) (hn : ¬ (nCode s.data.toList = 0 ∧ nE s.data.toList = s.data.toList.length)) :
    Calls Tryd.prog 13 #[.string s] w fun e w' => e = .returned (.tuple #[.int .i64 (wEnd s.data.toList).1, .int .i64 (wEnd s.data.toList).2]) ∧ Below w.heap.size w w' := by
  rw [wEnd_no hn]
  have hle := nE_len s.data.toList
  rw [toList_size] at hn hle
  have HN := Lib.hid (And.intro hle hn)
  clear hn hle
  go_enter Tryd.func13, Tryd.ntmps13
  go_wp2_with fail
  with_reducible refine (new_cur s _ (by omega)).mono ?_
  rintro r w1 ⟨b, rfl, hb1, hc1, bel1⟩
  go_wp2_with fail
  with_reducible refine (nread_new hc1 (by omega)).mono ?_
  rintro r w2 ⟨rfl, ⟨c', hq2, hA⟩, ho2⟩
  have bel2 := bel1.trans (ho2.below hb1 bel1.size)
  obtain ⟨z, hz0, HE⟩ := end_bad hq2 hA HN.out.1 HN.out.2
  have p1 : (z != 0) = true := by simpa using hz0
  clear hA hz0
  go_wp2_with fail
  with_reducible refine HE.mono ?_
  rintro r w3 ⟨rfl, bel3⟩
  go_wp2
  go_ret2
  exact ⟨rfl, grown_then bel2 bel3⟩

set_option maxRecDepth 20000 in
set_option maxHeartbeats 4000000 in
theorem nwhole_good (s : ByteArray) {sg W F B X P : List UInt8} (hf : NForm s.data.toList sg W F B X P) (w : World) (hz : s.size ≤ 1048576) (hm : MaxL w) :
    Calls Tryd.prog 13 #[.string s] w fun e w' => e = .returned (.tuple #[.int .i64 (nWorth sg W B (pwV P)).1, .int .i64 (nWorth sg W B (pwV P)).2]) ∧ Below w.heap.size w w' := by
  obtain ⟨f1, f2, f3, _, _, _, f7, f8⟩ := form_to hf
  have hlen := congrArg List.length hf.eq
  rw [toList_size, List.length_append, List.length_append, List.length_append] at hlen
  obtain ⟨s1, s2⟩ := sign_off s.data.toList
  rw [f7] at s1
  rw [f3] at s2
  have HC := Lib.hid (fun w => cut_prefix s ⟨#[45]⟩ w)
  rw [show (⟨#[45]⟩ : ByteArray).data.toList = [45] from rfl, s1, s2] at HC
  have HW := Lib.hid (fun w hm => nworth_any (bA (W ++ (F ++ X))) hf (bA_back _) (by rw [bA_size, List.length_append, List.length_append]; omega) w hm)
  have hM := Lib.hid (fun w' h => hm.below (w' := w') h hm.lt)
  have hBl : B.length ≤ F.length := by
    rcases hf.frac with ⟨rfl, rfl⟩ | ⟨rfl, _, _⟩
    · exact Nat.le_refl _
    · simp
  rw [← nWorth_cap 4611686018427387904 (by decide) (by omega)]
  have hcap := capV_in P
  have hWB : (W ++ B).all dIs = true := by
    rw [List.all_append, hf.digs]
    rcases hf.frac with ⟨_, rfl⟩ | ⟨_, _, h⟩
    · rfl
    · exact h
  have hl1 := lz_len (W ++ B)
  rw [List.length_append] at hl1
  have hl2 := cnt_le (lz (W ++ B))
  have HLd := Lib.hid (Lead.of hWB)
  have HSg := Lib.hid hf.sign
  have hE := isEmpty_of (bA (cnt (lz (W ++ B))))
  have sC := bA_size (cnt (lz (W ++ B)))
  unfold nWorth
  generalize lz (W ++ B) = d at *
  obtain ⟨C, hC⟩ : ∃ C, C = capV 4611686018427387904 P := ⟨_, rfl⟩
  rw [← hC] at hcap HW ⊢
  obtain ⟨n, hn⟩ : ∃ n : Int, n = C - (B.length : Nat) := ⟨_, rfl⟩
  rw [← hn] at HW ⊢
  obtain ⟨p, hp⟩ : ∃ p : Int, p = n + (d.length : Nat) - ((cnt d).length : Nat) := ⟨_, rfl⟩
  rw [← hp] at HW
  have HR0 := Lib.hid (fun h => dWorth_prog HSg.out (HLd.out h) hp)
  have HF := Lib.hid (show nCode s.data.toList = 0 ∧ nE s.data.toList = s.size from ⟨f1, by rw [f2, toList_size]⟩)
  have hsz : ∀ T : ByteArray, T.data.toList = d → True := fun _ _ => trivial
  clear f1 f2 f3 f7 f8 s1 s2 hC hsz hm hf
  generalize bA (W ++ (F ++ X)) = T0 at *

  by_cases h0 : d = []
  · have pE : (bA (cnt d)).toList.isEmpty = true := by rw [hE, sC, h0]; rfl
    have HR := Lib.hid (show dWorth sg d n = (0, 0) by unfold dWorth; rw [if_pos h0])
    clear h0 hE sC HR0 HLd HSg hl1 hl2 hcap hlen hBl hn hp hWB
    generalize bA (cnt d) = CT at *
    go_enter Tryd.func13, Tryd.ntmps13
    go_wp2_with fail
    with_reducible refine (new_cur s _ (by omega)).mono ?_
    rintro r w1 ⟨b, rfl, hb1, hc1, bel1⟩
    go_wp2_with fail
    with_reducible refine (nread_new hc1 (by omega)).mono ?_
    rintro r w2 ⟨rfl, ⟨c', hq2, hA⟩, ho2⟩
    rw [HF.out.1, HF.out.2] at hA
    have bel2 := bel1.trans (ho2.below hb1 bel1.size)
    have HE := Lib.hid (end_good hq2 hA)
    clear hA
    go_wp2_with fail
    with_reducible refine HE.out.mono ?_
    rintro r w3 ⟨rfl, bel3⟩
    have bel4 := grown_then bel2 bel3
    have hm4 := Lib.hid (hM.out _ bel4)
    clear bel1 ho2 bel2 bel3 hc1 hq2
    go_wp2_with (go_at_call 22; with_reducible refine (HC.out _).mono ?_; rintro r w5 ⟨rfl, hw⟩; rw [hw]; clear hw)
    with_reducible refine (HW.out _ hm4.out).mono ?_
    rintro r w6 ⟨rfl, bel6⟩
    have bel7 := grown_then bel4 bel6
    go_wp2
    go_ret2
    exact ⟨by rw [HR.out]; rfl, bel7⟩
  · have hne := cnt_ne (HLd.out h0)
    have pE : (bA (cnt d)).toList.isEmpty = false := by rw [hE, sC]; exact decide_eq_false (fun e => hne (List.eq_nil_of_length_eq_zero e))
    have HR1 := HR0.out h0
    have hpos : 0 < (cnt d).length := List.length_pos_iff.mpr hne
    have m1 : IntKind.i64.wrap (19 - ((bA (cnt d)).size : Int)) = 19 - ((bA (cnt d)).size : Int) := i64_small (by rw [sC]; omega) (by omega)
    by_cases h1 : p < 0
    · have p1 : decide (p < 0) = true := decide_eq_true h1
      rw [if_pos h1] at HR1
      have HR := Lib.hid HR1
      clear h1 h0 hne hE HR0 HR1 HLd HSg hl1 hl2 hcap hlen hBl hn hp hWB hpos sC
      generalize bA (cnt d) = CT at *
      go_enter Tryd.func13, Tryd.ntmps13
      go_wp2_with fail
      with_reducible refine (new_cur s _ (by omega)).mono ?_
      rintro r w1 ⟨b, rfl, hb1, hc1, bel1⟩
      go_wp2_with fail
      with_reducible refine (nread_new hc1 (by omega)).mono ?_
      rintro r w2 ⟨rfl, ⟨c', hq2, hA⟩, ho2⟩
      rw [HF.out.1, HF.out.2] at hA
      have bel2 := bel1.trans (ho2.below hb1 bel1.size)
      have HE := Lib.hid (end_good hq2 hA)
      clear hA
      go_wp2_with fail
      with_reducible refine HE.out.mono ?_
      rintro r w3 ⟨rfl, bel3⟩
      have bel4 := grown_then bel2 bel3
      have hm4 := Lib.hid (hM.out _ bel4)
      clear bel1 ho2 bel2 bel3 hc1 hq2
      go_wp2_with (go_at_call 22; with_reducible refine (HC.out _).mono ?_; rintro r w5 ⟨rfl, hw⟩; rw [hw]; clear hw)
      with_reducible refine (HW.out _ hm4.out).mono ?_
      rintro r w6 ⟨rfl, bel6⟩
      have bel7 := grown_then bel4 bel6
      go_wp2
      go_ret2
      exact ⟨by rw [HR.out]; rfl, bel7⟩
    · have p1 : decide (p < 0) = false := decide_eq_false h1
      rw [if_neg h1] at HR1
      by_cases h2 : 19 - ((cnt d).length : Int) < p
      · have p2 : decide (19 - ((bA (cnt d)).size : Int) < p) = true := decide_eq_true (by rw [sC]; exact h2)
        rw [if_pos h2] at HR1
        have HR := Lib.hid HR1
        clear h1 h0 hne hE HR0 HR1 HLd HSg hl1 hl2 hcap hlen hBl hn hp hWB hpos h2 sC
        generalize bA (cnt d) = CT at *
        go_enter Tryd.func13, Tryd.ntmps13
        go_wp2_with fail
        with_reducible refine (new_cur s _ (by omega)).mono ?_
        rintro r w1 ⟨b, rfl, hb1, hc1, bel1⟩
        go_wp2_with fail
        with_reducible refine (nread_new hc1 (by omega)).mono ?_
        rintro r w2 ⟨rfl, ⟨c', hq2, hA⟩, ho2⟩
        rw [HF.out.1, HF.out.2] at hA
        have bel2 := bel1.trans (ho2.below hb1 bel1.size)
        have HE := Lib.hid (end_good hq2 hA)
        clear hA
        go_wp2_with fail
        with_reducible refine HE.out.mono ?_
        rintro r w3 ⟨rfl, bel3⟩
        have bel4 := grown_then bel2 bel3
        have hm4 := Lib.hid (hM.out _ bel4)
        clear bel1 ho2 bel2 bel3 hc1 hq2
        go_wp2_with (go_at_call 22; with_reducible refine (HC.out _).mono ?_; rintro r w5 ⟨rfl, hw⟩; rw [hw]; clear hw)
        with_reducible refine (HW.out _ hm4.out).mono ?_
        rintro r w6 ⟨rfl, bel6⟩
        have bel7 := grown_then bel4 bel6
        go_wp2
        go_ret2
        exact ⟨by rw [HR.out]; rfl, bel7⟩
      · have p2 : decide (19 - ((bA (cnt d)).size : Int) < p) = false := decide_eq_false (by rw [sC]; exact h2)
        rw [if_neg h2] at HR1
        obtain ⟨q, hq⟩ : ∃ q : Nat, (q : Int) = p := ⟨p.toNat, by omega⟩
        have hq18 : q ≤ 18 := by omega
        rw [← hq] at HW p1 p2 HR1
        rw [Int.toNat_natCast] at HR1
        have HRep := Lib.hid (fun w => repeat_any q w (by omega))
        have sZ := bA_size (List.replicate q 48)
        rw [List.length_replicate] at sZ
        have hT1 : (bA (cnt d) ++ bA (List.replicate q 48)).data.toList = cnt d ++ List.replicate q 48 := by rw [toList_append, bA_back, bA_back]
        have sT : (bA (cnt d) ++ bA (List.replicate q 48)).size ≤ 2097252 := by rw [ByteArray.size_append, sC, sZ]; omega
        rcases HSg.out with hs | hs
        · rw [hs] at HR1 HC
          rw [show decide (([] : List UInt8) = [45]) = false from rfl] at HC
          have HD := Lib.hid (fun w => dRead (bA (cnt d) ++ bA (List.replicate q 48)) w (by omega))
          rw [hT1] at HD
          rw [List.nil_append] at HR1
          have HR := Lib.hid HR1
          have n1 : (bA (cnt d)).size ≤ 2097152 := by rw [sC]; omega
          have n2 : (bA (List.replicate q 48)).size ≤ 100 := by rw [sZ]; omega
          rw [hs]
          clear h1 h0 hne hE HR0 HR1 HLd hl1 hl2 hcap hlen hBl hn hp hWB hpos h2 sC hq hq18 sZ hT1 hs HSg
          generalize bA (cnt d) = CT at *
          generalize bA (List.replicate q 48) = ZT at *
          generalize sEnd (cnt d ++ List.replicate q 48) = E at *
          go_enter Tryd.func13, Tryd.ntmps13
          go_wp2_with fail
          with_reducible refine (new_cur s _ (by omega)).mono ?_
          rintro r w1 ⟨b, rfl, hb1, hc1, bel1⟩
          go_wp2_with fail
          with_reducible refine (nread_new hc1 (by omega)).mono ?_
          rintro r w2 ⟨rfl, ⟨c', hq2, hA⟩, ho2⟩
          rw [HF.out.1, HF.out.2] at hA
          have bel2 := bel1.trans (ho2.below hb1 bel1.size)
          have HE := Lib.hid (end_good hq2 hA)
          clear hA
          go_wp2_with fail
          with_reducible refine HE.out.mono ?_
          rintro r w3 ⟨rfl, bel3⟩
          have bel4 := grown_then bel2 bel3
          have hm4 := Lib.hid (hM.out _ bel4)
          clear bel1 ho2 bel2 bel3 hc1 hq2
          go_wp2_with (go_at_call 22; with_reducible refine (HC.out _).mono ?_; rintro r w5 ⟨rfl, hw⟩; rw [hw]; clear hw)
          with_reducible refine (HW.out _ hm4.out).mono ?_
          rintro r w6 ⟨rfl, bel6⟩
          have bel7 := grown_then bel4 bel6
          go_wp2_with fail
          with_reducible refine (HRep.out _).mono ?_
          rintro r w8 ⟨rfl, bel8⟩
          go_wp2_with fail
          with_reducible refine (HD.out _).mono ?_
          rintro r w9 ⟨rfl, hw⟩
          rw [hw]; clear hw
          go_wp2
          go_ret2
          exact ⟨by rw [HR.out]; rfl, grown_then bel7 bel8⟩
        · rw [hs] at HR1 HC
          rw [show decide (([45] : List UInt8) = [45]) = true from rfl] at HC
          have HD := Lib.hid (fun w => dRead ((⟨#[45]⟩ : ByteArray) ++ (bA (cnt d) ++ bA (List.replicate q 48))) w (by rw [ByteArray.size_append]; show 1 + _ ≤ _; omega))
          rw [show ((⟨#[45]⟩ : ByteArray) ++ (bA (cnt d) ++ bA (List.replicate q 48))).data.toList = [45] ++ (cnt d ++ List.replicate q 48) from by rw [toList_append, hT1]] at HD
          have HR := Lib.hid HR1
          have n1 : (bA (cnt d)).size ≤ 2097152 := by rw [sC]; omega
          have n2 : (bA (List.replicate q 48)).size ≤ 100 := by rw [sZ]; omega
          rw [hs]
          clear h1 h0 hne hE HR0 HR1 HLd hl1 hl2 hcap hlen hBl hn hp hWB hpos h2 sC hq hq18 sZ hT1 hs HSg
          generalize bA (cnt d) = CT at *
          generalize bA (List.replicate q 48) = ZT at *
          generalize sEnd ([45] ++ (cnt d ++ List.replicate q 48)) = E at *
          go_enter Tryd.func13, Tryd.ntmps13
          go_wp2_with fail
          with_reducible refine (new_cur s _ (by omega)).mono ?_
          rintro r w1 ⟨b, rfl, hb1, hc1, bel1⟩
          go_wp2_with fail
          with_reducible refine (nread_new hc1 (by omega)).mono ?_
          rintro r w2 ⟨rfl, ⟨c', hq2, hA⟩, ho2⟩
          rw [HF.out.1, HF.out.2] at hA
          have bel2 := bel1.trans (ho2.below hb1 bel1.size)
          have HE := Lib.hid (end_good hq2 hA)
          clear hA
          go_wp2_with fail
          with_reducible refine HE.out.mono ?_
          rintro r w3 ⟨rfl, bel3⟩
          have bel4 := grown_then bel2 bel3
          have hm4 := Lib.hid (hM.out _ bel4)
          clear bel1 ho2 bel2 bel3 hc1 hq2
          go_wp2_with (go_at_call 22; with_reducible refine (HC.out _).mono ?_; rintro r w5 ⟨rfl, hw⟩; rw [hw]; clear hw)
          with_reducible refine (HW.out _ hm4.out).mono ?_
          rintro r w6 ⟨rfl, bel6⟩
          have bel7 := grown_then bel4 bel6
          go_wp2_with fail
          with_reducible refine (HRep.out _).mono ?_
          rintro r w8 ⟨rfl, bel8⟩
          go_wp2_with fail
          with_reducible refine (HD.out _).mono ?_
          rintro r w9 ⟨rfl, hw⟩
          rw [hw]; clear hw
          go_wp2
          go_ret2
          exact ⟨by rw [HR.out]; rfl, grown_then bel7 bel8⟩
theorem nwhole_any (s : ByteArray) (w : World) (hz : s.size ≤ 1048576) (hm : MaxL w) :
    Calls Tryd.prog 13 #[.string s] w fun e w' => e = .returned (.tuple #[.int .i64 (wEnd s.data.toList).1, .int .i64 (wEnd s.data.toList).2]) ∧ Below w.heap.size w w' := by
  by_cases h : nCode s.data.toList = 0 ∧ nE s.data.toList = s.data.toList.length
  · have hf := form_of h.1 h.2
    rw [wEnd_form hf]
    exact nwhole_good s hf w hz hm
  · exact nwhole_bad s w hz h
end Go.Proofs.YtemmeoikenbmgaaDoor
