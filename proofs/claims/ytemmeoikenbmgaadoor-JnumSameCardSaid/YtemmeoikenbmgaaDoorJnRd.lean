/- Package jnum's Read. -/
import Derived.Test.YtemmeoikenbmgaaDoorJnPer
namespace Go.Proofs.YtemmeoikenbmgaaDoor
open Go Go.RowKit
set_option linter.unusedVariables false

def CS.eBc (c : CS) : Int := if c.er = 0 then eB c.bs else c.er
def CS.eCc (c : CS) : Int := if c.er = 0 then eC c.bs else c.er
/-- What is wrong with the number that begins here. -/
def CS.nc (c : CS) : Int := if c.er = 0 then nCode c.bs else c.er
/-- Its text. -/
def CS.nt (c : CS) : List UInt8 := if c.nc = 0 then c.bs.take (nE c.bs) else []
/-- What a stage leaves: the text so far, and where the cursor is. -/
def NRdRel (c : CS) (b : Nat) (W : World) (k : Nat) (e : Int) (N : Nat) (v : Value) (wr : World) : Prop :=
  ∃ (T : ByteArray) (c' : CS), v = .string T ∧ (e = 0 → T = bA (c.bs.take k)) ∧ T.size ≤ N ∧ CAt c k e c' ∧ CurT 40 wr b c' ∧ Only b W wr

theorem bA_two (l : List UInt8) (k d : Nat) : bA (l.take k) ++ bA ((l.drop k).take d) = bA (l.take (k + d)) := by
  rw [bA_append, ← List.take_add]
theorem pk_yes {c : CS} {ts : List UInt8} (h : c.pk ts = 1) : c.er = 0 ∧ pL ts c.bs = 1 := by
  unfold CS.pk at h
  by_cases h0 : c.er = 0
  · rw [if_pos h0] at h; exact ⟨h0, h⟩
  · rw [if_neg h0] at h; omega
theorem pk_no {c : CS} {ts : List UInt8} (h : ¬ c.pk ts = 1) (h0 : c.er = 0) : ¬ pL ts c.bs = 1 := by
  unfold CS.pk at h
  rwa [if_pos h0] at h
theorem pk_text {c : CS} {ts : List UInt8} (h : c.pk ts = 1) : (bA (c.bs.take (c.pk ts))).size = 1 := by
  have := c.pk_le ts
  rw [bA_size, List.length_take]; omega
theorem stage1_z {c : CS} (h : (c.past (c.pk [45])).pk [48] = 1) : c.er = 0 ∧ c.eBc = 0 ∧ c.pk [45] = nA c.bs ∧ nB c.bs = c.pk [45] + 1 := by
  obtain ⟨h0, h1⟩ := pk_yes h
  have h0' : c.er = 0 := h0
  have hA : c.pk [45] = nA c.bs := by unfold CS.pk nA; rw [if_pos h0']
  rw [CS.bs_past, hA] at h1
  refine ⟨h0', ?_, hA, ?_⟩
  · unfold CS.eBc eB iE; rw [if_pos h0', if_pos h1]
  · unfold nB iL; rw [if_pos h1, hA]
theorem stage1_d {c : CS} (h : ¬ (c.past (c.pk [45])).pk [48] = 1) : (c.past (c.pk [45])).de = c.eBc ∧ (c.eBc = 0 → nB c.bs = c.pk [45] + (c.past (c.pk [45])).dk) := by
  by_cases h0 : c.er = 0
  · have hA : c.pk [45] = nA c.bs := by unfold CS.pk nA; rw [if_pos h0]
    have h0' : (c.past (c.pk [45])).er = 0 := h0
    have h1 := pk_no h h0'
    rw [CS.bs_past, hA] at h1
    refine ⟨?_, fun _ => ?_⟩
    · unfold CS.de CS.eBc eB iE; rw [if_pos h0', if_pos h0, if_neg h1, CS.bs_past, hA]
    · unfold CS.dk nB iL; rw [if_pos h0', if_neg h1, CS.bs_past, hA]
  · have h0' : ¬ (c.past (c.pk [45])).er = 0 := h0
    refine ⟨?_, fun e => ?_⟩
    · unfold CS.de CS.eBc; rw [if_neg h0', if_neg h0]; rfl
    · unfold CS.eBc at e; rw [if_neg h0] at e; exact absurd e h0
theorem CAt.zero {c c' : CS} {k : Nat} {e : Int} (h : CAt c k e c') (h0 : c'.er = 0) : e = 0 ∧ c' = c.past k ∧ c.er = 0 := by
  have he : e = 0 := h.2.2.2.1.symm.trans h0
  have h1 := h.2.2.2.2 he
  exact ⟨he, h1, by rw [h1] at h0; exact h0⟩
theorem stage2_f {c c' : CS} (hA : CAt c (nB c.bs) c.eBc c') (h : c'.pk [46] = 1) : c.eBc = 0 ∧ c' = c.past (nB c.bs) ∧ (c'.past 1).de = c.eCc ∧ (c.eCc = 0 → nC c.bs = nB c.bs + (1 + (c'.past 1).dk)) := by
  obtain ⟨h0, h1⟩ := pk_yes h
  obtain ⟨e1, e2, e3⟩ := hA.zero h0
  have h0' : (c'.past 1).er = 0 := h0
  have hb : c'.bs = c.bs.drop (nB c.bs) := by rw [e2, CS.bs_past]
  have hb1 : (c'.past 1).bs = (c.bs.drop (nB c.bs)).drop 1 := by rw [CS.bs_past, hb]
  rw [hb] at h1
  have e1' := e1
  unfold CS.eBc at e1'
  rw [if_pos e3] at e1'
  refine ⟨e1, e2, ?_, fun _ => ?_⟩
  · unfold CS.de CS.eCc eC fE; rw [if_pos h0', if_pos e3, if_pos e1', if_pos h1, hb1]
  · unfold CS.dk nC fL; rw [if_pos h0', if_pos h1, hb1]
theorem stage2_n {c c' : CS} (hA : CAt c (nB c.bs) c.eBc c') (h : ¬ c'.pk [46] = 1) : CAt c (nC c.bs) c.eCc c' ∧ (c.eCc = 0 → c.eBc = 0 ∧ nC c.bs = nB c.bs) := by
  by_cases he : c.eBc = 0
  · have h1 := hA.2.2.2.2 he
    have h0 : c'.er = 0 := hA.2.2.2.1.trans he
    obtain ⟨_, _, e3⟩ := hA.zero h0
    have hn := pk_no h h0
    rw [h1, CS.bs_past] at hn
    have e1' := he
    unfold CS.eBc at e1'
    rw [if_pos e3] at e1'
    have e4 : c.eCc = c.eBc := by
      unfold CS.eCc eC fE; rw [if_pos e3, if_pos e1', if_neg hn, he]
    have e5 : nC c.bs = nB c.bs := by unfold nC fL; rw [if_neg hn]; rfl
    rw [e4, e5]; exact ⟨hA, fun _ => ⟨he, rfl⟩⟩
  · have e4 : c.eCc = c.eBc := by
      unfold CS.eCc CS.eBc eC
      by_cases h0 : c.er = 0
      · have he' := he
        unfold CS.eBc at he'
        rw [if_pos h0] at he'
        rw [if_pos h0, if_pos h0, if_neg he']
      · rw [if_neg h0, if_neg h0]
    rw [e4]
    exact ⟨hA.no he, fun e => absurd e he⟩
theorem stage3_x {c c' : CS} (hA : CAt c (nC c.bs) c.eCc c') (h : c'.pk [101, 69] = 1) : c.eCc = 0 ∧ c' = c.past (nC c.bs) ∧ ((c'.past 1).past ((c'.past 1).pk [43, 45])).de = c.nc ∧ (c.nc = 0 → nE c.bs = nC c.bs + (1 + (c'.past 1).pk [43, 45] + ((c'.past 1).past ((c'.past 1).pk [43, 45])).dk)) := by
  obtain ⟨h0, h1⟩ := pk_yes h
  obtain ⟨e1, e2, e3⟩ := hA.zero h0
  have h0' : (c'.past 1).er = 0 := h0
  have hb : c'.bs = c.bs.drop (nC c.bs) := by rw [e2, CS.bs_past]
  have hb1 : (c'.past 1).bs = (c.bs.drop (nC c.bs)).drop 1 := by rw [CS.bs_past, hb]
  rw [hb] at h1
  have hS : 1 + (c'.past 1).pk [43, 45] = xS (c.bs.drop (nC c.bs)) := by unfold CS.pk xS; rw [if_pos h0', hb1]
  have h0'' : ((c'.past 1).past ((c'.past 1).pk [43, 45])).er = 0 := h0
  have hb2 : ((c'.past 1).past ((c'.past 1).pk [43, 45])).bs = (c.bs.drop (nC c.bs)).drop (xS (c.bs.drop (nC c.bs))) := by rw [CS.past_past, CS.bs_past, hb, hS]
  have e1' := e1
  unfold CS.eCc at e1'
  rw [if_pos e3] at e1'
  refine ⟨e1, e2, ?_, fun _ => ?_⟩
  · unfold CS.de CS.nc nCode xE; rw [if_pos h0'', if_pos e3, if_pos e1', if_pos h1, hb2]
  · unfold CS.dk nE xL; rw [if_pos h0'', if_pos h1, hb2, hS]
theorem stage3_n {c c' : CS} (hA : CAt c (nC c.bs) c.eCc c') (h : ¬ c'.pk [101, 69] = 1) : CAt c (nE c.bs) c.nc c' ∧ (c.nc = 0 → c.eCc = 0 ∧ nE c.bs = nC c.bs) := by
  by_cases he : c.eCc = 0
  · have h1 := hA.2.2.2.2 he
    have h0 : c'.er = 0 := hA.2.2.2.1.trans he
    obtain ⟨_, _, e3⟩ := hA.zero h0
    have hn := pk_no h h0
    rw [h1, CS.bs_past] at hn
    have e1' := he
    unfold CS.eCc at e1'
    rw [if_pos e3] at e1'
    have e4 : c.nc = c.eCc := by
      unfold CS.nc nCode xE; rw [if_pos e3, if_pos e1', if_neg hn, he]
    have e5 : nE c.bs = nC c.bs := by unfold nE xL; rw [if_neg hn]; rfl
    rw [e4, e5]; exact ⟨hA, fun _ => ⟨he, rfl⟩⟩
  · have e4 : c.nc = c.eCc := by
      unfold CS.nc CS.eCc nCode
      by_cases h0 : c.er = 0
      · have he' := he
        unfold CS.eCc at he'
        rw [if_pos h0] at he'
        rw [if_pos h0, if_pos h0, if_neg he']
      · rw [if_neg h0, if_neg h0]
    rw [e4]
    exact ⟨hA.no he, fun e => absurd e he⟩
theorem bs_upto {c : CS} (hc : c.ok) (hs : c.s.size ≤ 140737488351232) (k : Nat) : (bA (c.bs.take k)).size ≤ 140737488351232 := by
  have := CS.bs_length hc
  have := hc.2.1
  rw [bA_size, List.length_take]; omega
set_option maxRecDepth 20000 in
set_option maxHeartbeats 4000000 in
theorem nread_any {b : Nat} {c : CS} {w : World} (h : CurT 40 w b c) (hc : c.ok) (hs : c.s.size ≤ 140737488351232) :
    Calls Tryd.prog 9 #[.pointer (some ⟨b, 0, none⟩)] w fun e w' => e = .returned (.string (bA c.nt)) ∧ (∃ c', CurT 40 w' b c' ∧ CAt c (nE c.bs) c.nc c') ∧ Only b w w' := by
  have HC := Lib.hid (And.intro hc hs)
  have HP0 : Hid (Calls Tryd.prog 17 #[.pointer (some ⟨b, 0, none⟩), .string ⟨#[45]⟩] w fun e w' => e = .returned (.string (bA (c.bs.take (c.pk [45])))) ∧ CurT 40 w' b (c.past (c.pk [45])) ∧ Only b w w') := Lib.hid (per_any h hc ⟨#[45]⟩)
  have hM1 := bs_upto hc hs (c.pk [45])
  obtain ⟨M, hM⟩ : ∃ M, M = bA (c.bs.take (c.pk [45])) := ⟨_, rfl⟩
  have HM := Lib.hid hM
  rw [← hM] at HP0 hM1
  have hok1 := CS.past_fine hc (c.pk_le [45])
  have hbl := h.lt
  have HZ1 := Lib.hid (stage1_z (c := c))
  have HD1 := Lib.hid (stage1_d (c := c))
  obtain ⟨c1, hc1⟩ : ∃ c1, c1 = c.past (c.pk [45]) := ⟨_, rfl⟩
  have HE1 := Lib.hid hc1
  have hs1 : c1.s.size ≤ 140737488351232 := by rw [hc1]; exact hs
  rw [← hc1] at HP0 hok1 HZ1 HD1
  have hZ1 := bs_upto hok1 hs1 (c1.pk [48])
  have HP1 : Hid (∀ w, CurT 40 w b c1 → Calls Tryd.prog 17 #[.pointer (some ⟨b, 0, none⟩), .string ⟨#[48]⟩] w fun e w' => e = .returned (.string (bA (c1.bs.take (c1.pk [48])))) ∧ CurT 40 w' b (c1.past (c1.pk [48])) ∧ Only b w w') := Lib.hid (fun w h => per_any h hok1 ⟨#[48]⟩)
  have HZt := Lib.hid (pk_text (c := c1) (ts := [48]))
  have HZo := Lib.hid (c1.pk_one [48])
  obtain ⟨Z, hZ⟩ : ∃ Z, Z = bA (c1.bs.take (c1.pk [48])) := ⟨_, rfl⟩
  have HZ := Lib.hid hZ
  rw [← hZ] at HP1 HZt hZ1
  have HK1 := Lib.hid (And.intro hok1 hs1)
  clear hM hc1 hZ hok1 hs1 hc h
  go_enter Tryd.func9, Tryd.ntmps9
  go_wp2_with fail
  with_reducible refine HP0.out.mono ?_
  rintro e w1 ⟨rfl, hq1, ho1⟩
  go_wp2_with fail
  with_reducible refine (HP1.out _ hq1).mono ?_
  rintro e w2 ⟨rfl, hq2, ho2⟩
  have ho3 := ho1.trans ho2
  clear HP0 HP1 hq1 ho1 ho2
  go_upto_if 12 with fail
  go_cut [3] from 7 (fun v wr => NRdRel c b w (nB c.bs) c.eBc 422212465065984 v wr)
  case first =>
    by_cases hz : c1.pk [48] = 1
    · have pE : (!Z.toList.isEmpty) = true := by rw [isEmpty_of, HZt.out hz]; rfl
      have HR := Lib.hid (HZ1.out hz)
      have HY := Lib.hid hz
      clear hz
      rw [pE]
      go_wp2_with fail
      go_meet
      case rel =>
        obtain ⟨r1, r2, r3, r4⟩ := HR.out
        have e0 : (nB c.bs) ≤ c.bs.length := nB_len _
        refine ⟨M ++ Z, _, rfl, fun _ => ?_, by rw [ByteArray.size_append]; omega, ?_, hq2, ho3⟩
        · rw [HM.out, HZ.out, HE1.out, CS.bs_past, r4]
          rw [HE1.out] at HY
          rw [HY.out, bA_two]
        · rw [HY.out, HE1.out, CS.past_past, r2, ← r4]
          exact CAt.past HC.out.1 r1 e0
    · have pE : (!Z.toList.isEmpty) = false := by
        have h1 := HZo.out
        rw [isEmpty_of, HZ.out, bA_size, List.length_take, decide_eq_true (by omega)]; rfl
      have HR := Lib.hid (HD1.out hz)
      have hpk : c1.pk [48] = 0 := by have := HZo.out; omega
      rw [hpk, CS.past_zero] at hq2
      have hD1 := bs_upto HK1.out.1 HK1.out.2 c1.dk
      have HG := Lib.hid (dig_any hq2 HK1.out.1 HK1.out.2)
      obtain ⟨D, hD⟩ : ∃ D, D = bA (c1.bs.take c1.dk) := ⟨_, rfl⟩
      rw [← hD] at HG hD1
      have HDD := Lib.hid hD
      clear hz hpk hD
      rw [pE]
      go_wp2_with fail
      with_reducible refine HG.out.mono ?_
      rintro e w3 ⟨rfl, ⟨c3, hq3, hA3⟩, ho4⟩
      go_wp2_with fail
      go_meet
      case rel =>
        obtain ⟨r1, r2⟩ := HR.out
        have hA4 : CAt c (c.pk [45] + c1.dk) c.eBc c3 := by
          rw [← r1]
          exact CAt.more (by rw [← HE1.out]; exact hA3)
        refine ⟨M ++ D, c3, rfl, fun he => ?_, by rw [ByteArray.size_append]; omega, ?_, hq3, ho3.trans ho4⟩
        · rw [HM.out, HDD.out, r2 he, HE1.out, CS.bs_past, bA_two]
        · by_cases he : c.eBc = 0
          · rw [r2 he]; exact hA4
          · exact hA4.no he
  case rest =>
    clear HZ1 HD1 HZo HZt HZ HK1 HE1 HM hM1 hZ1 hq2 ho3
    obtain ⟨T, c3, rfl, hT, hTs, hA3, hq3, ho4⟩ := hcut
    have HT := Lib.hid hT
    have hok3 := hA3.1
    have hs3 : c3.s.size ≤ 140737488351232 := by rw [hA3.2.1]; exact hs
    have HF := Lib.hid (stage2_f hA3)
    have HN := Lib.hid (stage2_n hA3)
    have hF1 := bs_upto hok3 hs3 (c3.pk [46])
    have HP3 : Hid (Calls Tryd.prog 17 #[.pointer (some ⟨b, 0, none⟩), .string ⟨#[46]⟩] wc fun e w' => e = .returned (.string (bA (c3.bs.take (c3.pk [46])))) ∧ CurT 40 w' b (c3.past (c3.pk [46])) ∧ Only b wc w') := Lib.hid (per_any hq3 hok3 ⟨#[46]⟩)
    have HFt := Lib.hid (pk_text (c := c3) (ts := [46]))
    have HFo := Lib.hid (c3.pk_one [46])
    obtain ⟨F, hF⟩ : ∃ F, F = bA (c3.bs.take (c3.pk [46])) := ⟨_, rfl⟩
    have HFF := Lib.hid hF
    rw [← hF] at HP3 HFt hF1
    have HK3 := Lib.hid (And.intro hok3 hs3)
    have HA3 := Lib.hid hA3
    clear hF hT hok3 hs3 hA3 hq3
    go_wp2_with fail
    with_reducible refine HP3.out.mono ?_
    rintro e w5 ⟨rfl, hq5, ho5⟩
    have ho6 := ho4.trans ho5
    clear HP3 ho4 ho5
    go_upto_if 23 with fail
    go_cut [3] from 7 (fun v wr => NRdRel c b w (nC c.bs) c.eCc 985162418487296 v wr)
    case first =>
      by_cases hz : c3.pk [46] = 1
      · have pE : (!F.toList.isEmpty) = true := by rw [isEmpty_of, HFt.out hz]; rfl
        have HR := Lib.hid (HF.out hz)
        rw [hz] at hq5 HFF
        have hk1 : 1 ≤ c3.bs.length := by rw [← hz]; exact c3.pk_le _
        have hok4 := CS.past_fine HK3.out.1 hk1
        have hs4 : (c3.past 1).s.size ≤ 140737488351232 := HK3.out.2
        have hD1 := bs_upto hok4 hs4 (c3.past 1).dk
        have HG := Lib.hid (dig_any hq5 hok4 hs4)
        obtain ⟨D, hD⟩ : ∃ D, D = bA ((c3.past 1).bs.take (c3.past 1).dk) := ⟨_, rfl⟩
        rw [← hD] at HG hD1
        have HDD := Lib.hid hD
        clear hz hD hk1 hok4 hs4
        rw [pE]
        go_wp2_with fail
        with_reducible refine HG.out.mono ?_
        rintro e w6 ⟨rfl, ⟨c5, hq7, hA5⟩, ho7⟩
        go_wp2_with fail
        go_meet
        case rel =>
          obtain ⟨r1, r2, r3, r4⟩ := HR.out
          have hA6 : CAt c (nB c.bs + (1 + (c3.past 1).dk)) c.eCc c5 := by
            rw [← r3, ← Nat.add_assoc]
            refine CAt.more (j := nB c.bs + 1) ?_
            have := hA5
            rw [r2, CS.past_past] at this
            rw [r2, CS.past_past]; exact this
          refine ⟨T ++ (F ++ D), c5, rfl, fun he => ?_, by rw [ByteArray.size_append, ByteArray.size_append]; omega, ?_, hq7, ho6.trans ho7⟩
          · rw [HT.out r1, HFF.out, HDD.out, r4 he, CS.bs_past, bA_two, show c3.bs = c.bs.drop (nB c.bs) by rw [r2, CS.bs_past], bA_two]
          · by_cases he : c.eCc = 0
            · rw [r4 he]; exact hA6
            · exact hA6.no he
      · have pE : (!F.toList.isEmpty) = false := by
          have h1 := HFo.out
          rw [isEmpty_of, HFF.out, bA_size, List.length_take, decide_eq_true (by omega)]; rfl
        have HR := Lib.hid (HN.out hz)
        have hpk : c3.pk [46] = 0 := by have := HFo.out; omega
        rw [hpk, CS.past_zero] at hq5
        clear hz hpk
        rw [pE]
        go_wp2_with fail
        go_meet
        case rel =>
          obtain ⟨r1, r2⟩ := HR.out
          exact ⟨T, c3, rfl, fun he => by rw [HT.out (r2 he).1, (r2 he).2], by omega, r1, hq5, ho6⟩
    case rest =>
      clear HF HN hF1 HFt HFo HFF HK3 HA3 HT hTs hq5 ho6
      obtain ⟨U, c5, rfl, hU, hUs, hA5, hq7, ho7⟩ := hcut
      have HU := Lib.hid hU
      have hok5 := hA5.1
      have hs5 : c5.s.size ≤ 140737488351232 := by rw [hA5.2.1]; exact hs
      have HX := Lib.hid (stage3_x hA5)
      have HN := Lib.hid (stage3_n hA5)
      have hX1 := bs_upto hok5 hs5 (c5.pk [101, 69])
      have HP5 : Hid (Calls Tryd.prog 17 #[.pointer (some ⟨b, 0, none⟩), .string ⟨#[101, 69]⟩] wc fun e w' => e = .returned (.string (bA (c5.bs.take (c5.pk [101, 69])))) ∧ CurT 40 w' b (c5.past (c5.pk [101, 69])) ∧ Only b wc w') := Lib.hid (per_any hq7 hok5 ⟨#[101, 69]⟩)
      have HXt := Lib.hid (pk_text (c := c5) (ts := [101, 69]))
      have HXo := Lib.hid (c5.pk_one [101, 69])
      obtain ⟨X, hX⟩ : ∃ X, X = bA (c5.bs.take (c5.pk [101, 69])) := ⟨_, rfl⟩
      have HXX := Lib.hid hX
      rw [← hX] at HP5 HXt hX1
      have HK5 := Lib.hid (And.intro hok5 hs5)
      clear hX hU hok5 hs5 hA5 hq7
      go_wp2_with fail
      with_reducible refine HP5.out.mono ?_
      rintro e w8 ⟨rfl, hq8, ho8⟩
      have ho9 := ho7.trans ho8
      clear HP5 ho7 ho8
      go_upto_if 33 with fail
      go_cut [3] from 7 (fun v wr => NRdRel c b w (nE c.bs) c.nc 1688849860263936 v wr)
      case first =>
        by_cases hz : c5.pk [101, 69] = 1
        · have pE : (!X.toList.isEmpty) = true := by rw [isEmpty_of, HXt.out hz]; rfl
          have HR := Lib.hid (HX.out hz)
          rw [hz] at hq8 HXX
          have hk1 : 1 ≤ c5.bs.length := by rw [← hz]; exact c5.pk_le _
          have hok6 := CS.past_fine HK5.out.1 hk1
          have hs6 : (c5.past 1).s.size ≤ 140737488351232 := HK5.out.2
          obtain ⟨c6, hc6⟩ : ∃ c6, c6 = c5.past 1 := ⟨_, rfl⟩
          have H6 := Lib.hid (And.intro hc6 (show c6.bs = c5.bs.drop 1 by rw [hc6]; exact CS.bs_past _ _))
          rw [← hc6] at hok6 hs6 hq8 HR
          have hS1 := bs_upto hok6 hs6 (c6.pk [43, 45])
          have HP6 : Hid (Calls Tryd.prog 17 #[.pointer (some ⟨b, 0, none⟩), .string ⟨#[43, 45]⟩] w8 fun e w' => e = .returned (.string (bA (c6.bs.take (c6.pk [43, 45])))) ∧ CurT 40 w' b (c6.past (c6.pk [43, 45])) ∧ Only b w8 w') := Lib.hid (per_any hq8 hok6 ⟨#[43, 45]⟩)
          obtain ⟨S, hS⟩ : ∃ S, S = bA (c6.bs.take (c6.pk [43, 45])) := ⟨_, rfl⟩
          have HSS := Lib.hid hS
          rw [← hS] at HP6 hS1
          have hok7 := CS.past_fine hok6 (c6.pk_le [43, 45])
          obtain ⟨c7, hc7⟩ : ∃ c7, c7 = c6.past (c6.pk [43, 45]) := ⟨_, rfl⟩
          have hs7 : c7.s.size ≤ 140737488351232 := by rw [hc7]; exact hs6
          have H7 := Lib.hid (And.intro hc7 (show c7.bs = c6.bs.drop (c6.pk [43, 45]) by rw [hc7]; exact CS.bs_past _ _))
          rw [← hc7] at hok7 HP6 HR
          have hD1 := bs_upto hok7 hs7 c7.dk
          have HG := Lib.hid (fun w h => dig_any (w := w) (b := b) h hok7 hs7)
          obtain ⟨D, hD⟩ : ∃ D, D = bA (c7.bs.take c7.dk) := ⟨_, rfl⟩
          rw [← hD] at HG hD1
          have HDD := Lib.hid hD
          clear hz hD hk1 hok6 hs6 hc6 hS hok7 hs7 hc7 hq8
          rw [pE]
          go_wp2_with fail
          with_reducible refine HP6.out.mono ?_
          rintro e w10 ⟨rfl, hq10, ho10⟩
          go_wp2_with fail
          with_reducible refine (HG.out _ hq10).mono ?_
          rintro e w11 ⟨rfl, ⟨c8, hq11, hA8⟩, ho11⟩
          go_wp2_with fail
          go_meet
          case rel =>
            obtain ⟨r1, r2, r3, r4⟩ := HR.out
            have e6 : c6 = c.past (nC c.bs + 1) := by rw [H6.out.1, r2, CS.past_past]
            have e7 : c7 = c.past (nC c.bs + 1 + c6.pk [43, 45]) := by
              have := H7.out.1
              rw [this]
              have e8 : ∀ k, c6.past k = c.past (nC c.bs + 1 + k) := fun k => by rw [e6, CS.past_past]
              exact e8 _
            have hA9 : CAt c (nC c.bs + (1 + c6.pk [43, 45] + c7.dk)) c.nc c8 := by
              rw [← r3, ← Nat.add_assoc, ← Nat.add_assoc]
              refine CAt.more (j := nC c.bs + 1 + c6.pk [43, 45]) ?_
              rw [← e7]; exact hA8
            refine ⟨U ++ (X ++ S ++ D), c8, rfl, fun he => ?_, by rw [ByteArray.size_append, ByteArray.size_append, ByteArray.size_append]; omega, ?_, hq11, (ho9.trans ho10).trans ho11⟩
            · have b5 : c5.bs = c.bs.drop (nC c.bs) := by rw [r2, CS.bs_past]
              have b7 : c7.bs = c5.bs.drop (1 + c6.pk [43, 45]) := by rw [H7.out.2, H6.out.2, List.drop_drop]
              rw [HU.out r1, HXX.out, HSS.out, HDD.out, r4 he, H6.out.2, bA_two, b7, bA_two, b5, bA_two]
            · by_cases he : c.nc = 0
              · rw [r4 he]; exact hA9
              · exact hA9.no he
        · have pE : (!X.toList.isEmpty) = false := by
            have h1 := HXo.out
            rw [isEmpty_of, HXX.out, bA_size, List.length_take, decide_eq_true (by omega)]; rfl
          have HR := Lib.hid (HN.out hz)
          have hpk : c5.pk [101, 69] = 0 := by have := HXo.out; omega
          rw [hpk, CS.past_zero] at hq8
          clear hz hpk
          rw [pE]
          go_wp2_with fail
          go_meet
          case rel =>
            obtain ⟨r1, r2⟩ := HR.out
            exact ⟨U, c5, rfl, fun he => by rw [HU.out (r2 he).1, (r2 he).2], by omega, r1, hq8, ho9⟩
      case rest =>
        clear HX HN hX1 HXt HXo HXX HK5 HU hUs hq8 ho9
        obtain ⟨V, c8, rfl, hV, hVs, hA8, hq11, ho11⟩ := hcut
        have HE := Lib.hid (err_any hq11)
        rw [hA8.2.2.2.1] at HE
        have HA8 := Lib.hid hA8
        have HV := Lib.hid hV
        clear hA8 hV
        by_cases he : c.nc = 0
        · have p1 : (c.nc != 0) = false := by simp [he]
          have HR := Lib.hid (show V = bA c.nt by unfold CS.nt; rw [if_pos he]; exact HV.out he)
          clear he
          go_wp2_with fail
          with_reducible refine HE.out.mono ?_
          rintro e w12 ⟨rfl, hw⟩
          rw [hw]; clear hw
          go_wp2
          go_ret
          exact ⟨ret_string HR.out, ⟨c8, hq11, HA8.out⟩, ho11⟩
        · have p1 : (c.nc != 0) = true := by simp [he]
          have HR := Lib.hid (show (⟨#[]⟩ : ByteArray) = bA c.nt by unfold CS.nt; rw [if_neg he]; rfl)
          clear he
          go_wp2_with fail
          with_reducible refine HE.out.mono ?_
          rintro e w12 ⟨rfl, hw⟩
          rw [hw]; clear hw
          go_wp2
          go_ret
          exact ⟨ret_string HR.out, ⟨c8, hq11, HA8.out⟩, ho11⟩
end Go.Proofs.YtemmeoikenbmgaaDoor
