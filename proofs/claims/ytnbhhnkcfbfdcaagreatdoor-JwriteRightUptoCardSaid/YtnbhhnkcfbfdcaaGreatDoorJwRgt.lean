/- JwriteRight, walked. -/
import Derived.Test.YtnbhhnkcfbfdcaaGreatDoorJwRead
import Derived.Test.YtnbhhnkcfbfdcaaGreatDoorJwOpn
import Derived.Test.YtnbhhnkcfbfdcaaGreatDoorZU
import Derived.Test.YtnbhhnkcfbfdcaaGreatDoorJrL
namespace Go.Proofs.YtnbhhnkcfbfdcaaGreatDoor
open Go Go.RowKit
set_option linter.unusedVariables false

theorem rg_long (a : Option Addr) (cap : Nat) (L : List OP) (w : World) (h : 80 < L.length) (ht : P10 w) :
    Calls Tryz.prog 4 #[.slice a L.length cap] w fun e w' => e = .returned (.bool true) ∧ Below w.heap.size w w' := by
  have p1 : decide (80 < (L.length : Int)) = true := decide_eq_true (by omega)
  have p2 : decide (80 < L.length) = true := decide_eq_true h
  have HX := Lib.hid (works15_any w ht)
  clear ht
  go_enter Tryz.func4, Tryz.ntmps4
  go_wp2_with fail
  refine HX.out.mono ?_
  rintro e w2 ⟨rfl, hb⟩
  go_wp2
  go_ret
  exact ⟨rfl, hb⟩
theorem rg_mem : ∀ {L : List OP} {o : OP}, o ∈ L → 6 * o.t.length + 25 ≤ opz L
  | x :: L, o, h => by
    rcases List.mem_cons.mp h with rfl | h
    · simp only [opz]; omega
    · have := rg_mem h; simp only [opz]; omega
/-- What holds of the first k of what a writer is told. -/
theorem rg_facts (L : List OP) (hn : ∀ o ∈ L, OpOk o) (hz : opz L ≤ 7340032) (k : Nat) : WOk (wRun WS.nw (L.take k)) ∧ (wRun WS.nw (L.take k)).out.length ≤ 7340032 := by
  obtain ⟨a, b, c, d, e⟩ := run_all (L.take k) WS.nw RfS.nw .nw .nw (by simp [RfS.nw]) (fun o ho => hn o (List.mem_of_mem_take ho))
  have := opz_take L k
  have h1 : WS.nw.out.length = 0 := rfl
  exact ⟨a, by omega⟩
theorem wdone_txt (s : WS) (h : (wDone s).2 ≠ 0) : (wDone s).1 = [] := by
  unfold wDone at h ⊢
  split
  · rename_i hc
    rw [if_pos hc] at h
    split
    · rfl
    · rename_i hn
      rw [if_neg hn] at h
      exact absurd rfl h
  · rfl
theorem wdone_len (s : WS) : (wDone s).1.length ≤ s.out.length := by
  unfold wDone
  split
  · split
    · exact Nat.zero_le _
    · exact Nat.le_refl _
  · exact Nat.zero_le _
def RgRel (W : World) (L : List OP) (i : Value) (wr : World) : Prop := ∃ j : Nat, j ≤ L.length ∧ i = .int .i64 (j : Nat) ∧ WrX (fun _ => False) W.heap.size W.heap.size wr (wRun WS.nw (L.take j)) ∧ Below W.heap.size W wr
set_option maxRecDepth 100000 in
set_option maxHeartbeats 8000000 in
theorem rg_short (a : Option Addr) (cap : Nat) (L : List OP) (w : World) (h : L.length ≤ 80) (hin : OIn w a L) (hn : ∀ o ∈ L, OpOk o) (hz : opz L ≤ 7340032) (ht : P10 w) (hh : Hds w) :
    Calls Tryz.prog 4 #[.slice a L.length cap] w fun e w' => e = .returned (.bool true) ∧ Below w.heap.size w w' := by
  have p1 : decide (80 < (L.length : Int)) = false := decide_eq_false (by omega)
  have p2 : decide (80 < L.length) = false := decide_eq_false (by omega)
  have HT := Lib.hid (show ∀ w', Below w.heap.size w w' → P10 w' from fun w' hb => ht.below hb)
  have HH := Lib.hid (show ∀ w', Below w.heap.size w w' → Hds w' from fun w' hb => hh.below hb hh.lt)
  have HIN := Lib.hid (show ∀ w', Below w.heap.size w w' → OIn w' a L from fun w' hb => hin.below hb (Nat.le_refl _))
  have HN := Lib.hid hn
  have HZ := Lib.hid hz
  have HNW := Lib.hid (jwnew_any w)
  have HL := Lib.hid h
  clear h hin hn hz ht hh
  go_enter Tryz.func4, Tryz.ntmps4
  go_wp2_with fail
  refine HNW.out.mono ?_
  rintro e w1 ⟨rfl, hw1, hb1⟩
  have R0 := Lib.hid (show RgRel w L (.int .i64 0) w1 from ⟨0, Nat.zero_le _, rfl, hw1, hb1⟩)
  clear hw1 hb1 HNW
  go_wp2_with fail
  go_loopw [4] (fun i wr => RgRel w L i wr) (fun i _ => L.length - (intOf i).toNat)
  case atStart => exact R0.out
  case round =>
    clear R0
    obtain ⟨j, hj, rfl, hW, hB⟩ := hrel
    by_cases hlt : j < L.length
    · have q1 : decide (j < L.length) = true := decide_eq_true hlt
      have q2 : (j : Int) < (L.length : Int) := by omega
      have q3 : (0 : Int) ≤ (j : Int) := by omega
      obtain ⟨g, off, rfl, hg, m0, m1, m2⟩ := HIN.out wr hB j hlt
      obtain ⟨f1, f2⟩ := rg_facts L HN.out HZ.out j
      have ho := HN.out _ (List.getElem_mem hlt)
      have hot := rg_mem (List.getElem_mem hlt)
      have hzz := HZ.out
      obtain ⟨vl, ve, hw⟩ := hW
      have HD := Lib.hid (do_any hw f1 (by omega) L[j] ho (by omega) (fun w' hb => HT.out w' (hB.trans hb)))
      rw [← wRun_take _ _ _ hlt] at HD
      unfold opV at HD
      have HB := Lib.hid hB
      have hj80 := HL.out
      generalize (L[j].k.toNat : Int) = ok at *
      generalize bA L[j].t = ot at *
      generalize L[j].n = on at *
      clear f1 f2 ho hot hzz hw hB vl ve
      go_wp2_with fail
      refine HD.out.mono ?_
      rintro e w2 ⟨rfl, hw2, hk2⟩
      have R2 := Lib.hid (show RgRel w L (.int .i64 ((j + 1 : Nat) : Int)) w2 from ⟨j + 1, hlt, rfl, hw2, HB.out.trans (hk2.below HB.out.size)⟩)
      clear hw2 hk2 HD HB m0 m1 m2
      go_wp2_with fail
      go_roundw
      case rel =>
        obtain ⟨j1, h1, h2, h3⟩ := R2.out
        exact ⟨j1, h1, by rw [← h2]; go_num, h3⟩
      case measure => simp [intOf]; omega
    · have q1 : decide (j < L.length) = false := decide_eq_false hlt
      have q2 : ¬ (j : Int) < (L.length : Int) := by omega
      obtain rfl : j = L.length := by omega
      obtain ⟨f1, f2⟩ := rg_facts L HN.out HZ.out L.length
      rw [List.take_length] at f1 f2 hW
      have hr := right_facts L (by have := HZ.out; omega) HN.out
      have hne := wdone_txt (wRun WS.nw L)
      have hln := wdone_len (wRun WS.nw L)
      obtain ⟨vl, ve, hw⟩ := hW
      have HDN := Lib.hid (jwdone_any hw f1)
      have HX := Lib.hid (fun w1 hb => works15_any w1 (HT.out w1 hb))
      have HB := Lib.hid hB
      have hlt80 := HL.out
      generalize wDone (wRun WS.nw L) = V at *
      generalize wRun WS.nw L = S at *
      obtain ⟨U, C⟩ := V
      simp only at hr hne hln HDN
      clear hB hw vl ve f1 HT HIN HN HZ
      by_cases hc : C = 0
      · obtain ⟨ts, la, hsf, hsg, htk, h0, h3⟩ := hr hc
        subst hc
        have q3 : ((0 : Int) != 0) = false := rfl
        have HR := Lib.hid (fun w1 hb => kread_prog (bA U) w1 ts la (by rw [bA_size]; omega) (by rw [show (bA U).data.toList = U by simp [bA]]; exact hsf) hsg (HH.out w1 hb))
        go_wp2_with fail
        refine HDN.out.mono ?_
        rintro e w2 ⟨rfl, hb2⟩
        have B2 := Lib.hid (HB.out.trans (hb2.mono HB.out.size))
        clear hb2
        go_wp2_with fail
        refine (HR.out w2 B2.out).mono ?_
        rintro e w3 ⟨a3, k3, rfl, hin3, hb3⟩
        have B3 := Lib.hid (B2.out.trans (hb3.mono B2.out.size))
        have I3 := Lib.hid hin3
        have hML := rdT_len (la := some la) hsg
        have hsl := sf_len _ _ _ hsf
        have htz := toks_len htk
        clear hb3 hin3 HR HDN hne HH
        generalize rdT ts (some la) = R at *
        obtain ⟨M, E⟩ := R
        simp only at h0 h3 I3 hML
        by_cases hE : E = 0
        · subst hE
          obtain ⟨hU, hwf⟩ := h0 rfl
          have q5 : ((0 : Int) != 0) = false := rfl
          have HP := Lib.hid (jrput_any none 0 [] a3 k3 M ts w3 (by omega) (by simp) (fun j hj => by simp at hj) (fun _ => rfl) I3.out (.inr hwf) (fun x hx => ⟨htk x hx, by have := (hsg x hx).2; omega⟩) (by rw [List.nil_append, hU]; omega))
          rw [List.nil_append, hU] at HP
          clear h0 h3 hU hwf hsf hsg htk I3 hML hsl htz
          go_wp2_with fail
          refine HP.out.mono ?_
          rintro e w4 ⟨v4, rfl, hv4, hb4⟩
          have B4 := Lib.hid (B3.out.trans (hb4.mono B3.out.size))
          have HV := Lib.hid (hv4.text Tryz.underlying43 Tryz.underlying5 Tryz.underlying9)
          have q6 : ((bA U).toList == (bA U).toList) = true := by simp
          clear hv4 hb4 HP
          go_wp2_with fail
          rw [HV.out]
          go_wp2_with fail
          refine (HX.out w4 B4.out).mono ?_
          rintro e w5 ⟨rfl, hb5⟩
          have B5 := Lib.hid (B4.out.trans (hb5.mono B4.out.size))
          go_wp2
          go_ret
          exact ⟨rfl, B5.out⟩
        · have q5 : (E != 0) = true := bne_iff_ne.mpr hE
          rcases h3 with h3 | rfl | rfl
          · exact absurd h3 hE
          all_goals (
            clear h0 hE hsf hsg htk I3 hML hsl htz
            go_wp2_with fail
            refine (HX.out w3 B3.out).mono ?_
            rintro e w5 ⟨rfl, hb5⟩
            have B5 := Lib.hid (B3.out.trans (hb5.mono B3.out.size))
            go_wp2
            go_ret
            exact ⟨rfl, B5.out⟩)
      · have hU := hne hc
        subst hU
        have q3 : (C != 0) = true := bne_iff_ne.mpr hc
        have q4 : (bA []).toList.isEmpty = true := by rw [isEmpty_of, bA_size]; simp
        clear hr hne hc hln
        go_wp2_with fail
        refine HDN.out.mono ?_
        rintro e w2 ⟨rfl, hb2⟩
        have B2 := Lib.hid (HB.out.trans (hb2.mono HB.out.size))
        clear hb2
        go_wp2_with fail
        refine (HX.out w2 B2.out).mono ?_
        rintro e w3 ⟨rfl, hb3⟩
        have B3 := Lib.hid (B2.out.trans (hb3.mono B2.out.size))
        go_wp2
        go_ret
        exact ⟨rfl, B3.out⟩
theorem rg_any (a : Option Addr) (cap : Nat) (L : List OP) (w : World) (hin : OIn w a L) (hn : ∀ o ∈ L, OpOk o) (hz : opz L ≤ 7340032) (ht : P10 w) (hh : Hds w) :
    Calls Tryz.prog 4 #[.slice a L.length cap] w fun e w' => e = .returned (.bool true) ∧ Below w.heap.size w w' := by
  by_cases h : 80 < L.length
  · exact rg_long a cap L w h ht
  · exact rg_short a cap L w (by omega) hin hn hz ht hh
end Go.Proofs.YtnbhhnkcfbfdcaaGreatDoor
