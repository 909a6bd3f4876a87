/- PmsgTells, walked. -/
import Derived.Test.YtipnaonagepolaaDoorPmWork
import Derived.Test.YtipnaonagepolaaDoorPmU
import Derived.Test.YtipnaonagepolaaDoorZH
import Derived.Test.YtipnaonagepolaaDoorPrT
namespace Go.Proofs.YtipnaonagepolaaDoor
open Go Go.RowKit
set_option linter.unusedVariables false

theorem ptell_long (s : ByteArray) (n v : Int) (w : World) (h : ¬ s.size ≤ 300) (ht : Tab w) :
    Calls Tryd.prog 3 #[.string s, .int .i64 n, .int .i64 v] w fun e w' => e = .returned (.bool true) ∧ Below w.heap.size w w' := by
  have p1 : decide ((300 : Int) < (s.size : Int)) = true := decide_eq_true (by omega)
  have HT := Lib.hid ht
  clear ht h
  go_enter Tryd.func3, Tryd.ntmps3
  go_wp2_with (go_at_call 6; refine (works_any w HT.out).mono ?_; rintro e w1 ⟨rfl, hb⟩)
  go_ret
  exact ⟨rfl, hb⟩
/-- Between two calls. -/
structure TeS (w : World) (mp a : Option Addr) (l : List FD) (W : World) : Prop where
  msg : MsgIn W mp l
  inn : FIn W a l
  bel : Below w.heap.size w W
  tab : Tab W
theorem TeS.next {w W W' : World} {mp a : Option Addr} {l : List FD} (h : TeS w mp a l W) (hb : Below W.heap.size W W') : TeS w mp a l W' := ⟨h.msg.below hb (Nat.le_refl _), h.inn.below hb (Nat.le_refl _), below_on h.bel hb h.bel.size, h.tab.below hb h.tab.lt⟩

set_option maxRecDepth 100000 in
set_option maxHeartbeats 1000000 in
theorem ptell_short (s : ByteArray) (n v : Int) (w : World) (h : s.size ≤ 300) (ht : Tab w) :
    Calls Tryd.prog 3 #[.string s, .int .i64 n, .int .i64 v] w fun e w' => e = .returned (.bool true) ∧ Below w.heap.size w w' := by
  have p1 : decide ((300 : Int) < (s.size : Int)) = false := decide_eq_false (by omega)
  have hlen := fAll_len s.data.toList
  have htot := fAll_tot s.data.toList
  have hj := fJoin_le (fAll s.data.toList).1 n
  rw [toList_size] at hlen htot
  have HA := Lib.hid (pmread_any s w (by omega) ht)
  have HB := Lib.hid (fun w => rfall_any s w (by omega))
  have HT := Lib.hid ht
  clear ht
  generalize fAll s.data.toList = R at *
  obtain ⟨l, E⟩ := R
  dsimp only at HA HB hlen htot hj
  have hl : l.length ≤ 300 := by omega
  have hjl : (fJoin (fEach l n)).length ≤ 300 := by omega
  have hE := fEach_le l n
  have H1 := Lib.hid (fun mp w h => pmnum_any mp l n v w h (by omega))
  have H2 := Lib.hid (fun a c w h => rnum_any a c l n v w (by omega) h)
  have H3 := Lib.hid (fun mp w h => pmtext_any mp l n w h (by omega))
  have H4 := Lib.hid (fun a c w h => rtext_any a c l n w (by omega) h)
  have H5 := Lib.hid (fun mp w h => pmjoined_any mp l n w h (by omega) (by omega))
  have H6 := Lib.hid (fun a c w h => rjoined_any a c l n w (by omega) h (by omega))
  have H7 := Lib.hid (fun mp w h => pmeach_any mp l n w h (by omega))
  have H8 := Lib.hid (fun a c w h => reach_any a c l n w (by omega) h)
  have H9 := Lib.hid (fun a b c1 c2 w h1 h2 => stexts_same a b c1 c2 (fEach l n) w (by omega) h1 h2)
  clear hlen htot hj hjl hE
  generalize fNum l n v = N at *
  generalize fNis l n v = Bn at *
  generalize (fLast l (tHas (n, 2))).2.2.2 = X at *
  generalize fIs l (tHas (n, 2)) = Bx at *
  generalize bA (fJoin (fEach l n)) = J at *
  generalize fEach l n = L at *
  generalize decide (0 < L.length) = Bj at *
  go_enter Tryd.func3, Tryd.ntmps3
  go_wp2_with fail
  refine HA.out.mono ?_
  rintro e w1 ⟨mp, rfl, hm, hn, hb⟩
  have HM := Lib.hid hm
  have HN := Lib.hid hn
  have HB1 := Lib.hid hb
  clear hm hn hb
  go_wp2_with fail
  refine (HB.out _).mono ?_
  rintro e w2 ⟨v2, rfl, hr, hb⟩
  obtain ⟨a, c, rfl, hin⟩ := hr.inn
  have HS := Lib.hid (show TeS w mp a l w2 from ⟨HM.out.below hb (Nat.le_refl _), hin, below_on HB1.out hb HB1.out.size, (HT.out.below HB1.out HT.out.lt).below hb (HT.out.below HB1.out HT.out.lt).lt⟩)
  clear hr hin hb HB1 HM
  have hmp : (E = 0 ∧ ∃ b, mp = some ⟨b, 0, none⟩) ∨ (E ≠ 0 ∧ mp = none) := by
    by_cases h0 : E = 0
    · rcases HS.out.msg with ⟨h1, _⟩ | ⟨b, _, _, h1, _⟩
      · have h2 := HN.out
        rw [h1, h0] at h2
        simp at h2
      · exact .inl ⟨h0, b, h1⟩
    · exact .inr ⟨h0, by rw [HN.out]; exact h0⟩
  clear HN
  have q1 : (E != E) = false := by simp
  rcases hmp with ⟨h0, b, rfl⟩ | ⟨h0, rfl⟩
  · have q2 : (E != 0) = false := by simp [h0]
    clear h0
    go_wp2_with fail
    refine (H1.out _ _ HS.out.msg).mono ?_
    rintro e w3 ⟨rfl, hb⟩
    have S2 := Lib.hid (HS.out.next hb)
    clear hb HS
    go_wp2_with fail
    refine (H2.out _ _ _ S2.out.inn).mono ?_
    rintro e w4 ⟨rfl, hb⟩
    have S3 := Lib.hid (S2.out.next hb)
    clear hb S2
    go_wp2_with fail
    refine (H3.out _ _ S3.out.msg).mono ?_
    rintro e w5 ⟨rfl, hb⟩
    have S4 := Lib.hid (S3.out.next hb)
    clear hb S3
    go_wp2_with fail
    refine (H4.out _ _ _ S4.out.inn).mono ?_
    rintro e w6 ⟨rfl, hb⟩
    have S5 := Lib.hid (S4.out.next hb)
    clear hb S4
    go_wp2_with fail
    refine (H5.out _ _ S5.out.msg).mono ?_
    rintro e w7 ⟨rfl, hb⟩
    have S6 := Lib.hid (S5.out.next hb)
    clear hb S5
    go_wp2_with fail
    refine (H6.out _ _ _ S6.out.inn).mono ?_
    rintro e w8 ⟨rfl, hb⟩
    have S7 := Lib.hid (S6.out.next hb)
    clear hb S6
    go_wp2_with fail
    refine (H7.out _ _ S7.out.msg).mono ?_
    rintro e w9 ⟨v7, rfl, hs7, hb⟩
    obtain ⟨a7, c7, rfl, hi7⟩ := hs7.inn
    have S8 := Lib.hid (S7.out.next hb)
    have I7 := Lib.hid hi7
    clear hb S7 hs7 hi7
    go_wp2_with fail
    refine (H8.out _ _ _ S8.out.inn).mono ?_
    rintro e w10 ⟨v8, rfl, hs8, hb⟩
    obtain ⟨a8, c8, rfl, hi8⟩ := hs8.inn
    have S9 := Lib.hid (S8.out.next hb)
    have J7 := Lib.hid (I7.out.below hb)
    have I8 := Lib.hid hi8
    clear hb S8 hs8 hi8 I7
    go_wp2_with fail
    refine (H9.out _ _ _ _ _ J7.out I8.out).mono ?_
    rintro e w11 ⟨rfl, hb⟩
    have S10 := Lib.hid (S9.out.next hb)
    clear hb S9
    go_wp2_with fail
    refine (works_any _ S10.out.tab).mono ?_
    rintro e w12 ⟨rfl, hb⟩
    have S11 := Lib.hid (S10.out.next hb)
    clear hb S10
    go_wp2
    go_ret
    exact ⟨rfl, S11.out.bel⟩
  · have q2 : (E != 0) = true := bne_iff_ne.mpr h0
    clear h0
    go_wp2_with fail
    refine (H1.out _ _ HS.out.msg).mono ?_
    rintro e w3 ⟨rfl, hb⟩
    have S2 := Lib.hid (HS.out.next hb)
    clear hb HS
    go_wp2_with fail
    refine (H2.out _ _ _ S2.out.inn).mono ?_
    rintro e w4 ⟨rfl, hb⟩
    have S3 := Lib.hid (S2.out.next hb)
    clear hb S2
    go_wp2_with fail
    refine (H3.out _ _ S3.out.msg).mono ?_
    rintro e w5 ⟨rfl, hb⟩
    have S4 := Lib.hid (S3.out.next hb)
    clear hb S3
    go_wp2_with fail
    refine (H4.out _ _ _ S4.out.inn).mono ?_
    rintro e w6 ⟨rfl, hb⟩
    have S5 := Lib.hid (S4.out.next hb)
    clear hb S4
    go_wp2_with fail
    refine (H5.out _ _ S5.out.msg).mono ?_
    rintro e w7 ⟨rfl, hb⟩
    have S6 := Lib.hid (S5.out.next hb)
    clear hb S5
    go_wp2_with fail
    refine (H6.out _ _ _ S6.out.inn).mono ?_
    rintro e w8 ⟨rfl, hb⟩
    have S7 := Lib.hid (S6.out.next hb)
    clear hb S6
    go_wp2_with fail
    refine (H7.out _ _ S7.out.msg).mono ?_
    rintro e w9 ⟨v7, rfl, hs7, hb⟩
    obtain ⟨a7, c7, rfl, hi7⟩ := hs7.inn
    have S8 := Lib.hid (S7.out.next hb)
    have I7 := Lib.hid hi7
    clear hb S7 hs7 hi7
    go_wp2_with fail
    refine (H8.out _ _ _ S8.out.inn).mono ?_
    rintro e w10 ⟨v8, rfl, hs8, hb⟩
    obtain ⟨a8, c8, rfl, hi8⟩ := hs8.inn
    have S9 := Lib.hid (S8.out.next hb)
    have J7 := Lib.hid (I7.out.below hb)
    have I8 := Lib.hid hi8
    clear hb S8 hs8 hi8 I7
    go_wp2_with fail
    refine (H9.out _ _ _ _ _ J7.out I8.out).mono ?_
    rintro e w11 ⟨rfl, hb⟩
    have S10 := Lib.hid (S9.out.next hb)
    clear hb S9
    go_wp2_with fail
    refine (works_any _ S10.out.tab).mono ?_
    rintro e w12 ⟨rfl, hb⟩
    have S11 := Lib.hid (S10.out.next hb)
    clear hb S10
    go_wp2
    go_ret
    exact ⟨rfl, S11.out.bel⟩
theorem ptell_any (s : ByteArray) (n v : Int) (w : World) (ht : Tab w) :
    Calls Tryd.prog 3 #[.string s, .int .i64 n, .int .i64 v] w fun e w' => e = .returned (.bool true) ∧ Below w.heap.size w w' := by
  by_cases h : s.size ≤ 300
  · exact ptell_short s n v w h ht
  · exact ptell_long s n v w h ht
theorem ptell_law (s : ByteArray) (n v : Int) (w : World) (_ : s.size ≤ 140737488351232) (_ : -9223372036854775808 ≤ n) (_ : n ≤ 9223372036854775807) (_ : -9223372036854775808 ≤ v) (_ : v ≤ 9223372036854775807) (ht : Tab w) :
    Calls Tryd.prog 3 #[.string s, .int .i64 n, .int .i64 v] w fun e w' => e = .returned (.bool true) ∧ Below w.heap.size w w' := ptell_any s n v w ht
end Go.Proofs.YtipnaonagepolaaDoor
