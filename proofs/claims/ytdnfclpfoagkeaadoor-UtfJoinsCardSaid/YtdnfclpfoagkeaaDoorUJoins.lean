/- UtfJoins, walked. -/
import Derived.Test.YtdnfclpfoagkeaaDoorUWork
namespace Go.Proofs.YtdnfclpfoagkeaaDoor
open Go Go.RowKit
set_option linter.unusedVariables false

theorem uCount_ok {s : ByteArray} (h : uOk s) : uCount s = (wk s s.size).2 := by
  unfold uOk at h; unfold uCount; rw [if_pos h]
theorem uCount_bound (s : ByteArray) : -1 ≤ uCount s ∧ uCount s ≤ s.size := by
  have h1 := (wk_end s s.size).1.count
  have h2 := wk_le s s.size
  unfold uCount
  split <;> omega
theorem j_joins {s t : ByteArray} (h1 : uCheck s = -1) (h2 : uCheck t = -1) : uCheck (s ++ t) = -1 ∧ uCount (s ++ t) = uCount s + uCount t := by
  have k1 := uCheck_ok.mp h1
  have k2 := uCheck_ok.mp h2
  obtain ⟨k3, k4⟩ := join_ok k1 k2
  exact ⟨uCheck_ok.mpr k3, by rw [uCount_ok k1, uCount_ok k2, uCount_ok k3, k4]; omega⟩

set_option maxRecDepth 100000 in
set_option maxHeartbeats 4000000 in
theorem ujoins_small (s t : ByteArray) (n : Int) (w : World) (hs : s.size ≤ 200) (htt : t.size ≤ 200) (hn1 : -9223372036854775808 ≤ n) (hn2 : n ≤ 9223372036854775807) (ht : Hds w) (hn : n ≤ 0) :
    Calls Tryd.prog 5 #[.string s, .string t, .int .i64 n] w fun e w' => e = .returned (.bool true) ∧ Below w.heap.size w w' := by
  have HT := Lib.hid ht
  have hg := ht.lt
  have p1 : decide ((200 : Int) < (s.size : Int)) = false := decide_eq_false (by omega)
  have p2 : decide ((200 : Int) < (t.size : Int)) = false := decide_eq_false (by omega)
  have hsz : (s ++ t).size = s.size + t.size := ByteArray.size_append
  have l1 : ¬ 9223372036854775807 < s.size + t.size := by omega
  have C1 := Lib.hid (fun w ht => ucheck_any s w (by omega) ht)
  have C2 := Lib.hid (fun w ht => ucheck_any t w (by omega) ht)
  have C3 := Lib.hid (fun w ht => ucheck_any (s ++ t) w (by omega) ht)
  have D1 := Lib.hid (fun w ht => ucount_any s w (by omega) ht)
  have D2 := Lib.hid (fun w ht => ucount_any t w (by omega) ht)
  have D3 := Lib.hid (fun w ht => ucount_any (s ++ t) w (by omega) ht)
  have E1 := Lib.hid (fun w ht => ucut_any s n w (by omega) ht)
  have hcb := wk_bound s n
  have hcl := wk_le s n
  have hcs := cut_size s n
  have E2 := Lib.hid (fun w ht => ucheck_any (uCut s n) w (by omega) ht)
  rw [uCheck_ok.mpr (cut_ok s n)] at E2
  have hcut := Lib.hid (show uCut s n = s.extract 0 (wk s n).1 from rfl)
  have hstop := (wk_end s n).2
  unfold WStop at hstop
  have hb1 := uCount_bound s
  have hb2 := uCount_bound t
  have hc0 : (wk s n).1 = 0 := by omega
  rw [hc0] at hcs hcut hstop
  have R1 := Lib.hid (show ∀ w, Hds w → Calls Tryd.prog 7 #[.string s, .int .i64 0] w fun e w' => e = .returned (.tuple #[.int .i32 ((dAt s 0).1 : Nat), .int .i64 ((dAt s 0).2 : Nat)]) ∧ ∃ m, w' = w.drewN m from fun w ht => by
    have := urune_any s ((0 : Nat) : Int) w (by omega) (by omega) (by omega) ht
    rw [uR_at] at this; exact this)
  generalize (dAt s 0).1 = X at *
  generalize (dAt s 0).2 = Y at *
  have heq : (uCut s n).toList = [] := by rw [hcut.out, cut_none, ByteArray.toList_eq]
  generalize uCut s n = V at *
  have HL := Lib.hid (fun h1 h2 => j_joins (s := s) (t := t) h1 h2)
  generalize uCheck s = cs at *
  generalize uCheck t = ct at *
  generalize uCheck (s ++ t) = cst at *
  generalize uCount s = ns at *
  generalize uCount t = nt at *
  generalize uCount (s ++ t) = nst at *
  have y1 : IntKind.i64.wrap (ns + nt) = ns + nt := i64_small (by omega) (by omega)
  have HST := Lib.hid hstop
  clear ht hcb hstop hcl hc0
  go_enter Tryd.func5, Tryd.ntmps5
  go_wp2_with fail
  with_reducible refine (C1.out _ HT.out).mono ?_
  rintro e w1 ⟨rfl, m1, hw1⟩
  have b1 := Lib.hid (show Below w.heap.size w w1 by rw [hw1]; exact drew_below w m1)
  have t1 := Lib.hid (HT.out.below b1.out hg)
  clear hw1
  by_cases h1 : cs = -1
  · have q1 : (cs == -1) = true := by rw [h1]; rfl
    have h1h := Lib.hid h1
    clear h1
    go_wp2_with fail
    with_reducible refine (C2.out _ t1.out).mono ?_
    rintro e w2 ⟨rfl, m2, hw2⟩
    have b2 := Lib.hid (show Below w.heap.size w w2 by rw [hw2]; exact Below.drewN b1.out m2)
    have t2 := Lib.hid (HT.out.below b2.out hg)
    clear hw2
    by_cases h2 : ct = -1
    · have q2 : (ct == -1) = true := by rw [h2]; rfl
      have hj := HL.out h1h.out h2
      have q3 : (cst != -1) = false := by rw [hj.1]; rfl
      have q4 : (nst != ns + nt) = false := by rw [hj.2]; simp
      clear h2 hj HL
      go_wp2_with fail
      with_reducible refine (C3.out _ t2.out).mono ?_
      rintro e w3 ⟨rfl, m3, hw3⟩
      have b3 := Lib.hid (show Below w.heap.size w w3 by rw [hw3]; exact Below.drewN b2.out m3)
      have t3 := Lib.hid (HT.out.below b3.out hg)
      clear hw3
      go_wp2_with fail
      with_reducible refine (D3.out _ t3.out).mono ?_
      rintro e w4 ⟨rfl, m4, hw4⟩
      have b4 := Lib.hid (show Below w.heap.size w w4 by rw [hw4]; exact Below.drewN b3.out m4)
      have t4 := Lib.hid (HT.out.below b4.out hg)
      clear hw4
      go_wp2_with fail
      with_reducible refine (D1.out _ t4.out).mono ?_
      rintro e w5 ⟨rfl, m5, hw5⟩
      have b5 := Lib.hid (show Below w.heap.size w w5 by rw [hw5]; exact Below.drewN b4.out m5)
      have t5 := Lib.hid (HT.out.below b5.out hg)
      clear hw5
      go_wp2_with fail
      with_reducible refine (D2.out _ t5.out).mono ?_
      rintro e w6 ⟨rfl, m6, hw6⟩
      have b6 := Lib.hid (show Below w.heap.size w w6 by rw [hw6]; exact Below.drewN b5.out m6)
      have t6 := Lib.hid (HT.out.below b6.out hg)
      clear hw6
      go_wp2_with fail
      with_reducible refine (E1.out _ t6.out).mono ?_
      rintro e w7 ⟨rfl, m7, hw7⟩
      have b7 := Lib.hid (show Below w.heap.size w w7 by rw [hw7]; exact Below.drewN b6.out m7)
      have t7 := Lib.hid (HT.out.below b7.out hg)
      clear hw7
      go_wp2_with fail
      with_reducible refine (E2.out _ t7.out).mono ?_
      rintro e w8 ⟨rfl, m8, hw8⟩
      have b8 := Lib.hid (show Below w.heap.size w w8 by rw [hw8]; exact Below.drewN b7.out m8)
      have t8 := Lib.hid (HT.out.below b8.out hg)
      clear hw8
      go_wp2_with fail
      with_reducible refine (R1.out _ t8.out).mono ?_
      rintro e w9 ⟨rfl, m9, hw9⟩
      have b9 := Lib.hid (show Below w.heap.size w w9 by rw [hw9]; exact Below.drewN b8.out m9)
      have t9 := Lib.hid (HT.out.below b9.out hg)
      clear hw9
      by_cases hY : Y = 0
      · have q5 : ((Y : Int) == 0) = true := by rw [hY]; rfl
        clear HST hY
        go_wp2_with fail
        with_reducible refine (works5_any _ t9.out).mono ?_
        rintro e w10 ⟨rfl, h9⟩
        have b10 := Lib.hid (grown_then b9.out h9)
        go_wp2
        go_ret
        exact ⟨rfl, b10.out⟩
      · have q5 : ((Y : Int) == 0) = false := beq_eq_false_iff_ne.mpr (by omega)
        have q6 : decide (n < (Y : Int)) = true := decide_eq_true (by have := HST.out; omega)
        clear HST hY
        go_wp2_with fail
        with_reducible refine (works5_any _ t9.out).mono ?_
        rintro e w10 ⟨rfl, h9⟩
        have b10 := Lib.hid (grown_then b9.out h9)
        go_wp2
        go_ret
        exact ⟨rfl, b10.out⟩
    · have q2 : (ct == -1) = false := beq_eq_false_iff_ne.mpr h2
      clear h2 HL
      go_wp2_with fail
      with_reducible refine (E1.out _ t2.out).mono ?_
      rintro e w3 ⟨rfl, m3, hw3⟩
      have b3 := Lib.hid (show Below w.heap.size w w3 by rw [hw3]; exact Below.drewN b2.out m3)
      have t3 := Lib.hid (HT.out.below b3.out hg)
      clear hw3
      go_wp2_with fail
      with_reducible refine (E2.out _ t3.out).mono ?_
      rintro e w4 ⟨rfl, m4, hw4⟩
      have b4 := Lib.hid (show Below w.heap.size w w4 by rw [hw4]; exact Below.drewN b3.out m4)
      have t4 := Lib.hid (HT.out.below b4.out hg)
      clear hw4
      go_wp2_with fail
      with_reducible refine (R1.out _ t4.out).mono ?_
      rintro e w5 ⟨rfl, m5, hw5⟩
      have b5 := Lib.hid (show Below w.heap.size w w5 by rw [hw5]; exact Below.drewN b4.out m5)
      have t5 := Lib.hid (HT.out.below b5.out hg)
      clear hw5
      by_cases hY : Y = 0
      · have q5 : ((Y : Int) == 0) = true := by rw [hY]; rfl
        clear HST hY
        go_wp2_with fail
        with_reducible refine (works5_any _ t5.out).mono ?_
        rintro e w6 ⟨rfl, h9⟩
        have b6 := Lib.hid (grown_then b5.out h9)
        go_wp2
        go_ret
        exact ⟨rfl, b6.out⟩
      · have q5 : ((Y : Int) == 0) = false := beq_eq_false_iff_ne.mpr (by omega)
        have q6 : decide (n < (Y : Int)) = true := decide_eq_true (by have := HST.out; omega)
        clear HST hY
        go_wp2_with fail
        with_reducible refine (works5_any _ t5.out).mono ?_
        rintro e w6 ⟨rfl, h9⟩
        have b6 := Lib.hid (grown_then b5.out h9)
        go_wp2
        go_ret
        exact ⟨rfl, b6.out⟩
  · have q1 : (cs == -1) = false := beq_eq_false_iff_ne.mpr h1
    clear h1 HL
    go_wp2_with fail
    with_reducible refine (E1.out _ t1.out).mono ?_
    rintro e w2 ⟨rfl, m2, hw2⟩
    have b2 := Lib.hid (show Below w.heap.size w w2 by rw [hw2]; exact Below.drewN b1.out m2)
    have t2 := Lib.hid (HT.out.below b2.out hg)
    clear hw2
    go_wp2_with fail
    with_reducible refine (E2.out _ t2.out).mono ?_
    rintro e w3 ⟨rfl, m3, hw3⟩
    have b3 := Lib.hid (show Below w.heap.size w w3 by rw [hw3]; exact Below.drewN b2.out m3)
    have t3 := Lib.hid (HT.out.below b3.out hg)
    clear hw3
    go_wp2_with fail
    with_reducible refine (R1.out _ t3.out).mono ?_
    rintro e w4 ⟨rfl, m4, hw4⟩
    have b4 := Lib.hid (show Below w.heap.size w w4 by rw [hw4]; exact Below.drewN b3.out m4)
    have t4 := Lib.hid (HT.out.below b4.out hg)
    clear hw4
    by_cases hY : Y = 0
    · have q5 : ((Y : Int) == 0) = true := by rw [hY]; rfl
      clear HST hY
      go_wp2_with fail
      with_reducible refine (works5_any _ t4.out).mono ?_
      rintro e w5 ⟨rfl, h9⟩
      have b5 := Lib.hid (grown_then b4.out h9)
      go_wp2
      go_ret
      exact ⟨rfl, b5.out⟩
    · have q5 : ((Y : Int) == 0) = false := beq_eq_false_iff_ne.mpr (by omega)
      have q6 : decide (n < (Y : Int)) = true := decide_eq_true (by have := HST.out; omega)
      clear HST hY
      go_wp2_with fail
      with_reducible refine (works5_any _ t4.out).mono ?_
      rintro e w5 ⟨rfl, h9⟩
      have b5 := Lib.hid (grown_then b4.out h9)
      go_wp2
      go_ret
      exact ⟨rfl, b5.out⟩
set_option maxRecDepth 100000 in
set_option maxHeartbeats 4000000 in
theorem ujoins_large (s t : ByteArray) (n : Int) (w : World) (hs : s.size ≤ 200) (htt : t.size ≤ 200) (hn1 : -9223372036854775808 ≤ n) (hn2 : n ≤ 9223372036854775807) (ht : Hds w) (hn : 0 < n) :
    Calls Tryd.prog 5 #[.string s, .string t, .int .i64 n] w fun e w' => e = .returned (.bool true) ∧ Below w.heap.size w w' := by
  have HT := Lib.hid ht
  have hg := ht.lt
  have p1 : decide ((200 : Int) < (s.size : Int)) = false := decide_eq_false (by omega)
  have p2 : decide ((200 : Int) < (t.size : Int)) = false := decide_eq_false (by omega)
  have hsz : (s ++ t).size = s.size + t.size := ByteArray.size_append
  have l1 : ¬ 9223372036854775807 < s.size + t.size := by omega
  have C1 := Lib.hid (fun w ht => ucheck_any s w (by omega) ht)
  have C2 := Lib.hid (fun w ht => ucheck_any t w (by omega) ht)
  have C3 := Lib.hid (fun w ht => ucheck_any (s ++ t) w (by omega) ht)
  have D1 := Lib.hid (fun w ht => ucount_any s w (by omega) ht)
  have D2 := Lib.hid (fun w ht => ucount_any t w (by omega) ht)
  have D3 := Lib.hid (fun w ht => ucount_any (s ++ t) w (by omega) ht)
  have E1 := Lib.hid (fun w ht => ucut_any s n w (by omega) ht)
  have hcb := wk_bound s n
  have hcl := wk_le s n
  have hcs := cut_size s n
  have E2 := Lib.hid (fun w ht => ucheck_any (uCut s n) w (by omega) ht)
  rw [uCheck_ok.mpr (cut_ok s n)] at E2
  have hcut := Lib.hid (show uCut s n = s.extract 0 (wk s n).1 from rfl)
  have hstop := (wk_end s n).2
  unfold WStop at hstop
  have hb1 := uCount_bound s
  have hb2 := uCount_bound t
  obtain ⟨c, hc⟩ : ∃ c, c = (wk s n).1 := ⟨_, rfl⟩
  rw [← hc] at hcs hcut hstop hcb hcl
  have R1 := Lib.hid (fun w ht => urune_any s (c : Nat) w (by omega) (by omega) (by omega) ht)
  rw [uR_at] at R1
  generalize (dAt s c).1 = X at *
  generalize (dAt s c).2 = Y at *
  have jcs : (c : Int) ≤ (s.size : Int) := by omega
  have j0 : (0 : Int) ≤ (c : Int) := by omega
  have jn : (c : Int) ≤ n := by omega
  have y2 : IntKind.i64.wrap (n - (c : Int)) = n - (c : Int) := i64_small (by omega) (by omega)
  have p3 : decide (n < (c : Int)) = false := decide_eq_false (by omega)
  have p4 : decide (s.size < c) = false := decide_eq_false (by omega)
  have heq : ((s.extract 0 c).toList == (uCut s n).toList) = true := by rw [text_eq]; exact decide_eq_true hcut.out.symm
  generalize uCut s n = V at *
  have HL := Lib.hid (fun h1 h2 => j_joins (s := s) (t := t) h1 h2)
  generalize uCheck s = cs at *
  generalize uCheck t = ct at *
  generalize uCheck (s ++ t) = cst at *
  generalize uCount s = ns at *
  generalize uCount t = nt at *
  generalize uCount (s ++ t) = nst at *
  have y1 : IntKind.i64.wrap (ns + nt) = ns + nt := i64_small (by omega) (by omega)
  have HST := Lib.hid hstop
  clear ht hcb hstop hc
  go_enter Tryd.func5, Tryd.ntmps5
  go_wp2_with fail
  with_reducible refine (C1.out _ HT.out).mono ?_
  rintro e w1 ⟨rfl, m1, hw1⟩
  have b1 := Lib.hid (show Below w.heap.size w w1 by rw [hw1]; exact drew_below w m1)
  have t1 := Lib.hid (HT.out.below b1.out hg)
  clear hw1
  by_cases h1 : cs = -1
  · have q1 : (cs == -1) = true := by rw [h1]; rfl
    have h1h := Lib.hid h1
    clear h1
    go_wp2_with fail
    with_reducible refine (C2.out _ t1.out).mono ?_
    rintro e w2 ⟨rfl, m2, hw2⟩
    have b2 := Lib.hid (show Below w.heap.size w w2 by rw [hw2]; exact Below.drewN b1.out m2)
    have t2 := Lib.hid (HT.out.below b2.out hg)
    clear hw2
    by_cases h2 : ct = -1
    · have q2 : (ct == -1) = true := by rw [h2]; rfl
      have hj := HL.out h1h.out h2
      have q3 : (cst != -1) = false := by rw [hj.1]; rfl
      have q4 : (nst != ns + nt) = false := by rw [hj.2]; simp
      clear h2 hj HL
      go_wp2_with fail
      with_reducible refine (C3.out _ t2.out).mono ?_
      rintro e w3 ⟨rfl, m3, hw3⟩
      have b3 := Lib.hid (show Below w.heap.size w w3 by rw [hw3]; exact Below.drewN b2.out m3)
      have t3 := Lib.hid (HT.out.below b3.out hg)
      clear hw3
      go_wp2_with fail
      with_reducible refine (D3.out _ t3.out).mono ?_
      rintro e w4 ⟨rfl, m4, hw4⟩
      have b4 := Lib.hid (show Below w.heap.size w w4 by rw [hw4]; exact Below.drewN b3.out m4)
      have t4 := Lib.hid (HT.out.below b4.out hg)
      clear hw4
      go_wp2_with fail
      with_reducible refine (D1.out _ t4.out).mono ?_
      rintro e w5 ⟨rfl, m5, hw5⟩
      have b5 := Lib.hid (show Below w.heap.size w w5 by rw [hw5]; exact Below.drewN b4.out m5)
      have t5 := Lib.hid (HT.out.below b5.out hg)
      clear hw5
      go_wp2_with fail
      with_reducible refine (D2.out _ t5.out).mono ?_
      rintro e w6 ⟨rfl, m6, hw6⟩
      have b6 := Lib.hid (show Below w.heap.size w w6 by rw [hw6]; exact Below.drewN b5.out m6)
      have t6 := Lib.hid (HT.out.below b6.out hg)
      clear hw6
      go_wp2_with fail
      with_reducible refine (E1.out _ t6.out).mono ?_
      rintro e w7 ⟨rfl, m7, hw7⟩
      have b7 := Lib.hid (show Below w.heap.size w w7 by rw [hw7]; exact Below.drewN b6.out m7)
      have t7 := Lib.hid (HT.out.below b7.out hg)
      clear hw7
      go_wp2_with fail
      with_reducible refine (E2.out _ t7.out).mono ?_
      rintro e w8 ⟨rfl, m8, hw8⟩
      have b8 := Lib.hid (show Below w.heap.size w w8 by rw [hw8]; exact Below.drewN b7.out m8)
      have t8 := Lib.hid (HT.out.below b8.out hg)
      clear hw8
      go_wp2_with fail
      with_reducible refine (R1.out _ t8.out).mono ?_
      rintro e w9 ⟨rfl, m9, hw9⟩
      have b9 := Lib.hid (show Below w.heap.size w w9 by rw [hw9]; exact Below.drewN b8.out m9)
      have t9 := Lib.hid (HT.out.below b9.out hg)
      clear hw9
      by_cases hY : Y = 0
      · have q5 : ((Y : Int) == 0) = true := by rw [hY]; rfl
        clear HST hY
        go_wp2_with fail
        with_reducible refine (works5_any _ t9.out).mono ?_
        rintro e w10 ⟨rfl, h9⟩
        have b10 := Lib.hid (grown_then b9.out h9)
        go_wp2
        go_ret
        exact ⟨rfl, b10.out⟩
      · have q5 : ((Y : Int) == 0) = false := beq_eq_false_iff_ne.mpr (by omega)
        have q6 : decide (n - (c : Int) < (Y : Int)) = true := decide_eq_true (by have := HST.out; omega)
        clear HST hY
        go_wp2_with fail
        with_reducible refine (works5_any _ t9.out).mono ?_
        rintro e w10 ⟨rfl, h9⟩
        have b10 := Lib.hid (grown_then b9.out h9)
        go_wp2
        go_ret
        exact ⟨rfl, b10.out⟩
    · have q2 : (ct == -1) = false := beq_eq_false_iff_ne.mpr h2
      clear h2 HL
      go_wp2_with fail
      with_reducible refine (E1.out _ t2.out).mono ?_
      rintro e w3 ⟨rfl, m3, hw3⟩
      have b3 := Lib.hid (show Below w.heap.size w w3 by rw [hw3]; exact Below.drewN b2.out m3)
      have t3 := Lib.hid (HT.out.below b3.out hg)
      clear hw3
      go_wp2_with fail
      with_reducible refine (E2.out _ t3.out).mono ?_
      rintro e w4 ⟨rfl, m4, hw4⟩
      have b4 := Lib.hid (show Below w.heap.size w w4 by rw [hw4]; exact Below.drewN b3.out m4)
      have t4 := Lib.hid (HT.out.below b4.out hg)
      clear hw4
      go_wp2_with fail
      with_reducible refine (R1.out _ t4.out).mono ?_
      rintro e w5 ⟨rfl, m5, hw5⟩
      have b5 := Lib.hid (show Below w.heap.size w w5 by rw [hw5]; exact Below.drewN b4.out m5)
      have t5 := Lib.hid (HT.out.below b5.out hg)
      clear hw5
      by_cases hY : Y = 0
      · have q5 : ((Y : Int) == 0) = true := by rw [hY]; rfl
        clear HST hY
        go_wp2_with fail
        with_reducible refine (works5_any _ t5.out).mono ?_
        rintro e w6 ⟨rfl, h9⟩
        have b6 := Lib.hid (grown_then b5.out h9)
        go_wp2
        go_ret
        exact ⟨rfl, b6.out⟩
      · have q5 : ((Y : Int) == 0) = false := beq_eq_false_iff_ne.mpr (by omega)
        have q6 : decide (n - (c : Int) < (Y : Int)) = true := decide_eq_true (by have := HST.out; omega)
        clear HST hY
        go_wp2_with fail
        with_reducible refine (works5_any _ t5.out).mono ?_
        rintro e w6 ⟨rfl, h9⟩
        have b6 := Lib.hid (grown_then b5.out h9)
        go_wp2
        go_ret
        exact ⟨rfl, b6.out⟩
  · have q1 : (cs == -1) = false := beq_eq_false_iff_ne.mpr h1
    clear h1 HL
    go_wp2_with fail
    with_reducible refine (E1.out _ t1.out).mono ?_
    rintro e w2 ⟨rfl, m2, hw2⟩
    have b2 := Lib.hid (show Below w.heap.size w w2 by rw [hw2]; exact Below.drewN b1.out m2)
    have t2 := Lib.hid (HT.out.below b2.out hg)
    clear hw2
    go_wp2_with fail
    with_reducible refine (E2.out _ t2.out).mono ?_
    rintro e w3 ⟨rfl, m3, hw3⟩
    have b3 := Lib.hid (show Below w.heap.size w w3 by rw [hw3]; exact Below.drewN b2.out m3)
    have t3 := Lib.hid (HT.out.below b3.out hg)
    clear hw3
    go_wp2_with fail
    with_reducible refine (R1.out _ t3.out).mono ?_
    rintro e w4 ⟨rfl, m4, hw4⟩
    have b4 := Lib.hid (show Below w.heap.size w w4 by rw [hw4]; exact Below.drewN b3.out m4)
    have t4 := Lib.hid (HT.out.below b4.out hg)
    clear hw4
    by_cases hY : Y = 0
    · have q5 : ((Y : Int) == 0) = true := by rw [hY]; rfl
      clear HST hY
      go_wp2_with fail
      with_reducible refine (works5_any _ t4.out).mono ?_
      rintro e w5 ⟨rfl, h9⟩
      have b5 := Lib.hid (grown_then b4.out h9)
      go_wp2
      go_ret
      exact ⟨rfl, b5.out⟩
    · have q5 : ((Y : Int) == 0) = false := beq_eq_false_iff_ne.mpr (by omega)
      have q6 : decide (n - (c : Int) < (Y : Int)) = true := decide_eq_true (by have := HST.out; omega)
      clear HST hY
      go_wp2_with fail
      with_reducible refine (works5_any _ t4.out).mono ?_
      rintro e w5 ⟨rfl, h9⟩
      have b5 := Lib.hid (grown_then b4.out h9)
      go_wp2
      go_ret
      exact ⟨rfl, b5.out⟩

theorem ujoins_any (s t : ByteArray) (n : Int) (w : World) (hs : s.size ≤ 140737488351232) (htt : t.size ≤ 140737488351232) (hn1 : -9223372036854775808 ≤ n) (hn2 : n ≤ 9223372036854775807) (ht : Hds w) :
    Calls Tryd.prog 5 #[.string s, .string t, .int .i64 n] w fun e w' => e = .returned (.bool true) ∧ Below w.heap.size w w' := by
  have HT := Lib.hid ht
  by_cases hbig : 200 < s.size
  · have p1 : decide ((200 : Int) < (s.size : Int)) = true := decide_eq_true (by omega)
    clear ht hbig
    go_enter Tryd.func5, Tryd.ntmps5
    go_wp2_with fail
    with_reducible refine (works5_any _ HT.out).mono ?_
    rintro e w1 ⟨rfl, h1⟩
    go_wp2
    go_ret
    exact ⟨rfl, h1⟩
  · have p1 : decide ((200 : Int) < (s.size : Int)) = false := decide_eq_false (by omega)
    by_cases hbig2 : 200 < t.size
    · have p2 : decide ((200 : Int) < (t.size : Int)) = true := decide_eq_true (by omega)
      clear ht hbig hbig2
      go_enter Tryd.func5, Tryd.ntmps5
      go_wp2_with fail
      with_reducible refine (works5_any _ HT.out).mono ?_
      rintro e w1 ⟨rfl, h1⟩
      go_wp2
      go_ret
      exact ⟨rfl, h1⟩
    · by_cases hn : n ≤ 0
      · exact ujoins_small s t n w (by omega) (by omega) hn1 hn2 ht hn
      · exact ujoins_large s t n w (by omega) (by omega) hn1 hn2 ht (by omega)
end Go.Proofs.YtdnfclpfoagkeaaDoor
