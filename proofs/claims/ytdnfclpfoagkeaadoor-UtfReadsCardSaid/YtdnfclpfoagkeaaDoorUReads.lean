/- UtfReads, walked. -/
import Derived.Test.YtdnfclpfoagkeaaDoorUWork
namespace Go.Proofs.YtdnfclpfoagkeaaDoor
open Go Go.RowKit
set_option linter.unusedVariables false

theorem cut_size_le (s : ByteArray) (n : Int) : (uCut s n).size ≤ s.size := by rw [cut_size]; exact wk_le s n
def UReadsRel (s : ByteArray) (W : World) (x i : Value) (wr : World) : Prop := ∃ I : Int, x = .bool false ∧ i = .int .i64 I ∧ -1 ≤ I ∧ I ≤ (s.size : Int) + 1 ∧ Below W.heap.size W wr
set_option maxRecDepth 100000 in
set_option maxHeartbeats 4000000 in
theorem ureads_any (s : ByteArray) (a n : Int) (w : World) (hs : s.size ≤ 140737488351232) (ha1 : -9223372036854775808 ≤ a) (ha2 : a ≤ 9223372036854775807) (hn1 : -9223372036854775808 ≤ n) (hn2 : n ≤ 9223372036854775807) (ht : Hds w) :
    Calls Tryd.prog 3 #[.string s, .int .i64 a, .int .i64 n] w fun e w' => e = .returned (.bool true) ∧ Below w.heap.size w w' := by
  have HT := Lib.hid ht
  have hg := ht.lt
  by_cases hbig : 200 < s.size
  · have p1 : decide ((200 : Int) < (s.size : Int)) = true := decide_eq_true (by omega)
    clear ht hbig
    go_enter Tryd.func3, Tryd.ntmps3
    go_wp2_with fail
    with_reducible refine (works5_any _ HT.out).mono ?_
    rintro e w1 ⟨rfl, h1⟩
    go_wp2
    go_ret
    exact ⟨rfl, h1⟩
  · have p1 : decide ((200 : Int) < (s.size : Int)) = false := decide_eq_false (by omega)
    have hs2 : s.size ≤ 1125899906842624 := by omega
    have R1 := Lib.hid (fun a w h1 h2 ht => urune_any s a w hs2 h1 h2 ht)
    have R2 := Lib.hid (fun a w h1 h2 => rrune_any s a w hs2 h1 h2)
    have C1 := Lib.hid (fun w ht => ucheck_any s w hs2 ht)
    have C2 := Lib.hid (fun w => rcheck_any s w hs2)
    have D1 := Lib.hid (fun w ht => ucount_any s w hs2 ht)
    have D2 := Lib.hid (fun w => rcount_any s w hs2)
    have E1 := Lib.hid (fun w ht => ucut_any s n w hs2 ht)
    have E2 := Lib.hid (fun w => rcut_any s n w hs2 hn1 hn2)
    clear ht
    go_enter Tryd.func3, Tryd.ntmps3
    go_wp2_with fail
    go_loopw [6, 7] (fun x i wr => UReadsRel s w x i wr) (fun _ i _ => ((s.size : Int) + 2 - intOf i).toNat)
    case atStart => exact ⟨-1, rfl, rfl, by omega, by omega, Below.refl _ _⟩
    case round =>
      obtain ⟨I, rfl, rfl, hI1, hI2, hbe⟩ := hrel
      have t0 := Lib.hid (HT.out.below hbe hg)
      by_cases hle : I ≤ (s.size : Int)
      · have q1 : decide (I ≤ (s.size : Int)) = true := decide_eq_true hle
        have F1 := Lib.hid (R1.out I wr (by omega) (by omega) t0.out)
        have F2 := Lib.hid (fun w => R2.out I w (by omega) (by omega))
        have z1 : IntKind.i64.wrap (I + 1) = I + 1 := i64_small (by omega) (by omega)
        generalize (uR s I).1 = x at *
        generalize (uR s I).2 = y at *
        go_wp2_with fail
        with_reducible refine F1.out.mono ?_
        rintro e w1 ⟨rfl, m1, h1⟩
        have b1 := Lib.hid (show Below w.heap.size w w1 by rw [h1]; exact Below.drewN hbe m1)
        clear h1
        go_wp2_with fail
        with_reducible refine (F2.out _).mono ?_
        rintro e w2 ⟨rfl, h2⟩
        have b2 := Lib.hid (grown_then b1.out h2)
        clear h2 b1
        go_wp2
        go_roundw
        case rel => exact ⟨I + 1, rfl, rfl, by omega, by omega, b2.out⟩
        case measure => simp [intOf]; omega
      · have q1 : decide (I ≤ (s.size : Int)) = false := decide_eq_false hle
        have F1 := Lib.hid (R1.out a wr ha1 ha2 t0.out)
        have F2 := Lib.hid (fun w => R2.out a w ha1 ha2)
        generalize (uR s a).1 = x at *
        generalize (uR s a).2 = y at *
        generalize uCheck s = z at *
        generalize uCount s = u at *
        generalize uCut s n = v at *
        go_wp2_with fail
        with_reducible refine F1.out.mono ?_
        rintro e w1 ⟨rfl, m1, h1⟩
        have b1 := Lib.hid (show Below w.heap.size w w1 by rw [h1]; exact Below.drewN hbe m1)
        clear h1
        go_wp2_with fail
        with_reducible refine (F2.out _).mono ?_
        rintro e w2 ⟨rfl, h2⟩
        have b2 := Lib.hid (grown_then b1.out h2)
        have t2 := Lib.hid (HT.out.below b2.out hg)
        clear h2 b1
        go_wp2_with fail
        with_reducible refine (C1.out _ t2.out).mono ?_
        rintro e w3 ⟨rfl, m3, h3⟩
        have b3 := Lib.hid (show Below w.heap.size w w3 by rw [h3]; exact Below.drewN b2.out m3)
        clear h3 b2
        go_wp2_with fail
        with_reducible refine (C2.out _).mono ?_
        rintro e w4 ⟨rfl, h4⟩
        have b4 := Lib.hid (grown_then b3.out h4)
        have t4 := Lib.hid (HT.out.below b4.out hg)
        clear h4 b3
        go_wp2_with fail
        with_reducible refine (D1.out _ t4.out).mono ?_
        rintro e w5 ⟨rfl, m5, h5⟩
        have b5 := Lib.hid (show Below w.heap.size w w5 by rw [h5]; exact Below.drewN b4.out m5)
        clear h5 b4
        go_wp2_with fail
        with_reducible refine (D2.out _).mono ?_
        rintro e w6 ⟨rfl, h6⟩
        have b6 := Lib.hid (grown_then b5.out h6)
        have t6 := Lib.hid (HT.out.below b6.out hg)
        clear h6 b5
        go_wp2_with fail
        with_reducible refine (E1.out _ t6.out).mono ?_
        rintro e w7 ⟨rfl, m7, h7⟩
        have b7 := Lib.hid (show Below w.heap.size w w7 by rw [h7]; exact Below.drewN b6.out m7)
        clear h7 b6
        go_wp2_with fail
        with_reducible refine (E2.out _).mono ?_
        rintro e w8 ⟨rfl, h8⟩
        have b8 := Lib.hid (grown_then b7.out h8)
        have t8 := Lib.hid (HT.out.below b8.out hg)
        clear h8 b7
        go_wp2_with fail
        with_reducible refine (works5_any _ t8.out).mono ?_
        rintro e w9 ⟨rfl, h9⟩
        have b9 := Lib.hid (grown_then b8.out h9)
        go_wp2
        go_ret
        exact ⟨rfl, b9.out⟩
end Go.Proofs.YtdnfclpfoagkeaaDoor
