/- JstringBack, walked: where the texts are of at most 1048576 bytes. -/
import Derived.Test.YteakcfgjjlocjaaDoorJsWork
namespace Go.Proofs.YteakcfgjjlocjaaDoor
open Go Go.RowKit
set_option linter.unusedVariables false

theorem new_bs (s : ByteArray) : (CS.new s).bs = s.data.toList := by
  unfold CS.bs CS.new
  simp only [List.drop_zero]
  rw [List.take_of_length_le]; rw [toList_size]; exact Nat.le_refl _
/-- What was written of a right text is read as it was, whatever stands behind. -/
theorem back_res {l : List UInt8} (h : UOk l) (rest : ByteArray) : (CS.new (bA (jText l) ++ rest)).jRes = ⟨l, (jText l).length, 0⟩ := by
  have hb : (CS.new (bA (jText l) ++ rest)).bs = 34 :: (jT l ++ 34 :: rest.data.toList) := by
    rw [new_bs, toList_append]
    show jText l ++ rest.data.toList = _
    unfold jText
    simp
  rw [CS.jRes_in rfl hb (by decide), jIn_text h, if_pos rfl, jText_len]
theorem jread_back {b : Nat} {s rest : ByteArray} {w : World} (h : CurT 42 w b (CS.new (bA (jText s.data.toList) ++ rest))) (hu : UOk s.data.toList) (hs : (bA (jText s.data.toList) ++ rest).size ≤ 140737488351232) (ht : Hds w) (hg : 0 ≠ b) :
    Calls Tryd.prog 9 #[.pointer (some ⟨b, 0, none⟩)] w fun e w' => e = .returned (.string s) ∧ CurT 42 w' b ⟨bA (jText s.data.toList) ++ rest, (jText s.data.toList).length, (jText s.data.toList).length + rest.size, 0⟩ ∧ Only b w w' := by
  refine (jread_any h (CS.new_ok (by omega)) hs ht hg).mono ?_
  rintro e w' ⟨he, ⟨c', hq, hA⟩, ho⟩
  rw [back_res hu] at he hA
  have h1 := hA.2.2.2.2 rfl
  have h2 : (CS.new (bA (jText s.data.toList) ++ rest)).past (jText s.data.toList).length = ⟨bA (jText s.data.toList) ++ rest, (jText s.data.toList).length, (jText s.data.toList).length + rest.size, 0⟩ := by
    unfold CS.past CS.new
    simp only [Nat.zero_add]
    rw [ByteArray.size_append, bA_size]
  rw [h1, h2] at hq
  refine ⟨?_, hq, ho⟩
  rw [he]
  show Ending.returned (.string (bA s.data.toList)) = _
  rw [bA_of]
theorem uCheck_pos {s : ByteArray} (h : ¬ uOk s) : 0 ≤ uCheck s := by
  unfold uCheck
  rw [if_neg (show ¬ (wk s s.size).1 = s.size from h)]; omega
theorem jput_p (a : Option Addr) (cap : Nat) (p s : ByteArray) (w : World) (hl : p.size ≤ 70368744177664) (hs : s.size ≤ 1099511627776) (hin : BIn w a p.data.toList) :
    Calls Tryd.prog 13 #[.slice a p.size cap, .string s] w fun e w' => ∃ v, e = .returned v ∧ Bts 5 w' w.heap.size v (p.data.toList ++ jText s.data.toList) ∧ Below w.heap.size w w' := by
  have := jput_any a cap p.data.toList s w (by rw [toList_size]; exact hl) hs hin
  rw [toList_size] at this; exact this
theorem back_part (p X : ByteArray) (N : Nat) (h : X.size = N) : (p ++ X).extract p.size (p.size + N) = X := by
  subst h
  apply ByteArray.ext
  apply Array.toList_inj.mp
  rw [ext_toList, toList_append, ← toList_size p, List.drop_left, List.take_of_length_le]
  rw [toList_size]; omega
set_option maxRecDepth 100000 in
set_option maxHeartbeats 4000000 in
theorem jback_any (p s rest : ByteArray) (w : World) (hp : p.size ≤ 1048576) (hs : s.size ≤ 1048576) (hr : rest.size ≤ 1048576) (ht : Hds w) :
    Calls Tryd.prog 4 #[.string p, .string s, .string rest] w fun e w' => e = .returned (.bool true) ∧ Below w.heap.size w w' := by
  have hcv := Lib.hid (fun (w : World) => Lib.run_convert_string_bytes (P := Tryd.prog) w 9 35 5 p Tryd.underlying9 Tryd.underlying35 Tryd.underlying5)
  have HT := Lib.hid (show ∀ w', Below w.heap.size w w' → Hds w' from fun w' hb => ht.below hb ht.lt)
  have hgl := ht.lt
  obtain ⟨N, hN⟩ : ∃ N, N = (jText s.data.toList).length := ⟨_, rfl⟩
  have hNb : N ≤ 6291458 := by
    have := (jT_len s.data.toList).2
    rw [toList_size] at this
    rw [hN, jText_len]; omega
  have sT : (bA (jText s.data.toList)).size = N := by rw [bA_size]; exact hN.symm
  have R1 := Lib.hid (fun w => rjtext_any s w (by omega))
  have R2 := Lib.hid (fun w => jsize_any s w (by omega))
  have R3 := Lib.hid (fun w => rcheck_any s w (by omega))
  have R4 := Lib.hid (fun a cap w hin => jput_p a cap p s w (by omega) (by omega) hin)
  have HF := Lib.hid (fun (v : Value) (B : Nat) (w : World) (h : Bts 5 w B v (p.data.toList ++ jText s.data.toList)) => show (convert 35 9 v).run Tryd.prog w = .ok (.string (p ++ bA (jText s.data.toList))) w by
    have := h.text (P := Tryd.prog) (d := 9) Tryd.underlying35 Tryd.underlying5 Tryd.underlying9
    rw [bA_front] at this; exact this)
  have e1 := back_part p (bA (jText s.data.toList)) N sT
  have l1 : ¬ 9223372036854775807 < p.size + N := by omega
  have l2 : ¬ 9223372036854775807 < N + rest.size := by omega
  have s1 : (p ++ bA (jText s.data.toList)).size = p.size + N := by rw [ByteArray.size_append, sT]
  have s3 : IntKind.i64.wrap (((p.size : Int) + (N : Int)) - (p.size : Int)) = (N : Int) := by rw [i64_small (by omega) (by omega)]; omega
  have s4 : IntKind.i64.wrap (((p.size + N : Nat) : Int) - (p.size : Int)) = (N : Int) := by rw [i64_small (by omega) (by omega)]; omega
  have HN1 := Lib.hid (fun w => new_cur (bA (jText s.data.toList) ++ rest) w (by rw [ByteArray.size_append, sT]; omega))
  have HRD := Lib.hid (fun b w h hu ht hg => jread_back (b := b) (s := s) (rest := rest) (w := w) h hu (by rw [ByteArray.size_append, sT]; omega) ht hg)
  have HCO := Lib.hid (show CS.ok ⟨bA (jText s.data.toList) ++ rest, N, N + rest.size, 0⟩ from ⟨by simp only; omega, by simp only; rw [ByteArray.size_append, sT]; exact Nat.le_refl _, by simp only; rw [ByteArray.size_append, sT]; omega⟩)
  rw [← hN] at R2 HRD
  clear ht hN
  by_cases hu : uOk s
  · rw [uCheck_ok.mpr hu] at R3
    have HU := Lib.hid ((uOk_iff s).mp hu)
    clear hu
    generalize bA (jText s.data.toList) = T at *
    go_enter Tryd.func4, Tryd.ntmps4
    go_wp2_with fail
    rw [hcv.out]
    go_wp2_with fail
    refine (R4.out _ _ _ (bytes_in _ _ _)).mono ?_
    rintro e w1 ⟨v, rfl, hb, hb1⟩
    have k1 := Lib.hid (show Below w.heap.size w w1 from (bytes_below w 5 p).trans (hb1.mono (bytes_below w 5 p).size))
    have hcv2 := Lib.hid (HF.out _ _ _ hb)
    clear hb1 hb HF R4
    go_wp2_with fail
    rw [hcv2.out]
    go_wp2_with fail
    with_reducible refine (R1.out _).mono ?_
    rintro e w2 ⟨rfl, h2⟩
    have k2 := Lib.hid (grown_then k1.out h2)
    clear h2 k1 R1
    go_wp2_with fail
    with_reducible refine (R2.out _).mono ?_
    rintro e w3 ⟨rfl, h3⟩
    have k3 := Lib.hid (grown_then k2.out h3)
    clear h3 k2 R2
    go_wp2_with fail
    with_reducible refine (R3.out _).mono ?_
    rintro e w4 ⟨rfl, h4⟩
    have k4 := Lib.hid (grown_then k3.out h4)
    clear h4 k3 R3
    go_wp2_with fail
    refine (HN1.out _).mono ?_
    rintro e w5 ⟨b, rfl, hb5, q5, h5⟩
    have k5 := Lib.hid (grown_then k4.out h5)
    have hbw := Lib.hid (show w.heap.size ≤ b by have := k4.out.size; omega)
    clear h5 k4 HN1 hb5
    go_wp2_with fail
    refine (HRD.out _ _ q5 HU.out (HT.out _ k5.out) (by have := hbw.out; omega)).mono ?_
    rintro e w6 ⟨rfl, q6, ho6⟩
    have k6 := Lib.hid (k5.out.trans (ho6.below hbw.out k5.out.size))
    clear q5 k5 ho6 HRD
    have HE := Lib.hid (show Calls Tryd.prog 11 #[.pointer (some ⟨b, 0, none⟩)] w6 fun e w' => e = .returned (.int .i64 0) ∧ w' = w6 from err_any q6)
    have HL := Lib.hid (show Calls Tryd.prog 17 #[.pointer (some ⟨b, 0, none⟩)] w6 fun e w' => e = .returned (.int .i64 (rest.size : Nat)) ∧ ∃ n, w' = w6.drewN n from by
      have := left_any q6 HCO.out
      simp only at this
      rw [show (((N + rest.size : Nat) : Int) - (N : Int)) = (rest.size : Int) by omega] at this
      exact this)
    go_wp2_with fail
    with_reducible refine HE.out.mono ?_
    rintro e w7 ⟨rfl, hw⟩
    rw [hw]; clear hw
    go_wp2_with fail
    with_reducible refine HL.out.mono ?_
    rintro e w8 ⟨rfl, n8, hw⟩
    have k8 := Lib.hid (show Below w.heap.size w w8 by rw [hw]; exact Below.drewN k6.out n8)
    clear hw
    go_wp2_with fail
    refine (works10_any _ (HT.out _ k8.out)).mono ?_
    rintro e w9 ⟨rfl, h9⟩
    have k9 := Lib.hid (grown_then k8.out h9)
    go_wp2
    go_ret
    exact ⟨rfl, k9.out⟩
  · have hz : decide ((0 : Int) ≤ uCheck s) = true := decide_eq_true (uCheck_pos hu)
    generalize uCheck s = Z at *
    clear hu HRD HN1 HCO
    generalize bA (jText s.data.toList) = T at *
    go_enter Tryd.func4, Tryd.ntmps4
    go_wp2_with fail
    rw [hcv.out]
    go_wp2_with fail
    refine (R4.out _ _ _ (bytes_in _ _ _)).mono ?_
    rintro e w1 ⟨v, rfl, hb, hb1⟩
    have k1 := Lib.hid (show Below w.heap.size w w1 from (bytes_below w 5 p).trans (hb1.mono (bytes_below w 5 p).size))
    have hcv2 := Lib.hid (HF.out _ _ _ hb)
    clear hb1 hb HF R4
    go_wp2_with fail
    rw [hcv2.out]
    go_wp2_with fail
    with_reducible refine (R1.out _).mono ?_
    rintro e w2 ⟨rfl, h2⟩
    have k2 := Lib.hid (grown_then k1.out h2)
    clear h2 k1 R1
    go_wp2_with fail
    with_reducible refine (R2.out _).mono ?_
    rintro e w3 ⟨rfl, h3⟩
    have k3 := Lib.hid (grown_then k2.out h3)
    clear h3 k2 R2
    go_wp2_with fail
    with_reducible refine (R3.out _).mono ?_
    rintro e w4 ⟨rfl, h4⟩
    have k4 := Lib.hid (grown_then k3.out h4)
    clear h4 k3 R3
    go_wp2_with fail
    refine (works10_any _ (HT.out _ k4.out)).mono ?_
    rintro e w9 ⟨rfl, h9⟩
    have k9 := Lib.hid (grown_then k4.out h9)
    go_wp2
    go_ret
    exact ⟨rfl, k9.out⟩
end Go.Proofs.YteakcfgjjlocjaaDoor
