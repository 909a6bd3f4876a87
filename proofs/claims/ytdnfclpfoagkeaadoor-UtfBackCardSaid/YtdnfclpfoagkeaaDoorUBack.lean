/- UtfBack, walked. -/
import Derived.Test.YtdnfclpfoagkeaaDoorUWork
namespace Go.Proofs.YtdnfclpfoagkeaaDoor
open Go Go.RowKit
set_option linter.unusedVariables false

theorem uput_p (a : Option Addr) (cap : Nat) (p : ByteArray) (r : Int) (w : World) (hp : p.size ≤ 140737488351232) (hin : BIn w a p.data.toList) (ht : Hds w) :
    Calls Tryd.prog 15 #[.slice a p.size cap, .int .i32 r] w fun e w' => ∃ v, e = .returned v ∧ Bts 5 w' w.heap.size v (p.data.toList ++ uBI r) ∧ Below w.heap.size w w' := by
  have := uput_any a cap p.data.toList r w (by rw [toList_size]; exact hp) hin ht
  rw [toList_size] at this; exact this
theorem back_rune (p rest : ByteArray) (r : Nat) (h : uIs r = true) : uR (p ++ bA (uB r) ++ rest) (p.size : Nat) = (r, (uB r).length) := by
  rw [uR_at]
  unfold dAt
  have e : (p ++ bA (uB r) ++ rest).data.toList.drop p.size = uB r ++ rest.data.toList := by
    rw [toList_append, toList_append, List.append_assoc, ← toList_size, List.drop_left]; rfl
  rw [e, dec_put _ h]
set_option maxRecDepth 100000 in
set_option maxHeartbeats 4000000 in
theorem uback_any (p : ByteArray) (r : Int) (rest : ByteArray) (w : World) (hp : p.size ≤ 140737488351232) (h1 : -2147483648 ≤ r) (h2 : r ≤ 2147483647) (hr : rest.size ≤ 140737488351232) (ht : Hds w) :
    Calls Tryd.prog 4 #[.string p, .int .i32 r, .string rest] w fun e w' => e = .returned (.bool true) ∧ Below w.heap.size w w' := by
  have hcv := Lib.hid (fun (w : World) => Lib.run_convert_string_bytes (P := Tryd.prog) w 9 28 5 p Tryd.underlying9 Tryd.underlying28 Tryd.underlying5)
  have HT := Lib.hid ht
  have hg := ht.lt
  have I1 := Lib.hid (fun w => uis_any r w)
  have I2 := Lib.hid (fun w => ruis_any r w)
  have hbI := Lib.hid (bA_front p (uBI r))
  clear ht
  by_cases hI : uIs r = true
  · obtain ⟨c, rfl⟩ := Int.eq_ofNat_of_zero_le (uIs_iff.mp hI).1
    have hc2 := (uIs_iff.mp hI).2.1
    rw [hI] at I1 I2
    have hU : uBI (c : Int) = uB c := by unfold uBI; rw [if_pos hI, Int.toNat_natCast]
    rw [hU] at hbI
    have HB := Lib.hid (fun w => rbytes_any c w (by omega))
    have hL := uB_pos c
    obtain ⟨L, hLe⟩ : ∃ L, L = (uB c).length := ⟨_, rfl⟩
    rw [← hLe] at hL
    have sX : (bA (uB c)).size = L := by rw [bA_size]; exact hLe.symm
    have HR := Lib.hid (fun (w : World) (ht : Hds w) => urune_any (p ++ bA (uB c) ++ rest) (p.size : Nat) w (by rw [ByteArray.size_append, ByteArray.size_append]; omega) (by omega) (by omega) ht)
    rw [back_rune p rest c hI, ← hLe] at HR
    have HP := Lib.hid (fun (a : Option Addr) (cap : Nat) (w : World) hin ht => uput_p a cap p (c : Int) w hp hin ht)
    rw [hU] at HP
    clear hI hLe hU
    go_enter Tryd.func4, Tryd.ntmps4
    go_wp2_with fail
    rw [hcv.out]
    go_wp2_with fail
    refine (HP.out _ _ _ (bytes_in _ _ _) (HT.out.below (bytes_below _ _ _) hg)).mono ?_
    rintro e w1 ⟨v, rfl, hbt, hbe⟩
    have b1 := Lib.hid (show Below w.heap.size w w1 from (bytes_below _ _ _).trans (hbe.mono (bytes_below _ _ _).size))
    have t1 := Lib.hid (HT.out.below b1.out hg)
    have htx := Lib.hid (hbt.text (P := Tryd.prog) Tryd.underlying28 Tryd.underlying5 Tryd.underlying9)
    rw [hbI.out] at htx
    clear hbt hbe hbI HP
    generalize bA (uB c) = X at *
    go_wp2_with fail
    rw [htx.out]
    have l1 : ¬ 9223372036854775807 < p.size + L := by omega
    have l2 : ¬ 9223372036854775807 < p.size + L + rest.size := by omega
    have s1 : (p ++ X).size = p.size + L := by rw [ByteArray.size_append, sX]
    have s2 : IntKind.i64.wrap (((p.size + L : Nat) : Int) - (p.size : Int)) = (L : Int) := by rw [i64_small (by omega) (by omega)]; omega
    have s3 : IntKind.i64.wrap (((p.size : Int) + (L : Int)) - (p.size : Int)) = (L : Int) := by rw [i64_small (by omega) (by omega)]; omega
    go_wp2_with fail
    with_reducible refine (I1.out _).mono ?_
    rintro e w2 ⟨rfl, hw⟩
    rw [hw]; clear hw
    go_wp2_with fail
    with_reducible refine (I2.out _).mono ?_
    rintro e w2 ⟨rfl, hw⟩
    rw [hw]; clear hw
    go_wp2_with fail
    with_reducible refine (I2.out _).mono ?_
    rintro e w2 ⟨rfl, hw⟩
    rw [hw]; clear hw
    go_wp2_with fail
    with_reducible refine (HR.out _ t1.out).mono ?_
    rintro e w2 ⟨rfl, m2, hw⟩
    have b2 := Lib.hid (show Below w.heap.size w w2 by rw [hw]; exact Below.drewN b1.out m2)
    clear hw
    go_wp2_with fail
    with_reducible refine (HB.out _).mono ?_
    rintro e w3 ⟨rfl, h3⟩
    have b3 := Lib.hid (grown_then b2.out h3)
    have t3 := Lib.hid (HT.out.below b3.out hg)
    clear h3 b2 t1 b1
    go_wp2_with fail
    with_reducible refine (works5_any _ t3.out).mono ?_
    rintro e w4 ⟨rfl, h4⟩
    have b4 := Lib.hid (grown_then b3.out h4)
    go_wp2
    go_ret
    exact ⟨rfl, b4.out⟩
  · rw [show uIs r = false by simpa using hI] at I1 I2
    have hU : uBI r = [] := by unfold uBI; rw [if_neg hI]
    rw [hU] at hbI
    have hpn : p ++ bA [] = p := by
      apply ByteArray.ext
      show _ = _
      simp [bA]
    rw [hpn] at hbI
    have HP := Lib.hid (fun (a : Option Addr) (cap : Nat) (w : World) hin ht => uput_p a cap p r w hp hin ht)
    rw [hU] at HP
    clear hI hU hpn
    go_enter Tryd.func4, Tryd.ntmps4
    go_wp2_with fail
    rw [hcv.out]
    go_wp2_with fail
    refine (HP.out _ _ _ (bytes_in _ _ _) (HT.out.below (bytes_below _ _ _) hg)).mono ?_
    rintro e w1 ⟨v, rfl, hbt, hbe⟩
    have b1 := Lib.hid (show Below w.heap.size w w1 from (bytes_below _ _ _).trans (hbe.mono (bytes_below _ _ _).size))
    have t1 := Lib.hid (HT.out.below b1.out hg)
    have htx := Lib.hid (hbt.text (P := Tryd.prog) Tryd.underlying28 Tryd.underlying5 Tryd.underlying9)
    rw [hbI.out] at htx
    clear hbt hbe hbI HP
    go_wp2_with fail
    rw [htx.out]
    go_wp2_with fail
    with_reducible refine (I1.out _).mono ?_
    rintro e w2 ⟨rfl, hw⟩
    rw [hw]; clear hw
    go_wp2_with fail
    with_reducible refine (I2.out _).mono ?_
    rintro e w2 ⟨rfl, hw⟩
    rw [hw]; clear hw
    go_wp2_with fail
    with_reducible refine (I2.out _).mono ?_
    rintro e w2 ⟨rfl, hw⟩
    rw [hw]; clear hw
    go_wp2_with fail
    with_reducible refine (works5_any _ t1.out).mono ?_
    rintro e w4 ⟨rfl, h4⟩
    have b4 := Lib.hid (grown_then b1.out h4)
    go_wp2
    go_ret
    exact ⟨rfl, b4.out⟩
end Go.Proofs.YtdnfclpfoagkeaaDoor
