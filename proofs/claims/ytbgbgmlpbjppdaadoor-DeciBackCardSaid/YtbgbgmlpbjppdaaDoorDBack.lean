/- DeciBack, walked. -/
import Derived.Test.YtbgbgmlpbjppdaaDoorDWork
import Derived.Deep.RegionHeld3
import Derived.Deep.Cut
import Derived.Deep.DrawnRows
namespace Go.Proofs.YtbgbgmlpbjppdaaDoor
open Go Go.RowKit
set_option linter.unusedVariables false

/-- From now on the slice v is read as the text T. -/
def Up (w' : World) (v : Value) (T : ByteArray) : Prop := ∀ wx, Below w'.heap.size w' wx → (convert 30 9 v).run Tryd.prog wx = .ok (.string T) wx
theorem up_of {w : World} {B : Nat} {v : Value} {L : List UInt8} {T : ByteArray} (h : Bts 5 w B v L) (hT : bA L = T) : Up w v T := fun wx hb => by
  subst hT
  exact (h.below hb (Nat.le_refl _)).text Tryd.underlying30 Tryd.underlying5 Tryd.underlying9
theorem dput_q (p : ByteArray) (n : Int) (W wx : World) (a : Option Addr) (cap : Nat) (hp : p.size ≤ 140737488351232) (h0 : -9223372036854775808 ≤ n) (h1 : n ≤ 9223372036854775807) (ht : P10 W) (hc : Below W.heap.size W wx) (hin : BIn wx a p.data.toList) :
    Calls Tryd.prog 11 #[.slice a p.size cap, .int .i64 n] wx fun e w' => ∃ v, e = .returned v ∧ Up w' v (p ++ bA (Lib.itoa n)) ∧ Below wx.heap.size wx w' ∧ Below W.heap.size W w' := by
  have := dput_any a cap p.data.toList n wx h0 h1 (by rw [toList_size]; omega) hin (ht.below hc)
  rw [toList_size] at this
  refine this.mono ?_
  rintro e w' ⟨v, rfl, hb, hbe⟩
  exact ⟨v, rfl, up_of hb (bA_front p _), hbe, grown_then hc hbe⟩
theorem dputU_q (p : ByteArray) (u : Nat) (W wx : World) (a : Option Addr) (cap : Nat) (hp : p.size ≤ 140737488351232) (hu : u < 18446744073709551616) (ht : P10 W) (hc : Below W.heap.size W wx) (hin : BIn wx a p.data.toList) :
    Calls Tryd.prog 12 #[.slice a p.size cap, .int .u64 u] wx fun e w' => ∃ v, e = .returned v ∧ Up w' v (p ++ bA (Lib.decDigits u)) ∧ Below wx.heap.size wx w' ∧ Below W.heap.size W w' := by
  have := dputU_any a cap p.data.toList u wx hu (by rw [toList_size]; omega) hin (ht.below hc)
  rw [toList_size] at this
  refine this.mono ?_
  rintro e w' ⟨v, rfl, hb, hbe⟩
  exact ⟨v, rfl, up_of hb (bA_front p _), hbe, grown_then hc hbe⟩
/- The worlds behind the one and the other '[]byte(p)', and where the bytes lie. -/
theorem bw1 (w : World) (t : TypeId) (p : ByteArray) : Below w.heap.size w (Lib.bytesWorld w.drew t p) := (Below.drew (Below.refl _ _)).trans (bytes_below w.drew t p)
theorem bw2 (w : World) (t : TypeId) (p : ByteArray) : Below w.heap.size w (Lib.bytesWorld (Lib.bytesWorld w.drew t p) t p) := grown_then (bw1 w t p) (bytes_below _ _ _)
theorem bi1 (w : World) (t : TypeId) (p : ByteArray) : BIn (Lib.bytesWorld w.drew t p) (some ⟨w.heap.size, 0, none⟩) p.data.toList := bytes_in w.drew t p
theorem bi2 (w : World) (t : TypeId) (p : ByteArray) : BIn (Lib.bytesWorld (Lib.bytesWorld w.drew t p) t p) (some ⟨w.heap.size, 0, none⟩) p.data.toList := (bi1 w t p).below (bytes_below _ _ _)
theorem bi3 (w : World) (t : TypeId) (p : ByteArray) : BIn (Lib.bytesWorld (Lib.bytesWorld w.drew t p) t p) (some ⟨(Lib.bytesWorld w.drew t p).heap.size, 0, none⟩) p.data.toList := bytes_in (Lib.bytesWorld w.drew t p) t p
theorem back_piece (p X : ByteArray) : (p ++ X).extract p.size (p.size + X.size) = X := by
  apply ByteArray.ext
  apply Array.toList_inj.mp
  rw [ext_toList, toList_append, ← toList_size p, List.drop_left, List.take_of_length_le]
  rw [toList_size]; omega
attribute [local go_sem ↓] Go.wp_at_zero Go.wp_at_succ
set_option maxRecDepth 100000 in
set_option maxHeartbeats 4000000 in
theorem dback_any (p : ByteArray) (n : Int) (u : Nat) (w : World) (hp : p.size ≤ 140737488351232) (h0 : -9223372036854775808 ≤ n) (h1 : n ≤ 9223372036854775807) (hu : u < 18446744073709551616) (ht : P10 w) :
    Calls Tryd.prog 4 #[.string p, .int .i64 n, .int .u64 u] w fun e w' => e = .returned (.bool true) ∧ Below w.heap.size w w' := by
  have hcv := Lib.hid (fun (w : World) => Lib.run_convert_string_bytes (P := Tryd.prog) w 9 30 5 p Tryd.underlying9 Tryd.underlying30 Tryd.underlying5)
  have HT := Lib.hid ht
  clear ht
  go_enter Tryd.func4, Tryd.ntmps4
  go_wp2_with fail
  go_cut [7, 8] from 23 (fun q1 q2 wx => q1 = .string (p ++ bA (Lib.itoa n)) ∧ q2 = .string (p ++ bA (Lib.decDigits u)) ∧ Below w.heap.size w wx)
  case first =>
    go_region_with (first | rw [hcv.out] | (go_at_call 11; go_loud (with_reducible refine (dput_q p n w _ _ _ hp h0 h1 HT.out (by first | with_reducible exact bw1 w _ p | with_reducible exact bw2 w _ p | with_reducible exact hgB | with_reducible exact grown_then hgB (bytes_below _ _ _)) (by first | with_reducible exact bi1 w _ p | with_reducible exact bi2 w _ p | with_reducible exact bi3 w _ p | with_reducible exact bytes_in _ _ _ | with_reducible exact (bi2 w _ p).below hbeB | with_reducible exact (bi3 w _ p).below hbeB)).mono ?_; rintro e wA ⟨vA, rfl, hupA, hbeA, hgA⟩); have kA1 := hupA _ (Below.refl _ _); have kA2 := hupA _ (bytes_below _ 5 p); first | (have kB3 := hupB _ hbeA) | (have kB3 := hupB _ (grown_then (bytes_below _ _ _) hbeA)) | skip) | (go_at_call 12; go_loud (with_reducible refine (dputU_q p u w _ _ _ hp hu HT.out (by first | with_reducible exact bw1 w _ p | with_reducible exact bw2 w _ p | with_reducible exact hgA | with_reducible exact grown_then hgA (bytes_below _ _ _)) (by first | with_reducible exact bi1 w _ p | with_reducible exact bi2 w _ p | with_reducible exact bi3 w _ p | with_reducible exact bytes_in _ _ _ | with_reducible exact (bi2 w _ p).below hbeA | with_reducible exact (bi3 w _ p).below hbeA)).mono ?_; rintro e wB ⟨vB, rfl, hupB, hbeB, hgB⟩); have kB1 := hupB _ (Below.refl _ _); have kB2 := hupB _ (bytes_below _ 5 p); first | (have kA3 := hupA _ hbeB) | (have kA3 := hupA _ (grown_then (bytes_below _ _ _) hbeB)) | skip))
    all_goals go_wp2_with fail
    all_goals go_meet
    all_goals (case rel => first | exact ⟨rfl, rfl, hgA⟩ | exact ⟨rfl, rfl, hgB⟩)
  case rest =>
    obtain ⟨rfl, rfl, hb⟩ := hcut
    rename_i wx
    have b3 := Lib.hid hb
    have t3 := Lib.hid (HT.out.below hb)
    have R1 := Lib.hid (fun w => rtext_any n h0 h1 w)
    have R2 := Lib.hid (fun w => rtextU u w hu)
    have sX : (bA (Lib.itoa n)).size ≤ 21 := by rw [bA_size]; exact itoa_len n h0 h1
    have sY : (bA (Lib.decDigits u)).size ≤ 20 := by rw [bA_size]; exact dec_len u hu
    have A1 := Lib.hid (fun w => dRead (bA (Lib.itoa n)) w (by omega))
    have A2 := Lib.hid (fun w => dReadU (bA (Lib.decDigits u)) w (by omega))
    rw [show sEnd (bA (Lib.itoa n)).data.toList = (n, 0) by rw [show (bA (Lib.itoa n)).data.toList = Lib.itoa n by simp [bA]]; exact sEnd_itoa h0 h1] at A1
    rw [show uEnd (bA (Lib.decDigits u)).data.toList = ((u : Int), 0) by rw [show (bA (Lib.decDigits u)).data.toList = Lib.decDigits u by simp [bA]]; exact uEnd_dec hu] at A2
    have e1 := back_piece p (bA (Lib.itoa n))
    have e2 := back_piece p (bA (Lib.decDigits u))
    clear hb hcv
    generalize bA (Lib.itoa n) = X at *
    generalize bA (Lib.decDigits u) = Y at *
    go_wp2_with fail
    with_reducible refine (R1.out _).mono ?_
    rintro e w1 ⟨rfl, hw⟩
    rw [hw]; clear hw
    go_wp2_with fail
    with_reducible refine (R2.out _).mono ?_
    rintro e w1 ⟨rfl, hw⟩
    rw [hw]; clear hw
    go_wp2_with fail
    with_reducible refine (A1.out _).mono ?_
    rintro e w1 ⟨rfl, hw⟩
    rw [hw]; clear hw
    go_wp2_with fail
    with_reducible refine (A2.out _).mono ?_
    rintro e w1 ⟨rfl, hw⟩
    rw [hw]; clear hw
    go_wp2_with fail
    with_reducible refine (works6_any _ t3.out).mono ?_
    rintro e w4 ⟨rfl, h4⟩
    have b4 := Lib.hid (grown_then b3.out h4)
    go_wp2
    go_ret
    exact ⟨rfl, b4.out⟩
theorem dback_t (p : ByteArray) (n u : Int) (w : World) (hp : p.size ≤ 140737488351232) (h0 : -9223372036854775808 ≤ n) (h1 : n ≤ 9223372036854775807) (h2 : 0 ≤ u) (h3 : u ≤ 18446744073709551615) (ht : P10 w) :
    Calls Tryd.prog 4 #[.string p, .int .i64 n, .int .u64 u] w fun e w' => e = .returned (.bool true) ∧ Below w.heap.size w w' := by
  obtain ⟨m, rfl⟩ := Int.eq_ofNat_of_zero_le h2
  exact dback_any p n m w hp h0 h1 (by omega) ht
end Go.Proofs.YtbgbgmlpbjppdaaDoor
