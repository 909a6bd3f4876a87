/- PtagBack, walked. -/
import Derived.Test.YtghpindmbjjchaaPtR
import Derived.Test.YtghpindmbjjchaaPtWork
import Derived.Test.YtghpindmbjjchaaVBkN
import Derived.Deep.RegionHeld3
import Derived.Deep.RegionWith
import Derived.Deep.Cut
import Derived.Deep.DrawnRows
namespace Go.Proofs.Ytghpindmbjjchaa
open Go Go.RowKit
set_option linter.unusedVariables false

theorem tagL_le (n v : Int) : (tagL n v).length ≤ 10 := by
  unfold tagL; split
  · rename_i h; exact vB_le10 (by have := tagU_lt h; omega)
  · simp
/-- A tag's bytes are read as that tag. -/
theorem tag_back {n v : Int} (h : tagB n v = true) : (CS.new (bA (tagL n v))).gTo = ⟨bA (tagL n v), (tagL n v).length, (tagL n v).length, 0⟩ ∧ ((mN (CS.new (bA (tagL n v))).vVal : Nat) : Int) = n ∧ ((mW (CS.new (bA (tagL n v))).vVal : Nat) : Int) = v := by
  have hU := tagU_lt h
  have hL : tagL n v = vB (tagU n v) := if_pos h
  obtain ⟨h1, h2⟩ := back_read (tagU n v) ⟨#[]⟩ (by omega)
  have e : bA (vB (tagU n v)) ++ ⟨#[]⟩ = bA (vB (tagU n v)) := by apply ByteArray.ext; simp
  have hb := tagU_back h
  rw [e] at h1 h2
  rw [hL]
  have h3 : ¬ mN (CS.new (bA (vB (tagU n v)))).vVal = 0 := by rw [h1]; have := tag_yes h; omega
  refine ⟨?_, by rw [h1]; exact hb.1, by rw [h1]; exact hb.2⟩
  rw [CS.gTo_yes h3, h2]; rfl
theorem cut_back (p X : ByteArray) : (p ++ X).extract p.size (p ++ X).size = X := by
  apply ByteArray.ext
  apply Array.toList_inj.mp
  rw [back_toList, toList_append, ← toList_size p, List.drop_left]

set_option maxRecDepth 100000 in
set_option maxHeartbeats 4000000 in
theorem pback_no (p : ByteArray) (n v : Int) (w : World) (hp : p.size ≤ 140737488351232) (h : tagB n v = false) :
    Calls Try.prog 4 #[.string p, .int .i64 n, .int .i64 v] w fun e w' => e = .returned (.bool true) ∧ Below w.heap.size w w' := by
  have hcv := Lib.hid (fun (w : World) => Lib.run_convert_string_bytes (P := Try.prog) w 9 37 5 p Try.underlying9 Try.underlying37 Try.underlying5)
  have qE := fun a b c d w => tg_eql a b c d w
  have qG := fun (x y : Operand) xs ys w => run_eqGuard_agg w .eql 30 x y xs ys tg_guard
  have HP := Lib.hid (fun a cap w hin => tput_any a cap p.data.toList n v w (by rw [toList_size]; exact hp) hin)
  rw [toList_size] at HP
  have hF := bA_front p (tagL n v)
  have HM := Lib.hid (fun w => may_any n v w)
  have HR := Lib.hid (fun w => rmay_any n v w)
  rw [h] at HM HR
  have HT := Lib.hid (fun w => rtext_any n v w)
  have HS := Lib.hid (fun w => tsize_any n v w)
  have hlen := tagL_le n v
  have sx := bA_size (tagL n v)
  generalize (tagL n v).length = N at *
  have hin := bytes_in (w.alloc (.cells #[.int .i64 n, .int .i64 v] 30)) 5 p
  rw [World.size_alloc] at hin
  have hin := Lib.hid hin
  go_enter Try.func4, Try.ntmps4
  go_wp2_with fail
  rw [hcv.out]
  have T0 := (tg_alloc 30 w n v).below (bytes_below _ 5 p) (by simp)
  have B0 := below_on (tg_grow 30 w n v) (bytes_below _ 5 p) (by simp)
  have c0 := T0.c0; have c1 := T0.c1
  go_wp2_with fail
  with_reducible refine (HP.out _ _ _ hin.out).mono ?_
  rintro e w1 ⟨x, rfl, hbt, b1⟩
  have T1 := T0.below b1 T0.lt
  have B1 := grown_then B0 b1
  have hcx := Lib.hid (hbt.text (P := Try.prog) Try.underlying37 Try.underlying5 Try.underlying9)
  rw [hF] at hcx
  clear hbt b1 c0 c1 T0 B0 hF hin HP
  have c0 := T1.c0; have c1 := T1.c1
  have hCB := Lib.hid (show (p ++ bA (tagL n v)).extract p.size (p.size + N) = bA (tagL n v) by have := cut_back p (bA (tagL n v)); rwa [ByteArray.size_append, sx] at this)
  generalize bA (tagL n v) = X at *
  have l1 : ¬ 9223372036854775807 < p.size + X.size := by omega
  have szx : (p ++ X).size = p.size + X.size := ByteArray.size_append
  have s1 : IntKind.i64.wrap (((p.size : Int) + (X.size : Int)) - (p.size : Int)) = (N : Int) := by rw [IntWalk.i64_in _ (by omega)]; omega
  have s2 : ((N : Int) != (p.size : Int) + (N : Int) - (p.size : Int)) = false := bne_eq_false_iff_eq.mpr (by omega)
  go_wp2_with fail
  rw [hcx.out]
  go_wp2_with fail
  with_reducible refine (HM.out _).mono ?_
  rintro e w2 ⟨rfl, b2⟩
  have T2 := T1.below b2 T1.lt
  have B2 := grown_then B1 b2
  clear b2 c0 c1 T1 B1
  have c0 := T2.c0; have c1 := T2.c1
  go_wp2_with fail
  with_reducible refine (HR.out _).mono ?_
  rintro e w3 ⟨rfl, hw3⟩
  rw [hw3]
  clear hw3
  go_wp2_with fail
  with_reducible refine (HT.out _).mono ?_
  rintro e w4 ⟨rfl, b4⟩
  have T4 := T2.below b4 T2.lt
  have B4 := grown_then B2 b4
  clear b4 c0 c1 T2 B2
  have c0 := T4.c0; have c1 := T4.c1
  go_wp2_with fail
  with_reducible refine (HS.out _).mono ?_
  rintro e w5 ⟨rfl, b5⟩
  have T5 := T4.below b5 T4.lt
  have B5 := grown_then B4 b5
  clear b5 c0 c1 T4 B4
  have c0 := T5.c0; have c1 := T5.c1
  go_wp2_with fail
  with_reducible refine (HR.out _).mono ?_
  rintro e w6 ⟨rfl, hw6⟩
  rw [hw6]
  clear hw6
  go_wp2_with fail
  with_reducible refine (works16_any _).mono ?_
  rintro e w7 ⟨rfl, b7⟩
  have B7 := Lib.hid (grown_then B5 b7)
  clear b7 B5
  go_wp2
  go_ret
  exact ⟨rfl, B7.out⟩

set_option maxRecDepth 100000 in
set_option maxHeartbeats 4000000 in
theorem pback_yes (p : ByteArray) (n v : Int) (w : World) (hp : p.size ≤ 140737488351232) (h : tagB n v = true) :
    Calls Try.prog 4 #[.string p, .int .i64 n, .int .i64 v] w fun e w' => e = .returned (.bool true) ∧ Below w.heap.size w w' := by
  have hcv := Lib.hid (fun (w : World) => Lib.run_convert_string_bytes (P := Try.prog) w 9 37 5 p Try.underlying9 Try.underlying37 Try.underlying5)
  have qE := fun a b c d w => tg_eql a b c d w
  have qG := fun (x y : Operand) xs ys w => run_eqGuard_agg w .eql 30 x y xs ys tg_guard
  have HP := Lib.hid (fun a cap w hin => tput_any a cap p.data.toList n v w (by rw [toList_size]; exact hp) hin)
  rw [toList_size] at HP
  have hF := bA_front p (tagL n v)
  have HM := Lib.hid (fun w => may_any n v w)
  have HR := Lib.hid (fun w => rmay_any n v w)
  rw [h] at HM HR
  have HT := Lib.hid (fun w => rtext_any n v w)
  have HS := Lib.hid (fun w => tsize_any n v w)
  have hlen := tagL_le n v
  have sx := bA_size (tagL n v)
  have HB := Lib.hid (tag_back h)
  have hx0 := Lib.hid (CS.new_ok (s := bA (tagL n v)) (by omega))
  generalize (tagL n v).length = N at *
  have hin := bytes_in (w.alloc (.cells #[.int .i64 n, .int .i64 v] 30)) 5 p
  rw [World.size_alloc] at hin
  have hin := Lib.hid hin
  go_enter Try.func4, Try.ntmps4
  go_wp2_with fail
  rw [hcv.out]
  have T0 := (tg_alloc 30 w n v).below (bytes_below _ 5 p) (by simp)
  have B0 := below_on (tg_grow 30 w n v) (bytes_below _ 5 p) (by simp)
  have c0 := T0.c0; have c1 := T0.c1
  go_wp2_with fail
  with_reducible refine (HP.out _ _ _ hin.out).mono ?_
  rintro e w1 ⟨x, rfl, hbt, b1⟩
  have T1 := T0.below b1 T0.lt
  have B1 := grown_then B0 b1
  have hcx := Lib.hid (hbt.text (P := Try.prog) Try.underlying37 Try.underlying5 Try.underlying9)
  rw [hF] at hcx
  clear hbt b1 c0 c1 T0 B0 hF hin HP
  have c0 := T1.c0; have c1 := T1.c1
  have hCB := Lib.hid (show (p ++ bA (tagL n v)).extract p.size (p.size + N) = bA (tagL n v) by have := cut_back p (bA (tagL n v)); rwa [ByteArray.size_append, sx] at this)
  generalize bA (tagL n v) = X at *
  have l1 : ¬ 9223372036854775807 < p.size + X.size := by omega
  have szx : (p ++ X).size = p.size + X.size := ByteArray.size_append
  have s1 : IntKind.i64.wrap (((p.size : Int) + (X.size : Int)) - (p.size : Int)) = (N : Int) := by rw [IntWalk.i64_in _ (by omega)]; omega
  have s2 : ((N : Int) != (p.size : Int) + (N : Int) - (p.size : Int)) = false := bne_eq_false_iff_eq.mpr (by omega)
  go_wp2_with fail
  rw [hcx.out]
  go_wp2_with fail
  with_reducible refine (HM.out _).mono ?_
  rintro e w2 ⟨rfl, b2⟩
  have T2 := T1.below b2 T1.lt
  have B2 := grown_then B1 b2
  clear b2 c0 c1 T1 B1
  have c0 := T2.c0; have c1 := T2.c1
  go_wp2_with fail
  with_reducible refine (HR.out _).mono ?_
  rintro e w3 ⟨rfl, hw3⟩
  rw [hw3]
  clear hw3
  go_wp2_with fail
  with_reducible refine (HT.out _).mono ?_
  rintro e w4 ⟨rfl, b4⟩
  have T4 := T2.below b4 T2.lt
  have B4 := grown_then B2 b4
  clear b4 c0 c1 T2 B2
  have c0 := T4.c0; have c1 := T4.c1
  go_wp2_with fail
  with_reducible refine (HS.out _).mono ?_
  rintro e w5 ⟨rfl, b5⟩
  have T5 := T4.below b5 T4.lt
  have B5 := grown_then B4 b5
  clear b5 c0 c1 T4 B4
  have c0 := T5.c0; have c1 := T5.c1
  go_wp2_with fail
  with_reducible refine (HR.out _).mono ?_
  rintro e w6 ⟨rfl, hw6⟩
  rw [hw6]
  clear hw6
  go_wp2_with fail
  rw [hCB.out]
  with_reducible refine (new_cur X _ (by omega)).mono ?_
  rintro e w7 ⟨b, rfl, hb, hc, b7⟩
  have B7 := Lib.hid ((grown_then B5 b7).drew)
  have T7 := T5.below b7 T5.lt
  have c0 := T7.c0; have c1 := T7.c1
  have hCD := Lib.hid (show CurT 44 w7.drew b (CS.new X) from hc)
  have hbW : w.heap.size ≤ b := Nat.le_trans B5.size hb
  have hbT : w.heap.size ≠ b := by have := T5.lt; omega
  have HRd := Lib.hid (fun w (h : CurT 44 w b (CS.new X)) => tread_any h hx0.out)
  rw [HB.out.1, HB.out.2.1, HB.out.2.2] at HRd
  have HE := Lib.hid (fun w (h : CurT 44 w b ⟨X, N, N, 0⟩) => end_any h ⟨Nat.le_refl _, by show N ≤ X.size; omega, by show X.size ≤ _; omega⟩)
  have hee : CS.endC ⟨X, N, N, 0⟩ = 0 := by unfold CS.endC; simp
  rw [hee] at HE
  have TD := Lib.hid (show TgT 30 w7.drew w.heap.size n v from T7)
  clear hee b7 hc hb T5 B5 T7 HB hx0 HM HR HT HS hcx hCB hcv hin
  go_wp2_with fail
  go_region_with (first
    | (go_at_call 8; (with_reducible refine (HRd.out _ hCD.out).mono ?_); rintro e w8 ⟨rfl, hc8, ho8⟩; (have B8 := Lib.hid (B7.out.trans (ho8.below hbW B7.out.size))); (have T8 := TD.out.only ho8 hbT); (have c08 := T8.c0); (have c18 := T8.c1))
    | (go_at_call 17; (with_reducible refine (HE.out _ (by assumption)).mono ?_); rintro e w9 ⟨rfl, m, rfl⟩)
    | (go_at_call 5; (with_reducible refine (works16_any _).mono ?_); rintro e w10 ⟨rfl, b10⟩))
  all_goals go_wp2
  all_goals go_ret
  all_goals exact ⟨rfl, grown_then (Below.drewN B8.out _) b10⟩

theorem pback_any (p : ByteArray) (n v : Int) (w : World) (hp : p.size ≤ 140737488351232) :
    Calls Try.prog 4 #[.string p, .int .i64 n, .int .i64 v] w fun e w' => e = .returned (.bool true) ∧ Below w.heap.size w w' := by
  rcases Bool.eq_false_or_eq_true (tagB n v) with h | h
  · exact pback_yes p n v w hp h
  · exact pback_no p n v w hp h
theorem pback_in (p : ByteArray) (n v : Int) (w : World) (hp : p.size ≤ 140737488351232) (h1 : -9223372036854775808 ≤ n) (h2 : n ≤ 9223372036854775807) (h3 : -9223372036854775808 ≤ v) (h4 : v ≤ 9223372036854775807) :
    Calls Try.prog 4 #[.string p, .int .i64 n, .int .i64 v] w fun e w' => e = .returned (.bool true) ∧ Below w.heap.size w w' := pback_any p n v w hp
end Go.Proofs.Ytghpindmbjjchaa
