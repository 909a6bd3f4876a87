/- The document's own names: Halves, Number, Join, Span, ReadSpan, ReadTrace. -/
import Derived.Test.YtjoafbapffdneaaDoorIdH
namespace Go.Proofs.YtjoafbapffdneaaDoor
open Go Go.RowKit
set_option linter.unusedVariables false

theorem rhalves_any (l : List UInt8) (w : World) (hl : l.length = 16) :
    Calls Tryd.prog 14 #[.agg (aC l)] w fun e w' => e = .returned (.tuple #[.int .u64 (beV (l.take 8) : Nat), .int .u64 (beV (l.drop 8) : Nat)]) ∧ Below w.heap.size w w' := by
  have E1 := Lib.hid (blk_alloc 23 w l).at0
  have hb := Lib.hid (below_alloc w (.cells (aC l) 23))
  have hsz : (bA l).size = 16 := by rw [bA_size, hl]
  have TB := Lib.hid (fun w => tbytes_any l w hl)
  have N1 := Lib.hid (show ∀ w, Calls Tryd.prog 36 #[.string ((bA l).extract 0 8)] w fun e w' => e = .returned (.int .u64 (beV (l.take 8) : Nat)) ∧ w' = w from
    fun w => by rw [bA_cut]; exact rnumber_any (l.take 8) w (by rw [List.length_take]; omega))
  have N2 := Lib.hid (show ∀ w, Calls Tryd.prog 36 #[.string ((bA l).extract 8 16)] w fun e w' => e = .returned (.int .u64 (beV (l.drop 8) : Nat)) ∧ w' = w from
    fun w => by rw [bA_cut, List.take_of_length_le (by rw [List.length_drop]; omega)]; exact rnumber_any (l.drop 8) w (by rw [List.length_drop]; omega))
  generalize bA l = X at *
  go_enter Tryd.func14, Tryd.ntmps14
  go_wp2_with (refine wl_load traceT (by rfl) (by rfl) hl E1.out ?_)
  with_reducible refine (TB.out _).mono ?_
  rintro e w2 ⟨rfl, h1⟩
  have h2 := Lib.hid (grown_then hb.out h1)
  clear h1 hb E1
  go_wp2_with fail
  go_quiet ((go_at_call 36; first | with_reducible exact Calls.quiet_of_same (N1.out _) | with_reducible exact Calls.quiet_of_same (N2.out _)))
  go_wp2
  go_ret2
  exact ⟨rfl, Below.drewN h2.out _⟩

theorem rnum_any (l : List UInt8) (w : World) (hl : l.length = 8) :
    Calls Tryd.prog 18 #[.agg (aC l)] w fun e w' => e = .returned (.int .u64 (beV l : Nat)) ∧ Below w.heap.size w w' := by
  have E1 := Lib.hid (blk_alloc 28 w l).at0
  have hb := Lib.hid (below_alloc w (.cells (aC l) 28))
  have TB := Lib.hid (fun w => sbytes_any l w hl)
  have N1 := Lib.hid (fun w => rnumber_any l w (by omega))
  go_enter Tryd.func18, Tryd.ntmps18
  go_wp2_with (refine wl_load spanT (by rfl) (by rfl) hl E1.out ?_)
  with_reducible refine (TB.out _).mono ?_
  rintro e w2 ⟨rfl, h1⟩
  have h2 := Lib.hid (grown_then hb.out h1)
  clear h1 hb E1
  go_wp2_with fail
  with_reducible refine (N1.out _).mono ?_
  rintro e w3 ⟨rfl, hw⟩
  rw [hw]; clear hw
  go_wp2
  go_ret
  exact ⟨rfl, h2.out⟩

theorem hi8 (u : Nat) : (lowL u 8).reverse = highL u 8 := (highL_all u).symm
theorem hi8_len (u : Nat) : (highL u 8).length = 8 := highL_length u 8 (Nat.le_refl _)
theorem rspanid_any (u : Nat) (w : World) (hu : u < 18446744073709551616) :
    Calls Tryd.prog 20 #[.int .u64 u] w fun e w' => e = .returned (.agg (aC (highL u 8))) ∧ Below w.heap.size w w' := by
  have ha := Lib.hid (show ABlk 28 (w.alloc (.cells z8 28)) w.heap.size (zs 8) from blk_alloc 28 w (zs 8))
  have hb := Lib.hid (below_alloc w (.cells z8 28))
  have H := Lib.hid (show ∀ w, Calls Tryd.prog 38 #[.int .u64 u, .int .i64 8] w fun e w' => e = .returned (.string (bA (highL u 8))) ∧ Below w.heap.size w w' from fun w => by have := rhigh_any u 8 w hu (Nat.le_refl _); rwa [hi8] at this)
  have S := Lib.hid (show ∀ w, Calls Tryd.prog 32 #[.string (bA (highL u 8))] w fun e w' => e = .returned (.agg (aC (highL u 8))) ∧ Below w.heap.size w w' from fun w => by
    have := rspan_any (highL u 8) w (by rw [hi8_len]; exact Nat.le_refl _); rwa [pad_full (hi8_len u)] at this)
  have hn := hi8_len u
  go_enter Tryd.func20, Tryd.ntmps20
  go_wp2_with fail
  with_reducible refine (H.out _).mono ?_
  rintro e w1 ⟨rfl, h1⟩
  have a1 := Lib.hid (ha.out.below h1 (by simp))
  have b1 := Lib.hid (grown_then hb.out h1)
  have hlt : w.heap.size < w1.heap.size := a1.out.lt
  clear h1 ha hb
  go_wp2_with fail
  with_reducible refine (S.out _).mono ?_
  rintro e w2 ⟨rfl, h2⟩
  have a2 := Lib.hid (a1.out.below h2 hlt)
  have E4 := Lib.hid (setRow_blk a2.out (l := highL u 8))
  have K2 := Lib.hid (setRow_below (cs := aC (highL u 8)) (b := w.heap.size) (below_on b1.out h2 (by omega)) (Nat.le_refl _))
  clear h2
  go_wp2_with (refine wl_store (l := highL u 8) spanT (by rfl) (by rfl) (by rfl) hn (zs_length 8) a2.out ?_)
  exact bodyPost_ret (spanT.result Tryd.results20 E4.out hn rfl) rfl ⟨rfl, K2.out⟩

theorem rjoin_any (u v : Nat) (w : World) (hu : u < 18446744073709551616) (hv : v < 18446744073709551616) :
    Calls Tryd.prog 16 #[.int .u64 u, .int .u64 v] w fun e w' => e = .returned (.agg (aC (highL u 8 ++ highL v 8))) ∧ Below w.heap.size w w' := by
  have ha := Lib.hid (show ABlk 23 (w.alloc (.cells z16 23)) w.heap.size (zs 16) from blk_alloc 23 w (zs 16))
  have hb := Lib.hid (below_alloc w (.cells z16 23))
  have H := Lib.hid (show ∀ w, Calls Tryd.prog 38 #[.int .u64 u, .int .i64 8] w fun e w' => e = .returned (.string (bA (highL u 8))) ∧ Below w.heap.size w w' from fun w => by have := rhigh_any u 8 w hu (Nat.le_refl _); rwa [hi8] at this)
  have H2 := Lib.hid (show ∀ w, Calls Tryd.prog 38 #[.int .u64 v, .int .i64 8] w fun e w' => e = .returned (.string (bA (highL v 8))) ∧ Below w.heap.size w w' from fun w => by have := rhigh_any v 8 w hv (Nat.le_refl _); rwa [hi8] at this)
  have hn : (highL u 8 ++ highL v 8).length = 16 := by rw [List.length_append, hi8_len, hi8_len]
  have S := Lib.hid (show ∀ w, Calls Tryd.prog 31 #[.string (bA (highL u 8) ++ bA (highL v 8))] w fun e w' => e = .returned (.agg (aC (highL u 8 ++ highL v 8))) ∧ Below w.heap.size w w' from fun w => by
    have := rtrace_any (highL u 8 ++ highL v 8) w (by rw [hn]; exact Nat.le_refl _); rw [pad_full hn] at this; rwa [bA_append])
  have hs1 : (bA (highL u 8)).size = 8 := by rw [bA_size, hi8_len]
  have hs2 : (bA (highL v 8)).size = 8 := by rw [bA_size, hi8_len]
  generalize highL u 8 ++ highL v 8 = L at *
  go_enter Tryd.func16, Tryd.ntmps16
  go_wp2_with fail
  with_reducible refine (H.out _).mono ?_
  rintro e w1 ⟨rfl, h1⟩
  have a1 := Lib.hid (ha.out.below h1 (by simp))
  have b1 := Lib.hid (grown_then hb.out h1)
  have hlt : w.heap.size < w1.heap.size := a1.out.lt
  clear h1 ha hb
  go_wp2_with fail
  with_reducible refine (H2.out _).mono ?_
  rintro e w2 ⟨rfl, h2⟩
  have a2 := Lib.hid (a1.out.below h2 hlt)
  have b2 := Lib.hid (below_on b1.out h2 (by omega))
  have hlt2 : w.heap.size < w2.heap.size := a2.out.lt
  clear h2 a1 b1
  go_wp2_with fail
  with_reducible refine (S.out _).mono ?_
  rintro e w3 ⟨rfl, h3⟩
  have a3 := Lib.hid (a2.out.below h3 hlt2)
  have E4 := Lib.hid (setRow_blk a3.out (l := L))
  have K2 := Lib.hid (setRow_below (cs := aC L) (b := w.heap.size) (below_on b2.out h3 (by omega)) (Nat.le_refl _))
  clear h3
  go_wp2_with (refine wl_store (l := L) traceT (by rfl) (by rfl) (by rfl) hn (zs_length 16) a3.out ?_)
  exact bodyPost_ret (traceT.result Tryd.results16 E4.out hn rfl) rfl ⟨rfl, K2.out⟩

end Go.Proofs.YtjoafbapffdneaaDoor
