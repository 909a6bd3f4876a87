/- Package ident: ReadTrace. -/
import Derived.Test.YtjoafbapffdneaaDoorIdD
namespace Go.Proofs.YtjoafbapffdneaaDoor
open Go Go.RowKit
set_option linter.unusedVariables false

theorem lowL_zero : ∀ n, lowL 0 n = zs n
  | 0 => rfl
  | n + 1 => by
    have ih := lowL_zero n
    rw [lowL, Nat.zero_div, ih]; rfl
theorem highL_zero : highL 0 8 = zs 8 := by rw [highL_all, lowL_zero]; rfl
theorem lowL_valL : ∀ l : List UInt8, lowL (valL l) l.length = l
  | [] => rfl
  | b :: l => by
    have hb := b.toNat_lt
    have h1 : valL (b :: l) % 256 = b.toNat := by show (b.toNat + 256 * valL l) % 256 = _; omega
    have h2 : valL (b :: l) / 256 = valL l := by show (b.toNat + 256 * valL l) / 256 = _; omega
    rw [List.length_cons, lowL, h1, h2, lowL_valL l]
    congr 1
    exact UInt8.ofNat_toNat
/-- Eight bytes are those of their number. -/
theorem highL_beV (l : List UInt8) (h : l.length = 8) : highL (beV l) 8 = l := by
  have e : l.reverse.length = 8 := by rw [List.length_reverse, h]
  rw [highL_all, beV, ← e, lowL_valL, List.reverse_reverse]

/-- The name that is read of a trace's digits, and its code. -/
def trL (s : ByteArray) : List UInt8 := if s.size = 16 then zs 8 ++ nmL 8 s else nmL 16 s
def trC (s : ByteArray) : Int := if s.size = 16 then nmC 8 s else nmC 16 s
theorem trL_length (s : ByteArray) : (trL s).length = 16 := by
  unfold trL
  split
  · rw [List.length_append, zs_length, nmL_length]
  · exact nmL_length 16 s

set_option maxHeartbeats 1000000 in
theorem readtrace_any (s : ByteArray) (w : World) (hs : s.size ≤ 140737488351232) (ht : Tab w) :
    Calls Tryd.prog 6 #[.string s] w fun e w' => e = .returned (.tuple #[.agg (aC (trL s)), .int .i64 (trC s)]) ∧ Below w.heap.size w w' := by
  have hb := Lib.hid (below_alloc w (.cells z16 23))
  have ha := Lib.hid (show ABlk 23 (w.alloc (.cells z16 23)) w.heap.size (zs 16) from blk_alloc 23 w (zs 16))
  have HT := Lib.hid ht
  have hpos := ht.lt
  clear ht
  by_cases h16 : s.size = 16
  · have p1 : ((s.size : Int) == (16 : Int)) = true := by simp; omega
    have R := Lib.hid (fun w => readspan_any s w hs)
    have hn := nmL_length 8 s
    have hn2 : (zs 8 ++ nmL 8 s).length = 16 := by rw [List.length_append, zs_length, hn]
    have e1 := Lib.hid (show trL s = zs 8 ++ nmL 8 s by unfold trL; rw [if_pos h16])
    have e2 := Lib.hid (show trC s = nmC 8 s by unfold trC; rw [if_pos h16])
    clear h16
    generalize nmL 8 s = L at *
    generalize nmC 8 s = c at *
    have N := Lib.hid (fun w ht => number_any L w hn ht)
    have J := Lib.hid (show ∀ w, Tab w → Calls Tryd.prog 15 #[.int .u64 0, .int .u64 (beV L : Nat)] w fun e w' => e = .returned (.agg (aC (zs 8 ++ L))) ∧ Below w.heap.size w w' from
      fun w ht => by have := join_any 0 (beV L) w (by omega) (beV_lt L hn) ht; rwa [highL_zero, highL_beV L hn] at this)
    go_enter Tryd.func6, Tryd.ntmps6
    go_wp2_with fail
    with_reducible refine (R.out _).mono ?_
    rintro e w1 ⟨rfl, h1⟩
    have ha1 := Lib.hid (ha.out.below h1 (by simp))
    have hb1 := Lib.hid (grown_then hb.out h1)
    have hlt : w.heap.size < w1.heap.size := ha1.out.lt
    have hnew := Lib.hid (show ABlk 28 (w1.alloc (.cells z8 28)) w1.heap.size (zs 8) from blk_alloc 28 w1 (zs 8))
    have k0 : ABlk 23 ((w1.alloc (.cells z8 28)).setRow w1.heap.size (aC L)) w.heap.size (zs 16) := (ha1.out.below (below_alloc w1 _) hlt).setRow_ne (by omega)
    have k1 : ABlk 28 ((w1.alloc (.cells z8 28)).setRow w1.heap.size (aC L)) w1.heap.size L := setRow_blk (blk_alloc 28 w1 (zs 8))
    have k2 : Below w.heap.size w ((w1.alloc (.cells z8 28)).setRow w1.heap.size (aC L)) := setRow_below (below_on hb1.out (below_alloc w1 _) (by omega)) (by omega)
    have K1 := Lib.hid k1.at0
    have K0 := Lib.hid k0
    have K2 := Lib.hid k2
    have t2 := Lib.hid (HT.out.below k2 hpos)
    have hz2 : w.heap.size < ((w1.alloc (.cells z8 28)).setRow w1.heap.size (aC L)).heap.size := k0.lt
    clear h1 k0 k1 k2
    go_wp2_with (first | refine wl_store (l := L) spanT (by rfl) (by rfl) (by rfl) hn (zs_length 8) hnew.out ?_ | refine wl_load spanT (by rfl) (by rfl) hn K1.out ?_)
    with_reducible refine (N.out _ t2.out).mono ?_
    rintro e w3 ⟨rfl, h3⟩
    have K3 := Lib.hid (below_on K2.out h3 (by omega))
    have k3 := Lib.hid (K0.out.below h3 hz2)
    have t3 := Lib.hid (HT.out.below (below_on K2.out h3 (by omega)) hpos)
    have hz3 : w.heap.size < w3.heap.size := k3.out.lt
    clear h3 K0 K1 K2 t2 hnew ha1 hb1 hb ha R N
    go_wp2_with fail
    with_reducible refine (J.out _ t3.out).mono ?_
    rintro e w4 ⟨rfl, h4⟩
    have K4 := Lib.hid (setRow_below (cs := aC (zs 8 ++ L)) (b := w.heap.size) (below_on K3.out h4 (by omega)) (Nat.le_refl _))
    have k4 := Lib.hid (k3.out.below h4 hz3)
    have E4 := Lib.hid (setRow_blk k4.out (l := zs 8 ++ L))
    clear h4
    go_wp2_with (refine wl_store (l := zs 8 ++ L) traceT (by rfl) (by rfl) (by rfl) hn2 (zs_length 16) k4.out ?_)
    exact bodyPost_ret (traceT.result2 Tryd.results6 E4.out hn2 rfl rfl) rfl ⟨ret_name e1.out.symm e2.out.symm, K4.out⟩
  · have p1 : ((s.size : Int) == (16 : Int)) = false := by simp; omega
    have R := Lib.hid (show ∀ w, Calls Tryd.prog 29 #[.string s, .int .i64 32] w fun e w' => e = .returned (.tuple #[.string (bofT s 32), .int .i64 (bofC s 32)]) ∧ Below w.heap.size w w' from fun w => bof_any s 32 w hs)
    have hn := nmL_length 16 s
    have T1 := Lib.hid (show trL s = nmL 16 s by unfold trL; rw [if_neg h16])
    have T2 := Lib.hid (show trC s = nmC 16 s by unfold trC; rw [if_neg h16])
    clear h16
    by_cases hy : nmIs 16 s = true
    · obtain ⟨b1, b2⟩ := bof_yes hy
      have c2 := (nm_yes hy).2
      have C2 := Lib.hid c2
      rw [show (2 * 16 : Nat) = 32 from rfl] at b1 b2
      rw [b1, b2] at R
      clear hy b1 b2 c2
      generalize nmL 16 s = L at *
      go_enter Tryd.func6, Tryd.ntmps6
      go_wp2_with fail
      with_reducible refine (R.out _).mono ?_
      rintro e w1 ⟨rfl, h1⟩
      have ha1 := Lib.hid (ha.out.below h1 (by simp))
      have hb1 := Lib.hid (grown_then hb.out h1)
      have hlt : w.heap.size < w1.heap.size := ha1.out.lt
      have hcp := Lib.hid (copy_arr_text Tryd.prog 55 9 5 3 23 Tryd.underlying55 size8 (w1.alloc (.cells z16 23)) w1.heap.size 16 L (zs 16) (blk_alloc 23 w1 (zs 16)) hn (zs_length 16))
      clear h1
      go_wp2_with fail
      rw [hcp.out]
      have k0 : ABlk 23 ((w1.alloc (.cells z16 23)).setRow w1.heap.size (aC L)) w.heap.size (zs 16) := (ha1.out.below (below_alloc w1 _) hlt).setRow_ne (by omega)
      have k1 : ABlk 23 ((w1.alloc (.cells z16 23)).setRow w1.heap.size (aC L)) w1.heap.size L := setRow_blk (blk_alloc 23 w1 (zs 16))
      have k2 : Below w.heap.size w ((w1.alloc (.cells z16 23)).setRow w1.heap.size (aC L)) := setRow_below (below_on hb1.out (below_alloc w1 _) (by omega)) (by omega)
      generalize (w1.alloc (.cells z16 23)).setRow w1.heap.size (aC L) = w2 at k0 k1 k2 ⊢
      have E1 := Lib.hid k1.at0
      have E2 := Lib.hid k0
      have E3 := Lib.hid (setRow_blk k0 (l := L))
      have E4 := Lib.hid (setRow_blk k0 (l := zs 16))
      have K2 := Lib.hid (setRow_below (cs := aC L) (b := w.heap.size) k2 (Nat.le_refl _))
      have K3 := Lib.hid (setRow_below (cs := aC (zs 16)) (b := w.heap.size) k2 (Nat.le_refl _))
      clear k0 k1 k2 hcp ha1 hb1 ha hb R
      by_cases hz : L = zs 16
      · have d1 : decide (L = zs 16) = true := decide_eq_true hz
        have HZ := Lib.hid hz
        clear hz
        go_wp2_with (first | refine wl_load traceT (by rfl) (by rfl) hn E1.out ?_ | refine wl_eql (m := zs 16) traceT (by kernel_rfl) (by rfl) (by rfl) (by rfl) hn (zs_length 16) ?_ | refine wl_store (l := zs 16) traceT (by rfl) (by rfl) (by rfl) (zs_length 16) (zs_length 16) E2.out ?_)
        exact bodyPost_ret (traceT.result2 Tryd.results6 E4.out (zs_length 16) rfl rfl) rfl ⟨ret_name (by rw [T1.out]; exact HZ.out.symm) (by rw [T2.out, C2.out, if_pos HZ.out]), K3.out⟩
      · have d1 : decide (L = zs 16) = false := decide_eq_false hz
        have HZ := Lib.hid hz
        clear hz
        go_wp2_with (first | refine wl_load traceT (by rfl) (by rfl) hn E1.out ?_ | refine wl_eql (m := zs 16) traceT (by kernel_rfl) (by rfl) (by rfl) (by rfl) hn (zs_length 16) ?_ | refine wl_store (l := L) traceT (by rfl) (by rfl) (by rfl) hn (zs_length 16) E2.out ?_)
        exact bodyPost_ret (traceT.result2 Tryd.results6 E3.out hn rfl rfl) rfl ⟨ret_name T1.out.symm (by rw [T2.out, C2.out, if_neg HZ.out]), K2.out⟩
    · have b1 := bof_no hy
      obtain ⟨c1, c2⟩ := nm_no hy
      rw [show (2 * 16 : Nat) = 32 from rfl] at b1
      rw [b1] at R
      have C1 := Lib.hid c1
      have C2 := Lib.hid c2
      clear hy b1 c1 c2
      go_enter Tryd.func6, Tryd.ntmps6
      go_wp2_with fail
      with_reducible refine (R.out _).mono ?_
      rintro e w1 ⟨rfl, h1⟩
      have ha1 := Lib.hid (ha.out.below h1 (by simp))
      have E4 := Lib.hid (setRow_blk ha1.out (l := zs 16))
      have K3 := Lib.hid (setRow_below (cs := aC (zs 16)) (b := w.heap.size) (grown_then hb.out h1) (Nat.le_refl _))
      clear h1
      go_wp2_with (refine wl_store (l := zs 16) traceT (by rfl) (by rfl) (by rfl) (zs_length 16) (zs_length 16) ha1.out ?_)
      exact bodyPost_ret (traceT.result2 Tryd.results6 E4.out (zs_length 16) rfl rfl) rfl ⟨ret_name (by rw [T1.out]; exact C1.out.symm) (by rw [T2.out]; exact C2.out.symm), K3.out⟩

end Go.Proofs.YtjoafbapffdneaaDoor
