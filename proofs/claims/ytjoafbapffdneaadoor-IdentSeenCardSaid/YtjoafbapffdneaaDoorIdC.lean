/- Package ident: Span, Join. -/
import Derived.Test.YtjoafbapffdneaaDoorIdB
import Derived.Deep.RegionWith
namespace Go.Proofs.YtjoafbapffdneaaDoor
open Go Go.RowKit
set_option linter.unusedVariables false

def zs (n : Nat) : List UInt8 := List.replicate n 0
theorem zs_length (n : Nat) : (zs n).length = n := List.length_replicate
/-- 'copy(a[:], v)', a an array of so many bytes, v a list of as many that the call made. -/
theorem copy_arr (P : Program) (t e ty T : TypeId) (ht : P.underlying t = some (.slice e)) (hi : (P.info? e).map (·.size) = some 1) (w : World) (b B n : Nat) (v : Value) (l m : List UInt8)
    (hb : ABlk T w b m) (hl : l.length = n) (hm : m.length = n) (hv : Bts e w B v l) :
    (Builtin.copy_ #[t, t] ty #[.slice (some ⟨b, 0, none⟩) n n, v]).run P w = .ok (goInt n) (w.setRow b (aC l)) := by
  subst hl
  rcases hv.2 with ⟨rfl, hn⟩ | ⟨g, cap, cur, rfl, _, hg, _⟩
  · have h0 : l = [] := List.eq_nil_of_length_eq_zero hn
    subst h0
    have hm0 : m = [] := List.eq_nil_of_length_eq_zero hm
    subst hm0
    rw [setRow_self w b (aC []) T (0, 0) hb]
    exact run_copy_none (P := P) w t t ty e _ none 0 0 0 0 ht hi rfl
  · have hr := run_copy_row (P := P) w t t ty e b 0 l.length l.length ⟨g, 0, none⟩ l.length cap _ T (bV l) ht hi hb (by rw [bV_length]; exact (Nat.min_self _).symm)
      (fun j u hj => by
        have hjl : j < l.length := by have := (List.getElem?_eq_some_iff.1 hj).1; rwa [bV_length] at this
        rw [Addr.add_mid, Nat.zero_add, World.ownsRow.cellAt hv j (by omega)]; exact hj)
      (by rw [bV_length, aC_size, hm]; omega) (bV_one l)
    rw [bV_length] at hr
    rw [hr]
    simp only [List.take_zero, List.nil_append, Nat.zero_add, aC_toList]
    rw [List.drop_of_length_le (by rw [bV_length, hm]; exact Nat.le_refl _), List.append_nil]
    rfl

abbrev z8 : Array Value := #[.int .u8 0, .int .u8 0, .int .u8 0, .int .u8 0, .int .u8 0, .int .u8 0, .int .u8 0, .int .u8 0]
abbrev z16 : Array Value := #[.int .u8 0, .int .u8 0, .int .u8 0, .int .u8 0, .int .u8 0, .int .u8 0, .int .u8 0, .int .u8 0, .int .u8 0, .int .u8 0, .int .u8 0, .int .u8 0, .int .u8 0, .int .u8 0, .int .u8 0, .int .u8 0]
theorem z8_is : aC (zs 8) = z8 := rfl
theorem z16_is : aC (zs 16) = z16 := rfl
theorem ABlk.below {t : TypeId} {w w' : World} {b N : Nat} {l : List UInt8} (h : ABlk t w b l) (hb : Below N w w') (hN : b < N) : ABlk t w' b l := (hb.block b hN).trans h
theorem setRow_below {w W : World} {N b : Nat} {cs : Array Value} (h : Below N w W) (hb : N ≤ b) : Below N w (W.setRow b cs) :=
  h.trans ⟨rfl, rfl, rfl, by simp, fun k hk => setRow_other _ _ _ _ (by omega)⟩
theorem ABlk.setRow_ne {t : TypeId} {w : World} {b k : Nat} {l : List UInt8} {cs : Array Value} (h : ABlk t w k l) (hk : k ≠ b) : ABlk t (w.setRow b cs) k l := (setRow_other _ _ _ _ (by omega)).trans h
theorem two_alloc (t t' : TypeId) (w : World) (l m : List UInt8) :
    ABlk t ((w.alloc (.cells (aC l) t)).alloc (.cells (aC m) t')) w.heap.size l ∧ ABlk t' ((w.alloc (.cells (aC l) t)).alloc (.cells (aC m) t')) (w.heap.size + 1) m ∧ ((w.alloc (.cells (aC l) t)).alloc (.cells (aC m) t')).heap.size = w.heap.size + 2 ∧
      Below w.heap.size w ((w.alloc (.cells (aC l) t)).alloc (.cells (aC m) t')) :=
  ⟨heap_alloc2_old w _ _, heap_alloc2_new w _ _, by simp, (below_alloc w _).alloc (by simp) _⟩
theorem two_z8 (t t' : TypeId) (w : World) : ABlk t ((w.alloc (.cells z8 t)).alloc (.cells z8 t')) w.heap.size (zs 8) ∧ ABlk t' ((w.alloc (.cells z8 t)).alloc (.cells z8 t')) (w.heap.size + 1) (zs 8) ∧ ((w.alloc (.cells z8 t)).alloc (.cells z8 t')).heap.size = w.heap.size + 2 ∧
      Below w.heap.size w ((w.alloc (.cells z8 t)).alloc (.cells z8 t')) := two_alloc t t' w (zs 8) (zs 8)
theorem two_z16 (t t' : TypeId) (w : World) : ABlk t ((w.alloc (.cells z16 t)).alloc (.cells z16 t')) w.heap.size (zs 16) ∧ ABlk t' ((w.alloc (.cells z16 t)).alloc (.cells z16 t')) (w.heap.size + 1) (zs 16) ∧ ((w.alloc (.cells z16 t)).alloc (.cells z16 t')).heap.size = w.heap.size + 2 ∧
      Below w.heap.size w ((w.alloc (.cells z16 t)).alloc (.cells z16 t')) := two_alloc t t' w (zs 16) (zs 16)

set_option maxHeartbeats 1000000 in
theorem span_any (u : Nat) (w : World) (hu : u < 18446744073709551616) (ht : Tab w) :
    Calls Tryd.prog 19 #[.int .u64 u] w fun e w' => e = .returned (.agg (aC (highL u 8))) ∧ Below w.heap.size w w' := by
  have HT := Lib.hid ht
  have hpos := ht.lt
  clear ht
  have hH := Lib.hid (show ∀ w, Tab w → Calls Tryd.prog 37 #[.slice none 0 0, .int .u64 u] w fun e w' => ∃ v, e = .returned v ∧ Bts 5 w' w.heap.size v (highL u 8) ∧ Below w.heap.size w w' from
    fun w ht => high64_any none 0 [] u w (by simp) hu (bin_none w) ht)
  have h2 := two_z8 28 28 w
  have hlen := highL_length u 8 (Nat.le_refl _)
  go_enter Tryd.func19, Tryd.ntmps19
  go_wp2_with fail
  generalize (w.alloc (.cells z8 28)).alloc (.cells z8 28) = W at h2 ⊢
  obtain ⟨hA, hB, hsz, hbe⟩ := h2
  have T1 := Lib.hid (show Tab W.drew from HT.out.below (N := w.heap.size) hbe.drew hpos)
  have HA := Lib.hid (show ABlk 28 W.drew w.heap.size (zs 8) from hA)
  have HB := Lib.hid (show ABlk 28 W.drew (w.heap.size + 1) (zs 8) from hB)
  have HE := Lib.hid (show Below w.heap.size w W.drew from hbe.drew)
  have hsz1 : W.drew.heap.size = w.heap.size + 2 := hsz
  have HS := Lib.hid hsz1
  clear hA hB hbe hsz hsz1
  generalize hb0 : w.heap.size = b0 at *
  have HB0 := Lib.hid hb0
  clear hb0
  go_region_with (first | (go_at_call 37; go_loud (with_reducible refine (hH.out _ T1.out).mono ?_; rintro e w1 ⟨v, rfl, hbt, hbel⟩); have hcp := Lib.hid (copy_arr Tryd.prog 55 5 3 28 Tryd.underlying55 size8 w1 (b0 + 1) _ 8 v _ _ (HB.out.below hbel (by rw [HS.out]; omega)) hlen (zs_length 8) hbt); have HA1 := Lib.hid (HA.out.below hbel (by rw [HS.out]; omega)); have HB1 := Lib.hid (HB.out.below hbel (by rw [HS.out]; omega)); have HE1 := Lib.hid (below_on HE.out hbel (by rw [HS.out]; omega)); clear hbt hbel) | rw [hcp.out])
  all_goals
    have k0 : ABlk 28 (w1.setRow (b0 + 1) (aC (highL u 8))) b0 (zs 8) := HA1.out.setRow_ne (by omega)
    have k1 : ABlk 28 (w1.setRow (b0 + 1) (aC (highL u 8))) (b0 + 1) (highL u 8) := setRow_blk HB1.out
    have k2 : Below b0 w (w1.setRow (b0 + 1) (aC (highL u 8))) := setRow_below HE1.out (by omega)
    generalize w1.setRow (b0 + 1) (aC (highL u 8)) = w2 at k0 k1 k2 ⊢
    have K2 := Lib.hid (setRow_below (cs := aC (highL u 8)) (b := b0) k2 (by omega))
    have E1 := Lib.hid k1.at0
    have E2 := Lib.hid k0
    have E3 := Lib.hid (setRow_blk k0 (l := highL u 8))
    clear k0 k1 k2 hcp HA1 HB1 HE1 HS HE HB HA
    go_wp2_with (first | refine wl_load spanT (by rfl) (by rfl) hlen E1.out ?_ | refine wl_store spanT (by rfl) (by rfl) (by rfl) hlen (zs_length 8) E2.out ?_)
    exact bodyPost_ret (spanT.result Tryd.results19 E3.out hlen rfl) rfl ⟨rfl, by rw [HB0.out]; exact K2.out⟩

theorem bts_in {t : TypeId} {w : World} {B : Nat} {v : Value} {l : List UInt8} (h : Bts t w B v l) : ∃ a cap, v = .slice a l.length cap ∧ BIn w a l := by
  rcases h.2 with ⟨rfl, hn⟩ | ⟨g, cap, cur, rfl, hB, hg, _⟩
  · have h0 : l = [] := List.eq_nil_of_length_eq_zero hn
    subst h0
    exact ⟨none, 0, rfl, fun j hj => by simp at hj⟩
  · refine ⟨some ⟨g, 0, none⟩, cap, rfl, fun j hj => ⟨g, 0, rfl, lt_of_block hg, ?_⟩⟩
    rw [Nat.zero_add, World.ownsRow.cellAt h j (by omega), bV_get l j hj]

set_option maxHeartbeats 2000000 in
theorem join_any (u v : Nat) (w : World) (hu : u < 18446744073709551616) (hv : v < 18446744073709551616) (ht : Tab w) :
    Calls Tryd.prog 15 #[.int .u64 u, .int .u64 v] w fun e w' => e = .returned (.agg (aC (highL u 8 ++ highL v 8))) ∧ Below w.heap.size w w' := by
  have HT := Lib.hid ht
  have hpos := ht.lt
  clear ht
  have hH := Lib.hid (show ∀ w, Tab w → Calls Tryd.prog 37 #[.slice none 0 0, .int .u64 u] w fun e w' => ∃ v, e = .returned v ∧ Bts 5 w' w.heap.size v (highL u 8) ∧ Below w.heap.size w w' from
    fun w ht => high64_any none 0 [] u w (by simp) hu (bin_none w) ht)
  have hG := Lib.hid (show ∀ w a cap, BIn w a (highL u 8) → Tab w → Calls Tryd.prog 37 #[.slice a (highL u 8).length cap, .int .u64 v] w fun e w' => ∃ v', e = .returned v' ∧ Bts 5 w' w.heap.size v' (highL u 8 ++ highL v 8) ∧ Below w.heap.size w w' from
    fun w a cap hin ht => high64_any a cap (highL u 8) v w (by rw [highL_length _ _ (Nat.le_refl _)]; omega) hv hin ht)
  have h2 := two_z16 23 23 w
  have hlen : (highL u 8 ++ highL v 8).length = 16 := by rw [List.length_append, highL_length _ _ (Nat.le_refl _), highL_length _ _ (Nat.le_refl _)]
  go_enter Tryd.func15, Tryd.ntmps15
  go_wp2_with fail
  generalize (w.alloc (.cells z16 23)).alloc (.cells z16 23) = W at h2 ⊢
  obtain ⟨hA, hB, hsz, hbe⟩ := h2
  have T1 := Lib.hid (show Tab W.drew from HT.out.below (N := w.heap.size) hbe.drew hpos)
  have HA := Lib.hid (show ABlk 23 W.drew w.heap.size (zs 16) from hA)
  have HB := Lib.hid (show ABlk 23 W.drew (w.heap.size + 1) (zs 16) from hB)
  have HE := Lib.hid (show Below w.heap.size w W.drew from hbe.drew)
  have hsz1 : W.drew.heap.size = w.heap.size + 2 := hsz
  have HS := Lib.hid hsz1
  clear hA hB hbe hsz hsz1
  generalize hb0 : w.heap.size = b0 at *
  have HB0 := Lib.hid hb0
  clear hb0
  go_region_with (first | (go_at_call 37; go_loud (first | (with_reducible refine (hH.out _ T1.out).mono ?_; rintro e w1 ⟨v1, rfl, hbt, hbel⟩; obtain ⟨a1, cap1, rfl, hin1⟩ := bts_in hbt; have hgr := Lib.hid hbel; have T2 := Lib.hid (T1.out.below hbel (T1.out.lt)); have HI := Lib.hid hin1; clear hbt hin1 hbel) | (with_reducible refine (hG.out _ _ _ HI.out T2.out).mono ?_; rintro e w2 ⟨v2, rfl, hbt, hbel0⟩; have hbel := grown_then hgr.out hbel0; have hcp := Lib.hid (copy_arr Tryd.prog 55 5 3 23 Tryd.underlying55 size8 w2 (b0 + 1) _ 16 v2 _ _ (HB.out.below hbel (by rw [HS.out]; omega)) hlen (zs_length 16) hbt); have HA1 := Lib.hid (HA.out.below hbel (by rw [HS.out]; omega)); have HB1 := Lib.hid (HB.out.below hbel (by rw [HS.out]; omega)); have HE1 := Lib.hid (below_on HE.out hbel (by rw [HS.out]; omega)); clear hbt hbel hbel0))) | rw [hcp.out])
  all_goals
    have k0 : ABlk 23 (w2.setRow (b0 + 1) (aC (highL u 8 ++ highL v 8))) b0 (zs 16) := HA1.out.setRow_ne (by omega)
    have k1 : ABlk 23 (w2.setRow (b0 + 1) (aC (highL u 8 ++ highL v 8))) (b0 + 1) (highL u 8 ++ highL v 8) := setRow_blk HB1.out
    have k2 : Below b0 w (w2.setRow (b0 + 1) (aC (highL u 8 ++ highL v 8))) := setRow_below HE1.out (by omega)
    generalize w2.setRow (b0 + 1) (aC (highL u 8 ++ highL v 8)) = w3 at k0 k1 k2 ⊢
    have K2 := Lib.hid (setRow_below (cs := aC (highL u 8 ++ highL v 8)) (b := b0) k2 (by omega))
    have E1 := Lib.hid k1.at0
    have E2 := Lib.hid k0
    have E3 := Lib.hid (setRow_blk k0 (l := highL u 8 ++ highL v 8))
    clear k0 k1 k2 hcp HA1 HB1 HE1 HS HE HB HA
    go_wp2_with (first | refine wl_load traceT (by rfl) (by rfl) hlen E1.out ?_ | refine wl_store traceT (by rfl) (by rfl) (by rfl) hlen (zs_length 16) E2.out ?_)
    exact bodyPost_ret (traceT.result Tryd.results15 E3.out hlen rfl) rfl ⟨rfl, by rw [HB0.out]; exact K2.out⟩

end Go.Proofs.YtjoafbapffdneaaDoor
