/- Package pwrite: what its parts are asked: tag, size. -/
import Derived.Test.YtjpppnfkpnfhoaaDoorPwMem
import Derived.Test.YtjpppnfkpnfhoaaDoorZJ
namespace Go.Proofs.YtjpppnfkpnfhoaaDoor
open Go Go.RowKit
set_option linter.unusedVariables false

/-- Block b holds a message within. -/
def WtT (t : TypeId) (w : World) (b : Nat) (n : Int) (u : Value) (z : Int) : Prop := w.heap[b]? = some (.cells #[.int .i64 n, u, .int .i64 z] t (0, 0))
theorem WtT.lt {t : TypeId} {w : World} {b : Nat} {n : Int} {u : Value} {z : Int} (h : WtT t w b n u z) : b < w.heap.size := lt_of_block h
theorem WtT.c0 {t : TypeId} {w : World} {b : Nat} {n : Int} {u : Value} {z : Int} (h : WtT t w b n u z) : w.cell? ⟨b, 0, none⟩ = some (.int .i64 n) := by unfold WtT at h; simp [World.cell?, h]
theorem WtT.c1 {t : TypeId} {w : World} {b : Nat} {n : Int} {u : Value} {z : Int} (h : WtT t w b n u z) : w.cell? ⟨b, 1, none⟩ = some u := by unfold WtT at h; simp [World.cell?, h]
theorem WtT.c2 {t : TypeId} {w : World} {b : Nat} {n : Int} {u : Value} {z : Int} (h : WtT t w b n u z) : w.cell? ⟨b, 2, none⟩ = some (.int .i64 z) := by unfold WtT at h; simp [World.cell?, h]
theorem WtT.at {t : TypeId} {w w' : World} {b : Nat} {n : Int} {u : Value} {z : Int} (h : WtT t w b n u z) (he : w'.heap[b]? = w.heap[b]?) : WtT t w' b n u z := he.trans h
theorem wt_alloc (t : TypeId) (w : World) (n : Int) (u : Value) (z : Int) : WtT t (w.alloc (.cells #[.int .i64 n, u, .int .i64 z] t)) w.heap.size n u z := heap_alloc_new w _
theorem wt_grow (t : TypeId) (w : World) (n : Int) (u : Value) (z : Int) : Below w.heap.size w (w.alloc (.cells #[.int .i64 n, u, .int .i64 z] t)) := (Below.refl _ w).alloc (Nat.le_refl _) _
theorem WtT.alloc {t : TypeId} {w : World} {b : Nat} {n : Int} {u : Value} {z : Int} (h : WtT t w b n u z) (o : Obj) : WtT t (w.alloc o) b n u z := (Below.heap_alloc _ _ _ h.lt).trans h

theorem wtag_any (n : Int) (u : Value) (z : Int) (w : World) :
    Calls Tryd.prog 79 #[pwV n u z] w fun e w' => e = .returned (tgV n 2) ∧ Below w.heap.size w w' := by
  obtain ⟨w1, hw1⟩ : ∃ w1, w1 = ((w.alloc (.cells #[.int .i64 n, u, .int .i64 z] 66)).alloc (.cells #[.int .i64 0, .int .i64 0] 58)) := ⟨_, rfl⟩
  have F0 := (wt_alloc 66 w n u z).alloc (.cells #[.int .i64 0, .int .i64 0] 58)
  have T0 := tg_alloc 58 (w.alloc (.cells #[.int .i64 n, u, .int .i64 z] 66)) 0 0
  rw [World.size_alloc] at T0
  have B0 := Lib.hid (show Below w.heap.size w w1 by rw [hw1]; exact ((Below.refl _ w).alloc (Nat.le_refl _) _).alloc (by simp) _)
  go_enter Tryd.func79, Tryd.ntmps79
  go_upto_region 1 with fail
  rw [← hw1]
  rw [← hw1] at F0 T0
  have f0 := F0.c0; have t0 := T0.c0; have t1 := T0.c1; have tf := T0.fr
  have HA := Lib.hid (T0.set n 2)
  clear F0 T0 hw1
  go_wp2
  exact bodyPost_ret (tg_result Tryd.underlying58 rfl (by kernel_rfl) Tryd.results79 HA.out rfl) rfl ⟨rfl, tg_set_below B0.out (by omega)⟩
theorem ftag4 (n v : Int) (u : Nat) (s : ByteArray) (w : World) :
    Calls Tryd.prog 83 #[.agg #[.int .i64 n, .int .i64 v, .int .u64 (u : Nat), .string s]] w fun e w' => e = .returned (tgV n v) ∧ Below w.heap.size w w' := by
  obtain ⟨w1, hw1⟩ : ∃ w1, w1 = ((w.alloc (.cells #[.int .i64 n, .int .i64 v, .int .u64 (u : Nat), .string s] 67)).alloc (.cells #[.int .i64 0, .int .i64 0] 58)) := ⟨_, rfl⟩
  have F0 := (fd_alloc w (n, v, u, s) 67).alloc (.cells #[.int .i64 0, .int .i64 0] 58)
  have T0 := tg_alloc 58 (w.alloc (.cells #[.int .i64 n, .int .i64 v, .int .u64 (u : Nat), .string s] 67)) 0 0
  rw [World.size_alloc] at T0
  have B0 := Lib.hid (show Below w.heap.size w w1 by rw [hw1]; exact ((Below.refl _ w).alloc (Nat.le_refl _) _).alloc (by simp) _)
  go_enter Tryd.func83, Tryd.ntmps83
  go_upto_region 1 with fail
  rw [← hw1]
  rw [← hw1] at F0 T0
  have f0 := F0.c0; have f1 := F0.c1; have t0 := T0.c0; have t1 := T0.c1; have tf := T0.fr
  have HA := Lib.hid (T0.set n v)
  clear F0 T0 hw1
  go_wp2
  exact bodyPost_ret (tg_result Tryd.underlying58 rfl (by kernel_rfl) Tryd.results83 HA.out rfl) rfl ⟨rfl, tg_set_below B0.out (by omega)⟩
theorem ftag_any (x : FD) (w : World) :
    Calls Tryd.prog 83 #[pfV x] w fun e w' => e = .returned (tgV x.1 x.2.1) ∧ Below w.heap.size w w' := ftag4 x.1 x.2.1 x.2.2.1 x.2.2.2 w
theorem fsz4 (n v : Int) (u : Nat) (s : ByteArray) (w : World) (hu : u < 18446744073709551616) (hs : s.size ≤ 1099511627776) :
    Calls Tryd.prog 82 #[.agg #[.int .i64 n, .int .i64 v, .int .u64 (u : Nat), .string s]] w fun e w' => e = .returned (.int .i64 ((fB n v u s).length : Nat)) ∧ Below w.heap.size w w' := by
  have HS := Lib.hid (fun w => fsize_any n v u s w hu (by omega))
  generalize (fB n v u s).length = Z at *
  clear hu hs
  go_enter Tryd.func82, Tryd.ntmps82
  have c0 := (fd_alloc w (n, v, u, s) 67).c0; have c1 := (fd_alloc w (n, v, u, s) 67).c1
  have c2 := (fd_alloc w (n, v, u, s) 67).c2; have c3 := (fd_alloc w (n, v, u, s) 67).c3
  go_wp2_with fail
  with_reducible refine (HS.out _).mono ?_
  rintro e w1 ⟨rfl, b1⟩
  have k1 := Lib.hid (below_on (fd_grow w (n, v, u, s) 67) b1 (by simp))
  clear b1 c0 c1 c2 c3
  go_wp2
  go_ret
  exact ⟨rfl, k1.out⟩
theorem fsz_any (x : FD) (w : World) (hu : x.2.2.1 < 18446744073709551616) (hs : x.2.2.2.size ≤ 1099511627776) :
    Calls Tryd.prog 82 #[pfV x] w fun e w' => e = .returned (.int .i64 ((pBs x).length : Nat)) ∧ Below w.heap.size w w' := fsz4 x.1 x.2.1 x.2.2.1 x.2.2.2 w hu hs
theorem fputb_any {T : Prop} (x : FD) (w : World) (hx : FdOk T x) (hT : T → Tab w) :
    Calls Tryd.prog 9 #[.slice none 0 0, pfV x] w fun e w' => ∃ u, e = .returned u ∧ Bts 5 w' w.heap.size u (pBs x) ∧ Below w.heap.size w w' := by
  obtain ⟨n, v, u, s⟩ := x
  have hu := hx.num
  have hs := hx.txt
  have ht := hx.tab
  simp only at hu hs ht
  have hn := bin_nil w
  rcases Bool.eq_false_or_eq_true (tagB n v) with h | h
  · rcases (tag_yes h).2.2 with hv | hv | hv | hv
    · subst hv; exact put_0 none 0 [] n u s w (by simp) (by omega) hu hn h
    · subst hv; exact put_1 none 0 [] n u s w (by simp) (by omega) hu hn (hT (ht (.inl rfl))) h
    · subst hv; exact put_2 none 0 [] n u s w (by simp) (by omega) hu hn h
    · subst hv; exact put_5 none 0 [] n u s w (by simp) (by omega) hu hn (hT (ht (.inr rfl))) h
  · exact put_no none 0 [] n v u s w (by simp) (by omega) hu hn h

/-- The worlds within the size of a message within: its block, nothing else turned. -/
structure WZ (w wx : World) (f : Nat) (n : Int) (u : Value) (z : Int) : Prop where
  fld : WtT 66 wx f n u z
  b : Below w.heap.size w wx
theorem WZ.next {w wx w' : World} {f : Nat} {n : Int} {u : Value} {z : Int} (h : WZ w wx f n u z) (hb : Below wx.heap.size wx w') : WZ w w' f n u z := ⟨h.fld.at (hb.block f h.fld.lt), grown_then h.b hb⟩
@[reducible] def CWZ (w : World) (f : Nat) (n : Int) (u : Value) (z : Int) (wx : World) : Prop :=
  wx.cell? ⟨f, 0, none⟩ = some (.int .i64 n) ∧ wx.cell? ⟨f, 1, none⟩ = some u ∧ wx.cell? ⟨f, 2, none⟩ = some (.int .i64 z) ∧ WZ w wx f n u z
theorem WZ.cells {w wx : World} {f : Nat} {n : Int} {u : Value} {z : Int} (h : WZ w wx f n u z) : CWZ w f n u z wx := ⟨h.fld.c0, h.fld.c1, h.fld.c2, h⟩
theorem CWZ.z {w wx : World} {f : Nat} {n : Int} {u : Value} {z : Int} (h : CWZ w f n u z wx) : WZ w wx f n u z := h.2.2.2
theorem cwz_next {w wx w' : World} {f : Nat} {n : Int} {u : Value} {z : Int} (hb : Below wx.heap.size wx w') (h : CWZ w f n u z wx) : CWZ w f n u z w' := (h.z.next hb).cells
theorem toList_bA (l : List UInt8) : (bA l).data.toList = l := by simp [bA]
/-- A field of bytes. -/
theorem pBs_two (n : Int) (l : List UInt8) : pBs (n, 2, 0, bA l) = if tagB n 2 then tagL n 2 ++ (vB l.length ++ l) else [] := by
  have e : (bA l).size = l.length := by rw [← toList_size, toList_bA]
  show fB n 2 0 (bA l) = _
  unfold fB
  have e2 : bB 2 0 (bA l) = vB (bA l).size ++ (bA l).data.toList := rfl
  rw [e2, e, toList_bA]
theorem wsz_any (n : Int) (u : Value) (z : Nat) (w : World) (hz : z ≤ 1099511627776) :
    Calls Tryd.prog 78 #[pwV n u (z : Nat)] w fun e w' => e = .returned (.int .i64 (((tagL n 2).length + (vB z).length + z : Nat) : Int)) ∧ Below w.heap.size w w' := by
  have HT := Lib.hid (fun w => wtag_any n u (z : Nat) w)
  have HS := Lib.hid (fun w => tsize_any n 2 w)
  have HV := Lib.hid (fun w => (vsize_any z w (by omega)).mono (R' := fun e w' => e = .returned (.int .i64 ((vB z).length : Nat)) ∧ Below w.heap.size w w') fun e w' h => ⟨h.1, by rw [h.2]; exact Below.refl _ _⟩)
  have l1 := tagL_le10 n 2
  have l2 : (vB z).length ≤ 10 := vB_le10 (by omega)
  generalize (tagL n 2).length = L at *
  generalize (vB z).length = V at *
  have e0 : IntKind.u64.wrap (z : Int) = (z : Int) := IntWalk.u64_in _ (by omega)
  have e1 : IntKind.i64.wrap ((L : Int) + (V : Int)) = (L : Int) + (V : Int) := IntWalk.i64_in _ (by omega)
  have e2 : IntKind.i64.wrap ((L : Int) + (V : Int) + (z : Int)) = (L : Int) + (V : Int) + (z : Int) := IntWalk.i64_in _ (by omega)
  obtain ⟨w1, hw1⟩ : ∃ w1, w1 = w.alloc (.cells #[.int .i64 n, u, .int .i64 (z : Nat)] 66) := ⟨_, rfl⟩
  have Z1 : WZ w w1 w.heap.size n u (z : Nat) := by rw [hw1]; exact ⟨wt_alloc 66 w n u (z : Nat), wt_grow 66 w n u (z : Nat)⟩
  have Z1d := Lib.hid (show CWZ w w.heap.size n u (z : Nat) w1.drew from (show WZ w w1.drew w.heap.size n u (z : Nat) from ⟨Z1.fld, Z1.b.drew⟩).cells)
  obtain ⟨c0, c1, c2, Z1⟩ := Z1.cells
  clear Z1 l1 l2 hz
  go_enter Tryd.func78, Tryd.ntmps78
  go_upto_region 1 with fail
  rw [← hw1]
  clear hw1
  go_cut [2] from 3 (fun q2 wx => q2 = .int .i64 ((L : Int) + (V : Int) + (z : Int)) ∧ Below w.heap.size w wx)
  case first =>
    go_region_held3 (fun wx => CWZ w w.heap.size n u (z : Nat) wx)
      (first | with_reducible exact Z1d.out | with_reducible exact cwz_next (by assumption) (by assumption))
      (first
      | (go_at_call 79; go_loud (with_reducible refine (HT.out _).mono ?_; rintro r w4 ⟨rfl, b4⟩))
      | (go_at_call 37; go_loud (with_reducible refine (HS.out _).mono ?_; rintro r w5 ⟨rfl, b5⟩))
      | (go_at_call 41; go_loud (with_reducible refine (HV.out _).mono ?_; rintro r w6 ⟨rfl, b6⟩)))
    all_goals go_wp2_with fail
    all_goals go_meet
    all_goals (case rel => exact ⟨rfl, (CWZ.z (by assumption)).b⟩)
  case rest =>
    obtain ⟨rfl, hb⟩ := hcut
    go_wp2
    go_ret
    exact ⟨ret_i (by omega), hb⟩
end Go.Proofs.YtjpppnfkpnfhoaaDoor
