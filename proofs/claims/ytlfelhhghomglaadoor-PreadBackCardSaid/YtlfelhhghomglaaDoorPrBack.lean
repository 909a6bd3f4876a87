/- PreadBack, walked. -/
import Derived.Test.YtlfelhhghomglaaDoorPrWork
import Derived.Test.YtlfelhhghomglaaDoorPrU
import Derived.Test.YtlfelhhghomglaaDoorPrBkN
import Derived.Deep.RegionHeld3
namespace Go.Proofs.YtlfelhhghomglaaDoor
open Go Go.RowKit
set_option linter.unusedVariables false

theorem rest_back (p X : ByteArray) : (p ++ X).extract p.size (p ++ X).size = X := by
  apply ByteArray.ext
  apply Array.toList_inj.mp
  rw [back_toList, toList_append, ← toList_size p, List.drop_left]
theorem kback_one (n v : Int) (u : Nat) (s : ByteArray) (w : World) (hu : u < 18446744073709551616) (hs : s.size ≤ 140737488351232) (h : tagB n v = true) (ht : Tab w) :
    Calls Tryd.prog 7 #[.string (bA (fB n v u s))] w fun e w' => ∃ g k, e = .returned (.tuple #[.slice (some ⟨g, 0, none⟩) 1 k, .int .i64 0]) ∧ g < w'.heap.size ∧ FdAt w' g 0 (n, v, kU v u, kS v s) ∧ Below w.heap.size w w' := by
  have hl := fB_le n v u s hu hs
  have hz := bA_size (fB n v u s)
  have hA := fAll_back h u s hu hs
  have e1 : (bA (fB n v u s)).data.toList = fB n v u s := by simp [bA]
  have := all_any (bA (fB n v u s)) w (by omega) (.inr (by rw [e1, hA]; exact ⟨rfl, by simp⟩)) ht
  rw [e1, hA] at this
  refine this.mono ?_
  rintro e w' ⟨x, he, hrow, hb⟩
  obtain ⟨a, k, hv, hi⟩ := hrow.inn
  obtain ⟨g, ha, hg, hc⟩ := hi.block (by simp)
  subst ha
  rw [hv] at he
  exact ⟨g, k, he, hg, hc 0 (by simp), hb⟩
theorem kback_none (n v : Int) (u : Nat) (s : ByteArray) (w : World) (h : tagB n v = false) (ht : Tab w) :
    Calls Tryd.prog 7 #[.string (bA (fB n v u s))] w fun e w' => ∃ a k, e = .returned (.tuple #[.slice a 0 k, .int .i64 0]) ∧ Below w.heap.size w w' := by
  have e1 : (bA (fB n v u s)).data.toList = [] := by rw [fB_no h]; rfl
  have e2 : (bA (fB n v u s)).size = 0 := by rw [← toList_size, e1]; rfl
  have := all_any (bA (fB n v u s)) w (by omega) (.inl (by rw [e1]; simp)) ht
  rw [e1, fAll_nil] at this
  refine this.mono ?_
  rintro e w' ⟨x, he, hrow, hb⟩
  obtain ⟨a, k, hv, hi⟩ := hrow.inn
  rw [hv] at he
  exact ⟨a, k, he, hb⟩
/-- What stands behind the calls ahead of the comparison. -/
structure XB (W wx : World) (g T : Nat) (F : FD) : Prop where
  lt : g < wx.heap.size
  f : FdAt wx g 0 F
  q : PfT 39 wx T F
  tb : Tab wx
  b : Below W.heap.size W wx
theorem XB.next {W wx w' : World} {g T : Nat} {F : FD} (h : XB W wx g T F) (hb : Below wx.heap.size wx w') : XB W w' g T F :=
  ⟨Nat.lt_of_lt_of_le h.lt hb.size, h.f.below hb h.lt, h.q.below hb h.q.lt, h.tb.below hb h.tb.lt, grown_then h.b hb⟩
@[reducible] def CXB (W : World) (g T : Nat) (x0 x1 : Int) (x2 : Nat) (x3 : ByteArray) (w : World) : Prop :=
  w.cell? ⟨g, 0, none⟩ = some (.int .i64 x0) ∧ w.cell? ⟨g, 1, none⟩ = some (.int .i64 x1) ∧ w.cell? ⟨g, 2, none⟩ = some (.int .u64 (x2 : Nat)) ∧ w.cell? ⟨g, 3, none⟩ = some (.string x3) ∧
  w.cell? ⟨T, 0, none⟩ = some (.int .i64 x0) ∧ w.cell? ⟨T, 1, none⟩ = some (.int .i64 x1) ∧ w.cell? ⟨T, 2, none⟩ = some (.int .u64 (x2 : Nat)) ∧ w.cell? ⟨T, 3, none⟩ = some (.string x3) ∧ XB W w g T (x0, x1, x2, x3)
theorem XB.cells {W w : World} {g T : Nat} {x0 x1 : Int} {x2 : Nat} {x3 : ByteArray} (h : XB W w g T (x0, x1, x2, x3)) : CXB W g T x0 x1 x2 x3 w :=
  ⟨h.f.1, h.f.2.1, h.f.2.2.1, h.f.2.2.2, h.q.c0, h.q.c1, h.q.c2, h.q.c3, h⟩
theorem CXB.x {W w : World} {g T : Nat} {x0 x1 : Int} {x2 : Nat} {x3 : ByteArray} (h : CXB W g T x0 x1 x2 x3 w) : XB W w g T (x0, x1, x2, x3) := h.2.2.2.2.2.2.2.2
theorem rf_eq (x : FD) (w : World) : (binOp .eql 39 (.agg #[.int .i64 x.1, .int .i64 x.2.1, .int .u64 (x.2.2.1 : Nat), .string x.2.2.2]) (.agg #[.int .i64 x.1, .int .i64 x.2.1, .int .u64 (x.2.2.1 : Nat), .string x.2.2.2])).run Tryd.prog w = .ok (.bool true) w := by
  have := eqlRf x x w
  rw [decide_eq_true rfl] at this; exact this
set_option maxRecDepth 100000 in
set_option maxHeartbeats 4000000 in
theorem pfback_no (p : ByteArray) (n : Int) (v : Int) (u : Nat) (s : ByteArray) (w : World) (hp : p.size ≤ 140737488351232) (hs : s.size ≤ 140737488351232) (hu : u < 18446744073709551616) (ht : Tab w) (h : tagB n v = false) :
    Calls Tryd.prog 4 #[.string p, .agg #[.int .i64 n, .int .i64 v, .int .u64 (u : Nat), .string s]] w fun e w' => e = .returned (.bool true) ∧ Below w.heap.size w w' := by
  have hcv := Lib.hid (fun (w : World) => Lib.run_convert_string_bytes (P := Tryd.prog) w 9 47 5 p Tryd.underlying9 Tryd.underlying47 Tryd.underlying5)
  have HT0 := Lib.hid (show ∀ w', Below w.heap.size w w' → Tab w' from fun w' hb => ht.below hb ht.lt)
  have HP := Lib.hid (fun a cap w hin ht => fput_any a cap p.data.toList n v u s w (by rw [toList_size]; exact hp) hs hu hin ht)
  rw [toList_size] at HP
  have hF := bA_front p (fB n v u s)
  have HT := Lib.hid (fun w => rftext_any n v u s w hu hs)
  have HS := Lib.hid (fun w => fsize_any n v u s w hu hs)
  have HA := Lib.hid (fun w ht => kback_none n v u s w h ht)
  have hlen := fB_le n v u s hu hs
  have sx := bA_size (fB n v u s)
  have HX := Lib.hid (show bA (fB n v u s) = ⟨#[]⟩ by rw [fB_no h]; rfl)
  generalize (fB n v u s).length = N at *
  have hin := bytes_in (w.alloc (.cells #[.int .i64 n, .int .i64 v, .int .u64 (u : Nat), .string s] 39)) 5 p
  rw [World.size_alloc] at hin
  have hin := Lib.hid hin
  clear ht
  go_enter Tryd.func4, Tryd.ntmps4
  go_wp2_with fail
  rw [hcv.out]
  have T0 := (fd_alloc w (n, v, u, s) 39).below (bytes_below _ 5 p) (by simp)
  have B0 := below_on (fd_grow w (n, v, u, s) 39) (bytes_below _ 5 p) (by simp)
  have c0 := T0.c0; have c1 := T0.c1; have c2 := T0.c2; have c3 := T0.c3
  go_wp2_with fail
  with_reducible refine (HP.out _ _ _ hin.out (HT0.out _ B0)).mono ?_
  rintro e w1 ⟨x, rfl, hbt, b1⟩
  have T1 := T0.below b1 T0.lt
  have B1 := grown_then B0 b1
  have hcx := Lib.hid (hbt.text (P := Tryd.prog) Tryd.underlying47 Tryd.underlying5 Tryd.underlying9)
  rw [hF] at hcx
  clear hbt b1 c0 c1 c2 c3 T0 B0 hF hin HP hcv
  have c0 := T1.c0; have c1 := T1.c1; have c2 := T1.c2; have c3 := T1.c3
  have hCB := Lib.hid (show (p ++ bA (fB n v u s)).extract p.size (p.size + N) = bA (fB n v u s) by have := rest_back p (bA (fB n v u s)); rwa [ByteArray.size_append, sx] at this)
  generalize bA (fB n v u s) = X at *
  have l1 : ¬ 9223372036854775807 < p.size + X.size := by omega
  have szx : (p ++ X).size = p.size + X.size := ByteArray.size_append
  have s1 : IntKind.i64.wrap (((p.size : Int) + (X.size : Int)) - (p.size : Int)) = (N : Int) := by rw [IntWalk.i64_in _ (by omega)]; omega
  have s2 : ((N : Int) != (p.size : Int) + (N : Int) - (p.size : Int)) = false := bne_eq_false_iff_eq.mpr (by omega)
  go_wp2_with fail
  rw [hcx.out]
  go_wp2_with fail
  with_reducible refine (HT.out _).mono ?_
  rintro e w2 ⟨rfl, b2⟩
  have T2 := T1.below b2 T1.lt
  have B2 := grown_then B1 b2
  clear b2 c0 c1 c2 c3 T1 B1
  have c0 := T2.c0; have c1 := T2.c1; have c2 := T2.c2; have c3 := T2.c3
  go_wp2_with fail
  with_reducible refine (HS.out _).mono ?_
  rintro e w3 ⟨rfl, b3⟩
  have T3 := T2.below b3 T2.lt
  have B3 := grown_then B2 b3
  clear b3 c0 c1 c2 c3 T2 B2
  go_wp2_with fail
  rw [hCB.out]
  with_reducible refine (HA.out _ (HT0.out _ B3)).mono ?_
  rintro e w4 ⟨a, k, rfl, b4⟩
  have T4 := T3.below b4 T3.lt
  have B4 := grown_then B3 b4
  clear b4 T3 B3
  have c0 := T4.c0; have c1 := T4.c1; have c2 := T4.c2; have c3 := T4.c3
  go_wp2_with fail
  with_reducible refine (HT.out _).mono ?_
  rintro e w5 ⟨rfl, b5⟩
  have T5 := T4.below b5 T4.lt
  have B5 := grown_then B4 b5
  clear b5 T4 B4 c0 c1 c2 c3
  rw [HX.out]
  go_wp2_with fail
  with_reducible refine (works17_any _ (HT0.out _ B5)).mono ?_
  rintro e w6 ⟨rfl, b6⟩
  have B6 := Lib.hid (grown_then B5 b6)
  clear b6 B5
  go_wp2
  go_ret
  exact ⟨rfl, B6.out⟩
set_option maxRecDepth 100000 in
set_option maxHeartbeats 4000000 in
theorem pfback_2 (p : ByteArray) (n : Int) (u : Nat) (s : ByteArray) (w : World) (hp : p.size ≤ 140737488351232) (hs : s.size ≤ 140737488351232) (hu : u < 18446744073709551616) (ht : Tab w) (h : tagB n 2 = true) :
    Calls Tryd.prog 4 #[.string p, .agg #[.int .i64 n, .int .i64 2, .int .u64 (u : Nat), .string s]] w fun e w' => e = .returned (.bool true) ∧ Below w.heap.size w w' := by
  have hcv := Lib.hid (fun (w : World) => Lib.run_convert_string_bytes (P := Tryd.prog) w 9 47 5 p Tryd.underlying9 Tryd.underlying47 Tryd.underlying5)
  have HT0 := Lib.hid (show ∀ w', Below w.heap.size w w' → Tab w' from fun w' hb => ht.below hb ht.lt)
  have HP := Lib.hid (fun a cap w hin ht => fput_any a cap p.data.toList n 2 u s w (by rw [toList_size]; exact hp) hs hu hin ht)
  rw [toList_size] at HP
  have hF := bA_front p (fB n 2 u s)
  have HT := Lib.hid (fun w => rftext_any n 2 u s w hu hs)
  have HS := Lib.hid (fun w => fsize_any n 2 u s w hu hs)
  have HA := Lib.hid (fun w ht => kback_one n 2 u s w hu hs h ht)
  have hlen := fB_le n 2 u s hu hs
  have sx := bA_size (fB n 2 u s)
  generalize (fB n 2 u s).length = N at *
  have hin := bytes_in (w.alloc (.cells #[.int .i64 n, .int .i64 2, .int .u64 (u : Nat), .string s] 39)) 5 p
  rw [World.size_alloc] at hin
  have hin := Lib.hid hin
  clear ht
  go_enter Tryd.func4, Tryd.ntmps4
  go_wp2_with fail
  rw [hcv.out]
  have T0 := (fd_alloc w (n, 2, u, s) 39).below (bytes_below _ 5 p) (by simp)
  have B0 := below_on (fd_grow w (n, 2, u, s) 39) (bytes_below _ 5 p) (by simp)
  have c0 := T0.c0; have c1 := T0.c1; have c2 := T0.c2; have c3 := T0.c3
  go_wp2_with fail
  with_reducible refine (HP.out _ _ _ hin.out (HT0.out _ B0)).mono ?_
  rintro e w1 ⟨x, rfl, hbt, b1⟩
  have T1 := T0.below b1 T0.lt
  have B1 := grown_then B0 b1
  have hcx := Lib.hid (hbt.text (P := Tryd.prog) Tryd.underlying47 Tryd.underlying5 Tryd.underlying9)
  rw [hF] at hcx
  clear hbt b1 c0 c1 c2 c3 T0 B0 hF hin HP hcv
  have c0 := T1.c0; have c1 := T1.c1; have c2 := T1.c2; have c3 := T1.c3
  have hCB := Lib.hid (show (p ++ bA (fB n 2 u s)).extract p.size (p.size + N) = bA (fB n 2 u s) by have := rest_back p (bA (fB n 2 u s)); rwa [ByteArray.size_append, sx] at this)
  generalize bA (fB n 2 u s) = X at *
  have l1 : ¬ 9223372036854775807 < p.size + X.size := by omega
  have szx : (p ++ X).size = p.size + X.size := ByteArray.size_append
  have s1 : IntKind.i64.wrap (((p.size : Int) + (X.size : Int)) - (p.size : Int)) = (N : Int) := by rw [IntWalk.i64_in _ (by omega)]; omega
  have s2 : ((N : Int) != (p.size : Int) + (N : Int) - (p.size : Int)) = false := bne_eq_false_iff_eq.mpr (by omega)
  go_wp2_with fail
  rw [hcx.out]
  go_wp2_with fail
  with_reducible refine (HT.out _).mono ?_
  rintro e w2 ⟨rfl, b2⟩
  have T2 := T1.below b2 T1.lt
  have B2 := grown_then B1 b2
  clear b2 c0 c1 c2 c3 T1 B1
  have c0 := T2.c0; have c1 := T2.c1; have c2 := T2.c2; have c3 := T2.c3
  go_wp2_with fail
  with_reducible refine (HS.out _).mono ?_
  rintro e w3 ⟨rfl, b3⟩
  have T3 := T2.below b3 T2.lt
  have B3 := grown_then B2 b3
  clear b3 c0 c1 c2 c3 T2 B2
  go_wp2_with fail
  rw [hCB.out]
  with_reducible refine (HA.out _ (HT0.out _ B3)).mono ?_
  rintro e w4 ⟨g, k, rfl, hg, hf, b4⟩
  have T4 := T3.below b4 T3.lt
  have B4 := grown_then B3 b4
  clear b4 T3 B3 HT HS HA hcx hCB s1 s2 l1 szx hin hlen sx
  have c0 := T4.c0; have c1 := T4.c1; have c2 := T4.c2; have c3 := T4.c3
  have hT := T4.lt
  go_wp2_with fail
  have HX := Lib.hid (show XB w (w4.alloc (.cells #[.int .i64 n, .int .i64 2, .int .u64 0, .string s] 39)) g w4.heap.size (n, 2, kU 2 u, kS 2 s) from by
    have F := fd_alloc w4 (n, 2, kU 2 u, kS 2 s) 39
    have bb := fd_grow w4 (n, 2, kU 2 u, kS 2 s) 39
    have b5 := grown_then B4 bb
    exact ⟨Nat.lt_of_lt_of_le hg bb.size, hf.below bb hg, F, HT0.out _ b5, b5⟩)
  generalize (w4.alloc (.cells #[.int .i64 n, .int .i64 2, .int .u64 0, .string s] 39)) = w5 at HX ⊢
  generalize kU 2 u = y at HX
  generalize kS 2 s = z at HX
  clear hf B4 T4 hT hg HT0 c0 c1 c2 c3
  generalize w4.heap.size = T at *
  have qE := fun w => rf_eq (n, 2, y, z) w
  have qG := fun (x y : Operand) xs ys w => run_eqGuard_agg w .eql 39 x y xs ys guardRf
  refine wp_region_held_drew (S := CXB w g T n 2 y z) (by kernel_rfl) (HX.out.next (drew_below _ _)).cells (fun hS => ?_)
  refine wpAnyH_take (i := 0) (oi := ⟨some 62, _, _, _, _, _⟩) (v := ?_) rfl (by decide +kernel) (by decide +kernel) (by decide +kernel) (fun _ _ _ h => h) (Or.inl ⟨by rfl, ?_⟩) hS ?_
  rotate_left 1
  · intro wS hSw
    obtain ⟨g0, g1, g2, g3, j0, j1, j2, j3, -⟩ := hSw
    go_simp
    try with_reducible rfl
  try simp only [Act.put, List.setIfInBounds_toArray, List.set_cons_zero, List.set_cons_succ]
  refine wpAnyH_take (i := 1) (oi := ⟨some 63, _, _, _, _, _⟩) (v := ?_) rfl (by decide +kernel) (by decide +kernel) (by decide +kernel) (fun _ _ _ h => h) (Or.inl ⟨by rfl, ?_⟩) hS ?_
  rotate_left 1
  · intro wS hSw
    obtain ⟨g0, g1, g2, g3, j0, j1, j2, j3, -⟩ := hSw
    go_simp
    try with_reducible rfl
  try simp only [Act.put, List.setIfInBounds_toArray, List.set_cons_zero, List.set_cons_succ]
  refine wpAnyH_take (i := 2) (oi := ⟨some 64, _, _, _, _, _⟩) (v := ?_) rfl (by decide +kernel) (by decide +kernel) (by decide +kernel) (fun _ _ _ h => h) (Or.inl ⟨by rfl, ?_⟩) hS ?_
  rotate_left 1
  · intro wS hSw
    obtain ⟨g0, g1, g2, g3, j0, j1, j2, j3, -⟩ := hSw
    go_simp
    try with_reducible rfl
  try simp only [Act.put, List.setIfInBounds_toArray, List.set_cons_zero, List.set_cons_succ]
  refine wpAnyH_take (i := 3) (oi := ⟨some 65, _, _, _, _, _⟩) (v := ?_) rfl (by decide +kernel) (by decide +kernel) (by decide +kernel) (fun _ _ _ h => h) (Or.inl ⟨by rfl, ?_⟩) hS ?_
  rotate_left 1
  · intro wS hSw
    obtain ⟨g0, g1, g2, g3, j0, j1, j2, j3, -⟩ := hSw
    go_simp
    try with_reducible rfl
  try simp only [Act.put, List.setIfInBounds_toArray, List.set_cons_zero, List.set_cons_succ]
  refine wpAnyH_take (i := 4) (oi := ⟨some 66, _, _, _, _, _⟩) (v := ?_) rfl (by decide +kernel) (by decide +kernel) (by decide +kernel) (fun _ _ _ h => h) (Or.inl ⟨by rfl, ?_⟩) hS ?_
  rotate_left 1
  · intro wS hSw
    obtain ⟨g0, g1, g2, g3, j0, j1, j2, j3, -⟩ := hSw
    go_simp
    try with_reducible rfl
  try simp only [Act.put, List.setIfInBounds_toArray, List.set_cons_zero, List.set_cons_succ]
  refine wpAnyH_take (i := 5) (oi := ⟨some 67, _, _, _, _, _⟩) (v := ?_) rfl (by decide +kernel) (by decide +kernel) (by decide +kernel) (fun _ _ _ h => h) (Or.inl ⟨by rfl, ?_⟩) hS ?_
  rotate_left 1
  · intro wS hSw
    obtain ⟨g0, g1, g2, g3, j0, j1, j2, j3, -⟩ := hSw
    go_simp
    try with_reducible rfl
  try simp only [Act.put, List.setIfInBounds_toArray, List.set_cons_zero, List.set_cons_succ]
  refine wpAnyH_take (i := 6) (oi := ⟨some 68, _, _, _, _, _⟩) (v := ?_) rfl (by decide +kernel) (by decide +kernel) (by decide +kernel) (fun _ _ _ h => h) (Or.inl ⟨by rfl, ?_⟩) hS ?_
  rotate_left 1
  · intro wS hSw
    obtain ⟨g0, g1, g2, g3, j0, j1, j2, j3, -⟩ := hSw
    go_simp
    try with_reducible rfl
  try simp only [Act.put, List.setIfInBounds_toArray, List.set_cons_zero, List.set_cons_succ]
  refine wpAnyH_take (i := 7) (oi := ⟨some 69, _, _, _, _, _⟩) (v := ?_) rfl (by decide +kernel) (by decide +kernel) (by decide +kernel) (fun _ _ _ h => h) (Or.inl ⟨by rfl, ?_⟩) hS ?_
  rotate_left 1
  · intro wS hSw
    obtain ⟨g0, g1, g2, g3, j0, j1, j2, j3, -⟩ := hSw
    go_simp
    try with_reducible rfl
  try simp only [Act.put, List.setIfInBounds_toArray, List.set_cons_zero, List.set_cons_succ]
  refine wpAnyH_take (i := 8) (oi := ⟨some 70, _, _, _, _, _⟩) (v := ?_) rfl (by decide +kernel) (by decide +kernel) (by decide +kernel) (fun _ _ _ h => h) (Or.inl ⟨by rfl, ?_⟩) hS ?_
  rotate_left 1
  · intro wS hSw
    obtain ⟨g0, g1, g2, g3, j0, j1, j2, j3, -⟩ := hSw
    go_simp
    try with_reducible rfl
  try simp only [Act.put, List.setIfInBounds_toArray, List.set_cons_zero, List.set_cons_succ]
  refine wpAnyH_take (i := 9) (oi := ⟨some 71, _, _, _, _, _⟩) (v := ?_) rfl (by decide +kernel) (by decide +kernel) (by decide +kernel) (fun _ _ _ h => h) (Or.inl ⟨by rfl, ?_⟩) hS ?_
  rotate_left 1
  · intro wS hSw
    obtain ⟨g0, g1, g2, g3, j0, j1, j2, j3, -⟩ := hSw
    go_simp
    try with_reducible rfl
  try simp only [Act.put, List.setIfInBounds_toArray, List.set_cons_zero, List.set_cons_succ]
  refine wpAnyH_take (i := 10) (oi := ⟨some 72, _, _, _, _, _⟩) (v := ?_) rfl (by decide +kernel) (by decide +kernel) (by decide +kernel) (fun _ _ _ h => h) (Or.inl ⟨by rfl, ?_⟩) hS ?_
  rotate_left 1
  · intro wS hSw
    obtain ⟨g0, g1, g2, g3, j0, j1, j2, j3, -⟩ := hSw
    go_simp
    try with_reducible rfl
  try simp only [Act.put, List.setIfInBounds_toArray, List.set_cons_zero, List.set_cons_succ]
  refine wpAnyH_ready (rs := [11]) (by decide +kernel) (by simp) ?_
  refine AllReadyH.cons (o := ⟨some 73, _, _, _, _, _⟩) rfl (fun K hK => ?_) AllReadyH.nil
  rw [if_pos (by rfl)]
  go_simp
  with_reducible refine (works17_any _ hS.x.tb).mono ?_
  rintro e w6 ⟨rfl, b6⟩
  refine hK.out _ _ ((hS.x.next b6).cells) (fun hS => ?_)
  clear hK K
  try simp only [Act.put, List.setIfInBounds_toArray, List.set_cons_zero, List.set_cons_succ]
  refine wpAnyH_take (i := 12) (oi := ⟨some 74, _, _, _, _, _⟩) (v := ?_) rfl (by decide +kernel) (by decide +kernel) (by decide +kernel) (fun _ _ _ h => h) (Or.inl ⟨by rfl, ?_⟩) hS ?_
  rotate_left 1
  · intro wS hSw
    obtain ⟨g0, g1, g2, g3, j0, j1, j2, j3, -⟩ := hSw
    go_simp
    try with_reducible rfl
  try simp only [Act.put, List.setIfInBounds_toArray, List.set_cons_zero, List.set_cons_succ]
  refine wpAnyH_take (i := 13) (oi := ⟨some 4, _, _, _, _, _⟩) (v := ?_) rfl (by decide +kernel) (by decide +kernel) (by decide +kernel) (fun _ _ _ h => h) (Or.inl ⟨by rfl, ?_⟩) hS ?_
  rotate_left 1
  · intro wS hSw
    obtain ⟨g0, g1, g2, g3, j0, j1, j2, j3, -⟩ := hSw
    go_simp
    try with_reducible rfl
  try simp only [Act.put, List.setIfInBounds_toArray, List.set_cons_zero, List.set_cons_succ]
  refine wpAnyH_done (by kernel_rfl) ?_ _
  have HF := Lib.hid hS.x.b
  clear hS
  go_wp2
  go_ret
  exact ⟨rfl, HF.out⟩
set_option maxRecDepth 100000 in
set_option maxHeartbeats 4000000 in
theorem pfback_5 (p : ByteArray) (n : Int) (u : Nat) (s : ByteArray) (w : World) (hp : p.size ≤ 140737488351232) (hs : s.size ≤ 140737488351232) (hu : u < 18446744073709551616) (ht : Tab w) (h : tagB n 5 = true) :
    Calls Tryd.prog 4 #[.string p, .agg #[.int .i64 n, .int .i64 5, .int .u64 (u : Nat), .string s]] w fun e w' => e = .returned (.bool true) ∧ Below w.heap.size w w' := by
  have hcv := Lib.hid (fun (w : World) => Lib.run_convert_string_bytes (P := Tryd.prog) w 9 47 5 p Tryd.underlying9 Tryd.underlying47 Tryd.underlying5)
  have HT0 := Lib.hid (show ∀ w', Below w.heap.size w w' → Tab w' from fun w' hb => ht.below hb ht.lt)
  have HP := Lib.hid (fun a cap w hin ht => fput_any a cap p.data.toList n 5 u s w (by rw [toList_size]; exact hp) hs hu hin ht)
  rw [toList_size] at HP
  have hF := bA_front p (fB n 5 u s)
  have HT := Lib.hid (fun w => rftext_any n 5 u s w hu hs)
  have HS := Lib.hid (fun w => fsize_any n 5 u s w hu hs)
  have HA := Lib.hid (fun w ht => kback_one n 5 u s w hu hs h ht)
  have hlen := fB_le n 5 u s hu hs
  have sx := bA_size (fB n 5 u s)
  generalize (fB n 5 u s).length = N at *
  have hin := bytes_in (w.alloc (.cells #[.int .i64 n, .int .i64 5, .int .u64 (u : Nat), .string s] 39)) 5 p
  rw [World.size_alloc] at hin
  have hin := Lib.hid hin
  clear ht
  go_enter Tryd.func4, Tryd.ntmps4
  go_wp2_with fail
  rw [hcv.out]
  have T0 := (fd_alloc w (n, 5, u, s) 39).below (bytes_below _ 5 p) (by simp)
  have B0 := below_on (fd_grow w (n, 5, u, s) 39) (bytes_below _ 5 p) (by simp)
  have c0 := T0.c0; have c1 := T0.c1; have c2 := T0.c2; have c3 := T0.c3
  go_wp2_with fail
  with_reducible refine (HP.out _ _ _ hin.out (HT0.out _ B0)).mono ?_
  rintro e w1 ⟨x, rfl, hbt, b1⟩
  have T1 := T0.below b1 T0.lt
  have B1 := grown_then B0 b1
  have hcx := Lib.hid (hbt.text (P := Tryd.prog) Tryd.underlying47 Tryd.underlying5 Tryd.underlying9)
  rw [hF] at hcx
  clear hbt b1 c0 c1 c2 c3 T0 B0 hF hin HP hcv
  have c0 := T1.c0; have c1 := T1.c1; have c2 := T1.c2; have c3 := T1.c3
  have hCB := Lib.hid (show (p ++ bA (fB n 5 u s)).extract p.size (p.size + N) = bA (fB n 5 u s) by have := rest_back p (bA (fB n 5 u s)); rwa [ByteArray.size_append, sx] at this)
  generalize bA (fB n 5 u s) = X at *
  have l1 : ¬ 9223372036854775807 < p.size + X.size := by omega
  have szx : (p ++ X).size = p.size + X.size := ByteArray.size_append
  have s1 : IntKind.i64.wrap (((p.size : Int) + (X.size : Int)) - (p.size : Int)) = (N : Int) := by rw [IntWalk.i64_in _ (by omega)]; omega
  have s2 : ((N : Int) != (p.size : Int) + (N : Int) - (p.size : Int)) = false := bne_eq_false_iff_eq.mpr (by omega)
  go_wp2_with fail
  rw [hcx.out]
  go_wp2_with fail
  with_reducible refine (HT.out _).mono ?_
  rintro e w2 ⟨rfl, b2⟩
  have T2 := T1.below b2 T1.lt
  have B2 := grown_then B1 b2
  clear b2 c0 c1 c2 c3 T1 B1
  have c0 := T2.c0; have c1 := T2.c1; have c2 := T2.c2; have c3 := T2.c3
  go_wp2_with fail
  with_reducible refine (HS.out _).mono ?_
  rintro e w3 ⟨rfl, b3⟩
  have T3 := T2.below b3 T2.lt
  have B3 := grown_then B2 b3
  clear b3 c0 c1 c2 c3 T2 B2
  go_wp2_with fail
  rw [hCB.out]
  with_reducible refine (HA.out _ (HT0.out _ B3)).mono ?_
  rintro e w4 ⟨g, k, rfl, hg, hf, b4⟩
  have T4 := T3.below b4 T3.lt
  have B4 := grown_then B3 b4
  clear b4 T3 B3 HT HS HA hcx hCB s1 s2 l1 szx hin hlen sx
  have c0 := T4.c0; have c1 := T4.c1; have c2 := T4.c2; have c3 := T4.c3
  have hT := T4.lt
  go_wp2_with fail
  have HX := Lib.hid (show XB w (w4.alloc (.cells #[.int .i64 n, .int .i64 5, .int .u64 (↑u % 4294967296), .string ⟨#[]⟩] 39)) g w4.heap.size (n, 5, kU 5 u, kS 5 s) from by
    have F := fd_alloc w4 (n, 5, kU 5 u, kS 5 s) 39
    have bb := fd_grow w4 (n, 5, kU 5 u, kS 5 s) 39
    have b5 := grown_then B4 bb
    exact ⟨Nat.lt_of_lt_of_le hg bb.size, hf.below bb hg, F, HT0.out _ b5, b5⟩)
  generalize (w4.alloc (.cells #[.int .i64 n, .int .i64 5, .int .u64 (↑u % 4294967296), .string ⟨#[]⟩] 39)) = w5 at HX ⊢
  generalize kU 5 u = y at HX
  generalize kS 5 s = z at HX
  clear hf B4 T4 hT hg HT0 c0 c1 c2 c3
  generalize w4.heap.size = T at *
  have qE := fun w => rf_eq (n, 5, y, z) w
  have qG := fun (x y : Operand) xs ys w => run_eqGuard_agg w .eql 39 x y xs ys guardRf
  refine wp_region_held_drew (S := CXB w g T n 5 y z) (by kernel_rfl) (HX.out.next (drew_below _ _)).cells (fun hS => ?_)
  refine wpAnyH_take (i := 0) (oi := ⟨some 62, _, _, _, _, _⟩) (v := ?_) rfl (by decide +kernel) (by decide +kernel) (by decide +kernel) (fun _ _ _ h => h) (Or.inl ⟨by rfl, ?_⟩) hS ?_
  rotate_left 1
  · intro wS hSw
    obtain ⟨g0, g1, g2, g3, j0, j1, j2, j3, -⟩ := hSw
    go_simp
    try with_reducible rfl
  try simp only [Act.put, List.setIfInBounds_toArray, List.set_cons_zero, List.set_cons_succ]
  refine wpAnyH_take (i := 1) (oi := ⟨some 63, _, _, _, _, _⟩) (v := ?_) rfl (by decide +kernel) (by decide +kernel) (by decide +kernel) (fun _ _ _ h => h) (Or.inl ⟨by rfl, ?_⟩) hS ?_
  rotate_left 1
  · intro wS hSw
    obtain ⟨g0, g1, g2, g3, j0, j1, j2, j3, -⟩ := hSw
    go_simp
    try with_reducible rfl
  try simp only [Act.put, List.setIfInBounds_toArray, List.set_cons_zero, List.set_cons_succ]
  refine wpAnyH_take (i := 2) (oi := ⟨some 64, _, _, _, _, _⟩) (v := ?_) rfl (by decide +kernel) (by decide +kernel) (by decide +kernel) (fun _ _ _ h => h) (Or.inl ⟨by rfl, ?_⟩) hS ?_
  rotate_left 1
  · intro wS hSw
    obtain ⟨g0, g1, g2, g3, j0, j1, j2, j3, -⟩ := hSw
    go_simp
    try with_reducible rfl
  try simp only [Act.put, List.setIfInBounds_toArray, List.set_cons_zero, List.set_cons_succ]
  refine wpAnyH_take (i := 3) (oi := ⟨some 65, _, _, _, _, _⟩) (v := ?_) rfl (by decide +kernel) (by decide +kernel) (by decide +kernel) (fun _ _ _ h => h) (Or.inl ⟨by rfl, ?_⟩) hS ?_
  rotate_left 1
  · intro wS hSw
    obtain ⟨g0, g1, g2, g3, j0, j1, j2, j3, -⟩ := hSw
    go_simp
    try with_reducible rfl
  try simp only [Act.put, List.setIfInBounds_toArray, List.set_cons_zero, List.set_cons_succ]
  refine wpAnyH_take (i := 4) (oi := ⟨some 66, _, _, _, _, _⟩) (v := ?_) rfl (by decide +kernel) (by decide +kernel) (by decide +kernel) (fun _ _ _ h => h) (Or.inl ⟨by rfl, ?_⟩) hS ?_
  rotate_left 1
  · intro wS hSw
    obtain ⟨g0, g1, g2, g3, j0, j1, j2, j3, -⟩ := hSw
    go_simp
    try with_reducible rfl
  try simp only [Act.put, List.setIfInBounds_toArray, List.set_cons_zero, List.set_cons_succ]
  refine wpAnyH_take (i := 5) (oi := ⟨some 67, _, _, _, _, _⟩) (v := ?_) rfl (by decide +kernel) (by decide +kernel) (by decide +kernel) (fun _ _ _ h => h) (Or.inl ⟨by rfl, ?_⟩) hS ?_
  rotate_left 1
  · intro wS hSw
    obtain ⟨g0, g1, g2, g3, j0, j1, j2, j3, -⟩ := hSw
    go_simp
    try with_reducible rfl
  try simp only [Act.put, List.setIfInBounds_toArray, List.set_cons_zero, List.set_cons_succ]
  refine wpAnyH_take (i := 6) (oi := ⟨some 68, _, _, _, _, _⟩) (v := ?_) rfl (by decide +kernel) (by decide +kernel) (by decide +kernel) (fun _ _ _ h => h) (Or.inl ⟨by rfl, ?_⟩) hS ?_
  rotate_left 1
  · intro wS hSw
    obtain ⟨g0, g1, g2, g3, j0, j1, j2, j3, -⟩ := hSw
    go_simp
    try with_reducible rfl
  try simp only [Act.put, List.setIfInBounds_toArray, List.set_cons_zero, List.set_cons_succ]
  refine wpAnyH_take (i := 7) (oi := ⟨some 69, _, _, _, _, _⟩) (v := ?_) rfl (by decide +kernel) (by decide +kernel) (by decide +kernel) (fun _ _ _ h => h) (Or.inl ⟨by rfl, ?_⟩) hS ?_
  rotate_left 1
  · intro wS hSw
    obtain ⟨g0, g1, g2, g3, j0, j1, j2, j3, -⟩ := hSw
    go_simp
    try with_reducible rfl
  try simp only [Act.put, List.setIfInBounds_toArray, List.set_cons_zero, List.set_cons_succ]
  refine wpAnyH_take (i := 8) (oi := ⟨some 70, _, _, _, _, _⟩) (v := ?_) rfl (by decide +kernel) (by decide +kernel) (by decide +kernel) (fun _ _ _ h => h) (Or.inl ⟨by rfl, ?_⟩) hS ?_
  rotate_left 1
  · intro wS hSw
    obtain ⟨g0, g1, g2, g3, j0, j1, j2, j3, -⟩ := hSw
    go_simp
    try with_reducible rfl
  try simp only [Act.put, List.setIfInBounds_toArray, List.set_cons_zero, List.set_cons_succ]
  refine wpAnyH_take (i := 9) (oi := ⟨some 71, _, _, _, _, _⟩) (v := ?_) rfl (by decide +kernel) (by decide +kernel) (by decide +kernel) (fun _ _ _ h => h) (Or.inl ⟨by rfl, ?_⟩) hS ?_
  rotate_left 1
  · intro wS hSw
    obtain ⟨g0, g1, g2, g3, j0, j1, j2, j3, -⟩ := hSw
    go_simp
    try with_reducible rfl
  try simp only [Act.put, List.setIfInBounds_toArray, List.set_cons_zero, List.set_cons_succ]
  refine wpAnyH_take (i := 10) (oi := ⟨some 72, _, _, _, _, _⟩) (v := ?_) rfl (by decide +kernel) (by decide +kernel) (by decide +kernel) (fun _ _ _ h => h) (Or.inl ⟨by rfl, ?_⟩) hS ?_
  rotate_left 1
  · intro wS hSw
    obtain ⟨g0, g1, g2, g3, j0, j1, j2, j3, -⟩ := hSw
    go_simp
    try with_reducible rfl
  try simp only [Act.put, List.setIfInBounds_toArray, List.set_cons_zero, List.set_cons_succ]
  refine wpAnyH_ready (rs := [11]) (by decide +kernel) (by simp) ?_
  refine AllReadyH.cons (o := ⟨some 73, _, _, _, _, _⟩) rfl (fun K hK => ?_) AllReadyH.nil
  rw [if_pos (by rfl)]
  go_simp
  with_reducible refine (works17_any _ hS.x.tb).mono ?_
  rintro e w6 ⟨rfl, b6⟩
  refine hK.out _ _ ((hS.x.next b6).cells) (fun hS => ?_)
  clear hK K
  try simp only [Act.put, List.setIfInBounds_toArray, List.set_cons_zero, List.set_cons_succ]
  refine wpAnyH_take (i := 12) (oi := ⟨some 74, _, _, _, _, _⟩) (v := ?_) rfl (by decide +kernel) (by decide +kernel) (by decide +kernel) (fun _ _ _ h => h) (Or.inl ⟨by rfl, ?_⟩) hS ?_
  rotate_left 1
  · intro wS hSw
    obtain ⟨g0, g1, g2, g3, j0, j1, j2, j3, -⟩ := hSw
    go_simp
    try with_reducible rfl
  try simp only [Act.put, List.setIfInBounds_toArray, List.set_cons_zero, List.set_cons_succ]
  refine wpAnyH_take (i := 13) (oi := ⟨some 4, _, _, _, _, _⟩) (v := ?_) rfl (by decide +kernel) (by decide +kernel) (by decide +kernel) (fun _ _ _ h => h) (Or.inl ⟨by rfl, ?_⟩) hS ?_
  rotate_left 1
  · intro wS hSw
    obtain ⟨g0, g1, g2, g3, j0, j1, j2, j3, -⟩ := hSw
    go_simp
    try with_reducible rfl
  try simp only [Act.put, List.setIfInBounds_toArray, List.set_cons_zero, List.set_cons_succ]
  refine wpAnyH_done (by kernel_rfl) ?_ _
  have HF := Lib.hid hS.x.b
  clear hS
  go_wp2
  go_ret
  exact ⟨rfl, HF.out⟩
set_option maxRecDepth 100000 in
set_option maxHeartbeats 4000000 in
theorem pfback_o (p : ByteArray) (n : Int) (v : Int) (u : Nat) (s : ByteArray) (w : World) (hp : p.size ≤ 140737488351232) (hs : s.size ≤ 140737488351232) (hu : u < 18446744073709551616) (ht : Tab w) (h : tagB n v = true) (h2 : ¬ v = 2) (h5 : ¬ v = 5) :
    Calls Tryd.prog 4 #[.string p, .agg #[.int .i64 n, .int .i64 v, .int .u64 (u : Nat), .string s]] w fun e w' => e = .returned (.bool true) ∧ Below w.heap.size w w' := by
  have hcv := Lib.hid (fun (w : World) => Lib.run_convert_string_bytes (P := Tryd.prog) w 9 47 5 p Tryd.underlying9 Tryd.underlying47 Tryd.underlying5)
  have HT0 := Lib.hid (show ∀ w', Below w.heap.size w w' → Tab w' from fun w' hb => ht.below hb ht.lt)
  have HP := Lib.hid (fun a cap w hin ht => fput_any a cap p.data.toList n v u s w (by rw [toList_size]; exact hp) hs hu hin ht)
  rw [toList_size] at HP
  have hF := bA_front p (fB n v u s)
  have HT := Lib.hid (fun w => rftext_any n v u s w hu hs)
  have HS := Lib.hid (fun w => fsize_any n v u s w hu hs)
  have HA := Lib.hid (fun w ht => kback_one n v u s w hu hs h ht)
  have hlen := fB_le n v u s hu hs
  have sx := bA_size (fB n v u s)
  generalize (fB n v u s).length = N at *
  have hin := bytes_in (w.alloc (.cells #[.int .i64 n, .int .i64 v, .int .u64 (u : Nat), .string s] 39)) 5 p
  rw [World.size_alloc] at hin
  have hin := Lib.hid hin
  clear ht
  go_enter Tryd.func4, Tryd.ntmps4
  go_wp2_with fail
  rw [hcv.out]
  have T0 := (fd_alloc w (n, v, u, s) 39).below (bytes_below _ 5 p) (by simp)
  have B0 := below_on (fd_grow w (n, v, u, s) 39) (bytes_below _ 5 p) (by simp)
  have c0 := T0.c0; have c1 := T0.c1; have c2 := T0.c2; have c3 := T0.c3
  go_wp2_with fail
  with_reducible refine (HP.out _ _ _ hin.out (HT0.out _ B0)).mono ?_
  rintro e w1 ⟨x, rfl, hbt, b1⟩
  have T1 := T0.below b1 T0.lt
  have B1 := grown_then B0 b1
  have hcx := Lib.hid (hbt.text (P := Tryd.prog) Tryd.underlying47 Tryd.underlying5 Tryd.underlying9)
  rw [hF] at hcx
  clear hbt b1 c0 c1 c2 c3 T0 B0 hF hin HP hcv
  have c0 := T1.c0; have c1 := T1.c1; have c2 := T1.c2; have c3 := T1.c3
  have hCB := Lib.hid (show (p ++ bA (fB n v u s)).extract p.size (p.size + N) = bA (fB n v u s) by have := rest_back p (bA (fB n v u s)); rwa [ByteArray.size_append, sx] at this)
  generalize bA (fB n v u s) = X at *
  have l1 : ¬ 9223372036854775807 < p.size + X.size := by omega
  have szx : (p ++ X).size = p.size + X.size := ByteArray.size_append
  have s1 : IntKind.i64.wrap (((p.size : Int) + (X.size : Int)) - (p.size : Int)) = (N : Int) := by rw [IntWalk.i64_in _ (by omega)]; omega
  have s2 : ((N : Int) != (p.size : Int) + (N : Int) - (p.size : Int)) = false := bne_eq_false_iff_eq.mpr (by omega)
  go_wp2_with fail
  rw [hcx.out]
  go_wp2_with fail
  with_reducible refine (HT.out _).mono ?_
  rintro e w2 ⟨rfl, b2⟩
  have T2 := T1.below b2 T1.lt
  have B2 := grown_then B1 b2
  clear b2 c0 c1 c2 c3 T1 B1
  have c0 := T2.c0; have c1 := T2.c1; have c2 := T2.c2; have c3 := T2.c3
  go_wp2_with fail
  with_reducible refine (HS.out _).mono ?_
  rintro e w3 ⟨rfl, b3⟩
  have T3 := T2.below b3 T2.lt
  have B3 := grown_then B2 b3
  clear b3 c0 c1 c2 c3 T2 B2
  go_wp2_with fail
  rw [hCB.out]
  with_reducible refine (HA.out _ (HT0.out _ B3)).mono ?_
  rintro e w4 ⟨g, k, rfl, hg, hf, b4⟩
  have T4 := T3.below b4 T3.lt
  have B4 := grown_then B3 b4
  clear b4 T3 B3 HT HS HA hcx hCB s1 s2 l1 szx hin hlen sx
  have c0 := T4.c0; have c1 := T4.c1; have c2 := T4.c2; have c3 := T4.c3
  have hT := T4.lt
  have p2 : (v == 2) = false := beq_eq_false_iff_ne.mpr h2
  have p5 : (v == 5) = false := beq_eq_false_iff_ne.mpr h5
  go_wp2_with fail
  have HX := Lib.hid (show XB w (w4.alloc (.cells #[.int .i64 n, .int .i64 v, .int .u64 ↑u, .string ⟨#[]⟩] 39)) g w4.heap.size (n, v, kU v u, kS v s) from by
    have e1 : kU v u = u := by unfold kU; rw [if_neg h2, if_neg h5]
    have e2 : kS v s = ⟨#[]⟩ := by unfold kS; rw [if_neg h2]
    rw [e1, e2] at hf ⊢
    have F := fd_alloc w4 (n, v, u, ⟨#[]⟩) 39
    have bb := fd_grow w4 (n, v, u, ⟨#[]⟩) 39
    have b5 := grown_then B4 bb
    exact ⟨Nat.lt_of_lt_of_le hg bb.size, hf.below bb hg, F, HT0.out _ b5, b5⟩)
  generalize (w4.alloc (.cells #[.int .i64 n, .int .i64 v, .int .u64 ↑u, .string ⟨#[]⟩] 39)) = w5 at HX ⊢
  generalize kU v u = y at HX
  generalize kS v s = z at HX
  clear hf B4 T4 hT hg HT0 c0 c1 c2 c3
  generalize w4.heap.size = T at *
  have qE := fun w => rf_eq (n, v, y, z) w
  have qG := fun (x y : Operand) xs ys w => run_eqGuard_agg w .eql 39 x y xs ys guardRf
  refine wp_region_held_drew (S := CXB w g T n v y z) (by kernel_rfl) (HX.out.next (drew_below _ _)).cells (fun hS => ?_)
  refine wpAnyH_take (i := 0) (oi := ⟨some 62, _, _, _, _, _⟩) (v := ?_) rfl (by decide +kernel) (by decide +kernel) (by decide +kernel) (fun _ _ _ h => h) (Or.inl ⟨by rfl, ?_⟩) hS ?_
  rotate_left 1
  · intro wS hSw
    obtain ⟨g0, g1, g2, g3, j0, j1, j2, j3, -⟩ := hSw
    go_simp
    try with_reducible rfl
  try simp only [Act.put, List.setIfInBounds_toArray, List.set_cons_zero, List.set_cons_succ]
  refine wpAnyH_take (i := 1) (oi := ⟨some 63, _, _, _, _, _⟩) (v := ?_) rfl (by decide +kernel) (by decide +kernel) (by decide +kernel) (fun _ _ _ h => h) (Or.inl ⟨by rfl, ?_⟩) hS ?_
  rotate_left 1
  · intro wS hSw
    obtain ⟨g0, g1, g2, g3, j0, j1, j2, j3, -⟩ := hSw
    go_simp
    try with_reducible rfl
  try simp only [Act.put, List.setIfInBounds_toArray, List.set_cons_zero, List.set_cons_succ]
  refine wpAnyH_take (i := 2) (oi := ⟨some 64, _, _, _, _, _⟩) (v := ?_) rfl (by decide +kernel) (by decide +kernel) (by decide +kernel) (fun _ _ _ h => h) (Or.inl ⟨by rfl, ?_⟩) hS ?_
  rotate_left 1
  · intro wS hSw
    obtain ⟨g0, g1, g2, g3, j0, j1, j2, j3, -⟩ := hSw
    go_simp
    try with_reducible rfl
  try simp only [Act.put, List.setIfInBounds_toArray, List.set_cons_zero, List.set_cons_succ]
  refine wpAnyH_take (i := 3) (oi := ⟨some 65, _, _, _, _, _⟩) (v := ?_) rfl (by decide +kernel) (by decide +kernel) (by decide +kernel) (fun _ _ _ h => h) (Or.inl ⟨by rfl, ?_⟩) hS ?_
  rotate_left 1
  · intro wS hSw
    obtain ⟨g0, g1, g2, g3, j0, j1, j2, j3, -⟩ := hSw
    go_simp
    try with_reducible rfl
  try simp only [Act.put, List.setIfInBounds_toArray, List.set_cons_zero, List.set_cons_succ]
  refine wpAnyH_take (i := 4) (oi := ⟨some 66, _, _, _, _, _⟩) (v := ?_) rfl (by decide +kernel) (by decide +kernel) (by decide +kernel) (fun _ _ _ h => h) (Or.inl ⟨by rfl, ?_⟩) hS ?_
  rotate_left 1
  · intro wS hSw
    obtain ⟨g0, g1, g2, g3, j0, j1, j2, j3, -⟩ := hSw
    go_simp
    try with_reducible rfl
  try simp only [Act.put, List.setIfInBounds_toArray, List.set_cons_zero, List.set_cons_succ]
  refine wpAnyH_take (i := 5) (oi := ⟨some 67, _, _, _, _, _⟩) (v := ?_) rfl (by decide +kernel) (by decide +kernel) (by decide +kernel) (fun _ _ _ h => h) (Or.inl ⟨by rfl, ?_⟩) hS ?_
  rotate_left 1
  · intro wS hSw
    obtain ⟨g0, g1, g2, g3, j0, j1, j2, j3, -⟩ := hSw
    go_simp
    try with_reducible rfl
  try simp only [Act.put, List.setIfInBounds_toArray, List.set_cons_zero, List.set_cons_succ]
  refine wpAnyH_take (i := 6) (oi := ⟨some 68, _, _, _, _, _⟩) (v := ?_) rfl (by decide +kernel) (by decide +kernel) (by decide +kernel) (fun _ _ _ h => h) (Or.inl ⟨by rfl, ?_⟩) hS ?_
  rotate_left 1
  · intro wS hSw
    obtain ⟨g0, g1, g2, g3, j0, j1, j2, j3, -⟩ := hSw
    go_simp
    try with_reducible rfl
  try simp only [Act.put, List.setIfInBounds_toArray, List.set_cons_zero, List.set_cons_succ]
  refine wpAnyH_take (i := 7) (oi := ⟨some 69, _, _, _, _, _⟩) (v := ?_) rfl (by decide +kernel) (by decide +kernel) (by decide +kernel) (fun _ _ _ h => h) (Or.inl ⟨by rfl, ?_⟩) hS ?_
  rotate_left 1
  · intro wS hSw
    obtain ⟨g0, g1, g2, g3, j0, j1, j2, j3, -⟩ := hSw
    go_simp
    try with_reducible rfl
  try simp only [Act.put, List.setIfInBounds_toArray, List.set_cons_zero, List.set_cons_succ]
  refine wpAnyH_take (i := 8) (oi := ⟨some 70, _, _, _, _, _⟩) (v := ?_) rfl (by decide +kernel) (by decide +kernel) (by decide +kernel) (fun _ _ _ h => h) (Or.inl ⟨by rfl, ?_⟩) hS ?_
  rotate_left 1
  · intro wS hSw
    obtain ⟨g0, g1, g2, g3, j0, j1, j2, j3, -⟩ := hSw
    go_simp
    try with_reducible rfl
  try simp only [Act.put, List.setIfInBounds_toArray, List.set_cons_zero, List.set_cons_succ]
  refine wpAnyH_take (i := 9) (oi := ⟨some 71, _, _, _, _, _⟩) (v := ?_) rfl (by decide +kernel) (by decide +kernel) (by decide +kernel) (fun _ _ _ h => h) (Or.inl ⟨by rfl, ?_⟩) hS ?_
  rotate_left 1
  · intro wS hSw
    obtain ⟨g0, g1, g2, g3, j0, j1, j2, j3, -⟩ := hSw
    go_simp
    try with_reducible rfl
  try simp only [Act.put, List.setIfInBounds_toArray, List.set_cons_zero, List.set_cons_succ]
  refine wpAnyH_take (i := 10) (oi := ⟨some 72, _, _, _, _, _⟩) (v := ?_) rfl (by decide +kernel) (by decide +kernel) (by decide +kernel) (fun _ _ _ h => h) (Or.inl ⟨by rfl, ?_⟩) hS ?_
  rotate_left 1
  · intro wS hSw
    obtain ⟨g0, g1, g2, g3, j0, j1, j2, j3, -⟩ := hSw
    go_simp
    try with_reducible rfl
  try simp only [Act.put, List.setIfInBounds_toArray, List.set_cons_zero, List.set_cons_succ]
  refine wpAnyH_ready (rs := [11]) (by decide +kernel) (by simp) ?_
  refine AllReadyH.cons (o := ⟨some 73, _, _, _, _, _⟩) rfl (fun K hK => ?_) AllReadyH.nil
  rw [if_pos (by rfl)]
  go_simp
  with_reducible refine (works17_any _ hS.x.tb).mono ?_
  rintro e w6 ⟨rfl, b6⟩
  refine hK.out _ _ ((hS.x.next b6).cells) (fun hS => ?_)
  clear hK K
  try simp only [Act.put, List.setIfInBounds_toArray, List.set_cons_zero, List.set_cons_succ]
  refine wpAnyH_take (i := 12) (oi := ⟨some 74, _, _, _, _, _⟩) (v := ?_) rfl (by decide +kernel) (by decide +kernel) (by decide +kernel) (fun _ _ _ h => h) (Or.inl ⟨by rfl, ?_⟩) hS ?_
  rotate_left 1
  · intro wS hSw
    obtain ⟨g0, g1, g2, g3, j0, j1, j2, j3, -⟩ := hSw
    go_simp
    try with_reducible rfl
  try simp only [Act.put, List.setIfInBounds_toArray, List.set_cons_zero, List.set_cons_succ]
  refine wpAnyH_take (i := 13) (oi := ⟨some 4, _, _, _, _, _⟩) (v := ?_) rfl (by decide +kernel) (by decide +kernel) (by decide +kernel) (fun _ _ _ h => h) (Or.inl ⟨by rfl, ?_⟩) hS ?_
  rotate_left 1
  · intro wS hSw
    obtain ⟨g0, g1, g2, g3, j0, j1, j2, j3, -⟩ := hSw
    go_simp
    try with_reducible rfl
  try simp only [Act.put, List.setIfInBounds_toArray, List.set_cons_zero, List.set_cons_succ]
  refine wpAnyH_done (by kernel_rfl) ?_ _
  have HF := Lib.hid hS.x.b
  clear hS
  go_wp2
  go_ret
  exact ⟨rfl, HF.out⟩
theorem pfback_law (p : ByteArray) (n v : Int) (u : Nat) (s : ByteArray) (w : World) (hp : p.size ≤ 140737488351232) (hs : s.size ≤ 140737488351232) (hu : u < 18446744073709551616) (ht : Tab w) :
    Calls Tryd.prog 4 #[.string p, .agg #[.int .i64 n, .int .i64 v, .int .u64 (u : Nat), .string s]] w fun e w' => e = .returned (.bool true) ∧ Below w.heap.size w w' := by
  rcases Bool.eq_false_or_eq_true (tagB n v) with h | h
  · by_cases h2 : v = 2
    · subst h2; exact pfback_2 p n u s w hp hs hu ht h
    · by_cases h5 : v = 5
      · subst h5; exact pfback_5 p n u s w hp hs hu ht h
      · exact pfback_o p n v u s w hp hs hu ht h h2 h5
  · exact pfback_no p n v u s w hp hs hu ht h
end Go.Proofs.YtlfelhhghomglaaDoor
