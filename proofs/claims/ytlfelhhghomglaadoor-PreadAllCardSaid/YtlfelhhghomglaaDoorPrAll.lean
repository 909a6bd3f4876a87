/- PreadAll, walked. -/
import Derived.Test.YtlfelhhghomglaaDoorPrWork
import Derived.Test.YtlfelhhghomglaaDoorPrT
import Derived.Test.YtlfelhhghomglaaDoorPrSm
import Derived.Deep.RegionHeld3
namespace Go.Proofs.YtlfelhhghomglaaDoor
open Go Go.RowKit
set_option linter.unusedVariables false

theorem fall_long (s : ByteArray) (w : World) (h : 300 < s.size) (ht : Tab w) :
    Calls Tryd.prog 3 #[.string s] w fun e w' => e = .returned (.bool true) ∧ Below w.heap.size w w' := by
  have p1 : decide (300 < (s.size : Int)) = true := decide_eq_true (by omega)
  have HT := Lib.hid ht
  clear ht
  go_enter Tryd.func3, Tryd.ntmps3
  go_wp2_with ((with_reducible refine (works17_any _ HT.out).mono ?_); rintro e w2 ⟨rfl, hbel2⟩)
  go_ret
  exact ⟨rfl, hbel2⟩
theorem fall_call (s : ByteArray) (w : World) (hs : s.size ≤ 1099511627776) (ht : Tab w) :
    Calls Tryd.prog 7 #[.string s] w fun e w' => ∃ a k, e = .returned (.tuple #[.slice a (fAll s.data.toList).1.length k, .int .i64 (fAll s.data.toList).2]) ∧ FIn w' a (fAll s.data.toList).1 ∧ Below w.heap.size w w' := by
  refine (all_any s w (by omega) (.inl (by rw [toList_size]; exact hs)) ht).mono ?_
  rintro e w' ⟨v, he, hrow, hb⟩
  obtain ⟨d, k, hv, hi⟩ := hrow.inn
  rw [hv] at he
  exact ⟨d, k, he, hi, hb⟩
theorem fall_ref (s : ByteArray) (w : World) (hs : s.size ≤ 1099511627776) :
    Calls Tryd.prog 8 #[.string s] w fun e w' => ∃ a k, e = .returned (.tuple #[.slice a (fAll s.data.toList).1.length k, .int .i64 (fAll s.data.toList).2]) ∧ FIn w' a (fAll s.data.toList).1 ∧ Below w.heap.size w w' := by
  refine (rfall_any s w hs).mono ?_
  rintro e w' ⟨v, he, hrow, hb⟩
  obtain ⟨d, k, hv, hi⟩ := hrow.inn
  rw [hv] at he
  exact ⟨d, k, he, hi, hb⟩
theorem few_len {s : ByteArray} (hs : s.size ≤ 1099511627776) : (fAll s.data.toList).1.length ≤ 1099511627776 := by
  have := fAll_len s.data.toList
  rw [toList_size] at this; omega
/-- What stands behind the calls ahead of the comparison. -/
structure XA (W wx : World) (b T8 T9 T10 : Nat) (r : CS) (F : FD) (c : CS) (a1 a2 : Option Addr) (L : List FD) : Prop where
  cu : CurT 57 wx b c
  st : CurT 33 wx T8 r
  f9 : PfT 37 wx T9 F
  f10 : PfT 39 wx T10 F
  i1 : FIn wx a1 L
  i2 : FIn wx a2 L
  tb : Tab wx
  b : Below W.heap.size W wx
theorem XA.next {W wx w' : World} {b T8 T9 T10 : Nat} {r : CS} {F : FD} {c : CS} {a1 a2 : Option Addr} {L : List FD} (h : XA W wx b T8 T9 T10 r F c a1 a2 L) (hb : Below wx.heap.size wx w') : XA W w' b T8 T9 T10 r F c a1 a2 L :=
  ⟨Below.cur hb h.cu h.cu.lt, Below.cur hb h.st h.st.lt, h.f9.below hb h.f9.lt, h.f10.below hb h.f10.lt, h.i1.below hb (Nat.le_refl _), h.i2.below hb (Nat.le_refl _), h.tb.below hb h.tb.lt, grown_then h.b hb⟩
@[reducible] def CXA (W : World) (b T8 T9 T10 : Nat) (r : CS) (x0 x1 : Int) (x2 : Nat) (x3 : ByteArray) (c : CS) (a1 a2 : Option Addr) (L : List FD) (w : World) : Prop :=
  w.cell? ⟨T9, 0, none⟩ = some (.int .i64 x0) ∧ w.cell? ⟨T9, 1, none⟩ = some (.int .i64 x1) ∧ w.cell? ⟨T9, 2, none⟩ = some (.int .u64 (x2 : Nat)) ∧ w.cell? ⟨T9, 3, none⟩ = some (.string x3) ∧
  w.cell? ⟨T10, 0, none⟩ = some (.int .i64 x0) ∧ w.cell? ⟨T10, 1, none⟩ = some (.int .i64 x1) ∧ w.cell? ⟨T10, 2, none⟩ = some (.int .u64 (x2 : Nat)) ∧ w.cell? ⟨T10, 3, none⟩ = some (.string x3) ∧
  w.cell? ⟨T8, 1, none⟩ = some (.int .i64 r.at_) ∧ w.cell? ⟨T8, 3, none⟩ = some (.int .i64 r.er) ∧ XA W w b T8 T9 T10 r (x0, x1, x2, x3) c a1 a2 L
theorem XA.cells {W w : World} {b T8 T9 T10 : Nat} {r : CS} {x0 x1 : Int} {x2 : Nat} {x3 : ByteArray} {c : CS} {a1 a2 : Option Addr} {L : List FD} (h : XA W w b T8 T9 T10 r (x0, x1, x2, x3) c a1 a2 L) : CXA W b T8 T9 T10 r x0 x1 x2 x3 c a1 a2 L w :=
  ⟨h.f9.c0, h.f9.c1, h.f9.c2, h.f9.c3, h.f10.c0, h.f10.c1, h.f10.c2, h.f10.c3, h.st.c1, h.st.c3, h⟩
theorem CXA.x {W w : World} {b T8 T9 T10 : Nat} {r : CS} {x0 x1 : Int} {x2 : Nat} {x3 : ByteArray} {c : CS} {a1 a2 : Option Addr} {L : List FD} (h : CXA W b T8 T9 T10 r x0 x1 x2 x3 c a1 a2 L w) : XA W w b T8 T9 T10 r (x0, x1, x2, x3) c a1 a2 L :=
  h.2.2.2.2.2.2.2.2.2.2
theorem fsame_eq (x : FD) (w : World) : (binOp .eql 39 (.agg #[.int .i64 x.1, .int .i64 x.2.1, .int .u64 (x.2.2.1 : Nat), .string x.2.2.2]) (.agg #[.int .i64 x.1, .int .i64 x.2.1, .int .u64 (x.2.2.1 : Nat), .string x.2.2.2])).run Tryd.prog w = .ok (.bool true) w := by
  have := eqlRf x x w
  rw [decide_eq_true rfl] at this; exact this
set_option maxRecDepth 100000 in
set_option maxHeartbeats 4000000 in
theorem fall_short (s : ByteArray) (w : World) (h : s.size ≤ 300) (ht : Tab w) :
    Calls Tryd.prog 3 #[.string s] w fun e w' => e = .returned (.bool true) ∧ Below w.heap.size w w' := by
  have p1 : decide (300 < (s.size : Int)) = false := decide_eq_false (by omega)
  have HT := Lib.hid (show ∀ w', Below w.heap.size w w' → Tab w' from fun w' hb => ht.below hb ht.lt)
  have hgl := ht.lt
  have HA := Lib.hid (fall_call s w (by omega) ht)
  have HB := Lib.hid (fun w => fall_ref s w (by omega))
  have hok : (CS.new s).ok := CS.new_ok (by omega)
  have HN := Lib.hid (fun b w h ht hg => fnext_any (b := b) (w := w) (c := CS.new s) h hok ht hg)
  have HRN := Lib.hid (fun w => rfnext_any (CS.new s) w hok (show s.size ≤ _ by omega))
  have HL := few_len (s := s) (by omega)
  unfold NxR at HRN
  generalize (fAll s.data.toList).1 = L at *
  generalize (fAll s.data.toList).2 = C at *
  generalize (CS.new s).fTo = D at *
  generalize (CS.new s).fVal = F at *
  obtain ⟨x0, x1, x2, x3⟩ := F
  unfold pfV at HN HRN
  dsimp only at HN HRN
  clear ht hok
  go_enter Tryd.func3, Tryd.ntmps3
  go_wp2_with fail
  refine HA.out.mono ?_
  rintro e w1 ⟨A1, k1, rfl, i1, b1⟩
  go_wp2_with fail
  refine (HB.out _).mono ?_
  rintro e w2 ⟨A2, k2, rfl, i2, b2⟩
  have I1 := Lib.hid (i1.below b2 (Nat.le_refl _))
  have I2 := Lib.hid i2
  have B2 := Lib.hid (grown_then b1 b2)
  clear i1 i2 b1 b2 HA HB
  go_wp2_with fail
  with_reducible refine (new_cur s _ (by omega)).mono ?_
  rintro e w3 ⟨b, rfl, hb3, q3, b3⟩
  have hbw : w.heap.size ≤ b := Nat.le_trans B2.out.size hb3
  have hs2 := B2.out.size
  go_wp2_with fail
  with_reducible refine (ref_new s _ (by omega)).mono ?_
  rintro e w4 ⟨rfl, b4⟩
  have q4 := Below.cur b4 q3 q3.lt
  have B4 := grown_then b3 b4
  clear b3 b4 q3
  have r5 := cur_alloc (w := w4) (c := CS.new s) 33
  have q5 := q4.allocOld (.cells #[.string s, .int .i64 0, .int .i64 s.size, .int .i64 0] 33)
  have B5 := B4.alloc B4.size (.cells #[.string s, .int .i64 0, .int .i64 s.size, .int .i64 0] 33)
  have hbT : b < w4.heap.size := q4.lt
  clear q4
  go_wp2_with fail
  with_reducible refine (HN.out b _ q5 (HT.out _ (grown_then B2.out B5)) (by omega)).mono ?_
  rintro e w6 ⟨rfl, q6, o6⟩
  have r6 := o6.cur r5 (by omega)
  have B6 := B5.trans (o6.below hb3 B5.size)
  have f7 := fd_alloc w6 (x0, x1, x2, x3) 37
  have q7 := q6.allocOld (.cells #[.int .i64 x0, .int .i64 x1, .int .u64 (x2 : Nat), .string x3] 37)
  have r7 := r6.allocOld (.cells #[.int .i64 x0, .int .i64 x1, .int .u64 (x2 : Nat), .string x3] 37)
  have B7 := B6.alloc B6.size (.cells #[.int .i64 x0, .int .i64 x1, .int .u64 (x2 : Nat), .string x3] 37)
  have l6 := r6.lt
  clear q5 r5 B5 q6 r6 o6 B6
  have a0 := r7.c0; have a1 := r7.c1; have a2 := r7.c2; have a3 := r7.c3
  dsimp only [CS.new] at a0 a1 a2 a3
  go_wp2_with fail
  refine (HRN.out _).mono ?_
  rintro e w8 ⟨d, rfl, hal, hds, b8⟩
  have q8 := Below.cur b8 q7 q7.lt
  have r8 := Below.cur b8 r7 r7.lt
  have f8 := f7.below b8 f7.lt
  have B8 := B7.trans (b8.mono B7.size)
  have lT9 := f7.lt
  have l8 := b8.size
  clear q7 r7 f7 B7 b8 a0 a1 a2 a3 HN HRN
  have hw28 : w2.heap.size ≤ w4.heap.size := B4.size
  have hT8 : w4.heap.size < w8.heap.size := r8.lt
  have hT9 : w6.heap.size < w8.heap.size := f8.lt
  have hbw8 : b < w8.heap.size := q8.lt
  have h89 : w4.heap.size ≠ w6.heap.size := by have := l6; omega
  clear lT9 l8
  generalize w4.heap.size = T8 at *
  generalize w6.heap.size = T9 at *
  have a0 := r8.c0; have a1 := r8.c1; have a2 := r8.c2; have a3 := r8.c3; have af := r8.fr
  dsimp only [CS.new] at a0 a1 a2 a3
  unfold CS.val
  go_upto_region 8 with fail
  obtain ⟨w9, hw9⟩ : ∃ w9, w9 = (((((w8.setCell ⟨T8, 0, none⟩ (.string d.s)).setCell ⟨T8, 1, none⟩ (.int .i64 d.at_)).setCell ⟨T8, 2, none⟩ (.int .i64 d.en)).setCell ⟨T8, 3, none⟩ (.int .i64 d.er)).alloc (.cells #[.int .i64 x0, .int .i64 x1, .int .u64 (x2 : Nat), .string x3] 39)) := ⟨_, rfl⟩
  have hz : ((((w8.setCell ⟨T8, 0, none⟩ (.string d.s)).setCell ⟨T8, 1, none⟩ (.int .i64 d.at_)).setCell ⟨T8, 2, none⟩ (.int .i64 d.en)).setCell ⟨T8, 3, none⟩ (.int .i64 d.er)).heap.size = w8.heap.size := by simp [World.setCell]
  have HX := Lib.hid (show XA w w9 b T8 T9 w8.heap.size d (x0, x1, x2, x3) D A1 A2 L from by
    have o9 := Only.setAll w8 T8 d
    have x9 := (r8.setAll d).allocOld (.cells #[.int .i64 x0, .int .i64 x1, .int .u64 (x2 : Nat), .string x3] 39)
    have c9 := (o9.cur q8 (by omega)).allocOld (.cells #[.int .i64 x0, .int .i64 x1, .int .u64 (x2 : Nat), .string x3] 39)
    have f9 := (f8.only o9 (by omega)).alloc (.cells #[.int .i64 x0, .int .i64 x1, .int .u64 (x2 : Nat), .string x3] 39)
    have y9 := fd_alloc ((((w8.setCell ⟨T8, 0, none⟩ (.string d.s)).setCell ⟨T8, 1, none⟩ (.int .i64 d.at_)).setCell ⟨T8, 2, none⟩ (.int .i64 d.en)).setCell ⟨T8, 3, none⟩ (.int .i64 d.er)) (x0, x1, x2, x3) 39
    rw [hz] at y9
    have b0 := o9.below (N := w2.heap.size) hw28 B8.size
    have b9 := (B8.trans b0).alloc (by rw [hz]; exact B8.size) (.cells #[.int .i64 x0, .int .i64 x1, .int .u64 (x2 : Nat), .string x3] 39)
    rw [← hw9] at x9 c9 f9 y9 b9
    have bb := grown_then B2.out b9
    exact ⟨c9, x9, f9, y9, I1.out.below b9 (Nat.le_refl _), I2.out.below b9 (Nat.le_refl _), HT.out _ bb, bb⟩)
  rw [← hds]
  rw [← hw9]
  clear hz hw9 r8 q8 f8 B8 a0 a1 a2 a3 af I1 I2 HT B2 hT8 hT9 hbw8 h89 hb3 hbw hs2 hbT hw28 hgl l6 B4
  generalize w8.heap.size = T10 at *
  have her : D.er = d.er := hal.2.2.1
  have hok : D.ok := hal.1
  have qE := fun w => fsame_eq (x0, x1, x2, x3) w
  have qG := fun (x y : Operand) xs ys w => run_eqGuard_agg w .eql 39 x y xs ys guardRf
  by_cases h0 : d.er = 0
  · have hdx : D.at_ = d.at_ := by rw [hal.2.2.2.1 (her.trans h0)]
    have p2 : (d.er != 0) = false := by rw [h0]; rfl
    clear hal h0
    refine wp_region_held_drew (S := CXA w b T8 T9 T10 d x0 x1 x2 x3 D A1 A2 L) (by kernel_rfl) (XA.cells (HX.out.next (drew_below _ _))) (fun hS => ?_)
    refine wpAnyH_take (i := 0) (oi := ⟨some 36, _, _, _, _, _⟩) (v := ?_) rfl (by decide +kernel) (by decide +kernel) (by decide +kernel) (fun _ _ _ h => h) (Or.inl ⟨by rfl, ?_⟩) hS ?_
    rotate_left 1
    · intro wS hSw
      obtain ⟨g0, g1, g2, g3, j0, j1, j2, j3, t1, t3, -⟩ := hSw
      go_simp
      try with_reducible rfl
    try simp only [Act.put, List.setIfInBounds_toArray, List.set_cons_zero, List.set_cons_succ]
    refine wpAnyH_take (i := 2) (oi := ⟨some 38, _, _, _, _, _⟩) (v := ?_) rfl (by decide +kernel) (by decide +kernel) (by decide +kernel) (fun _ _ _ h => h) (Or.inl ⟨by rfl, ?_⟩) hS ?_
    rotate_left 1
    · intro wS hSw
      obtain ⟨g0, g1, g2, g3, j0, j1, j2, j3, t1, t3, -⟩ := hSw
      go_simp
      try with_reducible rfl
    try simp only [Act.put, List.setIfInBounds_toArray, List.set_cons_zero, List.set_cons_succ]
    refine wpAnyH_ready (rs := [1]) (by decide +kernel) (by simp) ?_
    refine AllReadyH.cons (o := ⟨some 37, _, _, _, _, _⟩) rfl (fun K hK => ?_) AllReadyH.nil
    rw [if_pos (by rfl)]
    go_simp
    with_reducible refine (fback A1 k1 L HL hS.x.i1).mono ?_
    rintro e w10 ⟨dd, kk, rfl, i3, b10⟩
    refine hK.out _ _ ((hS.x.next b10).cells) (fun hS => ?_)
    clear hK K
    try simp only [Act.put, List.setIfInBounds_toArray, List.set_cons_zero, List.set_cons_succ]
    refine wpAnyH_ready (rs := [3]) (by decide +kernel) (by simp) ?_
    refine AllReadyH.cons (o := ⟨some 39, _, _, _, _, _⟩) rfl (fun K hK => ?_) AllReadyH.nil
    rw [if_pos (by rfl)]
    go_simp
    with_reducible refine (fsame dd A2 kk k2 L _ HL i3 hS.x.i2).mono ?_
    rintro e w11 ⟨rfl, b11⟩
    refine hK.out _ _ ((hS.x.next b11).cells) (fun hS => ?_)
    clear hK K
    try simp only [Act.put, List.setIfInBounds_toArray, List.set_cons_zero, List.set_cons_succ]
    refine wpAnyH_take (i := 4) (oi := ⟨some 40, _, _, _, _, _⟩) (v := ?_) rfl (by decide +kernel) (by decide +kernel) (by decide +kernel) (fun _ _ _ h => h) (Or.inl ⟨by rfl, ?_⟩) hS ?_
    rotate_left 1
    · intro wS hSw
      obtain ⟨g0, g1, g2, g3, j0, j1, j2, j3, t1, t3, -⟩ := hSw
      go_simp
      try with_reducible rfl
    try simp only [Act.put, List.setIfInBounds_toArray, List.set_cons_zero, List.set_cons_succ]
    refine wpAnyH_take (i := 5) (oi := ⟨some 41, _, _, _, _, _⟩) (v := ?_) rfl (by decide +kernel) (by decide +kernel) (by decide +kernel) (fun _ _ _ h => h) (Or.inl ⟨by rfl, ?_⟩) hS ?_
    rotate_left 1
    · intro wS hSw
      obtain ⟨g0, g1, g2, g3, j0, j1, j2, j3, t1, t3, -⟩ := hSw
      go_simp
      try with_reducible rfl
    try simp only [Act.put, List.setIfInBounds_toArray, List.set_cons_zero, List.set_cons_succ]
    refine wpAnyH_take (i := 6) (oi := ⟨some 42, _, _, _, _, _⟩) (v := ?_) rfl (by decide +kernel) (by decide +kernel) (by decide +kernel) (fun _ _ _ h => h) (Or.inl ⟨by rfl, ?_⟩) hS ?_
    rotate_left 1
    · intro wS hSw
      obtain ⟨g0, g1, g2, g3, j0, j1, j2, j3, t1, t3, -⟩ := hSw
      go_simp
      try with_reducible rfl
    try simp only [Act.put, List.setIfInBounds_toArray, List.set_cons_zero, List.set_cons_succ]
    refine wpAnyH_take (i := 7) (oi := ⟨some 43, _, _, _, _, _⟩) (v := ?_) rfl (by decide +kernel) (by decide +kernel) (by decide +kernel) (fun _ _ _ h => h) (Or.inl ⟨by rfl, ?_⟩) hS ?_
    rotate_left 1
    · intro wS hSw
      obtain ⟨g0, g1, g2, g3, j0, j1, j2, j3, t1, t3, -⟩ := hSw
      go_simp
      try with_reducible rfl
    try simp only [Act.put, List.setIfInBounds_toArray, List.set_cons_zero, List.set_cons_succ]
    refine wpAnyH_take (i := 8) (oi := ⟨some 44, _, _, _, _, _⟩) (v := ?_) rfl (by decide +kernel) (by decide +kernel) (by decide +kernel) (fun _ _ _ h => h) (Or.inl ⟨by rfl, ?_⟩) hS ?_
    rotate_left 1
    · intro wS hSw
      obtain ⟨g0, g1, g2, g3, j0, j1, j2, j3, t1, t3, -⟩ := hSw
      go_simp
      try with_reducible rfl
    try simp only [Act.put, List.setIfInBounds_toArray, List.set_cons_zero, List.set_cons_succ]
    refine wpAnyH_take (i := 9) (oi := ⟨some 45, _, _, _, _, _⟩) (v := ?_) rfl (by decide +kernel) (by decide +kernel) (by decide +kernel) (fun _ _ _ h => h) (Or.inl ⟨by rfl, ?_⟩) hS ?_
    rotate_left 1
    · intro wS hSw
      obtain ⟨g0, g1, g2, g3, j0, j1, j2, j3, t1, t3, -⟩ := hSw
      go_simp
      try with_reducible rfl
    try simp only [Act.put, List.setIfInBounds_toArray, List.set_cons_zero, List.set_cons_succ]
    refine wpAnyH_take (i := 10) (oi := ⟨some 46, _, _, _, _, _⟩) (v := ?_) rfl (by decide +kernel) (by decide +kernel) (by decide +kernel) (fun _ _ _ h => h) (Or.inl ⟨by rfl, ?_⟩) hS ?_
    rotate_left 1
    · intro wS hSw
      obtain ⟨g0, g1, g2, g3, j0, j1, j2, j3, t1, t3, -⟩ := hSw
      go_simp
      try with_reducible rfl
    try simp only [Act.put, List.setIfInBounds_toArray, List.set_cons_zero, List.set_cons_succ]
    refine wpAnyH_take (i := 11) (oi := ⟨some 47, _, _, _, _, _⟩) (v := ?_) rfl (by decide +kernel) (by decide +kernel) (by decide +kernel) (fun _ _ _ h => h) (Or.inl ⟨by rfl, ?_⟩) hS ?_
    rotate_left 1
    · intro wS hSw
      obtain ⟨g0, g1, g2, g3, j0, j1, j2, j3, t1, t3, -⟩ := hSw
      go_simp
      try with_reducible rfl
    try simp only [Act.put, List.setIfInBounds_toArray, List.set_cons_zero, List.set_cons_succ]
    refine wpAnyH_take (i := 12) (oi := ⟨some 48, _, _, _, _, _⟩) (v := ?_) rfl (by decide +kernel) (by decide +kernel) (by decide +kernel) (fun _ _ _ h => h) (Or.inl ⟨by rfl, ?_⟩) hS ?_
    rotate_left 1
    · intro wS hSw
      obtain ⟨g0, g1, g2, g3, j0, j1, j2, j3, t1, t3, -⟩ := hSw
      go_simp
      try with_reducible rfl
    try simp only [Act.put, List.setIfInBounds_toArray, List.set_cons_zero, List.set_cons_succ]
    refine wpAnyH_take (i := 13) (oi := ⟨some 49, _, _, _, _, _⟩) (v := ?_) rfl (by decide +kernel) (by decide +kernel) (by decide +kernel) (fun _ _ _ h => h) (Or.inl ⟨by rfl, ?_⟩) hS ?_
    rotate_left 1
    · intro wS hSw
      obtain ⟨g0, g1, g2, g3, j0, j1, j2, j3, t1, t3, -⟩ := hSw
      go_simp
      try with_reducible rfl
    try simp only [Act.put, List.setIfInBounds_toArray, List.set_cons_zero, List.set_cons_succ]
    refine wpAnyH_take (i := 14) (oi := ⟨some 50, _, _, _, _, _⟩) (v := ?_) rfl (by decide +kernel) (by decide +kernel) (by decide +kernel) (fun _ _ _ h => h) (Or.inl ⟨by rfl, ?_⟩) hS ?_
    rotate_left 1
    · intro wS hSw
      obtain ⟨g0, g1, g2, g3, j0, j1, j2, j3, t1, t3, -⟩ := hSw
      go_simp
      try with_reducible rfl
    try simp only [Act.put, List.setIfInBounds_toArray, List.set_cons_zero, List.set_cons_succ]
    refine wpAnyH_take (i := 15) (oi := ⟨some 51, _, _, _, _, _⟩) (v := ?_) rfl (by decide +kernel) (by decide +kernel) (by decide +kernel) (fun _ _ _ h => h) (Or.inl ⟨by rfl, ?_⟩) hS ?_
    rotate_left 1
    · intro wS hSw
      obtain ⟨g0, g1, g2, g3, j0, j1, j2, j3, t1, t3, -⟩ := hSw
      go_simp
      try with_reducible rfl
    try simp only [Act.put, List.setIfInBounds_toArray, List.set_cons_zero, List.set_cons_succ]
    refine wpAnyH_take (i := 17) (oi := ⟨some 53, _, _, _, _, _⟩) (v := ?_) rfl (by decide +kernel) (by decide +kernel) (by decide +kernel) (fun _ _ _ h => h) (Or.inl ⟨by rfl, ?_⟩) hS ?_
    rotate_left 1
    · intro wS hSw
      obtain ⟨g0, g1, g2, g3, j0, j1, j2, j3, t1, t3, -⟩ := hSw
      go_simp
      try with_reducible rfl
    try simp only [Act.put, List.setIfInBounds_toArray, List.set_cons_zero, List.set_cons_succ]
    refine wpAnyH_take (i := 18) (oi := ⟨some 54, _, _, _, _, _⟩) (v := ?_) rfl (by decide +kernel) (by decide +kernel) (by decide +kernel) (fun _ _ _ h => h) (Or.inl ⟨by rfl, ?_⟩) hS ?_
    rotate_left 1
    · intro wS hSw
      obtain ⟨g0, g1, g2, g3, j0, j1, j2, j3, t1, t3, -⟩ := hSw
      go_simp
      try with_reducible rfl
    try simp only [Act.put, List.setIfInBounds_toArray, List.set_cons_zero, List.set_cons_succ]
    refine wpAnyH_ready (rs := [16]) (by decide +kernel) (by simp) ?_
    refine AllReadyH.cons (o := ⟨some 52, _, _, _, _, _⟩) rfl (fun K hK => ?_) AllReadyH.nil
    rw [if_pos (by rfl)]
    go_simp
    with_reducible refine (err_any hS.x.cu).mono ?_
    rintro e w12 ⟨rfl, hw12⟩; rw [hw12, her]; clear hw12
    refine hK.out _ _ (hS) (fun hS => ?_)
    clear hK K
    try simp only [Act.put, List.setIfInBounds_toArray, List.set_cons_zero, List.set_cons_succ]
    refine wpAnyH_take (i := 19) (oi := ⟨some 55, _, _, _, _, _⟩) (v := ?_) rfl (by decide +kernel) (by decide +kernel) (by decide +kernel) (fun _ _ _ h => h) (Or.inl ⟨by rfl, ?_⟩) hS ?_
    rotate_left 1
    · intro wS hSw
      obtain ⟨g0, g1, g2, g3, j0, j1, j2, j3, t1, t3, -⟩ := hSw
      go_simp
      try with_reducible rfl
    try simp only [Act.put, List.setIfInBounds_toArray, List.set_cons_zero, List.set_cons_succ]
    refine wpAnyH_take (i := 20) (oi := ⟨some 56, _, _, _, _, _⟩) (v := ?_) rfl (by decide +kernel) (by decide +kernel) (by decide +kernel) (fun _ _ _ h => h) (Or.inl ⟨by rfl, ?_⟩) hS ?_
    rotate_left 1
    · intro wS hSw
      obtain ⟨g0, g1, g2, g3, j0, j1, j2, j3, t1, t3, -⟩ := hSw
      go_simp
      try with_reducible rfl
    try simp only [Act.put, List.setIfInBounds_toArray, List.set_cons_zero, List.set_cons_succ]
    refine wpAnyH_take (i := 21) (oi := ⟨some 57, _, _, _, _, _⟩) (v := ?_) rfl (by decide +kernel) (by decide +kernel) (by decide +kernel) (fun _ _ _ h => h) (Or.inl ⟨by rfl, ?_⟩) hS ?_
    rotate_left 1
    · intro wS hSw
      obtain ⟨g0, g1, g2, g3, j0, j1, j2, j3, t1, t3, -⟩ := hSw
      go_simp
      try with_reducible rfl
    try simp only [Act.put, List.setIfInBounds_toArray, List.set_cons_zero, List.set_cons_succ]
    refine wpAnyH_take (i := 22) (oi := ⟨some 58, _, _, _, _, _⟩) (v := ?_) rfl (by decide +kernel) (by decide +kernel) (by decide +kernel) (fun _ _ _ h => h) (Or.inl ⟨by rfl, ?_⟩) hS ?_
    rotate_left 1
    · intro wS hSw
      obtain ⟨g0, g1, g2, g3, j0, j1, j2, j3, t1, t3, -⟩ := hSw
      go_simp
      try with_reducible rfl
    try simp only [Act.put, List.setIfInBounds_toArray, List.set_cons_zero, List.set_cons_succ]
    refine wpAnyH_take (i := 23) (oi := ⟨some 59, _, _, _, _, _⟩) (v := ?_) rfl (by decide +kernel) (by decide +kernel) (by decide +kernel) (fun _ _ _ h => h) (Or.inl ⟨by rfl, ?_⟩) hS ?_
    rotate_left 1
    · intro wS hSw
      obtain ⟨g0, g1, g2, g3, j0, j1, j2, j3, t1, t3, -⟩ := hSw
      go_simp
      try with_reducible rfl
    try simp only [Act.put, List.setIfInBounds_toArray, List.set_cons_zero, List.set_cons_succ]
    refine wpAnyH_take (i := 24) (oi := ⟨some 60, _, _, _, _, _⟩) (v := ?_) rfl (by decide +kernel) (by decide +kernel) (by decide +kernel) (fun _ _ _ h => h) (Or.inl ⟨by rfl, ?_⟩) hS ?_
    rotate_left 1
    · intro wS hSw
      obtain ⟨g0, g1, g2, g3, j0, j1, j2, j3, t1, t3, -⟩ := hSw
      go_simp
      try with_reducible rfl
    try simp only [Act.put, List.setIfInBounds_toArray, List.set_cons_zero, List.set_cons_succ]
    refine wpAnyH_take (i := 25) (oi := ⟨some 61, _, _, _, _, _⟩) (v := ?_) rfl (by decide +kernel) (by decide +kernel) (by decide +kernel) (fun _ _ _ h => h) (Or.inl ⟨by rfl, ?_⟩) hS ?_
    rotate_left 1
    · intro wS hSw
      obtain ⟨g0, g1, g2, g3, j0, j1, j2, j3, t1, t3, -⟩ := hSw
      go_simp
      try with_reducible rfl
    try simp only [Act.put, List.setIfInBounds_toArray, List.set_cons_zero, List.set_cons_succ]
    refine wpAnyH_take (i := 26) (oi := ⟨some 62, _, _, _, _, _⟩) (v := ?_) rfl (by decide +kernel) (by decide +kernel) (by decide +kernel) (fun _ _ _ h => h) (Or.inl ⟨by rfl, ?_⟩) hS ?_
    rotate_left 1
    · intro wS hSw
      obtain ⟨g0, g1, g2, g3, j0, j1, j2, j3, t1, t3, -⟩ := hSw
      go_simp
      try with_reducible rfl
    try simp only [Act.put, List.setIfInBounds_toArray, List.set_cons_zero, List.set_cons_succ]
    refine wpAnyH_take (i := 28) (oi := ⟨some 64, _, _, _, _, _⟩) (v := ?_) rfl (by decide +kernel) (by decide +kernel) (by decide +kernel) (fun _ _ _ h => h) (Or.inl ⟨by rfl, ?_⟩) hS ?_
    rotate_left 1
    · intro wS hSw
      obtain ⟨g0, g1, g2, g3, j0, j1, j2, j3, t1, t3, -⟩ := hSw
      go_simp
      try with_reducible rfl
    try simp only [Act.put, List.setIfInBounds_toArray, List.set_cons_zero, List.set_cons_succ]
    refine wpAnyH_take (i := 29) (oi := ⟨some 65, _, _, _, _, _⟩) (v := ?_) rfl (by decide +kernel) (by decide +kernel) (by decide +kernel) (fun _ _ _ h => h) (Or.inl ⟨by rfl, ?_⟩) hS ?_
    rotate_left 1
    · intro wS hSw
      obtain ⟨g0, g1, g2, g3, j0, j1, j2, j3, t1, t3, -⟩ := hSw
      go_simp
      try with_reducible rfl
    try simp only [Act.put, List.setIfInBounds_toArray, List.set_cons_zero, List.set_cons_succ]
    refine wpAnyH_ready (rs := [27]) (by decide +kernel) (by simp) ?_
    refine AllReadyH.cons (o := ⟨some 63, _, _, _, _, _⟩) rfl (fun K hK => ?_) AllReadyH.nil
    rw [if_pos (by rfl)]
    go_simp
    with_reducible refine (at_any hS.x.cu hok).mono ?_
    rintro e w13 ⟨rfl, hw13⟩; rw [hw13, hdx]; clear hw13
    refine hK.out _ _ (hS) (fun hS => ?_)
    clear hK K
    try simp only [Act.put, List.setIfInBounds_toArray, List.set_cons_zero, List.set_cons_succ]
    refine wpAnyH_take (i := 30) (oi := ⟨some 66, _, _, _, _, _⟩) (v := ?_) rfl (by decide +kernel) (by decide +kernel) (by decide +kernel) (fun _ _ _ h => h) (Or.inl ⟨by rfl, ?_⟩) hS ?_
    rotate_left 1
    · intro wS hSw
      obtain ⟨g0, g1, g2, g3, j0, j1, j2, j3, t1, t3, -⟩ := hSw
      go_simp
      try with_reducible rfl
    try simp only [Act.put, List.setIfInBounds_toArray, List.set_cons_zero, List.set_cons_succ]
    refine wpAnyH_take (i := 31) (oi := ⟨some 67, _, _, _, _, _⟩) (v := ?_) rfl (by decide +kernel) (by decide +kernel) (by decide +kernel) (fun _ _ _ h => h) (Or.inl ⟨by rfl, ?_⟩) hS ?_
    rotate_left 1
    · intro wS hSw
      obtain ⟨g0, g1, g2, g3, j0, j1, j2, j3, t1, t3, -⟩ := hSw
      go_simp
      try with_reducible rfl
    try simp only [Act.put, List.setIfInBounds_toArray, List.set_cons_zero, List.set_cons_succ]
    refine wpAnyH_take (i := 32) (oi := ⟨some 68, _, _, _, _, _⟩) (v := ?_) rfl (by decide +kernel) (by decide +kernel) (by decide +kernel) (fun _ _ _ h => h) (Or.inl ⟨by rfl, ?_⟩) hS ?_
    rotate_left 1
    · intro wS hSw
      obtain ⟨g0, g1, g2, g3, j0, j1, j2, j3, t1, t3, -⟩ := hSw
      go_simp
      try with_reducible rfl
    try simp only [Act.put, List.setIfInBounds_toArray, List.set_cons_zero, List.set_cons_succ]
    refine wpAnyH_take (i := 33) (oi := ⟨some 69, _, _, _, _, _⟩) (v := ?_) rfl (by decide +kernel) (by decide +kernel) (by decide +kernel) (fun _ _ _ h => h) (Or.inl ⟨by rfl, ?_⟩) hS ?_
    rotate_left 1
    · intro wS hSw
      obtain ⟨g0, g1, g2, g3, j0, j1, j2, j3, t1, t3, -⟩ := hSw
      go_simp
      try with_reducible rfl
    try simp only [Act.put, List.setIfInBounds_toArray, List.set_cons_zero, List.set_cons_succ]
    refine wpAnyH_ready (rs := [34]) (by decide +kernel) (by simp) ?_
    refine AllReadyH.cons (o := ⟨some 70, _, _, _, _, _⟩) rfl (fun K hK => ?_) AllReadyH.nil
    rw [if_pos (by rfl)]
    go_simp
    with_reducible refine (works17_any _ hS.x.tb).mono ?_
    rintro e w14 ⟨rfl, b14⟩
    refine hK.out _ _ ((hS.x.next b14).cells) (fun hS => ?_)
    clear hK K
    try simp only [Act.put, List.setIfInBounds_toArray, List.set_cons_zero, List.set_cons_succ]
    refine wpAnyH_take (i := 35) (oi := ⟨some 71, _, _, _, _, _⟩) (v := ?_) rfl (by decide +kernel) (by decide +kernel) (by decide +kernel) (fun _ _ _ h => h) (Or.inl ⟨by rfl, ?_⟩) hS ?_
    rotate_left 1
    · intro wS hSw
      obtain ⟨g0, g1, g2, g3, j0, j1, j2, j3, t1, t3, -⟩ := hSw
      go_simp
      try with_reducible rfl
    try simp only [Act.put, List.setIfInBounds_toArray, List.set_cons_zero, List.set_cons_succ]
    refine wpAnyH_take (i := 36) (oi := ⟨some 2, _, _, _, _, _⟩) (v := ?_) rfl (by decide +kernel) (by decide +kernel) (by decide +kernel) (fun _ _ _ h => h) (Or.inl ⟨by rfl, ?_⟩) hS ?_
    rotate_left 1
    · intro wS hSw
      obtain ⟨g0, g1, g2, g3, j0, j1, j2, j3, t1, t3, -⟩ := hSw
      go_simp
      try with_reducible rfl
    try simp only [Act.put, List.setIfInBounds_toArray, List.set_cons_zero, List.set_cons_succ]
    refine wpAnyH_done (by kernel_rfl) ?_ _
    have HF := Lib.hid hS.x.b
    clear hS
    go_wp2
    go_ret
    exact ⟨rfl, HF.out⟩
  · have p2 : (d.er != 0) = true := bne_iff_ne.mpr h0
    clear hal h0
    refine wp_region_held_drew (S := CXA w b T8 T9 T10 d x0 x1 x2 x3 D A1 A2 L) (by kernel_rfl) (XA.cells (HX.out.next (drew_below _ _))) (fun hS => ?_)
    refine wpAnyH_take (i := 0) (oi := ⟨some 36, _, _, _, _, _⟩) (v := ?_) rfl (by decide +kernel) (by decide +kernel) (by decide +kernel) (fun _ _ _ h => h) (Or.inl ⟨by rfl, ?_⟩) hS ?_
    rotate_left 1
    · intro wS hSw
      obtain ⟨g0, g1, g2, g3, j0, j1, j2, j3, t1, t3, -⟩ := hSw
      go_simp
      try with_reducible rfl
    try simp only [Act.put, List.setIfInBounds_toArray, List.set_cons_zero, List.set_cons_succ]
    refine wpAnyH_take (i := 2) (oi := ⟨some 38, _, _, _, _, _⟩) (v := ?_) rfl (by decide +kernel) (by decide +kernel) (by decide +kernel) (fun _ _ _ h => h) (Or.inl ⟨by rfl, ?_⟩) hS ?_
    rotate_left 1
    · intro wS hSw
      obtain ⟨g0, g1, g2, g3, j0, j1, j2, j3, t1, t3, -⟩ := hSw
      go_simp
      try with_reducible rfl
    try simp only [Act.put, List.setIfInBounds_toArray, List.set_cons_zero, List.set_cons_succ]
    refine wpAnyH_ready (rs := [1]) (by decide +kernel) (by simp) ?_
    refine AllReadyH.cons (o := ⟨some 37, _, _, _, _, _⟩) rfl (fun K hK => ?_) AllReadyH.nil
    rw [if_pos (by rfl)]
    go_simp
    with_reducible refine (fback A1 k1 L HL hS.x.i1).mono ?_
    rintro e w10 ⟨dd, kk, rfl, i3, b10⟩
    refine hK.out _ _ ((hS.x.next b10).cells) (fun hS => ?_)
    clear hK K
    try simp only [Act.put, List.setIfInBounds_toArray, List.set_cons_zero, List.set_cons_succ]
    refine wpAnyH_ready (rs := [3]) (by decide +kernel) (by simp) ?_
    refine AllReadyH.cons (o := ⟨some 39, _, _, _, _, _⟩) rfl (fun K hK => ?_) AllReadyH.nil
    rw [if_pos (by rfl)]
    go_simp
    with_reducible refine (fsame dd A2 kk k2 L _ HL i3 hS.x.i2).mono ?_
    rintro e w11 ⟨rfl, b11⟩
    refine hK.out _ _ ((hS.x.next b11).cells) (fun hS => ?_)
    clear hK K
    try simp only [Act.put, List.setIfInBounds_toArray, List.set_cons_zero, List.set_cons_succ]
    refine wpAnyH_take (i := 4) (oi := ⟨some 40, _, _, _, _, _⟩) (v := ?_) rfl (by decide +kernel) (by decide +kernel) (by decide +kernel) (fun _ _ _ h => h) (Or.inl ⟨by rfl, ?_⟩) hS ?_
    rotate_left 1
    · intro wS hSw
      obtain ⟨g0, g1, g2, g3, j0, j1, j2, j3, t1, t3, -⟩ := hSw
      go_simp
      try with_reducible rfl
    try simp only [Act.put, List.setIfInBounds_toArray, List.set_cons_zero, List.set_cons_succ]
    refine wpAnyH_take (i := 5) (oi := ⟨some 41, _, _, _, _, _⟩) (v := ?_) rfl (by decide +kernel) (by decide +kernel) (by decide +kernel) (fun _ _ _ h => h) (Or.inl ⟨by rfl, ?_⟩) hS ?_
    rotate_left 1
    · intro wS hSw
      obtain ⟨g0, g1, g2, g3, j0, j1, j2, j3, t1, t3, -⟩ := hSw
      go_simp
      try with_reducible rfl
    try simp only [Act.put, List.setIfInBounds_toArray, List.set_cons_zero, List.set_cons_succ]
    refine wpAnyH_take (i := 6) (oi := ⟨some 42, _, _, _, _, _⟩) (v := ?_) rfl (by decide +kernel) (by decide +kernel) (by decide +kernel) (fun _ _ _ h => h) (Or.inl ⟨by rfl, ?_⟩) hS ?_
    rotate_left 1
    · intro wS hSw
      obtain ⟨g0, g1, g2, g3, j0, j1, j2, j3, t1, t3, -⟩ := hSw
      go_simp
      try with_reducible rfl
    try simp only [Act.put, List.setIfInBounds_toArray, List.set_cons_zero, List.set_cons_succ]
    refine wpAnyH_take (i := 7) (oi := ⟨some 43, _, _, _, _, _⟩) (v := ?_) rfl (by decide +kernel) (by decide +kernel) (by decide +kernel) (fun _ _ _ h => h) (Or.inl ⟨by rfl, ?_⟩) hS ?_
    rotate_left 1
    · intro wS hSw
      obtain ⟨g0, g1, g2, g3, j0, j1, j2, j3, t1, t3, -⟩ := hSw
      go_simp
      try with_reducible rfl
    try simp only [Act.put, List.setIfInBounds_toArray, List.set_cons_zero, List.set_cons_succ]
    refine wpAnyH_take (i := 8) (oi := ⟨some 44, _, _, _, _, _⟩) (v := ?_) rfl (by decide +kernel) (by decide +kernel) (by decide +kernel) (fun _ _ _ h => h) (Or.inl ⟨by rfl, ?_⟩) hS ?_
    rotate_left 1
    · intro wS hSw
      obtain ⟨g0, g1, g2, g3, j0, j1, j2, j3, t1, t3, -⟩ := hSw
      go_simp
      try with_reducible rfl
    try simp only [Act.put, List.setIfInBounds_toArray, List.set_cons_zero, List.set_cons_succ]
    refine wpAnyH_take (i := 9) (oi := ⟨some 45, _, _, _, _, _⟩) (v := ?_) rfl (by decide +kernel) (by decide +kernel) (by decide +kernel) (fun _ _ _ h => h) (Or.inl ⟨by rfl, ?_⟩) hS ?_
    rotate_left 1
    · intro wS hSw
      obtain ⟨g0, g1, g2, g3, j0, j1, j2, j3, t1, t3, -⟩ := hSw
      go_simp
      try with_reducible rfl
    try simp only [Act.put, List.setIfInBounds_toArray, List.set_cons_zero, List.set_cons_succ]
    refine wpAnyH_take (i := 10) (oi := ⟨some 46, _, _, _, _, _⟩) (v := ?_) rfl (by decide +kernel) (by decide +kernel) (by decide +kernel) (fun _ _ _ h => h) (Or.inl ⟨by rfl, ?_⟩) hS ?_
    rotate_left 1
    · intro wS hSw
      obtain ⟨g0, g1, g2, g3, j0, j1, j2, j3, t1, t3, -⟩ := hSw
      go_simp
      try with_reducible rfl
    try simp only [Act.put, List.setIfInBounds_toArray, List.set_cons_zero, List.set_cons_succ]
    refine wpAnyH_take (i := 11) (oi := ⟨some 47, _, _, _, _, _⟩) (v := ?_) rfl (by decide +kernel) (by decide +kernel) (by decide +kernel) (fun _ _ _ h => h) (Or.inl ⟨by rfl, ?_⟩) hS ?_
    rotate_left 1
    · intro wS hSw
      obtain ⟨g0, g1, g2, g3, j0, j1, j2, j3, t1, t3, -⟩ := hSw
      go_simp
      try with_reducible rfl
    try simp only [Act.put, List.setIfInBounds_toArray, List.set_cons_zero, List.set_cons_succ]
    refine wpAnyH_take (i := 12) (oi := ⟨some 48, _, _, _, _, _⟩) (v := ?_) rfl (by decide +kernel) (by decide +kernel) (by decide +kernel) (fun _ _ _ h => h) (Or.inl ⟨by rfl, ?_⟩) hS ?_
    rotate_left 1
    · intro wS hSw
      obtain ⟨g0, g1, g2, g3, j0, j1, j2, j3, t1, t3, -⟩ := hSw
      go_simp
      try with_reducible rfl
    try simp only [Act.put, List.setIfInBounds_toArray, List.set_cons_zero, List.set_cons_succ]
    refine wpAnyH_take (i := 13) (oi := ⟨some 49, _, _, _, _, _⟩) (v := ?_) rfl (by decide +kernel) (by decide +kernel) (by decide +kernel) (fun _ _ _ h => h) (Or.inl ⟨by rfl, ?_⟩) hS ?_
    rotate_left 1
    · intro wS hSw
      obtain ⟨g0, g1, g2, g3, j0, j1, j2, j3, t1, t3, -⟩ := hSw
      go_simp
      try with_reducible rfl
    try simp only [Act.put, List.setIfInBounds_toArray, List.set_cons_zero, List.set_cons_succ]
    refine wpAnyH_take (i := 14) (oi := ⟨some 50, _, _, _, _, _⟩) (v := ?_) rfl (by decide +kernel) (by decide +kernel) (by decide +kernel) (fun _ _ _ h => h) (Or.inl ⟨by rfl, ?_⟩) hS ?_
    rotate_left 1
    · intro wS hSw
      obtain ⟨g0, g1, g2, g3, j0, j1, j2, j3, t1, t3, -⟩ := hSw
      go_simp
      try with_reducible rfl
    try simp only [Act.put, List.setIfInBounds_toArray, List.set_cons_zero, List.set_cons_succ]
    refine wpAnyH_take (i := 15) (oi := ⟨some 51, _, _, _, _, _⟩) (v := ?_) rfl (by decide +kernel) (by decide +kernel) (by decide +kernel) (fun _ _ _ h => h) (Or.inl ⟨by rfl, ?_⟩) hS ?_
    rotate_left 1
    · intro wS hSw
      obtain ⟨g0, g1, g2, g3, j0, j1, j2, j3, t1, t3, -⟩ := hSw
      go_simp
      try with_reducible rfl
    try simp only [Act.put, List.setIfInBounds_toArray, List.set_cons_zero, List.set_cons_succ]
    refine wpAnyH_take (i := 17) (oi := ⟨some 53, _, _, _, _, _⟩) (v := ?_) rfl (by decide +kernel) (by decide +kernel) (by decide +kernel) (fun _ _ _ h => h) (Or.inl ⟨by rfl, ?_⟩) hS ?_
    rotate_left 1
    · intro wS hSw
      obtain ⟨g0, g1, g2, g3, j0, j1, j2, j3, t1, t3, -⟩ := hSw
      go_simp
      try with_reducible rfl
    try simp only [Act.put, List.setIfInBounds_toArray, List.set_cons_zero, List.set_cons_succ]
    refine wpAnyH_take (i := 18) (oi := ⟨some 54, _, _, _, _, _⟩) (v := ?_) rfl (by decide +kernel) (by decide +kernel) (by decide +kernel) (fun _ _ _ h => h) (Or.inl ⟨by rfl, ?_⟩) hS ?_
    rotate_left 1
    · intro wS hSw
      obtain ⟨g0, g1, g2, g3, j0, j1, j2, j3, t1, t3, -⟩ := hSw
      go_simp
      try with_reducible rfl
    try simp only [Act.put, List.setIfInBounds_toArray, List.set_cons_zero, List.set_cons_succ]
    refine wpAnyH_ready (rs := [16]) (by decide +kernel) (by simp) ?_
    refine AllReadyH.cons (o := ⟨some 52, _, _, _, _, _⟩) rfl (fun K hK => ?_) AllReadyH.nil
    rw [if_pos (by rfl)]
    go_simp
    with_reducible refine (err_any hS.x.cu).mono ?_
    rintro e w12 ⟨rfl, hw12⟩; rw [hw12, her]; clear hw12
    refine hK.out _ _ (hS) (fun hS => ?_)
    clear hK K
    try simp only [Act.put, List.setIfInBounds_toArray, List.set_cons_zero, List.set_cons_succ]
    refine wpAnyH_take (i := 19) (oi := ⟨some 55, _, _, _, _, _⟩) (v := ?_) rfl (by decide +kernel) (by decide +kernel) (by decide +kernel) (fun _ _ _ h => h) (Or.inl ⟨by rfl, ?_⟩) hS ?_
    rotate_left 1
    · intro wS hSw
      obtain ⟨g0, g1, g2, g3, j0, j1, j2, j3, t1, t3, -⟩ := hSw
      go_simp
      try with_reducible rfl
    try simp only [Act.put, List.setIfInBounds_toArray, List.set_cons_zero, List.set_cons_succ]
    refine wpAnyH_take (i := 20) (oi := ⟨some 56, _, _, _, _, _⟩) (v := ?_) rfl (by decide +kernel) (by decide +kernel) (by decide +kernel) (fun _ _ _ h => h) (Or.inl ⟨by rfl, ?_⟩) hS ?_
    rotate_left 1
    · intro wS hSw
      obtain ⟨g0, g1, g2, g3, j0, j1, j2, j3, t1, t3, -⟩ := hSw
      go_simp
      try with_reducible rfl
    try simp only [Act.put, List.setIfInBounds_toArray, List.set_cons_zero, List.set_cons_succ]
    refine wpAnyH_take (i := 21) (oi := ⟨some 57, _, _, _, _, _⟩) (v := ?_) rfl (by decide +kernel) (by decide +kernel) (by decide +kernel) (fun _ _ _ h => h) (Or.inl ⟨by rfl, ?_⟩) hS ?_
    rotate_left 1
    · intro wS hSw
      obtain ⟨g0, g1, g2, g3, j0, j1, j2, j3, t1, t3, -⟩ := hSw
      go_simp
      try with_reducible rfl
    try simp only [Act.put, List.setIfInBounds_toArray, List.set_cons_zero, List.set_cons_succ]
    refine wpAnyH_take (i := 22) (oi := ⟨some 58, _, _, _, _, _⟩) (v := ?_) rfl (by decide +kernel) (by decide +kernel) (by decide +kernel) (fun _ _ _ h => h) (Or.inl ⟨by rfl, ?_⟩) hS ?_
    rotate_left 1
    · intro wS hSw
      obtain ⟨g0, g1, g2, g3, j0, j1, j2, j3, t1, t3, -⟩ := hSw
      go_simp
      try with_reducible rfl
    try simp only [Act.put, List.setIfInBounds_toArray, List.set_cons_zero, List.set_cons_succ]
    refine wpAnyH_take (i := 23) (oi := ⟨some 59, _, _, _, _, _⟩) (v := ?_) rfl (by decide +kernel) (by decide +kernel) (by decide +kernel) (fun _ _ _ h => h) (Or.inl ⟨by rfl, ?_⟩) hS ?_
    rotate_left 1
    · intro wS hSw
      obtain ⟨g0, g1, g2, g3, j0, j1, j2, j3, t1, t3, -⟩ := hSw
      go_simp
      try with_reducible rfl
    try simp only [Act.put, List.setIfInBounds_toArray, List.set_cons_zero, List.set_cons_succ]
    refine wpAnyH_take (i := 24) (oi := ⟨some 60, _, _, _, _, _⟩) (v := ?_) rfl (by decide +kernel) (by decide +kernel) (by decide +kernel) (fun _ _ _ h => h) (Or.inl ⟨by rfl, ?_⟩) hS ?_
    rotate_left 1
    · intro wS hSw
      obtain ⟨g0, g1, g2, g3, j0, j1, j2, j3, t1, t3, -⟩ := hSw
      go_simp
      try with_reducible rfl
    try simp only [Act.put, List.setIfInBounds_toArray, List.set_cons_zero, List.set_cons_succ]
    refine wpAnyH_take (i := 25) (oi := ⟨some 61, _, _, _, _, _⟩) (v := ?_) rfl (by decide +kernel) (by decide +kernel) (by decide +kernel) (fun _ _ _ h => h) (Or.inl ⟨by rfl, ?_⟩) hS ?_
    rotate_left 1
    · intro wS hSw
      obtain ⟨g0, g1, g2, g3, j0, j1, j2, j3, t1, t3, -⟩ := hSw
      go_simp
      try with_reducible rfl
    try simp only [Act.put, List.setIfInBounds_toArray, List.set_cons_zero, List.set_cons_succ]
    refine wpAnyH_take (i := 26) (oi := ⟨some 62, _, _, _, _, _⟩) (v := undef) rfl (by decide +kernel) (by decide +kernel) (by decide +kernel) (fun _ _ _ h => h) (Or.inr ⟨by rfl, rfl⟩) hS ?_
    try simp only [Act.put, List.setIfInBounds_toArray, List.set_cons_zero, List.set_cons_succ]
    refine wpAnyH_take (i := 27) (oi := ⟨some 63, _, _, _, _, _⟩) (v := undef) rfl (by decide +kernel) (by decide +kernel) (by decide +kernel) (fun _ _ _ h => h) (Or.inr ⟨by rfl, rfl⟩) hS ?_
    try simp only [Act.put, List.setIfInBounds_toArray, List.set_cons_zero, List.set_cons_succ]
    refine wpAnyH_take (i := 28) (oi := ⟨some 64, _, _, _, _, _⟩) (v := undef) rfl (by decide +kernel) (by decide +kernel) (by decide +kernel) (fun _ _ _ h => h) (Or.inr ⟨by rfl, rfl⟩) hS ?_
    try simp only [Act.put, List.setIfInBounds_toArray, List.set_cons_zero, List.set_cons_succ]
    refine wpAnyH_take (i := 29) (oi := ⟨some 65, _, _, _, _, _⟩) (v := undef) rfl (by decide +kernel) (by decide +kernel) (by decide +kernel) (fun _ _ _ h => h) (Or.inr ⟨by rfl, rfl⟩) hS ?_
    try simp only [Act.put, List.setIfInBounds_toArray, List.set_cons_zero, List.set_cons_succ]
    refine wpAnyH_take (i := 30) (oi := ⟨some 66, _, _, _, _, _⟩) (v := undef) rfl (by decide +kernel) (by decide +kernel) (by decide +kernel) (fun _ _ _ h => h) (Or.inr ⟨by rfl, rfl⟩) hS ?_
    try simp only [Act.put, List.setIfInBounds_toArray, List.set_cons_zero, List.set_cons_succ]
    refine wpAnyH_take (i := 31) (oi := ⟨some 67, _, _, _, _, _⟩) (v := ?_) rfl (by decide +kernel) (by decide +kernel) (by decide +kernel) (fun _ _ _ h => h) (Or.inl ⟨by rfl, ?_⟩) hS ?_
    rotate_left 1
    · intro wS hSw
      obtain ⟨g0, g1, g2, g3, j0, j1, j2, j3, t1, t3, -⟩ := hSw
      go_simp
      try with_reducible rfl
    try simp only [Act.put, List.setIfInBounds_toArray, List.set_cons_zero, List.set_cons_succ]
    refine wpAnyH_take (i := 32) (oi := ⟨some 68, _, _, _, _, _⟩) (v := ?_) rfl (by decide +kernel) (by decide +kernel) (by decide +kernel) (fun _ _ _ h => h) (Or.inl ⟨by rfl, ?_⟩) hS ?_
    rotate_left 1
    · intro wS hSw
      obtain ⟨g0, g1, g2, g3, j0, j1, j2, j3, t1, t3, -⟩ := hSw
      go_simp
      try with_reducible rfl
    try simp only [Act.put, List.setIfInBounds_toArray, List.set_cons_zero, List.set_cons_succ]
    refine wpAnyH_take (i := 33) (oi := ⟨some 69, _, _, _, _, _⟩) (v := ?_) rfl (by decide +kernel) (by decide +kernel) (by decide +kernel) (fun _ _ _ h => h) (Or.inl ⟨by rfl, ?_⟩) hS ?_
    rotate_left 1
    · intro wS hSw
      obtain ⟨g0, g1, g2, g3, j0, j1, j2, j3, t1, t3, -⟩ := hSw
      go_simp
      try with_reducible rfl
    try simp only [Act.put, List.setIfInBounds_toArray, List.set_cons_zero, List.set_cons_succ]
    refine wpAnyH_ready (rs := [34]) (by decide +kernel) (by simp) ?_
    refine AllReadyH.cons (o := ⟨some 70, _, _, _, _, _⟩) rfl (fun K hK => ?_) AllReadyH.nil
    rw [if_pos (by rfl)]
    go_simp
    with_reducible refine (works17_any _ hS.x.tb).mono ?_
    rintro e w14 ⟨rfl, b14⟩
    refine hK.out _ _ ((hS.x.next b14).cells) (fun hS => ?_)
    clear hK K
    try simp only [Act.put, List.setIfInBounds_toArray, List.set_cons_zero, List.set_cons_succ]
    refine wpAnyH_take (i := 35) (oi := ⟨some 71, _, _, _, _, _⟩) (v := ?_) rfl (by decide +kernel) (by decide +kernel) (by decide +kernel) (fun _ _ _ h => h) (Or.inl ⟨by rfl, ?_⟩) hS ?_
    rotate_left 1
    · intro wS hSw
      obtain ⟨g0, g1, g2, g3, j0, j1, j2, j3, t1, t3, -⟩ := hSw
      go_simp
      try with_reducible rfl
    try simp only [Act.put, List.setIfInBounds_toArray, List.set_cons_zero, List.set_cons_succ]
    refine wpAnyH_take (i := 36) (oi := ⟨some 2, _, _, _, _, _⟩) (v := ?_) rfl (by decide +kernel) (by decide +kernel) (by decide +kernel) (fun _ _ _ h => h) (Or.inl ⟨by rfl, ?_⟩) hS ?_
    rotate_left 1
    · intro wS hSw
      obtain ⟨g0, g1, g2, g3, j0, j1, j2, j3, t1, t3, -⟩ := hSw
      go_simp
      try with_reducible rfl
    try simp only [Act.put, List.setIfInBounds_toArray, List.set_cons_zero, List.set_cons_succ]
    refine wpAnyH_done (by kernel_rfl) ?_ _
    have HF := Lib.hid hS.x.b
    clear hS
    go_wp2
    go_ret
    exact ⟨rfl, HF.out⟩
theorem fall_any (s : ByteArray) (w : World) (hs : s.size ≤ 140737488351232) (ht : Tab w) :
    Calls Tryd.prog 3 #[.string s] w fun e w' => e = .returned (.bool true) ∧ Below w.heap.size w w' := by
  by_cases h : 300 < s.size
  · exact fall_long s w h ht
  · exact fall_short s w (by omega) ht
end Go.Proofs.YtlfelhhghomglaaDoor
