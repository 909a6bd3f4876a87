/- Layer 17's example ('works') returns true in every world, and turns nothing that was there. -/
import Derived.Test.YtlfelhhghomglaaDoorPrD
import Derived.Test.YtlfelhhghomglaaDoorPrF
import Derived.Lib.SlBytesConst
import Derived.Deep.RegionHeld3
namespace Go.Proofs.YtlfelhhghomglaaDoor
open Go Go.RowKit
set_option linter.unusedVariables false

def s17 : ByteArray := ⟨#[8, 150, 1, 18, 2, 97, 98]⟩
def c17 : ByteArray := ⟨#[18, 3, 97, 98]⟩
def ab17 : ByteArray := ⟨#[97, 98]⟩
def l17 : List FD := [(1, 0, 150, ⟨#[]⟩), (2, 2, 0, ab17)]
theorem all17 : fAll s17.data.toList = (l17, 0) := by decide +kernel
theorem cut17 : fAll c17.data.toList = ([], 1) := by decide +kernel
theorem fB17 : fB 2 2 0 ab17 = [18, 2, 97, 98] := by
  unfold fB tagL
  rw [show tagB 2 2 = true by decide, if_pos rfl, if_pos rfl, show tagU 2 2 = 18 from rfl, vB_small (by decide)]
  unfold bB
  rw [if_neg (by decide), if_neg (by decide), if_neg (by decide), show ab17.size = 2 from rfl, vB_small (by decide)]
  rfl
theorem w17_all (w : World) (ht : Tab w) :
    Calls Tryd.prog 7 #[.string s17] w fun e w' => ∃ g k, e = .returned (.tuple #[.slice (some ⟨g, 0, none⟩) 2 k, .int .i64 0]) ∧ g < w'.heap.size ∧ FdAt w' g 0 (1, 0, 150, ⟨#[]⟩) ∧ FdAt w' g 1 (2, 2, 0, ab17) ∧ Below w.heap.size w w' := by
  refine (all_any s17 w (by decide +kernel) (.inl (by decide)) ht).mono ?_
  rw [all17]
  rintro e w' ⟨v, he, hrow, hb⟩
  obtain ⟨a, k, hv, hi⟩ := hrow.inn
  obtain ⟨g, ha, hg, hc⟩ := hi.block (by decide)
  subst ha
  rw [hv] at he
  exact ⟨g, k, he, hg, hc 0 (by decide), hc 1 (by decide), hb⟩
theorem w17_cut (w : World) (ht : Tab w) :
    Calls Tryd.prog 7 #[.string c17] w fun e w' => ∃ v, e = .returned (.tuple #[v, .int .i64 1]) ∧ Below w.heap.size w w' := by
  refine (all_any c17 w (by decide +kernel) (.inl (by decide)) ht).mono ?_
  rw [cut17]
  rintro e w' ⟨v, he, _, hb⟩
  exact ⟨v, he, hb⟩
/-- What stands behind the calls of the example. -/
structure W17 (W : World) (g G : Nat) (w : World) : Prop where
  lt : g < w.heap.size
  f0 : FdAt w g 0 (1, 0, 150, ⟨#[]⟩)
  f1 : FdAt w g 1 (2, 2, 0, ab17)
  f : PfT 37 w G (2, 2, 0, ab17)
  b : Below W.heap.size W w
theorem W17.next {W w w' : World} {g G : Nat} (h : W17 W g G w) (hb : Below w.heap.size w w') : W17 W g G w' :=
  ⟨Nat.lt_of_lt_of_le h.lt hb.size, h.f0.below hb h.lt, h.f1.below hb h.lt, h.f.below hb h.f.lt, grown_then h.b hb⟩
theorem W17.drew {W w : World} {g G : Nat} (h : W17 W g G w) : W17 W g G w.drew := h.next ((Below.refl _ _).drew)
theorem W17.alloc {W w : World} {g G : Nat} (h : W17 W g G w) (o : Obj) : W17 W g G (w.alloc o) := h.next ((Below.refl _ _).alloc (Nat.le_refl _) _)
@[reducible] def C17 (W : World) (g G : Nat) (w : World) : Prop :=
  w.cell? ⟨g, 2, none⟩ = some (.int .u64 150) ∧ w.cell? ⟨g, 4, none⟩ = some (.int .i64 2) ∧ w.cell? ⟨g, 5, none⟩ = some (.int .i64 2) ∧ w.cell? ⟨g, 6, none⟩ = some (.int .u64 0) ∧ w.cell? ⟨g, 7, none⟩ = some (.string ⟨#[97, 98]⟩) ∧
  w.cell? ⟨G, 0, none⟩ = some (.int .i64 2) ∧ w.cell? ⟨G, 1, none⟩ = some (.int .i64 2) ∧ w.cell? ⟨G, 2, none⟩ = some (.int .u64 0) ∧ w.cell? ⟨G, 3, none⟩ = some (.string ⟨#[97, 98]⟩) ∧ W17 W g G w
theorem W17.cells {W w : World} {g G : Nat} (h : W17 W g G w) : C17 W g G w := ⟨h.f0.2.2.1, h.f1.1, h.f1.2.1, h.f1.2.2.1, h.f1.2.2.2, h.f.c0, h.f.c1, h.f.c2, h.f.c3, h⟩
theorem C17.w {W w : World} {g G : Nat} (h : C17 W g G w) : W17 W g G w := h.2.2.2.2.2.2.2.2.2
theorem c17_next {W w w' : World} {g G : Nat} (hb : Below w.heap.size w w') (h : C17 W g G w) : C17 W g G w' := (h.w.next hb).cells
/-- 'append' of the example's field to the text p. -/
theorem w17_put (W w : World) (g G : Nat) (hw : W17 W g G w) (ht : Tab W) :
    Calls Tryd.prog 17 #[.slice (some ⟨w.heap.size, 0, none⟩) 1 1, .agg #[.int .i64 2, .int .i64 2, .int .u64 0, .string ⟨#[97, 98]⟩]] ((w.alloc (.cells #[.int .u8 112] 5 (1, 2))).drew) fun e w' => ∃ v, e = .returned v ∧ Hid ((convert 47 9 v).run Tryd.prog w' = .ok (.string (bA [112, 18, 2, 97, 98])) w') ∧ W17 W g G w' := by
  have h1 := heap_alloc_new w (.cells #[.int .u8 112] 5 (1, 2))
  have hW := (hw.alloc (.cells #[.int .u8 112] 5 (1, 2))).drew
  have h := fput_any (some ⟨w.heap.size, 0, none⟩) 1 [112] 2 2 0 ab17 ((w.alloc (.cells #[.int .u8 112] 5 (1, 2))).drew) (by decide) (by decide +kernel) (by decide) (fun j hj => by
    have h0 : j = 0 := by simpa using hj
    subst h0
    refine ⟨w.heap.size, 0, rfl, by simp, ?_⟩
    show World.cell? (w.alloc (.cells #[.int .u8 112] 5 (1, 2))) _ = _
    simp only [World.cell?]
    rw [h1]; rfl) (ht.below hW.b ht.lt)
  rw [fB17] at h
  refine h.mono ?_
  rintro e w' ⟨v, he, hb, hbe⟩
  exact ⟨v, he, Lib.hid (hb.text Tryd.underlying47 Tryd.underlying5 Tryd.underlying9), hW.next hbe⟩
theorem w17_size (w : World) : Calls Tryd.prog 19 #[.agg #[.int .i64 2, .int .i64 2, .int .u64 0, .string ⟨#[97, 98]⟩]] w fun e w' => e = .returned (.int .i64 4) ∧ Below w.heap.size w w' := by
  have h := fsize_any 2 2 0 ab17 w (by decide) (by decide +kernel)
  rw [fB17] at h; exact h
theorem eq17 (w : World) : (binOp .eql 37 (.agg #[.int .i64 2, .int .i64 2, .int .u64 0, .string ⟨#[97, 98]⟩]) (.agg #[.int .i64 2, .int .i64 2, .int .u64 0, .string ⟨#[97, 98]⟩])).run Tryd.prog w = .ok (.bool true) w := by
  have := eqlPf (2, 2, 0, ab17) (2, 2, 0, ab17) w
  rw [decide_eq_true rfl] at this; exact this

set_option maxRecDepth 100000 in
set_option maxHeartbeats 8000000 in
theorem works17_any (w : World) (ht : Tab w) : Calls Tryd.prog 6 #[] w fun e w' => e = .returned (.bool true) ∧ Below w.heap.size w w' := by
  have HT := Lib.hid ht
  have HA := Lib.hid (w17_all w ht)
  have kcd := fun (w : World) (C : Array Value) (n c : Nat) => (show (convert 47 47 (.slice (some ⟨w.heap.size, 0, none⟩) n c)).run Tryd.prog ((w.alloc (.cells C 5)).drew) = .ok (.slice (some ⟨w.heap.size, 0, none⟩) n c) ((w.alloc (.cells C 5 (C.size, C.size + 1))).drew) from Lib.run_convert_bytes_const (P := Tryd.prog) w.drew 47 5 C n c Tryd.underlying47 Tryd.underlying5)
  have qE := fun w => eq17 w
  have qG := fun (x y : Operand) xs ys w => run_eqGuard_agg w .eql 37 x y xs ys guardPf
  have q1 : ((bA [112, 18, 2, 97, 98]).toList == [112, 18, 2, 97, 98]) = true := by decide +kernel
  clear ht
  go_enter Tryd.func6, Tryd.ntmps6
  go_wp2_with fail
  refine HA.out.mono ?_
  rintro e w1 ⟨g, k, rfl, hg, hf0, hf1, b1⟩
  have t1 := Lib.hid (HT.out.below b1 HT.out.lt)
  go_wp2_with fail
  refine (w17_cut _ t1.out).mono ?_
  rintro e w2 ⟨v2, rfl, b2⟩
  have W3 := Lib.hid (show W17 w g w2.heap.size (w2.alloc (.cells #[.int .i64 2, .int .i64 2, .int .u64 0, .string ⟨#[97, 98]⟩] 37)) from by
    have F := fd_alloc w2 (2, 2, 0, ab17) 37
    have bb := fd_grow w2 (2, 2, 0, ab17) 37
    have b3 := b2.trans (bb.mono b2.size)
    exact ⟨Nat.lt_of_lt_of_le hg b3.size, hf0.below b3 hg, hf1.below b3 hg, F, grown_then b1 b3⟩)
  clear hf0 hf1 b1 t1 b2 hg HA
  go_upto_region 4 with fail
  generalize (w2.alloc (.cells #[.int .i64 2, .int .i64 2, .int .u64 0, .string ⟨#[97, 98]⟩] 37)) = w3 at *
  generalize w2.heap.size = G at *
  have HPut := Lib.hid (w17_put w w3 g G W3.out HT.out)
  refine wp_region_held_drew (S := C17 w g G) (by kernel_rfl) W3.out.drew.cells (fun hS => ?_)
  refine wpAnyH_take (i := 0) (oi := ⟨some 15, _, _, _, _, _⟩) (v := ?_) rfl (by decide +kernel) (by decide +kernel) (by decide +kernel) (fun _ _ _ h => h) (Or.inl ⟨by rfl, ?_⟩) hS ?_
  rotate_left 1
  · intro wS hSw
    obtain ⟨a2, a4, a5, a6, a7, b0, b1, b2, b3, -⟩ := hSw
    go_simp
    try with_reducible rfl
  try simp only [Act.put, List.setIfInBounds_toArray, List.set_cons_zero, List.set_cons_succ]
  refine wpAnyH_take (i := 1) (oi := ⟨some 16, _, _, _, _, _⟩) (v := ?_) rfl (by decide +kernel) (by decide +kernel) (by decide +kernel) (fun _ _ _ h => h) (Or.inl ⟨by rfl, ?_⟩) hS ?_
  rotate_left 1
  · intro wS hSw
    obtain ⟨a2, a4, a5, a6, a7, b0, b1, b2, b3, -⟩ := hSw
    go_simp
    try with_reducible rfl
  try simp only [Act.put, List.setIfInBounds_toArray, List.set_cons_zero, List.set_cons_succ]
  refine wpAnyH_take (i := 2) (oi := ⟨some 17, _, _, _, _, _⟩) (v := ?_) rfl (by decide +kernel) (by decide +kernel) (by decide +kernel) (fun _ _ _ h => h) (Or.inl ⟨by rfl, ?_⟩) hS ?_
  rotate_left 1
  · intro wS hSw
    obtain ⟨a2, a4, a5, a6, a7, b0, b1, b2, b3, -⟩ := hSw
    go_simp
    try with_reducible rfl
  try simp only [Act.put, List.setIfInBounds_toArray, List.set_cons_zero, List.set_cons_succ]
  refine wpAnyH_take (i := 3) (oi := ⟨some 18, _, _, _, _, _⟩) (v := ?_) rfl (by decide +kernel) (by decide +kernel) (by decide +kernel) (fun _ _ _ h => h) (Or.inl ⟨by rfl, ?_⟩) hS ?_
  rotate_left 1
  · intro wS hSw
    obtain ⟨a2, a4, a5, a6, a7, b0, b1, b2, b3, -⟩ := hSw
    go_simp
    try with_reducible rfl
  try simp only [Act.put, List.setIfInBounds_toArray, List.set_cons_zero, List.set_cons_succ]
  refine wpAnyH_take (i := 4) (oi := ⟨some 19, _, _, _, _, _⟩) (v := ?_) rfl (by decide +kernel) (by decide +kernel) (by decide +kernel) (fun _ _ _ h => h) (Or.inl ⟨by rfl, ?_⟩) hS ?_
  rotate_left 1
  · intro wS hSw
    obtain ⟨a2, a4, a5, a6, a7, b0, b1, b2, b3, -⟩ := hSw
    go_simp
    try with_reducible rfl
  try simp only [Act.put, List.setIfInBounds_toArray, List.set_cons_zero, List.set_cons_succ]
  refine wpAnyH_take (i := 5) (oi := ⟨some 20, _, _, _, _, _⟩) (v := ?_) rfl (by decide +kernel) (by decide +kernel) (by decide +kernel) (fun _ _ _ h => h) (Or.inl ⟨by rfl, ?_⟩) hS ?_
  rotate_left 1
  · intro wS hSw
    obtain ⟨a2, a4, a5, a6, a7, b0, b1, b2, b3, -⟩ := hSw
    go_simp
    try with_reducible rfl
  try simp only [Act.put, List.setIfInBounds_toArray, List.set_cons_zero, List.set_cons_succ]
  refine wpAnyH_take (i := 6) (oi := ⟨some 21, _, _, _, _, _⟩) (v := ?_) rfl (by decide +kernel) (by decide +kernel) (by decide +kernel) (fun _ _ _ h => h) (Or.inl ⟨by rfl, ?_⟩) hS ?_
  rotate_left 1
  · intro wS hSw
    obtain ⟨a2, a4, a5, a6, a7, b0, b1, b2, b3, -⟩ := hSw
    go_simp
    try with_reducible rfl
  try simp only [Act.put, List.setIfInBounds_toArray, List.set_cons_zero, List.set_cons_succ]
  refine wpAnyH_take (i := 7) (oi := ⟨some 22, _, _, _, _, _⟩) (v := ?_) rfl (by decide +kernel) (by decide +kernel) (by decide +kernel) (fun _ _ _ h => h) (Or.inl ⟨by rfl, ?_⟩) hS ?_
  rotate_left 1
  · intro wS hSw
    obtain ⟨a2, a4, a5, a6, a7, b0, b1, b2, b3, -⟩ := hSw
    go_simp
    try with_reducible rfl
  try simp only [Act.put, List.setIfInBounds_toArray, List.set_cons_zero, List.set_cons_succ]
  refine wpAnyH_take (i := 8) (oi := ⟨some 23, _, _, _, _, _⟩) (v := ?_) rfl (by decide +kernel) (by decide +kernel) (by decide +kernel) (fun _ _ _ h => h) (Or.inl ⟨by rfl, ?_⟩) hS ?_
  rotate_left 1
  · intro wS hSw
    obtain ⟨a2, a4, a5, a6, a7, b0, b1, b2, b3, -⟩ := hSw
    go_simp
    try with_reducible rfl
  try simp only [Act.put, List.setIfInBounds_toArray, List.set_cons_zero, List.set_cons_succ]
  refine wpAnyH_take (i := 9) (oi := ⟨some 24, _, _, _, _, _⟩) (v := ?_) rfl (by decide +kernel) (by decide +kernel) (by decide +kernel) (fun _ _ _ h => h) (Or.inl ⟨by rfl, ?_⟩) hS ?_
  rotate_left 1
  · intro wS hSw
    obtain ⟨a2, a4, a5, a6, a7, b0, b1, b2, b3, -⟩ := hSw
    go_simp
    try with_reducible rfl
  try simp only [Act.put, List.setIfInBounds_toArray, List.set_cons_zero, List.set_cons_succ]
  refine wpAnyH_take (i := 10) (oi := ⟨some 25, _, _, _, _, _⟩) (v := ?_) rfl (by decide +kernel) (by decide +kernel) (by decide +kernel) (fun _ _ _ h => h) (Or.inl ⟨by rfl, ?_⟩) hS ?_
  rotate_left 1
  · intro wS hSw
    obtain ⟨a2, a4, a5, a6, a7, b0, b1, b2, b3, -⟩ := hSw
    go_simp
    try with_reducible rfl
  try simp only [Act.put, List.setIfInBounds_toArray, List.set_cons_zero, List.set_cons_succ]
  refine wpAnyH_take (i := 11) (oi := ⟨some 26, _, _, _, _, _⟩) (v := ?_) rfl (by decide +kernel) (by decide +kernel) (by decide +kernel) (fun _ _ _ h => h) (Or.inl ⟨by rfl, ?_⟩) hS ?_
  rotate_left 1
  · intro wS hSw
    obtain ⟨a2, a4, a5, a6, a7, b0, b1, b2, b3, -⟩ := hSw
    go_simp
    try with_reducible rfl
  try simp only [Act.put, List.setIfInBounds_toArray, List.set_cons_zero, List.set_cons_succ]
  refine wpAnyH_take (i := 12) (oi := ⟨some 27, _, _, _, _, _⟩) (v := ?_) rfl (by decide +kernel) (by decide +kernel) (by decide +kernel) (fun _ _ _ h => h) (Or.inl ⟨by rfl, ?_⟩) hS ?_
  rotate_left 1
  · intro wS hSw
    obtain ⟨a2, a4, a5, a6, a7, b0, b1, b2, b3, -⟩ := hSw
    go_simp
    try with_reducible rfl
  try simp only [Act.put, List.setIfInBounds_toArray, List.set_cons_zero, List.set_cons_succ]
  refine wpAnyH_take (i := 13) (oi := ⟨some 28, _, _, _, _, _⟩) (v := ?_) rfl (by decide +kernel) (by decide +kernel) (by decide +kernel) (fun _ _ _ h => h) (Or.inl ⟨by rfl, ?_⟩) hS ?_
  rotate_left 1
  · intro wS hSw
    obtain ⟨a2, a4, a5, a6, a7, b0, b1, b2, b3, -⟩ := hSw
    go_simp
    try with_reducible rfl
  try simp only [Act.put, List.setIfInBounds_toArray, List.set_cons_zero, List.set_cons_succ]
  refine wpAnyH_take (i := 14) (oi := ⟨some 29, _, _, _, _, _⟩) (v := ?_) rfl (by decide +kernel) (by decide +kernel) (by decide +kernel) (fun _ _ _ h => h) (Or.inl ⟨by rfl, ?_⟩) hS ?_
  rotate_left 1
  · intro wS hSw
    obtain ⟨a2, a4, a5, a6, a7, b0, b1, b2, b3, -⟩ := hSw
    go_simp
    try with_reducible rfl
  try simp only [Act.put, List.setIfInBounds_toArray, List.set_cons_zero, List.set_cons_succ]
  refine wpAnyH_take (i := 15) (oi := ⟨some 30, _, _, _, _, _⟩) (v := ?_) rfl (by decide +kernel) (by decide +kernel) (by decide +kernel) (fun _ _ _ h => h) (Or.inl ⟨by rfl, ?_⟩) hS ?_
  rotate_left 1
  · intro wS hSw
    obtain ⟨a2, a4, a5, a6, a7, b0, b1, b2, b3, -⟩ := hSw
    go_simp
    try with_reducible rfl
  try simp only [Act.put, List.setIfInBounds_toArray, List.set_cons_zero, List.set_cons_succ]
  refine wpAnyH_take (i := 16) (oi := ⟨some 31, _, _, _, _, _⟩) (v := ?_) rfl (by decide +kernel) (by decide +kernel) (by decide +kernel) (fun _ _ _ h => h) (Or.inl ⟨by rfl, ?_⟩) hS ?_
  rotate_left 1
  · intro wS hSw
    obtain ⟨a2, a4, a5, a6, a7, b0, b1, b2, b3, -⟩ := hSw
    go_simp
    try with_reducible rfl
  try simp only [Act.put, List.setIfInBounds_toArray, List.set_cons_zero, List.set_cons_succ]
  refine wpAnyH_take (i := 17) (oi := ⟨some 32, _, _, _, _, _⟩) (v := ?_) rfl (by decide +kernel) (by decide +kernel) (by decide +kernel) (fun _ _ _ h => h) (Or.inl ⟨by rfl, ?_⟩) hS ?_
  rotate_left 1
  · intro wS hSw
    obtain ⟨a2, a4, a5, a6, a7, b0, b1, b2, b3, -⟩ := hSw
    go_simp
    try with_reducible rfl
  try simp only [Act.put, List.setIfInBounds_toArray, List.set_cons_zero, List.set_cons_succ]
  refine wpAnyH_take (i := 18) (oi := ⟨some 33, _, _, _, _, _⟩) (v := ?_) rfl (by decide +kernel) (by decide +kernel) (by decide +kernel) (fun _ _ _ h => h) (Or.inl ⟨by rfl, ?_⟩) hS ?_
  rotate_left 1
  · intro wS hSw
    obtain ⟨a2, a4, a5, a6, a7, b0, b1, b2, b3, -⟩ := hSw
    go_simp
    try with_reducible rfl
  try simp only [Act.put, List.setIfInBounds_toArray, List.set_cons_zero, List.set_cons_succ]
  refine wpAnyH_take (i := 19) (oi := ⟨some 34, _, _, _, _, _⟩) (v := ?_) rfl (by decide +kernel) (by decide +kernel) (by decide +kernel) (fun _ _ _ h => h) (Or.inl ⟨by rfl, ?_⟩) hS ?_
  rotate_left 1
  · intro wS hSw
    obtain ⟨a2, a4, a5, a6, a7, b0, b1, b2, b3, -⟩ := hSw
    go_simp
    try with_reducible rfl
  try simp only [Act.put, List.setIfInBounds_toArray, List.set_cons_zero, List.set_cons_succ]
  refine wpAnyH_take (i := 20) (oi := ⟨some 35, _, _, _, _, _⟩) (v := ?_) rfl (by decide +kernel) (by decide +kernel) (by decide +kernel) (fun _ _ _ h => h) (Or.inl ⟨by rfl, ?_⟩) hS ?_
  rotate_left 1
  · intro wS hSw
    obtain ⟨a2, a4, a5, a6, a7, b0, b1, b2, b3, -⟩ := hSw
    go_simp
    try with_reducible rfl
  try simp only [Act.put, List.setIfInBounds_toArray, List.set_cons_zero, List.set_cons_succ]
  refine wpAnyH_take (i := 21) (oi := ⟨some 36, _, _, _, _, _⟩) (v := ?_) rfl (by decide +kernel) (by decide +kernel) (by decide +kernel) (fun _ _ _ h => h) (Or.inl ⟨by rfl, ?_⟩) hS ?_
  rotate_left 1
  · intro wS hSw
    obtain ⟨a2, a4, a5, a6, a7, b0, b1, b2, b3, -⟩ := hSw
    go_simp
    try with_reducible rfl
  try simp only [Act.put, List.setIfInBounds_toArray, List.set_cons_zero, List.set_cons_succ]
  refine wpAnyH_take (i := 22) (oi := ⟨some 37, _, _, _, _, _⟩) (v := ?_) rfl (by decide +kernel) (by decide +kernel) (by decide +kernel) (fun _ _ _ h => h) (Or.inl ⟨by rfl, ?_⟩) hS ?_
  rotate_left 1
  · intro wS hSw
    obtain ⟨a2, a4, a5, a6, a7, b0, b1, b2, b3, -⟩ := hSw
    go_simp
    try with_reducible rfl
  try simp only [Act.put, List.setIfInBounds_toArray, List.set_cons_zero, List.set_cons_succ]
  refine wpAnyH_take (i := 23) (oi := ⟨some 38, _, _, _, _, _⟩) (v := ?_) rfl (by decide +kernel) (by decide +kernel) (by decide +kernel) (fun _ _ _ h => h) (Or.inl ⟨by rfl, ?_⟩) hS ?_
  rotate_left 1
  · intro wS hSw
    obtain ⟨a2, a4, a5, a6, a7, b0, b1, b2, b3, -⟩ := hSw
    go_simp
    try with_reducible rfl
  try simp only [Act.put, List.setIfInBounds_toArray, List.set_cons_zero, List.set_cons_succ]
  refine wpAnyH_take (i := 24) (oi := ⟨some 39, _, _, _, _, _⟩) (v := ?_) rfl (by decide +kernel) (by decide +kernel) (by decide +kernel) (fun _ _ _ h => h) (Or.inl ⟨by rfl, ?_⟩) hS ?_
  rotate_left 1
  · intro wS hSw
    obtain ⟨a2, a4, a5, a6, a7, b0, b1, b2, b3, -⟩ := hSw
    go_simp
    try with_reducible rfl
  try simp only [Act.put, List.setIfInBounds_toArray, List.set_cons_zero, List.set_cons_succ]
  refine wpAnyH_take (i := 25) (oi := ⟨some 40, _, _, _, _, _⟩) (v := ?_) rfl (by decide +kernel) (by decide +kernel) (by decide +kernel) (fun _ _ _ h => h) (Or.inl ⟨by rfl, ?_⟩) hS ?_
  rotate_left 1
  · intro wS hSw
    obtain ⟨a2, a4, a5, a6, a7, b0, b1, b2, b3, -⟩ := hSw
    go_simp
    try with_reducible rfl
  try simp only [Act.put, List.setIfInBounds_toArray, List.set_cons_zero, List.set_cons_succ]
  refine wpAnyH_take (i := 28) (oi := ⟨some 43, _, _, _, _, _⟩) (v := ?_) rfl (by decide +kernel) (by decide +kernel) (by decide +kernel) (fun _ _ _ h => h) (Or.inl ⟨by rfl, ?_⟩) hS ?_
  rotate_left 1
  · intro wS hSw
    obtain ⟨a2, a4, a5, a6, a7, b0, b1, b2, b3, -⟩ := hSw
    go_simp
    try with_reducible rfl
  try simp only [Act.put, List.setIfInBounds_toArray, List.set_cons_zero, List.set_cons_succ]
  refine wpAnyH_ready (rs := [26]) (by decide +kernel) (by simp) ?_
  refine AllReadyH.cons (o := ⟨some 41, _, _, _, _, _⟩) rfl (fun K hK => ?_) AllReadyH.nil
  rw [if_pos (by rfl)]
  go_simp
  refine hK.out _ _ ((W3.out.alloc _).drew.cells) (fun hS => ?_)
  clear hK K
  try simp only [Act.put, List.setIfInBounds_toArray, List.set_cons_zero, List.set_cons_succ]
  refine wpAnyH_ready (rs := [27]) (by decide +kernel) (by simp) ?_
  refine AllReadyH.cons (o := ⟨some 42, _, _, _, _, _⟩) rfl (fun K hK => ?_) AllReadyH.nil
  rw [if_pos (by rfl)]
  go_simp
  refine hK.out _ _ ((W3.out.alloc _).drew.cells) (fun hS => ?_)
  clear hK K
  try simp only [Act.put, List.setIfInBounds_toArray, List.set_cons_zero, List.set_cons_succ]
  refine wpAnyH_ready (rs := [29]) (by decide +kernel) (by simp) ?_
  refine AllReadyH.cons (o := ⟨some 44, _, _, _, _, _⟩) rfl (fun K hK => ?_) AllReadyH.nil
  rw [if_pos (by rfl)]
  go_simp
  with_reducible refine HPut.out.mono ?_
  rintro r w5 ⟨v5, rfl, hcv, hW5⟩
  have hcv5 := hcv.out
  refine hK.out _ _ (hW5.cells) (fun hS => ?_)
  clear hK K
  try simp only [Act.put, List.setIfInBounds_toArray, List.set_cons_zero, List.set_cons_succ]
  refine wpAnyH_ready (rs := [30]) (by decide +kernel) (by simp) ?_
  refine AllReadyH.cons (o := ⟨some 45, _, _, _, _, _⟩) rfl (fun K hK => ?_) AllReadyH.nil
  rw [if_pos (by rfl)]
  go_simp
  refine hK.out _ _ (hW5.cells) (fun hS => ?_)
  clear hK K
  try simp only [Act.put, List.setIfInBounds_toArray, List.set_cons_zero, List.set_cons_succ]
  refine wpAnyH_take (i := 31) (oi := ⟨some 46, _, _, _, _, _⟩) (v := ?_) rfl (by decide +kernel) (by decide +kernel) (by decide +kernel) (fun _ _ _ h => h) (Or.inl ⟨by rfl, ?_⟩) hS ?_
  rotate_left 1
  · intro wS hSw
    obtain ⟨a2, a4, a5, a6, a7, b0, b1, b2, b3, -⟩ := hSw
    go_simp
    try with_reducible rfl
  try simp only [Act.put, List.setIfInBounds_toArray, List.set_cons_zero, List.set_cons_succ]
  refine wpAnyH_take (i := 32) (oi := ⟨some 47, _, _, _, _, _⟩) (v := ?_) rfl (by decide +kernel) (by decide +kernel) (by decide +kernel) (fun _ _ _ h => h) (Or.inl ⟨by rfl, ?_⟩) hS ?_
  rotate_left 1
  · intro wS hSw
    obtain ⟨a2, a4, a5, a6, a7, b0, b1, b2, b3, -⟩ := hSw
    go_simp
    try with_reducible rfl
  try simp only [Act.put, List.setIfInBounds_toArray, List.set_cons_zero, List.set_cons_succ]
  refine wpAnyH_take (i := 33) (oi := ⟨some 48, _, _, _, _, _⟩) (v := ?_) rfl (by decide +kernel) (by decide +kernel) (by decide +kernel) (fun _ _ _ h => h) (Or.inl ⟨by rfl, ?_⟩) hS ?_
  rotate_left 1
  · intro wS hSw
    obtain ⟨a2, a4, a5, a6, a7, b0, b1, b2, b3, -⟩ := hSw
    go_simp
    try with_reducible rfl
  try simp only [Act.put, List.setIfInBounds_toArray, List.set_cons_zero, List.set_cons_succ]
  refine wpAnyH_take (i := 34) (oi := ⟨some 49, _, _, _, _, _⟩) (v := ?_) rfl (by decide +kernel) (by decide +kernel) (by decide +kernel) (fun _ _ _ h => h) (Or.inl ⟨by rfl, ?_⟩) hS ?_
  rotate_left 1
  · intro wS hSw
    obtain ⟨a2, a4, a5, a6, a7, b0, b1, b2, b3, -⟩ := hSw
    go_simp
    try with_reducible rfl
  try simp only [Act.put, List.setIfInBounds_toArray, List.set_cons_zero, List.set_cons_succ]
  refine wpAnyH_ready (rs := [35]) (by decide +kernel) (by simp) ?_
  refine AllReadyH.cons (o := ⟨some 50, _, _, _, _, _⟩) rfl (fun K hK => ?_) AllReadyH.nil
  rw [if_pos (by rfl)]
  go_simp
  with_reducible refine (w17_size _).mono ?_
  rintro r w6 ⟨rfl, b6⟩
  refine hK.out _ _ ((hW5.next b6).cells) (fun hS => ?_)
  clear hK K
  try simp only [Act.put, List.setIfInBounds_toArray, List.set_cons_zero, List.set_cons_succ]
  refine wpAnyH_take (i := 36) (oi := ⟨some 51, _, _, _, _, _⟩) (v := ?_) rfl (by decide +kernel) (by decide +kernel) (by decide +kernel) (fun _ _ _ h => h) (Or.inl ⟨by rfl, ?_⟩) hS ?_
  rotate_left 1
  · intro wS hSw
    obtain ⟨a2, a4, a5, a6, a7, b0, b1, b2, b3, -⟩ := hSw
    go_simp
    try with_reducible rfl
  try simp only [Act.put, List.setIfInBounds_toArray, List.set_cons_zero, List.set_cons_succ]
  refine wpAnyH_take (i := 37) (oi := ⟨some 52, _, _, _, _, _⟩) (v := ?_) rfl (by decide +kernel) (by decide +kernel) (by decide +kernel) (fun _ _ _ h => h) (Or.inl ⟨by rfl, ?_⟩) hS ?_
  rotate_left 1
  · intro wS hSw
    obtain ⟨a2, a4, a5, a6, a7, b0, b1, b2, b3, -⟩ := hSw
    go_simp
    try with_reducible rfl
  try simp only [Act.put, List.setIfInBounds_toArray, List.set_cons_zero, List.set_cons_succ]
  refine wpAnyH_take (i := 38) (oi := ⟨some 0, _, _, _, _, _⟩) (v := ?_) rfl (by decide +kernel) (by decide +kernel) (by decide +kernel) (fun _ _ _ h => h) (Or.inl ⟨by rfl, ?_⟩) hS ?_
  rotate_left 1
  · intro wS hSw
    obtain ⟨a2, a4, a5, a6, a7, b0, b1, b2, b3, -⟩ := hSw
    go_simp
    try with_reducible rfl
  try simp only [Act.put, List.setIfInBounds_toArray, List.set_cons_zero]
  refine wpAnyH_done (by kernel_rfl) ?_ _
  have HF := Lib.hid hS.w.b
  clear hS
  go_wp2
  go_ret
  exact ⟨rfl, HF.out⟩
end Go.Proofs.YtlfelhhghomglaaDoor
