/- The document's writer (package truchmanref23): Do, way by way. -/
import Derived.Test.YtmcklfndnjagiaaDoorCwRd
import Derived.Test.YtmcklfndnjagiaaDoorCwRe
import Derived.Test.YtmcklfndnjagiaaDoorCwRf
namespace Go.Proofs.YtmcklfndnjagiaaDoor
open Go Go.RowKit
set_option linter.unusedVariables false

theorem rwbegun_any (s : WT) (v : Value) (o : WO) (w : World) (h : PIn w v s.l.reverse) (hl : s.l.length ≤ 1099511627776) :
    Calls Tryd.prog 23 #[stV (bA s.out) v s.er, opV o] w fun e w' => ∃ a n c, e = .returned (stV (bA s.out) (.slice a n c) s.er) ∧ PIn w' (.slice a n c) (wBegun s o).l.reverse ∧ Below w.heap.size w w' := by
  obtain ⟨a, cap, rfl⟩ := h.form
  unfold wBegun
  by_cases h1 : o.k = 123
  · rw [if_pos h1]
    refine (rwbegun_strt (bA s.out) a _ cap s.er o _ w h (by rw [List.length_reverse]; exact hl) h1).mono ?_
    rintro e w' ⟨v', he, hp, hb⟩
    obtain ⟨a', c', rfl⟩ := hp.form
    exact ⟨_, _, _, he, by show PIn w' _ (_ :: s.l).reverse; rw [List.reverse_cons]; exact hp, hb⟩
  rw [if_neg h1]
  by_cases h2 : o.k = 91
  · rw [if_pos h2]
    refine (rwbegun_list (bA s.out) a _ cap s.er o _ w h (by rw [List.length_reverse]; exact hl) h2).mono ?_
    rintro e w' ⟨v', he, hp, hb⟩
    obtain ⟨a', c', rfl⟩ := hp.form
    exact ⟨_, _, _, he, by show PIn w' _ (_ :: s.l).reverse; rw [List.reverse_cons]; exact hp, hb⟩
  · rw [if_neg h2]
    refine (rwbegun_no (bA s.out) a _ cap s.er o w h1 h2).mono ?_
    rintro e w' ⟨he, hb⟩
    exact ⟨_, _, _, he, h.below hb, hb⟩
/-- While Do is at a place: the state, the op, the state to tell, the place in its block, what was begun. -/
structure DoP (b : Bool) (w : World) (A : ByteArray) (v : Value) (o : WO) (l : List WP) (H : Nat) (p : WP) (wx : World) : Prop where
  d : BdO w A v 0 o wx
  p : PlT wx H p
  i : PIn wx v l
  h : w.heap.size + 2 < H
  n : b = true → v.ownBlock ≠ some H
section
variable {b : Bool} {w wx w' : World} {A : ByteArray} {v : Value} {o : WO} {l : List WP} {H : Nat} {p : WP}
theorem PIn.form3 (h : PIn w v l) : ∃ a n c, v = .slice a n c := by obtain ⟨a, c, h⟩ := h.form; exact ⟨_, _, _, h⟩
theorem PIn.keepO (h : PIn w v l) (hk : ∀ g, v.ownBlock = some g → g < w.heap.size → w'.heap[g]? = w.heap[g]?) : PIn w' v l := by
  obtain ⟨a, cap, rfl, h2, h3⟩ := h
  refine ⟨a, cap, rfl, h2, h3.imp id ?_⟩
  rintro ⟨g, cur, e1, e2, e3⟩
  exact ⟨g, cur, e1, (hk g (by rw [e1]; rfl) (lt_of_block e2)).trans e2, e3⟩
theorem DoP.next (h : DoP b w A v o l H p wx) (hb : Below wx.heap.size wx w') : DoP b w A v o l H p w' := ⟨h.d.next hb, h.p.below hb, h.i.below hb, h.h, h.n⟩
theorem DoP.drew (h : DoP b w A v o l H p wx) : DoP b w A v o l H p wx.drew := h.next (Below.drewN (Below.refl _ _) 1)
theorem DoP.atH (h : DoP true w A v o l H p wx) (k : Nat) (x : Value) {q : WP} (hq : PlT (wx.setCell ⟨H, k, none⟩ x) H q) : DoP true w A v o l H q (wx.setCell ⟨H, k, none⟩ x) := by
  have hk : ∀ g, g ≠ H → (wx.setCell ⟨H, k, none⟩ x).heap[g]? = wx.heap[g]? := fun g hg => RowKit.Below.heap_setCell _ _ _ _ hg
  have hh := h.h
  have hsz := h.d.b.size
  exact ⟨⟨(hk _ (by omega)).trans h.d.s, (hk _ (by omega)).trans h.d.o, (hk _ (by omega)).trans h.d.q, h.d.b.setCell (show w.heap.size ≤ H by omega) _⟩, hq, h.i.keepO fun g hg _ => hk g (fun e => h.n rfl (e ▸ hg)), h.h, h.n⟩
theorem DoP.set0 (h : DoP b w A v o l H p wx) (x : ByteArray) : DoP b w x v o l H p (wx.setCell ⟨w.heap.size, 0, none⟩ (.string x)) :=
  ⟨h.d.set0 x, (RowKit.Below.heap_setCell _ _ _ _ (show H ≠ w.heap.size by have := h.h; omega)).trans h.p, h.i.st1 h.d.s _, h.h, h.n⟩
theorem DoP.left (h : DoP true w A v o l H p wx) (x : Int) : DoP true w A v o l H { p with left := x } (wx.setCell ⟨H, 2, none⟩ (.int .i64 x)) := h.atH 2 _ (heap_setCell_block h.p _)
theorem DoP.last (h : DoP true w A v o l H p wx) (x : Int) : DoP true w A v o l H { p with last := x } (wx.setCell ⟨H, 1, none⟩ (.int .i64 x)) := h.atH 1 _ (heap_setCell_block h.p _)
theorem DoP.new (h : BdO w A v 0 o wx) (hi : PIn wx v l) (hl : l ≠ []) (p : WP) : DoP true w A v o l wx.heap.size p (wx.alloc (.cells #[.bool p.li, .int .i64 p.last, .int .i64 p.left, .int .u8 (p.kd : Nat)] 60)) := by
  have hb := new_grow wx (.cells #[.bool p.li, .int .i64 p.last, .int .i64 p.left, .int .u8 (p.kd : Nat)] 60)
  refine ⟨h.next hb, new_pl wx p, hi.below hb, h.q.lt, fun _ e => ?_⟩
  obtain ⟨a, cap, rfl, _, h3⟩ := hi
  obtain ⟨g, cur, rfl, h4, _⟩ := h3.resolve_left hl
  have : g = wx.heap.size := by simpa [Value.ownBlock] using e
  have := lt_of_block h4
  omega
/-- What was begun, anew, stored. -/
theorem DoP.set1 {v' : Value} {l' : List WP} (h : DoP b w A v o l H p wx) (hi : PIn wx v' l') : DoP false w A v' o l' H p (wx.setCell ⟨w.heap.size, 1, none⟩ v') :=
  ⟨h.d.set1 v', (RowKit.Below.heap_setCell _ _ _ _ (show H ≠ w.heap.size by have := h.h; omega)).trans h.p, hi.st1 h.d.s _, h.h, fun e => by cases e⟩
/-- What is read in the drawn regions: the op, the place. -/
@[reducible] def DpC (w : World) (o : WO) (H : Nat) (p : WP) (wx : World) : Prop :=
  wx.cell? ⟨w.heap.size + 1, 0, none⟩ = some (.int .u8 (o.k : Nat)) ∧ wx.cell? ⟨w.heap.size + 1, 1, none⟩ = some (.int .i64 o.id) ∧ wx.cell? ⟨w.heap.size + 1, 2, none⟩ = some (.int .i64 o.n) ∧ wx.cell? ⟨w.heap.size + 1, 3, none⟩ = some (.int .u8 (o.wh : Nat)) ∧ wx.cell? ⟨w.heap.size + 1, 4, none⟩ = some (.int .u64 (o.bt : Nat)) ∧ wx.cell? ⟨w.heap.size + 1, 5, none⟩ = some (.string (bA o.tx)) ∧
  wx.cell? ⟨H, 0, none⟩ = some (.bool p.li) ∧ wx.cell? ⟨H, 1, none⟩ = some (.int .i64 p.last) ∧ wx.cell? ⟨H, 2, none⟩ = some (.int .i64 p.left) ∧ wx.cell? ⟨H, 3, none⟩ = some (.int .u8 (p.kd : Nat)) ∧ True
theorem DoP.c (h : DoP b w A v o l H p wx) : DpC w o H p wx := ⟨h.d.o.c.1, h.d.o.c.2.1, h.d.o.c.2.2.1, h.d.o.c.2.2.2.1, h.d.o.c.2.2.2.2.1, h.d.o.c.2.2.2.2.2, h.p.c.1, h.p.c.2.1, h.p.c.2.2.1, h.p.c.2.2.2, trivial⟩
end
/-- A piece of Do's frame that is as it was. -/
theorem ret_stv {A B : ByteArray} {v : Value} {e : Int} (h : A = B) : Ending.returned (stV A v e) = .returned (stV B v e) := by rw [h]
section
variable {w : World} {A : ByteArray} {a : Option Addr} {n cap : Nat} {o : WO}
set_option maxRecDepth 20000 in
theorem rwdo_err {er : Int} (he : ¬ er = 0) : Calls Tryd.prog 9 #[stV A (.slice a n cap) er, opV o] w fun e w' => e = .returned (stV A (.slice a n cap) er) ∧ Below w.heap.size w w' := by
  have p1 : (er != 0) = true := bne_iff_ne.mpr he
  have N0 := bdo_new w A (.slice a n cap) er o
  unfold stV opV opC at *
  clear he
  go_enter Tryd.func9, Tryd.ntmps9
  go_upto_region 1 with fail
  generalize (((w.alloc (.cells #[.string A, .slice a n cap, .int .i64 er] 29)).alloc (.cells #[.int .u8 (o.k : Nat), .int .i64 o.id, .int .i64 o.n, .int .u8 (o.wh : Nat), .int .u64 (o.bt : Nat), .string (bA o.tx)] 32)).alloc (.cells #[.string ⟨#[]⟩, .slice none 0 0, .int .i64 0] 29)) = W at *
  have a00 := N0.s.c0; have a01 := N0.s.c1; have a02 := N0.s.c2
  obtain ⟨o00, o01, o02, o03, o04, o05⟩ := N0.o.c
  have HW := Lib.hid N0
  clear N0
  have q0 := HW.out.q.c0; have q1 := HW.out.q.c1; have q2 := HW.out.q.c2; have qf := HW.out.q.fr
  try simp only []
  repeat (first | go_values | go_skip | go_guarded | go_step | go_upon)
  refine bodyPost_ret (st_result Tryd.results9 (BdO.fin HW.out _ _ _).1 rfl) rfl ?_
  exact ⟨rfl, (BdO.fin HW.out _ _ _).2⟩
set_option maxRecDepth 20000 in
theorem rwdo_end (s : WT) (v : Value) (he : s.er = 0) (hk : o.k = 101) (h : PIn w v s.l.reverse) (hl : s.l.length ≤ 1099511627776) (hA : s.out.length ≤ 140737488355328) : Calls Tryd.prog 9 #[stV (bA s.out) v s.er, opV o] w fun e w' => ∃ v', e = .returned (stV (bA (wEnd s).out) v' (wEnd s).er) ∧ PIn w' v' (wEnd s).l.reverse ∧ Below w.heap.size w w' := by
  obtain ⟨a, cap, rfl⟩ := h.form
  rw [he]
  have hE := fun w1 (hp : PIn w1 (.slice a s.l.reverse.length cap) s.l.reverse) => rwend_any s _ w1 hp hl hA
  rw [he] at hE
  have HE := Lib.hid hE
  have p1 : ((o.k : Int) == 101) = true := by rw [hk]; rfl
  generalize s.l.reverse.length = n at *
  obtain ⟨A, hA2⟩ : ∃ A, A = bA s.out := ⟨_, rfl⟩
  rw [← hA2] at HE ⊢
  have N0 := bdo_new w A (.slice a n cap) 0 o
  unfold stV opV opC at *
  clear hk he hA2 hE
  go_enter Tryd.func9, Tryd.ntmps9
  go_upto_region 1 with fail
  generalize (((w.alloc (.cells #[.string A, .slice a n cap, .int .i64 0] 29)).alloc (.cells #[.int .u8 (o.k : Nat), .int .i64 o.id, .int .i64 o.n, .int .u8 (o.wh : Nat), .int .u64 (o.bt : Nat), .string (bA o.tx)] 32)).alloc (.cells #[.string ⟨#[]⟩, .slice none 0 0, .int .i64 0] 29)) = W at *
  have a00 := N0.s.c0; have a01 := N0.s.c1; have a02 := N0.s.c2
  obtain ⟨o00, o01, o02, o03, o04, o05⟩ := N0.o.c
  have HP := Lib.hid (h.below N0.b)
  have HW := Lib.hid N0
  clear N0 h
  go_wp2_with fail
  refine (HE.out _ HP.out).mono ?_
  rintro e w1 ⟨v1, rfl, hp1, hb1⟩
  have H1 := Lib.hid (HW.out.next hb1)
  have P1 := Lib.hid hp1
  obtain ⟨a1, n1, c1, hv1⟩ := hp1.form3
  subst hv1
  clear hb1 hp1
  have q0 := H1.out.q.c0; have q1 := H1.out.q.c1; have q2 := H1.out.q.c2; have qf := H1.out.q.fr
  try simp only []
  repeat (first | go_values | go_skip | go_guarded | go_step | go_upon)
  refine bodyPost_ret (st_result Tryd.results9 (BdO.fin H1.out _ _ _).1 rfl) rfl ?_
  exact ⟨_, rfl, P1.out.st3 H1.out.q _ _ _, (BdO.fin H1.out _ _ _).2⟩
set_option maxRecDepth 20000 in
theorem rwdo_bad (hk : ¬ o.k = 101) {c : Int} (hA : ∀ w, Calls Tryd.prog 21 #[stV A (.slice a n cap) 0, opV o] w fun e w' => e = .returned (.int .i64 c) ∧ Below w.heap.size w w') (hc : ¬ c = 0) : Calls Tryd.prog 9 #[stV A (.slice a n cap) 0, opV o] w fun e w' => e = .returned (stV A (.slice a n cap) c) ∧ Below w.heap.size w w' := by
  unfold stV opV at hA
  unfold opC at hA
  have HA := Lib.hid hA
  have p0 : ((o.k : Int) == 101) = false := beq_eq_false_iff_ne.mpr (by omega)
  have p1 : (c != 0) = true := bne_iff_ne.mpr hc
  have HBAD := Lib.hid (fun w => rwbad_any A a n cap 0 c w)
  have N0 := bdo_new w A (.slice a n cap) 0 o
  unfold stV opV opC at *
  clear hk hA hc
  go_enter Tryd.func9, Tryd.ntmps9
  go_upto_region 1 with fail
  generalize (((w.alloc (.cells #[.string A, .slice a n cap, .int .i64 0] 29)).alloc (.cells #[.int .u8 (o.k : Nat), .int .i64 o.id, .int .i64 o.n, .int .u8 (o.wh : Nat), .int .u64 (o.bt : Nat), .string (bA o.tx)] 32)).alloc (.cells #[.string ⟨#[]⟩, .slice none 0 0, .int .i64 0] 29)) = W at *
  have a00 := N0.s.c0; have a01 := N0.s.c1; have a02 := N0.s.c2
  obtain ⟨o00, o01, o02, o03, o04, o05⟩ := N0.o.c
  have HW := Lib.hid N0
  clear N0
  go_wp2_with fail
  refine (HA.out _).mono ?_
  rintro e w1 ⟨rfl, hb1⟩
  have N1 := HW.out.next hb1
  clear hb1 a00 a01 a02 o00 o01 o02 o03 o04 o05
  have a10 := N1.s.c0; have a11 := N1.s.c1; have a12 := N1.s.c2
  obtain ⟨o10, o11, o12, o13, o14, o15⟩ := N1.o.c
  have H1 := Lib.hid N1
  clear N1
  go_wp2_with fail
  refine (HBAD.out _).mono ?_
  rintro e w9 ⟨rfl, hb9⟩
  have H9 := Lib.hid (H1.out.next hb9)
  clear hb9
  have q0 := H9.out.q.c0; have q1 := H9.out.q.c1; have q2 := H9.out.q.c2; have qf := H9.out.q.fr
  try simp only []
  repeat (first | go_values | go_skip | go_guarded | go_step | go_upon)
  refine bodyPost_ret (st_result Tryd.results9 (BdO.fin H9.out _ _ _).1 rfl) rfl ?_
  exact ⟨rfl, (BdO.fin H9.out _ _ _).2⟩
set_option maxRecDepth 20000 in
theorem rwdo_first (hk : ¬ o.k = 101) {c : Int} (hA : ∀ w, Calls Tryd.prog 21 #[stV A (.slice a n cap) 0, opV o] w fun e w' => e = .returned (.int .i64 c) ∧ Below w.heap.size w w') (hc : c = 0) (hn : n = 0) (h1 : ¬ o.k = 123) : Calls Tryd.prog 9 #[stV A (.slice a n cap) 0, opV o] w fun e w' => e = .returned (stV A (.slice a n cap) 12) ∧ Below w.heap.size w w' := by
  subst hc hn
  unfold stV opV at hA
  unfold opC at hA
  have HA := Lib.hid hA
  have p0 : ((o.k : Int) == 101) = false := beq_eq_false_iff_ne.mpr (by omega)
  have p1 : ((o.k : Int) != 123) = true := bne_iff_ne.mpr (by omega)
  have HBAD := Lib.hid (fun w => rwbad_any A a 0 cap 0 12 w)
  have N0 := bdo_new w A (.slice a 0 cap) 0 o
  unfold stV opV opC at *
  clear hk hA h1
  go_enter Tryd.func9, Tryd.ntmps9
  go_upto_region 1 with fail
  generalize (((w.alloc (.cells #[.string A, .slice a 0 cap, .int .i64 0] 29)).alloc (.cells #[.int .u8 (o.k : Nat), .int .i64 o.id, .int .i64 o.n, .int .u8 (o.wh : Nat), .int .u64 (o.bt : Nat), .string (bA o.tx)] 32)).alloc (.cells #[.string ⟨#[]⟩, .slice none 0 0, .int .i64 0] 29)) = W at *
  have a00 := N0.s.c0; have a01 := N0.s.c1; have a02 := N0.s.c2
  obtain ⟨o00, o01, o02, o03, o04, o05⟩ := N0.o.c
  have HW := Lib.hid N0
  clear N0
  go_wp2_with fail
  refine (HA.out _).mono ?_
  rintro e w1 ⟨rfl, hb1⟩
  have N1 := HW.out.next hb1
  clear hb1 a00 a01 a02 o00 o01 o02 o03 o04 o05
  have a10 := N1.s.c0; have a11 := N1.s.c1; have a12 := N1.s.c2
  obtain ⟨o10, o11, o12, o13, o14, o15⟩ := N1.o.c
  have H1 := Lib.hid N1
  clear N1
  go_wp2_with fail
  refine (HBAD.out _).mono ?_
  rintro e w9 ⟨rfl, hb9⟩
  have H9 := Lib.hid (H1.out.next hb9)
  clear hb9
  have q0 := H9.out.q.c0; have q1 := H9.out.q.c1; have q2 := H9.out.q.c2; have qf := H9.out.q.fr
  try simp only []
  repeat (first | go_values | go_skip | go_guarded | go_step | go_upon)
  refine bodyPost_ret (st_result Tryd.results9 (BdO.fin H9.out _ _ _).1 rfl) rfl ?_
  exact ⟨rfl, (BdO.fin H9.out _ _ _).2⟩
set_option maxRecDepth 20000 in
theorem rwdo_begin (hk : ¬ o.k = 101) {c : Int} (hA : ∀ w, Calls Tryd.prog 21 #[stV A (.slice a n cap) 0, opV o] w fun e w' => e = .returned (.int .i64 c) ∧ Below w.heap.size w w') (hc : c = 0) (hn : n = 0) (h1 : o.k = 123) {l : List WP} (hB : ∀ w1, Below w.heap.size w w1 → Calls Tryd.prog 23 #[stV A (.slice a n cap) 0, opV o] w1 fun e w' => ∃ a n c, e = .returned (stV A (.slice a n c) 0) ∧ PIn w' (.slice a n c) l ∧ Below w1.heap.size w1 w') : Calls Tryd.prog 9 #[stV A (.slice a n cap) 0, opV o] w fun e w' => ∃ a n c, e = .returned (stV A (.slice a n c) 0) ∧ PIn w' (.slice a n c) l ∧ Below w.heap.size w w' := by
  subst hc hn
  unfold stV opV at hA hB
  unfold opC at hA hB
  have HA := Lib.hid hA
  have p0 : ((o.k : Int) == 101) = false := beq_eq_false_iff_ne.mpr (by omega)
  have p1 : ((o.k : Int) != 123) = false := by rw [h1]; rfl
  have HB := Lib.hid hB
  have N0 := bdo_new w A (.slice a 0 cap) 0 o
  unfold stV opV opC at *
  clear hk hA h1 hB
  go_enter Tryd.func9, Tryd.ntmps9
  go_upto_region 1 with fail
  generalize (((w.alloc (.cells #[.string A, .slice a 0 cap, .int .i64 0] 29)).alloc (.cells #[.int .u8 (o.k : Nat), .int .i64 o.id, .int .i64 o.n, .int .u8 (o.wh : Nat), .int .u64 (o.bt : Nat), .string (bA o.tx)] 32)).alloc (.cells #[.string ⟨#[]⟩, .slice none 0 0, .int .i64 0] 29)) = W at *
  have a00 := N0.s.c0; have a01 := N0.s.c1; have a02 := N0.s.c2
  obtain ⟨o00, o01, o02, o03, o04, o05⟩ := N0.o.c
  have HW := Lib.hid N0
  clear N0
  go_wp2_with fail
  refine (HA.out _).mono ?_
  rintro e w1 ⟨rfl, hb1⟩
  have N1 := HW.out.next hb1
  clear hb1 a00 a01 a02 o00 o01 o02 o03 o04 o05
  have a10 := N1.s.c0; have a11 := N1.s.c1; have a12 := N1.s.c2
  obtain ⟨o10, o11, o12, o13, o14, o15⟩ := N1.o.c
  have H1 := Lib.hid N1
  clear N1
  go_wp2_with fail
  refine (HB.out _ H1.out.b).mono ?_
  rintro e w2 ⟨a2, n2, c2, rfl, hp2, hb2⟩
  have H2 := Lib.hid (H1.out.next hb2)
  have P2 := Lib.hid hp2
  clear hb2 hp2
  have q0 := H2.out.q.c0; have q1 := H2.out.q.c1; have q2 := H2.out.q.c2; have qf := H2.out.q.fr
  try simp only []
  repeat (first | go_values | go_skip | go_guarded | go_step | go_upon)
  refine bodyPost_ret (st_result Tryd.results9 (BdO.fin H2.out _ _ _).1 rfl) rfl ?_
  exact ⟨_, _, _, rfl, P2.out.st3 H2.out.q _ _ _, (BdO.fin H2.out _ _ _).2⟩
end
set_option maxRecDepth 20000 in
set_option maxHeartbeats 2000000 in
theorem rwdo_full (w : World) (A : ByteArray) (g m cap : Nat) (o : WO) (p : WP) (l : List WP) (hi : PIn w (.slice (some ⟨g, 0, none⟩) (m + 1) cap) (l ++ [p])) (ht : TopF w g m p) (hm : m ≤ 1099511627776) (hl : l.length ≤ 1099511627776)  (hk : ¬ o.k = 101) {c : Int} (hA : ∀ w, Calls Tryd.prog 21 #[stV A (.slice (some ⟨g, 0, none⟩) (m + 1) cap) 0, opV o] w fun e w' => e = .returned (.int .i64 c) ∧ Below w.heap.size w w') (hc : c = 0) (hli : p.li = true) (h0 : p.left = 0) : Calls Tryd.prog 9 #[stV A (.slice (some ⟨g, 0, none⟩) (m + 1) cap) 0, opV o] w fun e w' => e = .returned (stV A (.slice (some ⟨g, 0, none⟩) (m + 1) cap) 12) ∧ Below w.heap.size w w' := by
  subst hc
  have HLI := Lib.hid hli
  clear hli
  have HBAD := Lib.hid (fun w => rwbad_any A (some ⟨g, 0, none⟩) (m + 1) cap 0 12 w)
  have e0 : (p.left == 0) = true := by rw [h0]; rfl
  clear h0
  unfold stV opV at hA
  unfold opC at hA
  have HA := Lib.hid hA
  have p0 : ((o.k : Int) == 101) = false := beq_eq_false_iff_ne.mpr (by omega)
  have z0 : (((m + 1 : Nat) : Int) == 0) = false := beq_eq_false_iff_ne.mpr (by omega)
  have z0' : decide (m + 1 = 0) = false := decide_eq_false (by omega)
  have zw : IntKind.i64.wrap (((m + 1 : Nat) : Int) - 1) = (m : Int) := by rw [IntWalk.i64_in _ (by omega)]; omega
  have zw2 : IntKind.i64.wrap (m : Int) = (m : Int) := IntWalk.i64_in _ (by omega)
  have z1 : (0 : Int) ≤ (m : Int) := by omega
  have z2 : (m : Int) < ((m + 1 : Nat) : Int) := by omega
  have hT := fun w' hb => ht.below (w' := w') hb
  have N0 := bdo_new w A (.slice (some ⟨g, 0, none⟩) (m + 1) cap) 0 o
  unfold stV opV opC at *
  clear hk hA
  go_enter Tryd.func9, Tryd.ntmps9
  go_upto_region 1 with fail
  generalize (((w.alloc (.cells #[.string A, .slice (some ⟨g, 0, none⟩) (m + 1) cap, .int .i64 0] 29)).alloc (.cells #[.int .u8 (o.k : Nat), .int .i64 o.id, .int .i64 o.n, .int .u8 (o.wh : Nat), .int .u64 (o.bt : Nat), .string (bA o.tx)] 32)).alloc (.cells #[.string ⟨#[]⟩, .slice none 0 0, .int .i64 0] 29)) = W at *
  have a00 := N0.s.c0; have a01 := N0.s.c1; have a02 := N0.s.c2
  obtain ⟨o00, o01, o02, o03, o04, o05⟩ := N0.o.c
  have HT := Lib.hid hT
  have HI := Lib.hid (fun w1 (hb : Below w.heap.size w w1) => hi.below hb)
  have HW := Lib.hid N0
  clear N0 hi hT ht
  go_wp2_with fail
  refine (HA.out _).mono ?_
  rintro e w1 ⟨rfl, hb1⟩
  have N1 := HW.out.next hb1
  clear hb1 a00 a01 a02 o00 o01 o02 o03 o04 o05
  have a10 := N1.s.c0; have a11 := N1.s.c1; have a12 := N1.s.c2
  obtain ⟨o10, o11, o12, o13, o14, o15⟩ := N1.o.c
  have T1 := HT.out _ N1.b
  have t0 := T1.c0; have t1 := T1.c1; have t2 := T1.c2; have t3 := T1.c3
  have H1 := Lib.hid N1
  clear N1 T1
  have HD := Lib.hid (DoP.new H1.out (HI.out _ H1.out.b) (by simp) p)
  go_upto_region 13 with fail
  generalize hw2 : w1.alloc (.cells #[.bool p.li, .int .i64 p.last, .int .i64 p.left, .int .u8 (p.kd : Nat)] 60) = w2 at *
  clear hw2
  generalize w1.heap.size = H at *
  clear a10 a11 a12 o10 o11 o12 o13 o14 o15 t0 t1 t2 t3
  have pc := HD.out.p.c.1; have pl := HD.out.p.c.2.2.1
  rw [HLI.out] at pc
  go_wp2_with fail
  refine wp_region_held_drew (S := fun wx => DpC w o H p wx) (by kernel_rfl) HD.out.drew.c (fun hS => ?_)
  have HD := Lib.hid HD.out.drew
  clear pc pl
  generalize w2.drew = w3 at *
  refine wpAnyH_take (i := 0) (oi := ⟨some 47, _, _, _, _, _⟩) (v := ?_) rfl (by decide +kernel) (by decide +kernel) (by decide +kernel) (fun _ _ _ h => h) (Or.inl ⟨by rfl, ?_⟩) hS ?_
  rotate_left 1
  · intro wS hSw
    obtain ⟨s0, s1, s2, s3, s4, s5, s6, s7, s8, s9, -⟩ := hSw
    go_simp
    try with_reducible rfl
  try simp only [Act.put, List.setIfInBounds_toArray, List.set_cons_zero, List.set_cons_succ]
  refine wpAnyH_take (i := 1) (oi := ⟨some 48, _, _, _, _, _⟩) (v := ?_) rfl (by decide +kernel) (by decide +kernel) (by decide +kernel) (fun _ _ _ h => h) (Or.inl ⟨by rfl, ?_⟩) hS ?_
  rotate_left 1
  · intro wS hSw
    obtain ⟨s0, s1, s2, s3, s4, s5, s6, s7, s8, s9, -⟩ := hSw
    go_simp
    try with_reducible rfl
  try simp only [Act.put, List.setIfInBounds_toArray, List.set_cons_zero, List.set_cons_succ]
  refine wpAnyH_take (i := 2) (oi := ⟨some 49, _, _, _, _, _⟩) (v := ?_) rfl (by decide +kernel) (by decide +kernel) (by decide +kernel) (fun _ _ _ h => h) (Or.inl ⟨by rfl, ?_⟩) hS ?_
  rotate_left 1
  · intro wS hSw
    obtain ⟨s0, s1, s2, s3, s4, s5, s6, s7, s8, s9, -⟩ := hSw
    go_simp
    try with_reducible rfl
  try simp only [Act.put, List.setIfInBounds_toArray, List.set_cons_zero, List.set_cons_succ]
  refine wpAnyH_take (i := 3) (oi := ⟨some 50, _, _, _, _, _⟩) (v := ?_) rfl (by decide +kernel) (by decide +kernel) (by decide +kernel) (fun _ _ _ h => h) (Or.inl ⟨by rfl, ?_⟩) hS ?_
  rotate_left 1
  · intro wS hSw
    obtain ⟨s0, s1, s2, s3, s4, s5, s6, s7, s8, s9, -⟩ := hSw
    go_simp
    try with_reducible rfl
  try simp only [Act.put, List.setIfInBounds_toArray, List.set_cons_zero, List.set_cons_succ]
  refine wpAnyH_take (i := 4) (oi := ⟨some 51, _, _, _, _, _⟩) (v := undef) rfl (by decide +kernel) (by decide +kernel) (by decide +kernel) (fun _ _ _ h => h) (Or.inr ⟨by rfl, rfl⟩) hS ?_
  try simp only [Act.put, List.setIfInBounds_toArray, List.set_cons_zero, List.set_cons_succ]
  refine wpAnyH_take (i := 5) (oi := ⟨some 52, _, _, _, _, _⟩) (v := undef) rfl (by decide +kernel) (by decide +kernel) (by decide +kernel) (fun _ _ _ h => h) (Or.inr ⟨by rfl, rfl⟩) hS ?_
  try simp only [Act.put, List.setIfInBounds_toArray, List.set_cons_zero, List.set_cons_succ]
  refine wpAnyH_take (i := 6) (oi := ⟨some 53, _, _, _, _, _⟩) (v := undef) rfl (by decide +kernel) (by decide +kernel) (by decide +kernel) (fun _ _ _ h => h) (Or.inr ⟨by rfl, rfl⟩) hS ?_
  try simp only [Act.put, List.setIfInBounds_toArray, List.set_cons_zero, List.set_cons_succ]
  refine wpAnyH_take (i := 7) (oi := ⟨some 54, _, _, _, _, _⟩) (v := undef) rfl (by decide +kernel) (by decide +kernel) (by decide +kernel) (fun _ _ _ h => h) (Or.inr ⟨by rfl, rfl⟩) hS ?_
  try simp only [Act.put, List.setIfInBounds_toArray, List.set_cons_zero, List.set_cons_succ]
  refine wpAnyH_take (i := 8) (oi := ⟨some 55, _, _, _, _, _⟩) (v := undef) rfl (by decide +kernel) (by decide +kernel) (by decide +kernel) (fun _ _ _ h => h) (Or.inr ⟨by rfl, rfl⟩) hS ?_
  try simp only [Act.put, List.setIfInBounds_toArray, List.set_cons_zero, List.set_cons_succ]
  refine wpAnyH_take (i := 9) (oi := ⟨some 56, _, _, _, _, _⟩) (v := undef) rfl (by decide +kernel) (by decide +kernel) (by decide +kernel) (fun _ _ _ h => h) (Or.inr ⟨by rfl, rfl⟩) hS ?_
  try simp only [Act.put, List.setIfInBounds_toArray, List.set_cons_zero, List.set_cons_succ]
  refine wpAnyH_take (i := 10) (oi := ⟨some 57, _, _, _, _, _⟩) (v := ?_) rfl (by decide +kernel) (by decide +kernel) (by decide +kernel) (fun _ _ _ h => h) (Or.inl ⟨by rfl, ?_⟩) hS ?_
  rotate_left 1
  · intro wS hSw
    obtain ⟨s0, s1, s2, s3, s4, s5, s6, s7, s8, s9, -⟩ := hSw
    go_simp
    try with_reducible rfl
  try simp only [Act.put, List.setIfInBounds_toArray, List.set_cons_zero, List.set_cons_succ]
  refine wpAnyH_done (by kernel_rfl) ?_ _
  clear hS
  have a20 := HD.out.d.s.c0; have a21 := HD.out.d.s.c1; have a22 := HD.out.d.s.c2
  go_wp2_with fail
  refine (HBAD.out _).mono ?_
  rintro e w9 ⟨rfl, hb9⟩
  have H9 := Lib.hid (HD.out.d.next hb9)
  clear hb9
  have q0 := H9.out.q.c0; have q1 := H9.out.q.c1; have q2 := H9.out.q.c2; have qf := H9.out.q.fr
  try simp only []
  repeat (first | go_values | go_skip | go_guarded | go_step | go_upon)
  refine bodyPost_ret (st_result Tryd.results9 (BdO.fin H9.out _ _ _).1 rfl) rfl ?_
  exact ⟨rfl, (BdO.fin H9.out _ _ _).2⟩
set_option maxRecDepth 20000 in
set_option maxHeartbeats 2000000 in
theorem rwdo_unlike (w : World) (A : ByteArray) (g m cap : Nat) (o : WO) (p : WP) (l : List WP) (hi : PIn w (.slice (some ⟨g, 0, none⟩) (m + 1) cap) (l ++ [p])) (ht : TopF w g m p) (hm : m ≤ 1099511627776) (hl : l.length ≤ 1099511627776)  (hk : ¬ o.k = 101) {c : Int} (hA : ∀ w, Calls Tryd.prog 21 #[stV A (.slice (some ⟨g, 0, none⟩) (m + 1) cap) 0, opV o] w fun e w' => e = .returned (.int .i64 c) ∧ Below w.heap.size w w') (hc : c = 0) (hkn : VKn o) (hli : p.li = true) (h0 : ¬ p.left = 0) (hs : sameB p.kd (oKd o) = false) : Calls Tryd.prog 9 #[stV A (.slice (some ⟨g, 0, none⟩) (m + 1) cap) 0, opV o] w fun e w' => e = .returned (stV A (.slice (some ⟨g, 0, none⟩) (m + 1) cap) 12) ∧ Below w.heap.size w w' := by
  subst hc
  have HLI := Lib.hid hli
  clear hli
  have HBAD := Lib.hid (fun w => rwbad_any A (some ⟨g, 0, none⟩) (m + 1) cap 0 12 w)
  have e0 : (p.left == 0) = false := beq_eq_false_iff_ne.mpr h0
  clear h0
  have HSM := Lib.hid (fun w => rsame_any p.kd (oKd o) w)
  rw [hs] at HSM
  have HKI := Lib.hid (fun w => rkind_any o hkn w)
  unfold opV opC at HKI
  clear hs hkn
  unfold stV opV at hA
  unfold opC at hA
  have HA := Lib.hid hA
  have p0 : ((o.k : Int) == 101) = false := beq_eq_false_iff_ne.mpr (by omega)
  have z0 : (((m + 1 : Nat) : Int) == 0) = false := beq_eq_false_iff_ne.mpr (by omega)
  have z0' : decide (m + 1 = 0) = false := decide_eq_false (by omega)
  have zw : IntKind.i64.wrap (((m + 1 : Nat) : Int) - 1) = (m : Int) := by rw [IntWalk.i64_in _ (by omega)]; omega
  have zw2 : IntKind.i64.wrap (m : Int) = (m : Int) := IntWalk.i64_in _ (by omega)
  have z1 : (0 : Int) ≤ (m : Int) := by omega
  have z2 : (m : Int) < ((m + 1 : Nat) : Int) := by omega
  have hT := fun w' hb => ht.below (w' := w') hb
  have N0 := bdo_new w A (.slice (some ⟨g, 0, none⟩) (m + 1) cap) 0 o
  unfold stV opV opC at *
  clear hk hA
  go_enter Tryd.func9, Tryd.ntmps9
  go_upto_region 1 with fail
  generalize (((w.alloc (.cells #[.string A, .slice (some ⟨g, 0, none⟩) (m + 1) cap, .int .i64 0] 29)).alloc (.cells #[.int .u8 (o.k : Nat), .int .i64 o.id, .int .i64 o.n, .int .u8 (o.wh : Nat), .int .u64 (o.bt : Nat), .string (bA o.tx)] 32)).alloc (.cells #[.string ⟨#[]⟩, .slice none 0 0, .int .i64 0] 29)) = W at *
  have a00 := N0.s.c0; have a01 := N0.s.c1; have a02 := N0.s.c2
  obtain ⟨o00, o01, o02, o03, o04, o05⟩ := N0.o.c
  have HT := Lib.hid hT
  have HI := Lib.hid (fun w1 (hb : Below w.heap.size w w1) => hi.below hb)
  have HW := Lib.hid N0
  clear N0 hi hT ht
  go_wp2_with fail
  refine (HA.out _).mono ?_
  rintro e w1 ⟨rfl, hb1⟩
  have N1 := HW.out.next hb1
  clear hb1 a00 a01 a02 o00 o01 o02 o03 o04 o05
  have a10 := N1.s.c0; have a11 := N1.s.c1; have a12 := N1.s.c2
  obtain ⟨o10, o11, o12, o13, o14, o15⟩ := N1.o.c
  have T1 := HT.out _ N1.b
  have t0 := T1.c0; have t1 := T1.c1; have t2 := T1.c2; have t3 := T1.c3
  have H1 := Lib.hid N1
  clear N1 T1
  have HD := Lib.hid (DoP.new H1.out (HI.out _ H1.out.b) (by simp) p)
  go_upto_region 13 with fail
  generalize hw2 : w1.alloc (.cells #[.bool p.li, .int .i64 p.last, .int .i64 p.left, .int .u8 (p.kd : Nat)] 60) = w2 at *
  clear hw2
  generalize w1.heap.size = H at *
  clear a10 a11 a12 o10 o11 o12 o13 o14 o15 t0 t1 t2 t3
  have pc := HD.out.p.c.1; have pl := HD.out.p.c.2.2.1
  rw [HLI.out] at pc
  go_wp2_with fail
  refine wp_region_held_drew (S := fun wx => DpC w o H p wx) (by kernel_rfl) HD.out.drew.c (fun hS => ?_)
  have HD := Lib.hid HD.out.drew
  clear pc pl
  generalize w2.drew = w3 at *
  refine wpAnyH_take (i := 0) (oi := ⟨some 47, _, _, _, _, _⟩) (v := ?_) rfl (by decide +kernel) (by decide +kernel) (by decide +kernel) (fun _ _ _ h => h) (Or.inl ⟨by rfl, ?_⟩) hS ?_
  rotate_left 1
  · intro wS hSw
    obtain ⟨s0, s1, s2, s3, s4, s5, s6, s7, s8, s9, -⟩ := hSw
    go_simp
    try with_reducible rfl
  try simp only [Act.put, List.setIfInBounds_toArray, List.set_cons_zero, List.set_cons_succ]
  refine wpAnyH_take (i := 1) (oi := ⟨some 48, _, _, _, _, _⟩) (v := ?_) rfl (by decide +kernel) (by decide +kernel) (by decide +kernel) (fun _ _ _ h => h) (Or.inl ⟨by rfl, ?_⟩) hS ?_
  rotate_left 1
  · intro wS hSw
    obtain ⟨s0, s1, s2, s3, s4, s5, s6, s7, s8, s9, -⟩ := hSw
    go_simp
    try with_reducible rfl
  try simp only [Act.put, List.setIfInBounds_toArray, List.set_cons_zero, List.set_cons_succ]
  refine wpAnyH_take (i := 2) (oi := ⟨some 49, _, _, _, _, _⟩) (v := ?_) rfl (by decide +kernel) (by decide +kernel) (by decide +kernel) (fun _ _ _ h => h) (Or.inl ⟨by rfl, ?_⟩) hS ?_
  rotate_left 1
  · intro wS hSw
    obtain ⟨s0, s1, s2, s3, s4, s5, s6, s7, s8, s9, -⟩ := hSw
    go_simp
    try with_reducible rfl
  try simp only [Act.put, List.setIfInBounds_toArray, List.set_cons_zero, List.set_cons_succ]
  refine wpAnyH_take (i := 3) (oi := ⟨some 50, _, _, _, _, _⟩) (v := ?_) rfl (by decide +kernel) (by decide +kernel) (by decide +kernel) (fun _ _ _ h => h) (Or.inl ⟨by rfl, ?_⟩) hS ?_
  rotate_left 1
  · intro wS hSw
    obtain ⟨s0, s1, s2, s3, s4, s5, s6, s7, s8, s9, -⟩ := hSw
    go_simp
    try with_reducible rfl
  try simp only [Act.put, List.setIfInBounds_toArray, List.set_cons_zero, List.set_cons_succ]
  refine wpAnyH_take (i := 4) (oi := ⟨some 51, _, _, _, _, _⟩) (v := ?_) rfl (by decide +kernel) (by decide +kernel) (by decide +kernel) (fun _ _ _ h => h) (Or.inl ⟨by rfl, ?_⟩) hS ?_
  rotate_left 1
  · intro wS hSw
    obtain ⟨s0, s1, s2, s3, s4, s5, s6, s7, s8, s9, -⟩ := hSw
    go_simp
    try with_reducible rfl
  try simp only [Act.put, List.setIfInBounds_toArray, List.set_cons_zero, List.set_cons_succ]
  refine wpAnyH_take (i := 5) (oi := ⟨some 52, _, _, _, _, _⟩) (v := ?_) rfl (by decide +kernel) (by decide +kernel) (by decide +kernel) (fun _ _ _ h => h) (Or.inl ⟨by rfl, ?_⟩) hS ?_
  rotate_left 1
  · intro wS hSw
    obtain ⟨s0, s1, s2, s3, s4, s5, s6, s7, s8, s9, -⟩ := hSw
    go_simp
    try with_reducible rfl
  try simp only [Act.put, List.setIfInBounds_toArray, List.set_cons_zero, List.set_cons_succ]
  refine wpAnyH_take (i := 6) (oi := ⟨some 53, _, _, _, _, _⟩) (v := ?_) rfl (by decide +kernel) (by decide +kernel) (by decide +kernel) (fun _ _ _ h => h) (Or.inl ⟨by rfl, ?_⟩) hS ?_
  rotate_left 1
  · intro wS hSw
    obtain ⟨s0, s1, s2, s3, s4, s5, s6, s7, s8, s9, -⟩ := hSw
    go_simp
    try with_reducible rfl
  try simp only [Act.put, List.setIfInBounds_toArray, List.set_cons_zero, List.set_cons_succ]
  refine wpAnyH_ready (rs := [7]) (by decide +kernel) (by simp) ?_
  refine AllReadyH.cons (o := ⟨some 54, _, _, _, _, _⟩) rfl (fun K hK => ?_) AllReadyH.nil
  rw [if_pos (by rfl)]
  go_simp
  with_reducible refine (HKI.out _).mono ?_
  rintro e w4 ⟨rfl, hb⟩
  have HD := Lib.hid (HD.out.next hb)
  refine hK.out _ _ HD.out.c (fun hS => ?_)
  clear hK K hb
  try simp only [Act.put, List.setIfInBounds_toArray, List.set_cons_zero, List.set_cons_succ]
  refine wpAnyH_ready (rs := [8]) (by decide +kernel) (by simp) ?_
  refine AllReadyH.cons (o := ⟨some 55, _, _, _, _, _⟩) rfl (fun K hK => ?_) AllReadyH.nil
  rw [if_pos (by rfl)]
  go_simp
  with_reducible refine (HSM.out _).mono ?_
  rintro e w5 ⟨rfl, hw⟩
  rw [hw]; clear hw
  refine hK.out _ _ HD.out.c (fun hS => ?_)
  clear hK K
  try simp only [Act.put, List.setIfInBounds_toArray, List.set_cons_zero, List.set_cons_succ]
  refine wpAnyH_take (i := 9) (oi := ⟨some 56, _, _, _, _, _⟩) (v := ?_) rfl (by decide +kernel) (by decide +kernel) (by decide +kernel) (fun _ _ _ h => h) (Or.inl ⟨by rfl, ?_⟩) hS ?_
  rotate_left 1
  · intro wS hSw
    obtain ⟨s0, s1, s2, s3, s4, s5, s6, s7, s8, s9, -⟩ := hSw
    go_simp
    try with_reducible rfl
  try simp only [Act.put, List.setIfInBounds_toArray, List.set_cons_zero, List.set_cons_succ]
  refine wpAnyH_take (i := 10) (oi := ⟨some 57, _, _, _, _, _⟩) (v := ?_) rfl (by decide +kernel) (by decide +kernel) (by decide +kernel) (fun _ _ _ h => h) (Or.inl ⟨by rfl, ?_⟩) hS ?_
  rotate_left 1
  · intro wS hSw
    obtain ⟨s0, s1, s2, s3, s4, s5, s6, s7, s8, s9, -⟩ := hSw
    go_simp
    try with_reducible rfl
  try simp only [Act.put, List.setIfInBounds_toArray, List.set_cons_zero, List.set_cons_succ]
  refine wpAnyH_done (by kernel_rfl) ?_ _
  clear hS
  have a20 := HD.out.d.s.c0; have a21 := HD.out.d.s.c1; have a22 := HD.out.d.s.c2
  go_wp2_with fail
  refine (HBAD.out _).mono ?_
  rintro e w9 ⟨rfl, hb9⟩
  have H9 := Lib.hid (HD.out.d.next hb9)
  clear hb9
  have q0 := H9.out.q.c0; have q1 := H9.out.q.c1; have q2 := H9.out.q.c2; have qf := H9.out.q.fr
  try simp only []
  repeat (first | go_values | go_skip | go_guarded | go_step | go_upon)
  refine bodyPost_ret (st_result Tryd.results9 (BdO.fin H9.out _ _ _).1 rfl) rfl ?_
  exact ⟨rfl, (BdO.fin H9.out _ _ _).2⟩
set_option maxRecDepth 20000 in
set_option maxHeartbeats 2000000 in
theorem rwdo_list (w : World) (A : ByteArray) (g m cap : Nat) (o : WO) (p : WP) (l : List WP) (hi : PIn w (.slice (some ⟨g, 0, none⟩) (m + 1) cap) (l ++ [p])) (ht : TopF w g m p) (hm : m ≤ 1099511627776) (hl : l.length ≤ 1099511627776)  (hk : ¬ o.k = 101) {c : Int} (hA : ∀ w, Calls Tryd.prog 21 #[stV A (.slice (some ⟨g, 0, none⟩) (m + 1) cap) 0, opV o] w fun e w' => e = .returned (.int .i64 c) ∧ Below w.heap.size w w') (hc : c = 0) (hkn : VKn o) (r : WP) {C : ByteArray} (hC : ∀ w, Calls Tryd.prog 28 #[opV o, .bool r.li] w fun e w' => e = .returned (.string C) ∧ Below w.heap.size w w') (hsz : A.size + C.size ≤ 9223372036854775807) {lf : List WP} (hB : ∀ w1 a n c, PIn w1 (.slice a n c) (l ++ [r]) → Calls Tryd.prog 23 #[stV (A ++ C) (.slice a n c) 0, opV o] w1 fun e w' => ∃ a n c, e = .returned (stV (A ++ C) (.slice a n c) 0) ∧ PIn w' (.slice a n c) lf ∧ Below w1.heap.size w1 w') (hli : p.li = true) (h0 : ¬ p.left = 0) (hs : sameB p.kd (oKd o) = true) (hr : r = { p with left := p.left - 1 }) (hw : -9223372036854775807 ≤ p.left ∧ p.left ≤ 9223372036854775807) : Calls Tryd.prog 9 #[stV A (.slice (some ⟨g, 0, none⟩) (m + 1) cap) 0, opV o] w fun e w' => ∃ a n c, e = .returned (stV (A ++ C) (.slice a n c) 0) ∧ PIn w' (.slice a n c) lf ∧ Below w.heap.size w w' := by
  subst hc
  have HLI := Lib.hid hli
  clear hli
  have l1 : ¬ 9223372036854775807 < A.size + C.size := by omega
  have HST := Lib.hid (fun w1 (hp : PIn w1 (.slice (some ⟨g, 0, none⟩) (m + 1) cap) (l ++ [p])) => rwset_any (some ⟨g, 0, none⟩) m cap r p l w1 hp hl)
  unfold plV at HST
  have HKI := Lib.hid (fun w => rkind_any o hkn w)
  unfold opV opC at HKI
  unfold opV opC at hC
  unfold stV opV opC at hB
  have HCO := Lib.hid hC
  have HBG := Lib.hid hB
  clear hC hB hsz hkn
  have e0 : (p.left == 0) = false := beq_eq_false_iff_ne.mpr h0
  have HSM := Lib.hid (fun w => rsame_any p.kd (oKd o) w)
  rw [hs] at HSM
  have e1 : IntKind.i64.wrap (p.left - 1) = p.left - 1 := IntWalk.i64_in _ (by omega)
  have HR := Lib.hid hr
  clear hs h0 hw hr
  unfold stV opV at hA
  unfold opC at hA
  have HA := Lib.hid hA
  have p0 : ((o.k : Int) == 101) = false := beq_eq_false_iff_ne.mpr (by omega)
  have z0 : (((m + 1 : Nat) : Int) == 0) = false := beq_eq_false_iff_ne.mpr (by omega)
  have z0' : decide (m + 1 = 0) = false := decide_eq_false (by omega)
  have zw : IntKind.i64.wrap (((m + 1 : Nat) : Int) - 1) = (m : Int) := by rw [IntWalk.i64_in _ (by omega)]; omega
  have zw2 : IntKind.i64.wrap (m : Int) = (m : Int) := IntWalk.i64_in _ (by omega)
  have z1 : (0 : Int) ≤ (m : Int) := by omega
  have z2 : (m : Int) < ((m + 1 : Nat) : Int) := by omega
  have hT := fun w' hb => ht.below (w' := w') hb
  have N0 := bdo_new w A (.slice (some ⟨g, 0, none⟩) (m + 1) cap) 0 o
  unfold stV opV opC at *
  clear hk hA
  go_enter Tryd.func9, Tryd.ntmps9
  go_upto_region 1 with fail
  generalize (((w.alloc (.cells #[.string A, .slice (some ⟨g, 0, none⟩) (m + 1) cap, .int .i64 0] 29)).alloc (.cells #[.int .u8 (o.k : Nat), .int .i64 o.id, .int .i64 o.n, .int .u8 (o.wh : Nat), .int .u64 (o.bt : Nat), .string (bA o.tx)] 32)).alloc (.cells #[.string ⟨#[]⟩, .slice none 0 0, .int .i64 0] 29)) = W at *
  have a00 := N0.s.c0; have a01 := N0.s.c1; have a02 := N0.s.c2
  obtain ⟨o00, o01, o02, o03, o04, o05⟩ := N0.o.c
  have HT := Lib.hid hT
  have HI := Lib.hid (fun w1 (hb : Below w.heap.size w w1) => hi.below hb)
  have HW := Lib.hid N0
  clear N0 hi hT ht
  go_wp2_with fail
  refine (HA.out _).mono ?_
  rintro e w1 ⟨rfl, hb1⟩
  have N1 := HW.out.next hb1
  clear hb1 a00 a01 a02 o00 o01 o02 o03 o04 o05
  have a10 := N1.s.c0; have a11 := N1.s.c1; have a12 := N1.s.c2
  obtain ⟨o10, o11, o12, o13, o14, o15⟩ := N1.o.c
  have T1 := HT.out _ N1.b
  have t0 := T1.c0; have t1 := T1.c1; have t2 := T1.c2; have t3 := T1.c3
  have H1 := Lib.hid N1
  clear N1 T1
  have HD := Lib.hid (DoP.new H1.out (HI.out _ H1.out.b) (by simp) p)
  go_upto_region 13 with fail
  generalize hw2 : w1.alloc (.cells #[.bool p.li, .int .i64 p.last, .int .i64 p.left, .int .u8 (p.kd : Nat)] 60) = w2 at *
  clear hw2
  generalize w1.heap.size = H at *
  clear a10 a11 a12 o10 o11 o12 o13 o14 o15 t0 t1 t2 t3
  have pc := HD.out.p.c.1; have pl := HD.out.p.c.2.2.1
  rw [HLI.out] at pc
  go_wp2_with fail
  refine wp_region_held_drew (S := fun wx => DpC w o H p wx) (by kernel_rfl) HD.out.drew.c (fun hS => ?_)
  have HD := Lib.hid HD.out.drew
  clear pc pl
  generalize w2.drew = w3 at *
  refine wpAnyH_take (i := 0) (oi := ⟨some 47, _, _, _, _, _⟩) (v := ?_) rfl (by decide +kernel) (by decide +kernel) (by decide +kernel) (fun _ _ _ h => h) (Or.inl ⟨by rfl, ?_⟩) hS ?_
  rotate_left 1
  · intro wS hSw
    obtain ⟨s0, s1, s2, s3, s4, s5, s6, s7, s8, s9, -⟩ := hSw
    go_simp
    try with_reducible rfl
  try simp only [Act.put, List.setIfInBounds_toArray, List.set_cons_zero, List.set_cons_succ]
  refine wpAnyH_take (i := 1) (oi := ⟨some 48, _, _, _, _, _⟩) (v := ?_) rfl (by decide +kernel) (by decide +kernel) (by decide +kernel) (fun _ _ _ h => h) (Or.inl ⟨by rfl, ?_⟩) hS ?_
  rotate_left 1
  · intro wS hSw
    obtain ⟨s0, s1, s2, s3, s4, s5, s6, s7, s8, s9, -⟩ := hSw
    go_simp
    try with_reducible rfl
  try simp only [Act.put, List.setIfInBounds_toArray, List.set_cons_zero, List.set_cons_succ]
  refine wpAnyH_take (i := 2) (oi := ⟨some 49, _, _, _, _, _⟩) (v := ?_) rfl (by decide +kernel) (by decide +kernel) (by decide +kernel) (fun _ _ _ h => h) (Or.inl ⟨by rfl, ?_⟩) hS ?_
  rotate_left 1
  · intro wS hSw
    obtain ⟨s0, s1, s2, s3, s4, s5, s6, s7, s8, s9, -⟩ := hSw
    go_simp
    try with_reducible rfl
  try simp only [Act.put, List.setIfInBounds_toArray, List.set_cons_zero, List.set_cons_succ]
  refine wpAnyH_take (i := 3) (oi := ⟨some 50, _, _, _, _, _⟩) (v := ?_) rfl (by decide +kernel) (by decide +kernel) (by decide +kernel) (fun _ _ _ h => h) (Or.inl ⟨by rfl, ?_⟩) hS ?_
  rotate_left 1
  · intro wS hSw
    obtain ⟨s0, s1, s2, s3, s4, s5, s6, s7, s8, s9, -⟩ := hSw
    go_simp
    try with_reducible rfl
  try simp only [Act.put, List.setIfInBounds_toArray, List.set_cons_zero, List.set_cons_succ]
  refine wpAnyH_take (i := 4) (oi := ⟨some 51, _, _, _, _, _⟩) (v := ?_) rfl (by decide +kernel) (by decide +kernel) (by decide +kernel) (fun _ _ _ h => h) (Or.inl ⟨by rfl, ?_⟩) hS ?_
  rotate_left 1
  · intro wS hSw
    obtain ⟨s0, s1, s2, s3, s4, s5, s6, s7, s8, s9, -⟩ := hSw
    go_simp
    try with_reducible rfl
  try simp only [Act.put, List.setIfInBounds_toArray, List.set_cons_zero, List.set_cons_succ]
  refine wpAnyH_take (i := 5) (oi := ⟨some 52, _, _, _, _, _⟩) (v := ?_) rfl (by decide +kernel) (by decide +kernel) (by decide +kernel) (fun _ _ _ h => h) (Or.inl ⟨by rfl, ?_⟩) hS ?_
  rotate_left 1
  · intro wS hSw
    obtain ⟨s0, s1, s2, s3, s4, s5, s6, s7, s8, s9, -⟩ := hSw
    go_simp
    try with_reducible rfl
  try simp only [Act.put, List.setIfInBounds_toArray, List.set_cons_zero, List.set_cons_succ]
  refine wpAnyH_take (i := 6) (oi := ⟨some 53, _, _, _, _, _⟩) (v := ?_) rfl (by decide +kernel) (by decide +kernel) (by decide +kernel) (fun _ _ _ h => h) (Or.inl ⟨by rfl, ?_⟩) hS ?_
  rotate_left 1
  · intro wS hSw
    obtain ⟨s0, s1, s2, s3, s4, s5, s6, s7, s8, s9, -⟩ := hSw
    go_simp
    try with_reducible rfl
  try simp only [Act.put, List.setIfInBounds_toArray, List.set_cons_zero, List.set_cons_succ]
  refine wpAnyH_ready (rs := [7]) (by decide +kernel) (by simp) ?_
  refine AllReadyH.cons (o := ⟨some 54, _, _, _, _, _⟩) rfl (fun K hK => ?_) AllReadyH.nil
  rw [if_pos (by rfl)]
  go_simp
  with_reducible refine (HKI.out _).mono ?_
  rintro e w4 ⟨rfl, hb⟩
  have HD := Lib.hid (HD.out.next hb)
  refine hK.out _ _ HD.out.c (fun hS => ?_)
  clear hK K hb
  try simp only [Act.put, List.setIfInBounds_toArray, List.set_cons_zero, List.set_cons_succ]
  refine wpAnyH_ready (rs := [8]) (by decide +kernel) (by simp) ?_
  refine AllReadyH.cons (o := ⟨some 55, _, _, _, _, _⟩) rfl (fun K hK => ?_) AllReadyH.nil
  rw [if_pos (by rfl)]
  go_simp
  with_reducible refine (HSM.out _).mono ?_
  rintro e w5 ⟨rfl, hw⟩
  rw [hw]; clear hw
  refine hK.out _ _ HD.out.c (fun hS => ?_)
  clear hK K
  try simp only [Act.put, List.setIfInBounds_toArray, List.set_cons_zero, List.set_cons_succ]
  refine wpAnyH_take (i := 9) (oi := ⟨some 56, _, _, _, _, _⟩) (v := ?_) rfl (by decide +kernel) (by decide +kernel) (by decide +kernel) (fun _ _ _ h => h) (Or.inl ⟨by rfl, ?_⟩) hS ?_
  rotate_left 1
  · intro wS hSw
    obtain ⟨s0, s1, s2, s3, s4, s5, s6, s7, s8, s9, -⟩ := hSw
    go_simp
    try with_reducible rfl
  try simp only [Act.put, List.setIfInBounds_toArray, List.set_cons_zero, List.set_cons_succ]
  refine wpAnyH_take (i := 10) (oi := ⟨some 57, _, _, _, _, _⟩) (v := ?_) rfl (by decide +kernel) (by decide +kernel) (by decide +kernel) (fun _ _ _ h => h) (Or.inl ⟨by rfl, ?_⟩) hS ?_
  rotate_left 1
  · intro wS hSw
    obtain ⟨s0, s1, s2, s3, s4, s5, s6, s7, s8, s9, -⟩ := hSw
    go_simp
    try with_reducible rfl
  try simp only [Act.put, List.setIfInBounds_toArray, List.set_cons_zero, List.set_cons_succ]
  refine wpAnyH_done (by kernel_rfl) ?_ _
  clear hS
  have c22 := HD.out.p.c.2.2.1; have cf := HD.out.p.fr
  have D7 := HD.out.left (p.left - 1)
  rw [← HR.out] at D7
  have HD := Lib.hid D7
  clear D7
  go_upto_region 22 with fail
  generalize w4.setCell ⟨H, 2, none⟩ (.int .i64 (p.left - 1)) = w13 at *
  clear c22 cf
  have a20 := HD.out.d.s.c0; have a21 := HD.out.d.s.c1; have a22 := HD.out.d.s.c2
  obtain ⟨c20, c21, c22, c23⟩ := HD.out.p.c
  go_wp2_with fail
  refine (HST.out _ HD.out.i).mono ?_
  rintro e w15 ⟨a5, n5, c5, rfl, hp5, hb5⟩
  have D5 := HD.out.next hb5
  have sf := D5.d.s.fr; have sc := D5.d.s.c1
  have HD := Lib.hid (D5.set1 hp5)
  clear D5 hp5 hb5 a20 a21 a22 c20 c21 c22 c23
  go_wp2_with fail
  generalize w15.setCell ⟨w.heap.size, 1, none⟩ (.slice a5 n5 c5) = w16 at *
  refine wp_region_held_drew (S := fun wx => DpC w o H r wx) (by kernel_rfl) HD.out.drew.c (fun hS => ?_)
  have HD := Lib.hid HD.out.drew
  clear sc sf
  generalize w16.drew = w17 at *
  refine wpAnyH_take (i := 0) (oi := ⟨some 88, _, _, _, _, _⟩) (v := ?_) rfl (by decide +kernel) (by decide +kernel) (by decide +kernel) (fun _ _ _ h => h) (Or.inl ⟨by rfl, ?_⟩) hS ?_
  rotate_left 1
  · intro wS hSw
    obtain ⟨s0, s1, s2, s3, s4, s5, s6, s7, s8, s9, -⟩ := hSw
    go_simp
    try with_reducible rfl
  try simp only [Act.put, List.setIfInBounds_toArray, List.set_cons_zero, List.set_cons_succ]
  refine wpAnyH_take (i := 2) (oi := ⟨some 90, _, _, _, _, _⟩) (v := ?_) rfl (by decide +kernel) (by decide +kernel) (by decide +kernel) (fun _ _ _ h => h) (Or.inl ⟨by rfl, ?_⟩) hS ?_
  rotate_left 1
  · intro wS hSw
    obtain ⟨s0, s1, s2, s3, s4, s5, s6, s7, s8, s9, -⟩ := hSw
    go_simp
    try with_reducible rfl
  try simp only [Act.put, List.setIfInBounds_toArray, List.set_cons_zero, List.set_cons_succ]
  refine wpAnyH_take (i := 3) (oi := ⟨some 91, _, _, _, _, _⟩) (v := ?_) rfl (by decide +kernel) (by decide +kernel) (by decide +kernel) (fun _ _ _ h => h) (Or.inl ⟨by rfl, ?_⟩) hS ?_
  rotate_left 1
  · intro wS hSw
    obtain ⟨s0, s1, s2, s3, s4, s5, s6, s7, s8, s9, -⟩ := hSw
    go_simp
    try with_reducible rfl
  try simp only [Act.put, List.setIfInBounds_toArray, List.set_cons_zero, List.set_cons_succ]
  refine wpAnyH_take (i := 4) (oi := ⟨some 92, _, _, _, _, _⟩) (v := ?_) rfl (by decide +kernel) (by decide +kernel) (by decide +kernel) (fun _ _ _ h => h) (Or.inl ⟨by rfl, ?_⟩) hS ?_
  rotate_left 1
  · intro wS hSw
    obtain ⟨s0, s1, s2, s3, s4, s5, s6, s7, s8, s9, -⟩ := hSw
    go_simp
    try with_reducible rfl
  try simp only [Act.put, List.setIfInBounds_toArray, List.set_cons_zero, List.set_cons_succ]
  refine wpAnyH_ready (rs := [1, 5]) (by decide +kernel) (by simp) ?_
  refine AllReadyH.cons (o := ⟨some 89, _, _, _, _, _⟩) rfl (fun K hK => ?_) (AllReadyH.cons (o := ⟨some 93, _, _, _, _, _⟩) rfl (fun K hK => ?_) AllReadyH.nil)
  · skip
    rw [if_pos (by rfl)]
    have c0 := HD.out.d.s.c0
    go_simp
    refine hK.out _ _ HD.out.c (fun hS => ?_)
    clear hK K c0
    try simp only [Act.put, List.setIfInBounds_toArray, List.set_cons_zero, List.set_cons_succ]
    refine wpAnyH_ready (rs := [5]) (by decide +kernel) (by simp) ?_
    refine AllReadyH.cons (o := ⟨some 93, _, _, _, _, _⟩) rfl (fun K hK => ?_) AllReadyH.nil
    rw [if_pos (by rfl)]
    go_simp
    with_reducible refine (HCO.out _).mono ?_
    rintro e w19 ⟨rfl, hb⟩
    have HD := Lib.hid (HD.out.next hb)
    refine hK.out _ _ HD.out.c (fun hS => ?_)
    clear hK K hb
    try simp only [Act.put, List.setIfInBounds_toArray, List.set_cons_zero, List.set_cons_succ]
    refine wpAnyH_take (i := 6) (oi := ⟨some 94, _, _, _, _, _⟩) (v := ?_) rfl (by decide +kernel) (by decide +kernel) (by decide +kernel) (fun _ _ _ h => h) (Or.inl ⟨by rfl, ?_⟩) hS ?_
    rotate_left 1
    · intro wS hSw
      obtain ⟨s0, s1, s2, s3, s4, s5, s6, s7, s8, s9, -⟩ := hSw
      go_simp
      try with_reducible rfl
    try simp only [Act.put, List.setIfInBounds_toArray, List.set_cons_zero, List.set_cons_succ]
    refine wpAnyH_take (i := 7) (oi := ⟨some 95, _, _, _, _, _⟩) (v := ?_) rfl (by decide +kernel) (by decide +kernel) (by decide +kernel) (fun _ _ _ h => h) (Or.inl ⟨by rfl, ?_⟩) hS ?_
    rotate_left 1
    · intro wS hSw
      obtain ⟨s0, s1, s2, s3, s4, s5, s6, s7, s8, s9, -⟩ := hSw
      go_simp
      try with_reducible rfl
    try simp only [Act.put, List.setIfInBounds_toArray, List.set_cons_zero, List.set_cons_succ]
    refine wpAnyH_ready (rs := [8]) (by decide +kernel) (by simp) ?_
    refine AllReadyH.cons (o := ⟨none, _, _, _, _, _⟩) rfl (fun K hK => ?_) AllReadyH.nil
    rw [if_pos (by rfl)]
    have sc := HD.out.d.s.c0; have sf := HD.out.d.s.fr
    go_simp
    have HD := Lib.hid (HD.out.set0 (A ++ C))
    refine hK.out _ _ HD.out.c (fun hS => ?_)
    clear hK K sc sf
    generalize w19.setCell ⟨w.heap.size, 0, none⟩ (.string (A ++ C)) = w20 at *
    try simp only [Act.put, List.setIfInBounds_toArray, List.set_cons_zero, List.set_cons_succ]
    refine wpAnyH_done (by kernel_rfl) ?_ _
    clear hS
    have a20 := HD.out.d.s.c0; have a21 := HD.out.d.s.c1; have a22 := HD.out.d.s.c2
    obtain ⟨o20, o21, o22, o23, o24, o25⟩ := HD.out.d.o.c
    go_wp2_with fail
    refine (HBG.out _ _ _ _ HD.out.i).mono ?_
    rintro e w9 ⟨a9, n9, c9, rfl, hp9, hb9⟩
    have H9 := Lib.hid (HD.out.d.next hb9)
    have P9 := Lib.hid hp9
    clear hb9 hp9
    have q0 := H9.out.q.c0; have q1 := H9.out.q.c1; have q2 := H9.out.q.c2; have qf := H9.out.q.fr
    try simp only []
    repeat (first | go_values | go_skip | go_guarded | go_step | go_upon)
    refine bodyPost_ret (st_result Tryd.results9 (BdO.fin H9.out _ _ _).1 rfl) rfl ?_
    exact ⟨_, _, _, rfl, P9.out.st3 H9.out.q _ _ _, (BdO.fin H9.out _ _ _).2⟩
  · skip
    rw [if_pos (by rfl)]
    go_simp
    with_reducible refine (HCO.out _).mono ?_
    rintro e w18 ⟨rfl, hb⟩
    have HD := Lib.hid (HD.out.next hb)
    refine hK.out _ _ HD.out.c (fun hS => ?_)
    clear hK K hb
    try simp only [Act.put, List.setIfInBounds_toArray, List.set_cons_zero, List.set_cons_succ]
    refine wpAnyH_ready (rs := [1]) (by decide +kernel) (by simp) ?_
    refine AllReadyH.cons (o := ⟨some 89, _, _, _, _, _⟩) rfl (fun K hK => ?_) AllReadyH.nil
    rw [if_pos (by rfl)]
    have c0 := HD.out.d.s.c0
    go_simp
    refine hK.out _ _ HD.out.c (fun hS => ?_)
    clear hK K c0
    try simp only [Act.put, List.setIfInBounds_toArray, List.set_cons_zero, List.set_cons_succ]
    refine wpAnyH_take (i := 6) (oi := ⟨some 94, _, _, _, _, _⟩) (v := ?_) rfl (by decide +kernel) (by decide +kernel) (by decide +kernel) (fun _ _ _ h => h) (Or.inl ⟨by rfl, ?_⟩) hS ?_
    rotate_left 1
    · intro wS hSw
      obtain ⟨s0, s1, s2, s3, s4, s5, s6, s7, s8, s9, -⟩ := hSw
      go_simp
      try with_reducible rfl
    try simp only [Act.put, List.setIfInBounds_toArray, List.set_cons_zero, List.set_cons_succ]
    refine wpAnyH_take (i := 7) (oi := ⟨some 95, _, _, _, _, _⟩) (v := ?_) rfl (by decide +kernel) (by decide +kernel) (by decide +kernel) (fun _ _ _ h => h) (Or.inl ⟨by rfl, ?_⟩) hS ?_
    rotate_left 1
    · intro wS hSw
      obtain ⟨s0, s1, s2, s3, s4, s5, s6, s7, s8, s9, -⟩ := hSw
      go_simp
      try with_reducible rfl
    try simp only [Act.put, List.setIfInBounds_toArray, List.set_cons_zero, List.set_cons_succ]
    refine wpAnyH_ready (rs := [8]) (by decide +kernel) (by simp) ?_
    refine AllReadyH.cons (o := ⟨none, _, _, _, _, _⟩) rfl (fun K hK => ?_) AllReadyH.nil
    rw [if_pos (by rfl)]
    have sc := HD.out.d.s.c0; have sf := HD.out.d.s.fr
    go_simp
    have HD := Lib.hid (HD.out.set0 (A ++ C))
    refine hK.out _ _ HD.out.c (fun hS => ?_)
    clear hK K sc sf
    generalize w18.setCell ⟨w.heap.size, 0, none⟩ (.string (A ++ C)) = w20 at *
    try simp only [Act.put, List.setIfInBounds_toArray, List.set_cons_zero, List.set_cons_succ]
    refine wpAnyH_done (by kernel_rfl) ?_ _
    clear hS
    have a20 := HD.out.d.s.c0; have a21 := HD.out.d.s.c1; have a22 := HD.out.d.s.c2
    obtain ⟨o20, o21, o22, o23, o24, o25⟩ := HD.out.d.o.c
    go_wp2_with fail
    refine (HBG.out _ _ _ _ HD.out.i).mono ?_
    rintro e w9 ⟨a9, n9, c9, rfl, hp9, hb9⟩
    have H9 := Lib.hid (HD.out.d.next hb9)
    have P9 := Lib.hid hp9
    clear hb9 hp9
    have q0 := H9.out.q.c0; have q1 := H9.out.q.c1; have q2 := H9.out.q.c2; have qf := H9.out.q.fr
    try simp only []
    repeat (first | go_values | go_skip | go_guarded | go_step | go_upon)
    refine bodyPost_ret (st_result Tryd.results9 (BdO.fin H9.out _ _ _).1 rfl) rfl ?_
    exact ⟨_, _, _, rfl, P9.out.st3 H9.out.q _ _ _, (BdO.fin H9.out _ _ _).2⟩
set_option maxRecDepth 20000 in
set_option maxHeartbeats 2000000 in
theorem rwdo_far (w : World) (A : ByteArray) (g m cap : Nat) (o : WO) (p : WP) (l : List WP) (hi : PIn w (.slice (some ⟨g, 0, none⟩) (m + 1) cap) (l ++ [p])) (ht : TopF w g m p) (hm : m ≤ 1099511627776) (hl : l.length ≤ 1099511627776)  (hk : ¬ o.k = 101) {c : Int} (hA : ∀ w, Calls Tryd.prog 21 #[stV A (.slice (some ⟨g, 0, none⟩) (m + 1) cap) 0, opV o] w fun e w' => e = .returned (.int .i64 c) ∧ Below w.heap.size w w') (hc : c = 0) (hkn : VKn o) (hli : p.li = false) {T : ByteArray} (hT : T = bA (hdB p.last o.id (oKd o))) (hE : T.toList.isEmpty = true) : Calls Tryd.prog 9 #[stV A (.slice (some ⟨g, 0, none⟩) (m + 1) cap) 0, opV o] w fun e w' => e = .returned (stV A (.slice (some ⟨g, 0, none⟩) (m + 1) cap) 4) ∧ Below w.heap.size w w' := by
  subst hc
  have HLI := Lib.hid hli
  clear hli
  have HBAD := Lib.hid (fun w => rwbad_any A (some ⟨g, 0, none⟩) (m + 1) cap 0 4 w)
  have HKI := Lib.hid (fun w => rkind_any o hkn w)
  unfold opV opC at HKI
  have HPF := Lib.hid (fun w => rpf_any p.last o.id (oKd o) w)
  rw [← hT] at HPF
  clear hkn hT
  unfold stV opV at hA
  unfold opC at hA
  have HA := Lib.hid hA
  have p0 : ((o.k : Int) == 101) = false := beq_eq_false_iff_ne.mpr (by omega)
  have z0 : (((m + 1 : Nat) : Int) == 0) = false := beq_eq_false_iff_ne.mpr (by omega)
  have z0' : decide (m + 1 = 0) = false := decide_eq_false (by omega)
  have zw : IntKind.i64.wrap (((m + 1 : Nat) : Int) - 1) = (m : Int) := by rw [IntWalk.i64_in _ (by omega)]; omega
  have zw2 : IntKind.i64.wrap (m : Int) = (m : Int) := IntWalk.i64_in _ (by omega)
  have z1 : (0 : Int) ≤ (m : Int) := by omega
  have z2 : (m : Int) < ((m + 1 : Nat) : Int) := by omega
  have hT := fun w' hb => ht.below (w' := w') hb
  have N0 := bdo_new w A (.slice (some ⟨g, 0, none⟩) (m + 1) cap) 0 o
  unfold stV opV opC at *
  clear hk hA
  go_enter Tryd.func9, Tryd.ntmps9
  go_upto_region 1 with fail
  generalize (((w.alloc (.cells #[.string A, .slice (some ⟨g, 0, none⟩) (m + 1) cap, .int .i64 0] 29)).alloc (.cells #[.int .u8 (o.k : Nat), .int .i64 o.id, .int .i64 o.n, .int .u8 (o.wh : Nat), .int .u64 (o.bt : Nat), .string (bA o.tx)] 32)).alloc (.cells #[.string ⟨#[]⟩, .slice none 0 0, .int .i64 0] 29)) = W at *
  have a00 := N0.s.c0; have a01 := N0.s.c1; have a02 := N0.s.c2
  obtain ⟨o00, o01, o02, o03, o04, o05⟩ := N0.o.c
  have HT := Lib.hid hT
  have HI := Lib.hid (fun w1 (hb : Below w.heap.size w w1) => hi.below hb)
  have HW := Lib.hid N0
  clear N0 hi hT ht
  go_wp2_with fail
  refine (HA.out _).mono ?_
  rintro e w1 ⟨rfl, hb1⟩
  have N1 := HW.out.next hb1
  clear hb1 a00 a01 a02 o00 o01 o02 o03 o04 o05
  have a10 := N1.s.c0; have a11 := N1.s.c1; have a12 := N1.s.c2
  obtain ⟨o10, o11, o12, o13, o14, o15⟩ := N1.o.c
  have T1 := HT.out _ N1.b
  have t0 := T1.c0; have t1 := T1.c1; have t2 := T1.c2; have t3 := T1.c3
  have H1 := Lib.hid N1
  clear N1 T1
  have HD := Lib.hid (DoP.new H1.out (HI.out _ H1.out.b) (by simp) p)
  go_upto_region 13 with fail
  generalize hw2 : w1.alloc (.cells #[.bool p.li, .int .i64 p.last, .int .i64 p.left, .int .u8 (p.kd : Nat)] 60) = w2 at *
  clear hw2
  generalize w1.heap.size = H at *
  clear a10 a11 a12 o10 o11 o12 o13 o14 o15 t0 t1 t2 t3
  have pc := HD.out.p.c.1; have pl := HD.out.p.c.2.2.1
  rw [HLI.out] at pc
  go_wp2_with fail
  refine wp_region_held_drew (S := fun wx => DpC w o H p wx) (by kernel_rfl) HD.out.drew.c (fun hS => ?_)
  have HD := Lib.hid HD.out.drew
  clear pc pl
  generalize w2.drew = w3 at *
  refine wpAnyH_take (i := 0) (oi := ⟨some 64, _, _, _, _, _⟩) (v := ?_) rfl (by decide +kernel) (by decide +kernel) (by decide +kernel) (fun _ _ _ h => h) (Or.inl ⟨by rfl, ?_⟩) hS ?_
  rotate_left 1
  · intro wS hSw
    obtain ⟨s0, s1, s2, s3, s4, s5, s6, s7, s8, s9, -⟩ := hSw
    go_simp
    try with_reducible rfl
  try simp only [Act.put, List.setIfInBounds_toArray, List.set_cons_zero, List.set_cons_succ]
  refine wpAnyH_take (i := 1) (oi := ⟨some 65, _, _, _, _, _⟩) (v := ?_) rfl (by decide +kernel) (by decide +kernel) (by decide +kernel) (fun _ _ _ h => h) (Or.inl ⟨by rfl, ?_⟩) hS ?_
  rotate_left 1
  · intro wS hSw
    obtain ⟨s0, s1, s2, s3, s4, s5, s6, s7, s8, s9, -⟩ := hSw
    go_simp
    try with_reducible rfl
  try simp only [Act.put, List.setIfInBounds_toArray, List.set_cons_zero, List.set_cons_succ]
  refine wpAnyH_take (i := 2) (oi := ⟨some 66, _, _, _, _, _⟩) (v := ?_) rfl (by decide +kernel) (by decide +kernel) (by decide +kernel) (fun _ _ _ h => h) (Or.inl ⟨by rfl, ?_⟩) hS ?_
  rotate_left 1
  · intro wS hSw
    obtain ⟨s0, s1, s2, s3, s4, s5, s6, s7, s8, s9, -⟩ := hSw
    go_simp
    try with_reducible rfl
  try simp only [Act.put, List.setIfInBounds_toArray, List.set_cons_zero, List.set_cons_succ]
  refine wpAnyH_take (i := 3) (oi := ⟨some 67, _, _, _, _, _⟩) (v := ?_) rfl (by decide +kernel) (by decide +kernel) (by decide +kernel) (fun _ _ _ h => h) (Or.inl ⟨by rfl, ?_⟩) hS ?_
  rotate_left 1
  · intro wS hSw
    obtain ⟨s0, s1, s2, s3, s4, s5, s6, s7, s8, s9, -⟩ := hSw
    go_simp
    try with_reducible rfl
  try simp only [Act.put, List.setIfInBounds_toArray, List.set_cons_zero, List.set_cons_succ]
  refine wpAnyH_take (i := 4) (oi := ⟨some 68, _, _, _, _, _⟩) (v := ?_) rfl (by decide +kernel) (by decide +kernel) (by decide +kernel) (fun _ _ _ h => h) (Or.inl ⟨by rfl, ?_⟩) hS ?_
  rotate_left 1
  · intro wS hSw
    obtain ⟨s0, s1, s2, s3, s4, s5, s6, s7, s8, s9, -⟩ := hSw
    go_simp
    try with_reducible rfl
  try simp only [Act.put, List.setIfInBounds_toArray, List.set_cons_zero, List.set_cons_succ]
  refine wpAnyH_ready (rs := [5]) (by decide +kernel) (by simp) ?_
  refine AllReadyH.cons (o := ⟨some 69, _, _, _, _, _⟩) rfl (fun K hK => ?_) AllReadyH.nil
  rw [if_pos (by rfl)]
  go_simp
  with_reducible refine (HKI.out _).mono ?_
  rintro e w4 ⟨rfl, hb⟩
  have HD := Lib.hid (HD.out.next hb)
  refine hK.out _ _ HD.out.c (fun hS => ?_)
  clear hK K hb
  try simp only [Act.put, List.setIfInBounds_toArray, List.set_cons_zero, List.set_cons_succ]
  refine wpAnyH_ready (rs := [6]) (by decide +kernel) (by simp) ?_
  refine AllReadyH.cons (o := ⟨some 70, _, _, _, _, _⟩) rfl (fun K hK => ?_) AllReadyH.nil
  rw [if_pos (by rfl)]
  go_simp
  with_reducible refine (HPF.out _).mono ?_
  rintro e w5 ⟨rfl, hb⟩
  have HD := Lib.hid (HD.out.next hb)
  refine hK.out _ _ HD.out.c (fun hS => ?_)
  clear hK K hb
  try simp only [Act.put, List.setIfInBounds_toArray, List.set_cons_zero, List.set_cons_succ]
  refine wpAnyH_take (i := 7) (oi := ⟨some 7, _, _, _, _, _⟩) (v := ?_) rfl (by decide +kernel) (by decide +kernel) (by decide +kernel) (fun _ _ _ h => h) (Or.inl ⟨by rfl, ?_⟩) hS ?_
  rotate_left 1
  · intro wS hSw
    obtain ⟨s0, s1, s2, s3, s4, s5, s6, s7, s8, s9, -⟩ := hSw
    go_simp
    try with_reducible rfl
  try simp only [Act.put, List.setIfInBounds_toArray, List.set_cons_zero, List.set_cons_succ]
  refine wpAnyH_done (by kernel_rfl) ?_ _
  clear hS
  have a20 := HD.out.d.s.c0; have a21 := HD.out.d.s.c1; have a22 := HD.out.d.s.c2
  go_wp2_with fail
  refine (HBAD.out _).mono ?_
  rintro e w9 ⟨rfl, hb9⟩
  have H9 := Lib.hid (HD.out.d.next hb9)
  clear hb9
  have q0 := H9.out.q.c0; have q1 := H9.out.q.c1; have q2 := H9.out.q.c2; have qf := H9.out.q.fr
  try simp only []
  repeat (first | go_values | go_skip | go_guarded | go_step | go_upon)
  refine bodyPost_ret (st_result Tryd.results9 (BdO.fin H9.out _ _ _).1 rfl) rfl ?_
  exact ⟨rfl, (BdO.fin H9.out _ _ _).2⟩
set_option maxRecDepth 20000 in
set_option maxHeartbeats 2000000 in
theorem rwdo_field (w : World) (A : ByteArray) (g m cap : Nat) (o : WO) (p : WP) (l : List WP) (hi : PIn w (.slice (some ⟨g, 0, none⟩) (m + 1) cap) (l ++ [p])) (ht : TopF w g m p) (hm : m ≤ 1099511627776) (hl : l.length ≤ 1099511627776)  (hk : ¬ o.k = 101) {c : Int} (hA : ∀ w, Calls Tryd.prog 21 #[stV A (.slice (some ⟨g, 0, none⟩) (m + 1) cap) 0, opV o] w fun e w' => e = .returned (.int .i64 c) ∧ Below w.heap.size w w') (hc : c = 0) {T : ByteArray} (hT : T = bA (hdB p.last o.id (oKd o))) (hE : T.toList.isEmpty = false) (hsz0 : A.size + T.size ≤ 9223372036854775807) (hkn : VKn o) (r : WP) {C : ByteArray} (hC : ∀ w, Calls Tryd.prog 28 #[opV o, .bool r.li] w fun e w' => e = .returned (.string C) ∧ Below w.heap.size w w') (hsz : (A ++ T).size + C.size ≤ 9223372036854775807) {lf : List WP} (hB : ∀ w1 a n c, PIn w1 (.slice a n c) (l ++ [r]) → Calls Tryd.prog 23 #[stV ((A ++ T) ++ C) (.slice a n c) 0, opV o] w1 fun e w' => ∃ a n c, e = .returned (stV ((A ++ T) ++ C) (.slice a n c) 0) ∧ PIn w' (.slice a n c) lf ∧ Below w1.heap.size w1 w') (hli : p.li = false) (hr : r = { p with last := o.id }) : Calls Tryd.prog 9 #[stV A (.slice (some ⟨g, 0, none⟩) (m + 1) cap) 0, opV o] w fun e w' => ∃ a n c, e = .returned (stV ((A ++ T) ++ C) (.slice a n c) 0) ∧ PIn w' (.slice a n c) lf ∧ Below w.heap.size w w' := by
  subst hc
  have HLI := Lib.hid hli
  clear hli
  have l1 : ¬ 9223372036854775807 < A.size + T.size + C.size := by rw [ByteArray.size_append] at hsz; omega
  have l0 : ¬ 9223372036854775807 < A.size + T.size := by omega
  have HST := Lib.hid (fun w1 (hp : PIn w1 (.slice (some ⟨g, 0, none⟩) (m + 1) cap) (l ++ [p])) => rwset_any (some ⟨g, 0, none⟩) m cap r p l w1 hp hl)
  unfold plV at HST
  have HKI := Lib.hid (fun w => rkind_any o hkn w)
  unfold opV opC at HKI
  unfold opV opC at hC
  unfold stV opV opC at hB
  have HCO := Lib.hid hC
  have HBG := Lib.hid hB
  clear hC hB hsz hkn
  have HPF := Lib.hid (fun w => rpf_any p.last o.id (oKd o) w)
  rw [← hT] at HPF
  have HR := Lib.hid hr
  clear hr hsz0 hT
  unfold stV opV at hA
  unfold opC at hA
  have HA := Lib.hid hA
  have p0 : ((o.k : Int) == 101) = false := beq_eq_false_iff_ne.mpr (by omega)
  have z0 : (((m + 1 : Nat) : Int) == 0) = false := beq_eq_false_iff_ne.mpr (by omega)
  have z0' : decide (m + 1 = 0) = false := decide_eq_false (by omega)
  have zw : IntKind.i64.wrap (((m + 1 : Nat) : Int) - 1) = (m : Int) := by rw [IntWalk.i64_in _ (by omega)]; omega
  have zw2 : IntKind.i64.wrap (m : Int) = (m : Int) := IntWalk.i64_in _ (by omega)
  have z1 : (0 : Int) ≤ (m : Int) := by omega
  have z2 : (m : Int) < ((m + 1 : Nat) : Int) := by omega
  have hT := fun w' hb => ht.below (w' := w') hb
  have N0 := bdo_new w A (.slice (some ⟨g, 0, none⟩) (m + 1) cap) 0 o
  unfold stV opV opC at *
  clear hk hA
  go_enter Tryd.func9, Tryd.ntmps9
  go_upto_region 1 with fail
  generalize (((w.alloc (.cells #[.string A, .slice (some ⟨g, 0, none⟩) (m + 1) cap, .int .i64 0] 29)).alloc (.cells #[.int .u8 (o.k : Nat), .int .i64 o.id, .int .i64 o.n, .int .u8 (o.wh : Nat), .int .u64 (o.bt : Nat), .string (bA o.tx)] 32)).alloc (.cells #[.string ⟨#[]⟩, .slice none 0 0, .int .i64 0] 29)) = W at *
  have a00 := N0.s.c0; have a01 := N0.s.c1; have a02 := N0.s.c2
  obtain ⟨o00, o01, o02, o03, o04, o05⟩ := N0.o.c
  have HT := Lib.hid hT
  have HI := Lib.hid (fun w1 (hb : Below w.heap.size w w1) => hi.below hb)
  have HW := Lib.hid N0
  clear N0 hi hT ht
  go_wp2_with fail
  refine (HA.out _).mono ?_
  rintro e w1 ⟨rfl, hb1⟩
  have N1 := HW.out.next hb1
  clear hb1 a00 a01 a02 o00 o01 o02 o03 o04 o05
  have a10 := N1.s.c0; have a11 := N1.s.c1; have a12 := N1.s.c2
  obtain ⟨o10, o11, o12, o13, o14, o15⟩ := N1.o.c
  have T1 := HT.out _ N1.b
  have t0 := T1.c0; have t1 := T1.c1; have t2 := T1.c2; have t3 := T1.c3
  have H1 := Lib.hid N1
  clear N1 T1
  have HD := Lib.hid (DoP.new H1.out (HI.out _ H1.out.b) (by simp) p)
  go_upto_region 13 with fail
  generalize hw2 : w1.alloc (.cells #[.bool p.li, .int .i64 p.last, .int .i64 p.left, .int .u8 (p.kd : Nat)] 60) = w2 at *
  clear hw2
  generalize w1.heap.size = H at *
  clear a10 a11 a12 o10 o11 o12 o13 o14 o15 t0 t1 t2 t3
  have pc := HD.out.p.c.1; have pl := HD.out.p.c.2.2.1
  rw [HLI.out] at pc
  go_wp2_with fail
  refine wp_region_held_drew (S := fun wx => DpC w o H p wx) (by kernel_rfl) HD.out.drew.c (fun hS => ?_)
  have HD := Lib.hid HD.out.drew
  clear pc pl
  generalize w2.drew = w3 at *
  refine wpAnyH_take (i := 0) (oi := ⟨some 64, _, _, _, _, _⟩) (v := ?_) rfl (by decide +kernel) (by decide +kernel) (by decide +kernel) (fun _ _ _ h => h) (Or.inl ⟨by rfl, ?_⟩) hS ?_
  rotate_left 1
  · intro wS hSw
    obtain ⟨s0, s1, s2, s3, s4, s5, s6, s7, s8, s9, -⟩ := hSw
    go_simp
    try with_reducible rfl
  try simp only [Act.put, List.setIfInBounds_toArray, List.set_cons_zero, List.set_cons_succ]
  refine wpAnyH_take (i := 1) (oi := ⟨some 65, _, _, _, _, _⟩) (v := ?_) rfl (by decide +kernel) (by decide +kernel) (by decide +kernel) (fun _ _ _ h => h) (Or.inl ⟨by rfl, ?_⟩) hS ?_
  rotate_left 1
  · intro wS hSw
    obtain ⟨s0, s1, s2, s3, s4, s5, s6, s7, s8, s9, -⟩ := hSw
    go_simp
    try with_reducible rfl
  try simp only [Act.put, List.setIfInBounds_toArray, List.set_cons_zero, List.set_cons_succ]
  refine wpAnyH_take (i := 2) (oi := ⟨some 66, _, _, _, _, _⟩) (v := ?_) rfl (by decide +kernel) (by decide +kernel) (by decide +kernel) (fun _ _ _ h => h) (Or.inl ⟨by rfl, ?_⟩) hS ?_
  rotate_left 1
  · intro wS hSw
    obtain ⟨s0, s1, s2, s3, s4, s5, s6, s7, s8, s9, -⟩ := hSw
    go_simp
    try with_reducible rfl
  try simp only [Act.put, List.setIfInBounds_toArray, List.set_cons_zero, List.set_cons_succ]
  refine wpAnyH_take (i := 3) (oi := ⟨some 67, _, _, _, _, _⟩) (v := ?_) rfl (by decide +kernel) (by decide +kernel) (by decide +kernel) (fun _ _ _ h => h) (Or.inl ⟨by rfl, ?_⟩) hS ?_
  rotate_left 1
  · intro wS hSw
    obtain ⟨s0, s1, s2, s3, s4, s5, s6, s7, s8, s9, -⟩ := hSw
    go_simp
    try with_reducible rfl
  try simp only [Act.put, List.setIfInBounds_toArray, List.set_cons_zero, List.set_cons_succ]
  refine wpAnyH_take (i := 4) (oi := ⟨some 68, _, _, _, _, _⟩) (v := ?_) rfl (by decide +kernel) (by decide +kernel) (by decide +kernel) (fun _ _ _ h => h) (Or.inl ⟨by rfl, ?_⟩) hS ?_
  rotate_left 1
  · intro wS hSw
    obtain ⟨s0, s1, s2, s3, s4, s5, s6, s7, s8, s9, -⟩ := hSw
    go_simp
    try with_reducible rfl
  try simp only [Act.put, List.setIfInBounds_toArray, List.set_cons_zero, List.set_cons_succ]
  refine wpAnyH_ready (rs := [5]) (by decide +kernel) (by simp) ?_
  refine AllReadyH.cons (o := ⟨some 69, _, _, _, _, _⟩) rfl (fun K hK => ?_) AllReadyH.nil
  rw [if_pos (by rfl)]
  go_simp
  with_reducible refine (HKI.out _).mono ?_
  rintro e w4 ⟨rfl, hb⟩
  have HD := Lib.hid (HD.out.next hb)
  refine hK.out _ _ HD.out.c (fun hS => ?_)
  clear hK K hb
  try simp only [Act.put, List.setIfInBounds_toArray, List.set_cons_zero, List.set_cons_succ]
  refine wpAnyH_ready (rs := [6]) (by decide +kernel) (by simp) ?_
  refine AllReadyH.cons (o := ⟨some 70, _, _, _, _, _⟩) rfl (fun K hK => ?_) AllReadyH.nil
  rw [if_pos (by rfl)]
  go_simp
  with_reducible refine (HPF.out _).mono ?_
  rintro e w5 ⟨rfl, hb⟩
  have HD := Lib.hid (HD.out.next hb)
  refine hK.out _ _ HD.out.c (fun hS => ?_)
  clear hK K hb
  try simp only [Act.put, List.setIfInBounds_toArray, List.set_cons_zero, List.set_cons_succ]
  refine wpAnyH_take (i := 7) (oi := ⟨some 7, _, _, _, _, _⟩) (v := ?_) rfl (by decide +kernel) (by decide +kernel) (by decide +kernel) (fun _ _ _ h => h) (Or.inl ⟨by rfl, ?_⟩) hS ?_
  rotate_left 1
  · intro wS hSw
    obtain ⟨s0, s1, s2, s3, s4, s5, s6, s7, s8, s9, -⟩ := hSw
    go_simp
    try with_reducible rfl
  try simp only [Act.put, List.setIfInBounds_toArray, List.set_cons_zero, List.set_cons_succ]
  refine wpAnyH_done (by kernel_rfl) ?_ _
  clear hS
  have a20 := HD.out.d.s.c0; have a21 := HD.out.d.s.c1; have a22 := HD.out.d.s.c2
  have sf := HD.out.d.s.fr
  have HD := Lib.hid (HD.out.set0 (A ++ T))
  go_upto_region 21 with fail
  generalize w5.setCell ⟨w.heap.size, 0, none⟩ (.string (A ++ T)) = w12 at *
  clear a20 a21 a22 sf
  have o21 := HD.out.d.o.c.2.1; have c21 := HD.out.p.c.2.1; have cf := HD.out.p.fr
  have D7 := HD.out.last o.id
  rw [← HR.out] at D7
  have HD := Lib.hid D7
  clear D7
  go_upto_region 22 with fail
  generalize w12.setCell ⟨H, 1, none⟩ (.int .i64 o.id) = w13 at *
  clear o21 c21 cf
  have a20 := HD.out.d.s.c0; have a21 := HD.out.d.s.c1; have a22 := HD.out.d.s.c2
  obtain ⟨c20, c21, c22, c23⟩ := HD.out.p.c
  go_wp2_with fail
  refine (HST.out _ HD.out.i).mono ?_
  rintro e w15 ⟨a5, n5, c5, rfl, hp5, hb5⟩
  have D5 := HD.out.next hb5
  have sf := D5.d.s.fr; have sc := D5.d.s.c1
  have HD := Lib.hid (D5.set1 hp5)
  clear D5 hp5 hb5 a20 a21 a22 c20 c21 c22 c23
  go_wp2_with fail
  generalize w15.setCell ⟨w.heap.size, 1, none⟩ (.slice a5 n5 c5) = w16 at *
  refine wp_region_held_drew (S := fun wx => DpC w o H r wx) (by kernel_rfl) HD.out.drew.c (fun hS => ?_)
  have HD := Lib.hid HD.out.drew
  clear sc sf
  generalize w16.drew = w17 at *
  refine wpAnyH_take (i := 0) (oi := ⟨some 88, _, _, _, _, _⟩) (v := ?_) rfl (by decide +kernel) (by decide +kernel) (by decide +kernel) (fun _ _ _ h => h) (Or.inl ⟨by rfl, ?_⟩) hS ?_
  rotate_left 1
  · intro wS hSw
    obtain ⟨s0, s1, s2, s3, s4, s5, s6, s7, s8, s9, -⟩ := hSw
    go_simp
    try with_reducible rfl
  try simp only [Act.put, List.setIfInBounds_toArray, List.set_cons_zero, List.set_cons_succ]
  refine wpAnyH_take (i := 2) (oi := ⟨some 90, _, _, _, _, _⟩) (v := ?_) rfl (by decide +kernel) (by decide +kernel) (by decide +kernel) (fun _ _ _ h => h) (Or.inl ⟨by rfl, ?_⟩) hS ?_
  rotate_left 1
  · intro wS hSw
    obtain ⟨s0, s1, s2, s3, s4, s5, s6, s7, s8, s9, -⟩ := hSw
    go_simp
    try with_reducible rfl
  try simp only [Act.put, List.setIfInBounds_toArray, List.set_cons_zero, List.set_cons_succ]
  refine wpAnyH_take (i := 3) (oi := ⟨some 91, _, _, _, _, _⟩) (v := ?_) rfl (by decide +kernel) (by decide +kernel) (by decide +kernel) (fun _ _ _ h => h) (Or.inl ⟨by rfl, ?_⟩) hS ?_
  rotate_left 1
  · intro wS hSw
    obtain ⟨s0, s1, s2, s3, s4, s5, s6, s7, s8, s9, -⟩ := hSw
    go_simp
    try with_reducible rfl
  try simp only [Act.put, List.setIfInBounds_toArray, List.set_cons_zero, List.set_cons_succ]
  refine wpAnyH_take (i := 4) (oi := ⟨some 92, _, _, _, _, _⟩) (v := ?_) rfl (by decide +kernel) (by decide +kernel) (by decide +kernel) (fun _ _ _ h => h) (Or.inl ⟨by rfl, ?_⟩) hS ?_
  rotate_left 1
  · intro wS hSw
    obtain ⟨s0, s1, s2, s3, s4, s5, s6, s7, s8, s9, -⟩ := hSw
    go_simp
    try with_reducible rfl
  try simp only [Act.put, List.setIfInBounds_toArray, List.set_cons_zero, List.set_cons_succ]
  refine wpAnyH_ready (rs := [1, 5]) (by decide +kernel) (by simp) ?_
  refine AllReadyH.cons (o := ⟨some 89, _, _, _, _, _⟩) rfl (fun K hK => ?_) (AllReadyH.cons (o := ⟨some 93, _, _, _, _, _⟩) rfl (fun K hK => ?_) AllReadyH.nil)
  · skip
    rw [if_pos (by rfl)]
    have c0 := HD.out.d.s.c0
    go_simp
    refine hK.out _ _ HD.out.c (fun hS => ?_)
    clear hK K c0
    try simp only [Act.put, List.setIfInBounds_toArray, List.set_cons_zero, List.set_cons_succ]
    refine wpAnyH_ready (rs := [5]) (by decide +kernel) (by simp) ?_
    refine AllReadyH.cons (o := ⟨some 93, _, _, _, _, _⟩) rfl (fun K hK => ?_) AllReadyH.nil
    rw [if_pos (by rfl)]
    go_simp
    with_reducible refine (HCO.out _).mono ?_
    rintro e w19 ⟨rfl, hb⟩
    have HD := Lib.hid (HD.out.next hb)
    refine hK.out _ _ HD.out.c (fun hS => ?_)
    clear hK K hb
    try simp only [Act.put, List.setIfInBounds_toArray, List.set_cons_zero, List.set_cons_succ]
    refine wpAnyH_take (i := 6) (oi := ⟨some 94, _, _, _, _, _⟩) (v := ?_) rfl (by decide +kernel) (by decide +kernel) (by decide +kernel) (fun _ _ _ h => h) (Or.inl ⟨by rfl, ?_⟩) hS ?_
    rotate_left 1
    · intro wS hSw
      obtain ⟨s0, s1, s2, s3, s4, s5, s6, s7, s8, s9, -⟩ := hSw
      go_simp
      try with_reducible rfl
    try simp only [Act.put, List.setIfInBounds_toArray, List.set_cons_zero, List.set_cons_succ]
    refine wpAnyH_take (i := 7) (oi := ⟨some 95, _, _, _, _, _⟩) (v := ?_) rfl (by decide +kernel) (by decide +kernel) (by decide +kernel) (fun _ _ _ h => h) (Or.inl ⟨by rfl, ?_⟩) hS ?_
    rotate_left 1
    · intro wS hSw
      obtain ⟨s0, s1, s2, s3, s4, s5, s6, s7, s8, s9, -⟩ := hSw
      go_simp
      try with_reducible rfl
    try simp only [Act.put, List.setIfInBounds_toArray, List.set_cons_zero, List.set_cons_succ]
    refine wpAnyH_ready (rs := [8]) (by decide +kernel) (by simp) ?_
    refine AllReadyH.cons (o := ⟨none, _, _, _, _, _⟩) rfl (fun K hK => ?_) AllReadyH.nil
    rw [if_pos (by rfl)]
    have sc := HD.out.d.s.c0; have sf := HD.out.d.s.fr
    go_simp
    have HD := Lib.hid (HD.out.set0 ((A ++ T) ++ C))
    refine hK.out _ _ HD.out.c (fun hS => ?_)
    clear hK K sc sf
    generalize w19.setCell ⟨w.heap.size, 0, none⟩ (.string ((A ++ T) ++ C)) = w20 at *
    try simp only [Act.put, List.setIfInBounds_toArray, List.set_cons_zero, List.set_cons_succ]
    refine wpAnyH_done (by kernel_rfl) ?_ _
    clear hS
    have a20 := HD.out.d.s.c0; have a21 := HD.out.d.s.c1; have a22 := HD.out.d.s.c2
    obtain ⟨o20, o21, o22, o23, o24, o25⟩ := HD.out.d.o.c
    go_wp2_with fail
    refine (HBG.out _ _ _ _ HD.out.i).mono ?_
    rintro e w9 ⟨a9, n9, c9, rfl, hp9, hb9⟩
    have H9 := Lib.hid (HD.out.d.next hb9)
    have P9 := Lib.hid hp9
    clear hb9 hp9
    have q0 := H9.out.q.c0; have q1 := H9.out.q.c1; have q2 := H9.out.q.c2; have qf := H9.out.q.fr
    try simp only []
    repeat (first | go_values | go_skip | go_guarded | go_step | go_upon)
    refine bodyPost_ret (st_result Tryd.results9 (BdO.fin H9.out _ _ _).1 rfl) rfl ?_
    exact ⟨_, _, _, rfl, P9.out.st3 H9.out.q _ _ _, (BdO.fin H9.out _ _ _).2⟩
  · skip
    rw [if_pos (by rfl)]
    go_simp
    with_reducible refine (HCO.out _).mono ?_
    rintro e w18 ⟨rfl, hb⟩
    have HD := Lib.hid (HD.out.next hb)
    refine hK.out _ _ HD.out.c (fun hS => ?_)
    clear hK K hb
    try simp only [Act.put, List.setIfInBounds_toArray, List.set_cons_zero, List.set_cons_succ]
    refine wpAnyH_ready (rs := [1]) (by decide +kernel) (by simp) ?_
    refine AllReadyH.cons (o := ⟨some 89, _, _, _, _, _⟩) rfl (fun K hK => ?_) AllReadyH.nil
    rw [if_pos (by rfl)]
    have c0 := HD.out.d.s.c0
    go_simp
    refine hK.out _ _ HD.out.c (fun hS => ?_)
    clear hK K c0
    try simp only [Act.put, List.setIfInBounds_toArray, List.set_cons_zero, List.set_cons_succ]
    refine wpAnyH_take (i := 6) (oi := ⟨some 94, _, _, _, _, _⟩) (v := ?_) rfl (by decide +kernel) (by decide +kernel) (by decide +kernel) (fun _ _ _ h => h) (Or.inl ⟨by rfl, ?_⟩) hS ?_
    rotate_left 1
    · intro wS hSw
      obtain ⟨s0, s1, s2, s3, s4, s5, s6, s7, s8, s9, -⟩ := hSw
      go_simp
      try with_reducible rfl
    try simp only [Act.put, List.setIfInBounds_toArray, List.set_cons_zero, List.set_cons_succ]
    refine wpAnyH_take (i := 7) (oi := ⟨some 95, _, _, _, _, _⟩) (v := ?_) rfl (by decide +kernel) (by decide +kernel) (by decide +kernel) (fun _ _ _ h => h) (Or.inl ⟨by rfl, ?_⟩) hS ?_
    rotate_left 1
    · intro wS hSw
      obtain ⟨s0, s1, s2, s3, s4, s5, s6, s7, s8, s9, -⟩ := hSw
      go_simp
      try with_reducible rfl
    try simp only [Act.put, List.setIfInBounds_toArray, List.set_cons_zero, List.set_cons_succ]
    refine wpAnyH_ready (rs := [8]) (by decide +kernel) (by simp) ?_
    refine AllReadyH.cons (o := ⟨none, _, _, _, _, _⟩) rfl (fun K hK => ?_) AllReadyH.nil
    rw [if_pos (by rfl)]
    have sc := HD.out.d.s.c0; have sf := HD.out.d.s.fr
    go_simp
    have HD := Lib.hid (HD.out.set0 ((A ++ T) ++ C))
    refine hK.out _ _ HD.out.c (fun hS => ?_)
    clear hK K sc sf
    generalize w18.setCell ⟨w.heap.size, 0, none⟩ (.string ((A ++ T) ++ C)) = w20 at *
    try simp only [Act.put, List.setIfInBounds_toArray, List.set_cons_zero, List.set_cons_succ]
    refine wpAnyH_done (by kernel_rfl) ?_ _
    clear hS
    have a20 := HD.out.d.s.c0; have a21 := HD.out.d.s.c1; have a22 := HD.out.d.s.c2
    obtain ⟨o20, o21, o22, o23, o24, o25⟩ := HD.out.d.o.c
    go_wp2_with fail
    refine (HBG.out _ _ _ _ HD.out.i).mono ?_
    rintro e w9 ⟨a9, n9, c9, rfl, hp9, hb9⟩
    have H9 := Lib.hid (HD.out.d.next hb9)
    have P9 := Lib.hid hp9
    clear hb9 hp9
    have q0 := H9.out.q.c0; have q1 := H9.out.q.c1; have q2 := H9.out.q.c2; have qf := H9.out.q.fr
    try simp only []
    repeat (first | go_values | go_skip | go_guarded | go_step | go_upon)
    refine bodyPost_ret (st_result Tryd.results9 (BdO.fin H9.out _ _ _).1 rfl) rfl ?_
    exact ⟨_, _, _, rfl, P9.out.st3 H9.out.q _ _ _, (BdO.fin H9.out _ _ _).2⟩
end Go.Proofs.YtmcklfndnjagiaaDoor
