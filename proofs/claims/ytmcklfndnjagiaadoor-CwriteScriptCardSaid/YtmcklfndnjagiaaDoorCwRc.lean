/- The document's writer (package truchmanref23): begun, set. -/
import Derived.Test.YtmcklfndnjagiaaDoorCwRb
namespace Go.Proofs.YtmcklfndnjagiaaDoor
open Go Go.RowKit
set_option linter.unusedVariables false

/-- The state and the op that came in, and the state to tell. -/
structure BdO (w : World) (A : ByteArray) (v : Value) (er : Int) (o : WO) (wx : World) : Prop where
  s : StT wx w.heap.size A v er
  o : OpT wx (w.heap.size + 1) o
  q : StT wx (w.heap.size + 2) ⟨#[]⟩ (.slice none 0 0) 0
  b : Below w.heap.size w wx
section
variable {w wx w' : World} {A : ByteArray} {v : Value} {er : Int} {o : WO}
theorem bdo_new (w : World) (A : ByteArray) (v : Value) (er : Int) (o : WO) : BdO w A v er o (((w.alloc (.cells #[.string A, v, .int .i64 er] 29)).alloc (.cells (opC o) 32)).alloc (.cells #[.string ⟨#[]⟩, .slice none 0 0, .int .i64 0] 29)) := by
  have h1 := new_st w A v er
  have b1 := new_grow w (.cells #[.string A, v, .int .i64 er] 29)
  have h2 := new_op (w.alloc (.cells #[.string A, v, .int .i64 er] 29)) o
  have b2 := new_grow (w.alloc (.cells #[.string A, v, .int .i64 er] 29)) (.cells (opC o) 32)
  have h3 := new_st ((w.alloc (.cells #[.string A, v, .int .i64 er] 29)).alloc (.cells (opC o) 32)) ⟨#[]⟩ (.slice none 0 0) 0
  have b3 := new_grow ((w.alloc (.cells #[.string A, v, .int .i64 er] 29)).alloc (.cells (opC o) 32)) (.cells #[.string ⟨#[]⟩, .slice none 0 0, .int .i64 0] 29)
  rw [World.size_alloc] at h2
  rw [World.size_alloc, World.size_alloc] at h3
  exact ⟨(h1.below b2).below b3, h2.below b3, h3, grown_then (grown_then b1 b2) b3⟩
theorem BdO.next (h : BdO w A v er o wx) (hb : Below wx.heap.size wx w') : BdO w A v er o w' := ⟨h.s.below hb, h.o.below hb, h.q.below hb, grown_then h.b hb⟩
theorem BdO.nextB {N : Nat} (h : BdO w A v er o wx) (hb : Below N wx w') (hN : w.heap.size + 2 < N) : BdO w A v er o w' := ⟨(hb.block _ (by omega)).trans h.s, (hb.block _ (by omega)).trans h.o, (hb.block _ hN).trans h.q, h.b.trans ⟨hb.os, hb.tape, hb.output, hb.size, fun k hk => hb.block k (by omega)⟩⟩
theorem BdO.drew (h : BdO w A v er o wx) : BdO w A v er o wx.drew := h.next (Below.drewN (Below.refl _ _) 1)
theorem BdO.set0 (h : BdO w A v er o wx) (x : ByteArray) : BdO w x v er o (wx.setCell ⟨w.heap.size, 0, none⟩ (.string x)) :=
  ⟨h.s.set0 x, (RowKit.Below.heap_setCell _ _ _ _ (show w.heap.size + 1 ≠ w.heap.size by omega)).trans h.o, (RowKit.Below.heap_setCell _ _ _ _ (show w.heap.size + 2 ≠ w.heap.size by omega)).trans h.q, h.b.setCell (Nat.le_refl _) _⟩
theorem BdO.set1 (h : BdO w A v er o wx) (x : Value) : BdO w A x er o (wx.setCell ⟨w.heap.size, 1, none⟩ x) :=
  ⟨h.s.set1 x, (RowKit.Below.heap_setCell _ _ _ _ (show w.heap.size + 1 ≠ w.heap.size by omega)).trans h.o, (RowKit.Below.heap_setCell _ _ _ _ (show w.heap.size + 2 ≠ w.heap.size by omega)).trans h.q, h.b.setCell (Nat.le_refl _) _⟩
theorem BdO.fin (h : BdO w A v er o wx) (A' : ByteArray) (v' : Value) (e' : Int) : StT (((wx.setCell ⟨w.heap.size + 2, 0, none⟩ (.string A')).setCell ⟨w.heap.size + 2, 1, none⟩ v').setCell ⟨w.heap.size + 2, 2, none⟩ (.int .i64 e')) (w.heap.size + 2) A' v' e' ∧
    Below w.heap.size w (((wx.setCell ⟨w.heap.size + 2, 0, none⟩ (.string A')).setCell ⟨w.heap.size + 2, 1, none⟩ v').setCell ⟨w.heap.size + 2, 2, none⟩ (.int .i64 e')) :=
  ⟨h.q.setAll _ _ _, h.b.trans ((set3_only wx (w.heap.size + 2) _ _ _).below (by omega) h.b.size)⟩
/-- A list in a state's block is kept over a store into such a block. -/
theorem PIn.st3 {l : List WP} {x : Value} {g : Nat} (h : PIn w x l) (hg : StT w g A v er) (a b c : Value) : PIn (((w.setCell ⟨g, 0, none⟩ a).setCell ⟨g, 1, none⟩ b).setCell ⟨g, 2, none⟩ c) x l :=
  h.only (set3_only w g a b c) hg (fun cs e => by simp at e)
theorem PIn.st1 {l : List WP} {x : Value} {g k : Nat} (h : PIn w x l) (hg : StT w g A v er) (a : Value) : PIn (w.setCell ⟨g, k, none⟩ a) x l :=
  h.only ((Only.refl _ _).setCell _ _) hg (fun cs e => by simp at e)
end
set_option maxRecDepth 20000 in
theorem rwbegun_no (A : ByteArray) (a : Option Addr) (n cap : Nat) (er : Int) (o : WO) (w : World) (h1 : ¬ o.k = 123) (h2 : ¬ o.k = 91) :
    Calls Tryd.prog 23 #[stV A (.slice a n cap) er, opV o] w fun e w' => e = .returned (stV A (.slice a n cap) er) ∧ Below w.heap.size w w' := by
  have N0 := bdo_new w A (.slice a n cap) er o
  have p1 : ((o.k : Int) == 123) = false := beq_eq_false_iff_ne.mpr (by omega)
  have p2 : ((o.k : Int) == 91) = false := beq_eq_false_iff_ne.mpr (by omega)
  clear h1 h2
  unfold stV opV opC at *
  go_enter Tryd.func23, Tryd.ntmps23
  go_upto_region 1 with fail
  generalize (((w.alloc (.cells #[.string A, .slice a n cap, .int .i64 er] 29)).alloc (.cells #[.int .u8 (o.k : Nat), .int .i64 o.id, .int .i64 o.n, .int .u8 (o.wh : Nat), .int .u64 (o.bt : Nat), .string (bA o.tx)] 32)).alloc (.cells #[.string ⟨#[]⟩, .slice none 0 0, .int .i64 0] 29)) = W at *
  have a0 := N0.s.c0; have a1 := N0.s.c1; have a2 := N0.s.c2
  have o0 := N0.o.c.1
  have q0 := N0.q.c0; have q1 := N0.q.c1; have q2 := N0.q.c2; have qf := N0.q.fr
  have HW := Lib.hid N0
  clear N0
  go_wp2
  refine bodyPost_ret (st_result Tryd.results23 (BdO.fin HW.out _ _ _).1 rfl) rfl ?_
  exact ⟨rfl, (BdO.fin HW.out _ _ _).2⟩
set_option maxRecDepth 20000 in
theorem rwbegun_strt (A : ByteArray) (a : Option Addr) (n cap : Nat) (er : Int) (o : WO) (l : List WP) (w : World) (h : PIn w (.slice a n cap) l) (hl : l.length ≤ 1099511627776) (h1 : o.k = 123) :
    Calls Tryd.prog 23 #[stV A (.slice a n cap) er, opV o] w fun e w' => ∃ v', e = .returned (stV A v' er) ∧ PIn w' v' (l ++ [⟨false, 0, 0, 0⟩]) ∧ Below w.heap.size w w' := by
  obtain ⟨k, id, nn, wh, bt, tx⟩ := o
  simp only at h1
  subst h1
  have N0 := bdo_new w A (.slice a n cap) er ⟨123, id, nn, wh, bt, tx⟩
  unfold stV opV opC at *
  simp only at *
  go_enter Tryd.func23, Tryd.ntmps23
  go_upto_region 1 with fail
  generalize (((w.alloc (.cells #[.string A, .slice a n cap, .int .i64 er] 29)).alloc (.cells #[.int .u8 ((123 : Nat) : Int), .int .i64 id, .int .i64 nn, .int .u8 (wh : Nat), .int .u64 (bt : Nat), .string (bA tx)] 32)).alloc (.cells #[.string ⟨#[]⟩, .slice none 0 0, .int .i64 0] 29)) = W at *
  have a0 := N0.s.c0; have a1 := N0.s.c1; have a2 := N0.s.c2
  have o0 := N0.o.c.1
  have HP := Lib.hid (h.below N0.b)
  have HW := Lib.hid N0
  clear N0 h
  have b1 := (HW.out.next (new_grow W (.cells #[] 60))).s.c1
  have P1 := Lib.hid (HP.out.below (new_grow W (.cells #[] 60)))
  have W1 := Lib.hid (HW.out.next (new_grow W (.cells #[] 60)))
  have hB1 : (W.alloc (.cells #[] 60)).heap.size = W.heap.size + 1 := World.size_alloc _ _
  go_wp2_with (at_builtin; go_loud (first
    | (refine list_app_first rfl (.tmp 8) (.tmp 10) 26 rfl Tryd.underlying26 _ rfl _ l P1.out rfl hl ?_; intro ad5 n5 c5 w5 hn5 hb5; have N5 := Lib.hid (hn5.next (new_grow w5 (.cells #[.bool false, .int .i64 0, .int .i64 0, .int .u8 0] 60))); have W5 := Lib.hid (W1.out.next (grown_then hb5 (new_grow w5 (.cells #[.bool false, .int .i64 0, .int .i64 0, .int .u8 0] 60)))); have B5 := Lib.hid (grown_then hb5 (new_grow w5 (.cells #[.bool false, .int .i64 0, .int .i64 0, .int .u8 0] 60))); clear hn5 hb5)
    | (refine list_app_more rfl (.tmp 11) (.tmp 13) 26 rfl Tryd.underlying26 _ _ l N5.out B5.out.size rfl _ ⟨false, 0, 0, 0⟩ (heap_alloc_new w5 _) rfl hl ?_; intro ad6 n6 c6 w6 hp6 hb6; have W6 := W1.out.next (B5.out.trans hb6); have s1 := W6.s.c1; have sf := W6.s.fr; have H7 := W6.set1 (.slice ad6 n6 c6); have P7 := Lib.hid (hp6.st1 (k := 1) W6.s (.slice ad6 n6 c6)); have x0 := H7.s.c0; have x1 := H7.s.c1; have x2 := H7.s.c2; have x3 := H7.o.c.1; have q0 := H7.q.c0; have q1 := H7.q.c1; have q2 := H7.q.c2; have qf := H7.q.fr; have HH7 := Lib.hid H7; clear hp6 hb6 W6 H7)))
  refine bodyPost_ret (st_result Tryd.results23 (BdO.fin HH7.out _ _ _).1 rfl) rfl ?_
  exact ⟨_, rfl, P7.out.st3 HH7.out.q _ _ _, (BdO.fin HH7.out _ _ _).2⟩
end Go.Proofs.YtmcklfndnjagiaaDoor
