/- The document's writer (package truchmanref15): value; what Do keeps in memory. -/
import Derived.Test.YtnbhhnkcfbfdcaaDoorJwRf
namespace Go.Proofs.YtnbhhnkcfbfdcaaDoor
open Go Go.RowKit
set_option linter.unusedVariables false

theorem new_op (w : World) (o : OP) : (w.alloc (.cells #[.int .u8 (o.k.toNat : Int), .string (bA o.t), .int .i64 o.n] 31)).heap[w.heap.size]? = some (.cells #[.int .u8 (o.k.toNat : Int), .string (bA o.t), .int .i64 o.n] 31 (0, 0)) := heap_alloc_new w _
theorem rfvalue_any (o : OP) (ho : OpOk o) (hot : o.t.length ≤ 1099511627776) (w : World) : Calls Tryd.prog 23 #[opV o] w fun e w' => e = .returned (.string (bA (rVal o))) ∧ Below w.heap.size w w' := by
  have B0 := Lib.hid (new_blw w (.cells #[.int .u8 (o.k.toNat : Int), .string (bA o.t), .int .i64 o.n] 31))
  have hm := new_op w o
  have m0 := cell_of_row _ _ 0 _ _ _ hm
  have m1 := cell_of_row _ _ 1 _ _ _ hm
  have m2 := cell_of_row _ _ 2 _ _ _ hm
  simp only [List.getElem?_toArray, List.getElem?_cons_zero, List.getElem?_cons_succ] at m0 m1 m2
  have HT := Lib.hid (show ∀ w, Calls Tryd.prog 22 #[.string (bA o.t)] w fun e w' => e = .returned (.string (bA (jText o.t))) ∧ Below w.heap.size w w' from fun w => by
    have := rjtext_any (bA o.t) w (by rw [bA_size]; exact hot)
    rw [show (bA o.t).data.toList = o.t by simp [bA]] at this; exact this)
  have HN := Lib.hid (fun w => rdtext_any o.n ho.1 ho.2 w)
  have HV := Lib.hid (show rVal o = if o.k = 115 then jText o.t else if o.k = 110 then Lib.itoa o.n else if o.k = 116 then [116, 114, 117, 101] else if o.k = 102 then [102, 97, 108, 115, 101] else [110, 117, 108, 108] from rfl)
  unfold opV
  generalize rVal o = V at *
  generalize o.k = y at *
  clear hm ho hot
  by_cases h1 : y = 115
  · have p1 := u8eq_t (k := 115) 115 rfl h1
    have HX := Lib.hid (show V = jText o.t by rw [HV.out, if_pos h1])
    generalize bA o.t = T at *
    generalize jText o.t = J at *
    clear HV h1
    go_enter Tryd.func23, Tryd.ntmps23
    go_wp2_with fail
    refine (HT.out _).mono ?_
    rintro e w1 ⟨rfl, hb⟩
    have HB := Lib.hid (grown_then B0.out hb)
    clear hb
    go_wp2
    go_ret
    exact ⟨by rw [HX.out]; rfl, HB.out⟩
  · have p1 := u8eq_f (k := 115) 115 rfl h1
    by_cases h2 : y = 110
    · have p2 := u8eq_t (k := 110) 110 rfl h2
      have HX := Lib.hid (show V = Lib.itoa o.n by rw [HV.out, if_neg h1, if_pos h2])
      generalize bA o.t = T at *
      generalize Lib.itoa o.n = J at *
      clear HV h1 h2
      go_enter Tryd.func23, Tryd.ntmps23
      go_wp2_with fail
      refine (HN.out _).mono ?_
      rintro e w1 ⟨rfl, hw⟩
      rw [hw]; clear hw
      go_wp2
      go_ret
      exact ⟨by rw [HX.out]; rfl, B0.out⟩
    · have p2 := u8eq_f (k := 110) 110 rfl h2
      generalize bA o.t = T at *
      by_cases h3 : y = 116
      · have p3 := u8eq_t (k := 116) 116 rfl h3
        have HX := Lib.hid (show V = [116, 114, 117, 101] by rw [HV.out, if_neg h1, if_neg h2, if_pos h3])
        clear HV h1 h2 h3
        go_enter Tryd.func23, Tryd.ntmps23
        go_wp2
        go_ret
        exact ⟨by rw [HX.out]; rfl, B0.out⟩
      · have p3 := u8eq_f (k := 116) 116 rfl h3
        by_cases h4 : y = 102
        · have p4 := u8eq_t (k := 102) 102 rfl h4
          have HX := Lib.hid (show V = [102, 97, 108, 115, 101] by rw [HV.out, if_neg h1, if_neg h2, if_neg h3, if_pos h4])
          clear HV h1 h2 h3 h4
          go_enter Tryd.func23, Tryd.ntmps23
          go_wp2
          go_ret
          exact ⟨by rw [HX.out]; rfl, B0.out⟩
        · have p4 := u8eq_f (k := 102) 102 rfl h4
          have HX := Lib.hid (show V = [110, 117, 108, 108] by rw [HV.out, if_neg h1, if_neg h2, if_neg h3, if_neg h4])
          clear HV h1 h2 h3 h4
          go_enter Tryd.func23, Tryd.ntmps23
          go_wp2
          go_ret
          exact ⟨by rw [HX.out]; rfl, B0.out⟩
/-- Do's blocks: the state and the word that came in, the state to tell. -/
structure DoW (w : World) (A P : ByteArray) (k f : Bool) (c : Int) (y : Int) (T : ByteArray) (n : Int) (wx : World) : Prop where
  s : RcT wx w.heap.size A P k f c
  o : wx.heap[w.heap.size + 1]? = some (.cells #[.int .u8 y, .string T, .int .i64 n] 31 (0, 0))
  q : ∃ q0 q1 q2 q3 q4, wx.heap[w.heap.size + 1 + 1]? = some (.cells #[q0, q1, q2, q3, q4] 28 (0, 0))
  b : Below w.heap.size w wx
@[reducible] def DoS (w : World) (A P : ByteArray) (k f : Bool) (c : Int) (y : Int) (T : ByteArray) (n : Int) (wx : World) : Prop :=
  wx.cell? ⟨w.heap.size, 0, none⟩ = some (.string A) ∧ wx.cell? ⟨w.heap.size, 1, none⟩ = some (.string P) ∧ wx.cell? ⟨w.heap.size, 2, none⟩ = some (.bool k) ∧ wx.cell? ⟨w.heap.size, 3, none⟩ = some (.bool f) ∧ wx.cell? ⟨w.heap.size, 4, none⟩ = some (.int .i64 c) ∧
  wx.cell? ⟨w.heap.size + 1, 0, none⟩ = some (.int .u8 y) ∧ wx.cell? ⟨w.heap.size + 1, 1, none⟩ = some (.string T) ∧ wx.cell? ⟨w.heap.size + 1, 2, none⟩ = some (.int .i64 n) ∧ DoW w A P k f c y T n wx
section
variable {w wx w' : World} {A P : ByteArray} {k f : Bool} {c y : Int} {T : ByteArray} {n : Int}
theorem DoW.o0 (h : DoW w A P k f c y T n wx) : wx.cell? ⟨w.heap.size + 1, 0, none⟩ = some (.int .u8 y) := by rw [cell_of_row wx _ 0 _ _ _ h.o]; rfl
theorem DoW.o1 (h : DoW w A P k f c y T n wx) : wx.cell? ⟨w.heap.size + 1, 1, none⟩ = some (.string T) := by rw [cell_of_row wx _ 1 _ _ _ h.o]; rfl
theorem DoW.o2 (h : DoW w A P k f c y T n wx) : wx.cell? ⟨w.heap.size + 1, 2, none⟩ = some (.int .i64 n) := by rw [cell_of_row wx _ 2 _ _ _ h.o]; rfl
theorem dos_of (h : DoW w A P k f c y T n wx) : DoS w A P k f c y T n wx := ⟨h.s.c0, h.s.c1, h.s.c2, h.s.c3, h.s.c4, h.o0, h.o1, h.o2, h⟩
theorem dos_w (h : DoS w A P k f c y T n wx) : DoW w A P k f c y T n wx := h.2.2.2.2.2.2.2.2
theorem DoW.next (h : DoW w A P k f c y T n wx) (hb : Below wx.heap.size wx w') : DoW w A P k f c y T n w' := by
  obtain ⟨q0, q1, q2, q3, q4, hq⟩ := h.q
  exact ⟨h.s.below hb, (hb.block _ (lt_of_block h.o)).trans h.o, ⟨q0, q1, q2, q3, q4, (hb.block _ (lt_of_block hq)).trans hq⟩, grown_then h.b hb⟩
theorem DoW.drew (h : DoW w A P k f c y T n wx) : DoW w A P k f c y T n wx.drew := h.next (Below.drewN (Below.refl _ _) 1)
theorem DoW.alloc (h : DoW w A P k f c y T n wx) (o : Obj) : DoW w A P k f c y T n (wx.alloc o) := h.next (new_blw wx o)
theorem DoW.q5 (h : DoW w A P k f c y T n wx) : ∃ q0 q1 q2 q3 q4, wx.cell? ⟨w.heap.size + 1 + 1, 0, none⟩ = some q0 ∧ wx.cell? ⟨w.heap.size + 1 + 1, 1, none⟩ = some q1 ∧ wx.cell? ⟨w.heap.size + 1 + 1, 2, none⟩ = some q2 ∧ wx.cell? ⟨w.heap.size + 1 + 1, 3, none⟩ = some q3 ∧ wx.cell? ⟨w.heap.size + 1 + 1, 4, none⟩ = some q4 ∧ ∀ o, wx.frozen? ⟨w.heap.size + 1 + 1, o, none⟩ = false := by
  obtain ⟨q0, q1, q2, q3, q4, hq⟩ := h.q
  refine ⟨q0, q1, q2, q3, q4, ?_, ?_, ?_, ?_, ?_, fun o => by simp [World.frozen?, hq]⟩
  · rw [cell_of_row wx _ 0 _ _ _ hq]; rfl
  · rw [cell_of_row wx _ 1 _ _ _ hq]; rfl
  · rw [cell_of_row wx _ 2 _ _ _ hq]; rfl
  · rw [cell_of_row wx _ 3 _ _ _ hq]; rfl
  · rw [cell_of_row wx _ 4 _ _ _ hq]; rfl
theorem DoW.qv (h : DoW w A P k f c y T n wx) : ∃ q : Nat → Value, (∀ j, j < 5 → wx.cell? ⟨w.heap.size + 1 + 1, j, none⟩ = some (q j)) ∧ ∀ o, wx.frozen? ⟨w.heap.size + 1 + 1, o, none⟩ = false := by
  obtain ⟨q0, q1, q2, q3, q4, h0, h1, h2, h3, h4, hf⟩ := h.q5
  refine ⟨fun j => (wx.cell? ⟨w.heap.size + 1 + 1, j, none⟩).getD undef, fun j hj => ?_, hf⟩
  show _ = some ((wx.cell? ⟨w.heap.size + 1 + 1, j, none⟩).getD undef)
  match j, hj with
  | 0, _ => simp only [h0, Option.getD_some]
  | 1, _ => simp only [h1, Option.getD_some]
  | 2, _ => simp only [h2, Option.getD_some]
  | 3, _ => simp only [h3, Option.getD_some]
  | 4, _ => simp only [h4, Option.getD_some]
theorem DoW.fin (h : DoW w A P k f c y T n wx) (A' P' : ByteArray) (k' f' : Bool) (c' : Int) :
    RcT (((((wx.setCell ⟨w.heap.size + 1 + 1, 0, none⟩ (.string A')).setCell ⟨w.heap.size + 1 + 1, 1, none⟩ (.string P')).setCell ⟨w.heap.size + 1 + 1, 2, none⟩ (.bool k')).setCell ⟨w.heap.size + 1 + 1, 3, none⟩ (.bool f')).setCell ⟨w.heap.size + 1 + 1, 4, none⟩ (.int .i64 c')) (w.heap.size + 1 + 1) A' P' k' f' c' ∧
    Below w.heap.size w (((((wx.setCell ⟨w.heap.size + 1 + 1, 0, none⟩ (.string A')).setCell ⟨w.heap.size + 1 + 1, 1, none⟩ (.string P')).setCell ⟨w.heap.size + 1 + 1, 2, none⟩ (.bool k')).setCell ⟨w.heap.size + 1 + 1, 3, none⟩ (.bool f')).setCell ⟨w.heap.size + 1 + 1, 4, none⟩ (.int .i64 c')) := by
  obtain ⟨q0, q1, q2, q3, q4, hq⟩ := h.q
  exact ⟨heap_setCell_block (heap_setCell_block (heap_setCell_block (heap_setCell_block (heap_setCell_block hq _) _) _) _) _, set5_below h.b (by omega) _ _ _ _ _⟩
theorem DoW.store (h : DoW w A P k f c y T n wx) (A' P' : ByteArray) (k' f' : Bool) (c' : Int) :
    DoW w A P k f c y T n (((((wx.setCell ⟨w.heap.size + 1 + 1, 0, none⟩ (.string A')).setCell ⟨w.heap.size + 1 + 1, 1, none⟩ (.string P')).setCell ⟨w.heap.size + 1 + 1, 2, none⟩ (.bool k')).setCell ⟨w.heap.size + 1 + 1, 3, none⟩ (.bool f')).setCell ⟨w.heap.size + 1 + 1, 4, none⟩ (.int .i64 c')) := by
  have hf := h.fin A' P' k' f' c'
  exact ⟨(set5_lt wx _ _ _ _ _ _ _ (show w.heap.size ≠ w.heap.size + 1 + 1 by omega)).trans h.s, (set5_lt wx _ _ _ _ _ _ _ (show w.heap.size + 1 ≠ w.heap.size + 1 + 1 by omega)).trans h.o, ⟨_, _, _, _, _, hf.1⟩, hf.2⟩
end
theorem dow_new (w : World) (A P : ByteArray) (k f : Bool) (c y : Int) (T : ByteArray) (n : Int) :
    DoW w A P k f c y T n (((w.alloc (.cells #[.string A, .string P, .bool k, .bool f, .int .i64 c] 28)).alloc (.cells #[.int .u8 y, .string T, .int .i64 n] 31)).alloc (.cells #[.string ⟨#[]⟩, .string ⟨#[]⟩, .bool false, .bool false, .int .i64 0] 28)) := by
  have b1 := new_blw w (.cells #[.string A, .string P, .bool k, .bool f, .int .i64 c] 28)
  have h1 := new_rc w A P k f c
  have h2 := heap_alloc_new (w.alloc (.cells #[.string A, .string P, .bool k, .bool f, .int .i64 c] 28)) (.cells #[.int .u8 y, .string T, .int .i64 n] 31)
  have b2 := new_blw (w.alloc (.cells #[.string A, .string P, .bool k, .bool f, .int .i64 c] 28)) (.cells #[.int .u8 y, .string T, .int .i64 n] 31)
  have h3 := heap_alloc_new ((w.alloc (.cells #[.string A, .string P, .bool k, .bool f, .int .i64 c] 28)).alloc (.cells #[.int .u8 y, .string T, .int .i64 n] 31)) (.cells #[.string ⟨#[]⟩, .string ⟨#[]⟩, .bool false, .bool false, .int .i64 0] 28)
  have b3 := new_blw ((w.alloc (.cells #[.string A, .string P, .bool k, .bool f, .int .i64 c] 28)).alloc (.cells #[.int .u8 y, .string T, .int .i64 n] 31)) (.cells #[.string ⟨#[]⟩, .string ⟨#[]⟩, .bool false, .bool false, .int .i64 0] 28)
  rw [World.size_alloc] at h2
  rw [World.size_alloc, World.size_alloc] at h3
  exact ⟨(h1.below b2).below b3, (b3.block _ (lt_of_block h2)).trans h2, ⟨_, _, _, _, _, h3⟩, grown_then (grown_then b1 b2) b3⟩
end Go.Proofs.YtnbhhnkcfbfdcaaDoor
