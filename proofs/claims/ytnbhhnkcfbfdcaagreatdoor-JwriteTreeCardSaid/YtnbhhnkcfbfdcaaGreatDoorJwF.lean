/- Law 15's do and its example (works). -/
import Derived.Test.YtnbhhnkcfbfdcaaGreatDoorJwE
namespace Go.Proofs.YtnbhhnkcfbfdcaaGreatDoor
open Go Go.RowKit
set_option linter.unusedVariables false

/-- What a writer is told, as a value. -/
def opC (x : OP) : List Value := [.int .u8 (x.k.toNat : Int), .string (bA x.t), .int .i64 x.n]
def opV (x : OP) : Value := .agg #[.int .u8 (x.k.toNat : Int), .string (bA x.t), .int .i64 x.n]
section
variable {Z : Nat → Prop} {B b : Nat} {w : World} {vl ve : Value} {s : WS}

set_option maxRecDepth 20000 in
theorem do_123 (h : Wr Z B b w vl ve s) (hk : WOk s) (hs : s.out.length ≤ 35184372088832) (o : OP) (ho : OpOk o) (hot : o.t.length ≤ 1099511627776) (ht : ∀ w', Below B w w' → P10 w')  (hy : o.k = 123) :
    Calls Tryz.prog 9 #[.pointer (some ⟨b, 0, none⟩), opV o] w fun e w' => e = .returned (.tuple #[]) ∧ WrX Z B b w' (wDo s o) ∧ Kz Z B w w' := by
  have HC := Lib.hid (fun w1 (hb : Below w.heap.size w w1) => jwobject_any (h.next hb) hk hs)
  have HV := Lib.hid (show wDo s o = s.beg 123 125 by unfold wDo; rw [if_pos hy])
  have p123 := u8eq_t (k := 123) 123 rfl hy
  have B0 := Lib.hid (new_blw w (.cells #[.int .u8 (o.k.toNat : Int), .string (bA o.t), .int .i64 o.n] 35))
  have hm := heap_alloc_new w (.cells #[.int .u8 (o.k.toNat : Int), .string (bA o.t), .int .i64 o.n] 35)
  have m0 := cell_of_row _ _ 0 _ _ _ hm
  have m1 := cell_of_row _ _ 1 _ _ _ hm
  have m2 := cell_of_row _ _ 2 _ _ _ hm
  simp only [List.getElem?_toArray, List.getElem?_cons_zero, List.getElem?_cons_succ] at m0 m1 m2
  unfold opV
  generalize wDo s o = V at *
  generalize o.k = y at *
  generalize bA o.t = T at *
  clear h hk ho hot ht hm  hy
  go_enter Tryz.func9, Tryz.ntmps9
  go_wp2_with fail
  refine (HC.out _ B0.out).mono ?_
  rintro e w1 ⟨rfl, h1, k1⟩
  have H1 := Lib.hid h1
  have K1 := Lib.hid ((Kz.of_below (Z := Z) (B := B) B0.out).trans k1)
  clear h1 k1
  go_wp2
  go_end0
  exact ⟨rfl, by rw [HV.out]; exact H1.out, K1.out⟩
set_option maxRecDepth 20000 in
theorem do_91 (h : Wr Z B b w vl ve s) (hk : WOk s) (hs : s.out.length ≤ 35184372088832) (o : OP) (ho : OpOk o) (hot : o.t.length ≤ 1099511627776) (ht : ∀ w', Below B w w' → P10 w') (n123 : ¬ o.k = 123) (hy : o.k = 91) :
    Calls Tryz.prog 9 #[.pointer (some ⟨b, 0, none⟩), opV o] w fun e w' => e = .returned (.tuple #[]) ∧ WrX Z B b w' (wDo s o) ∧ Kz Z B w w' := by
  have HC := Lib.hid (fun w1 (hb : Below w.heap.size w w1) => jwlist_any (h.next hb) hk hs)
  have HV := Lib.hid (show wDo s o = s.beg 91 93 by unfold wDo; rw [if_neg n123, if_pos hy])
  have p123 := u8eq_f (k := 123) 123 rfl n123
  have p91 := u8eq_t (k := 91) 91 rfl hy
  have B0 := Lib.hid (new_blw w (.cells #[.int .u8 (o.k.toNat : Int), .string (bA o.t), .int .i64 o.n] 35))
  have hm := heap_alloc_new w (.cells #[.int .u8 (o.k.toNat : Int), .string (bA o.t), .int .i64 o.n] 35)
  have m0 := cell_of_row _ _ 0 _ _ _ hm
  have m1 := cell_of_row _ _ 1 _ _ _ hm
  have m2 := cell_of_row _ _ 2 _ _ _ hm
  simp only [List.getElem?_toArray, List.getElem?_cons_zero, List.getElem?_cons_succ] at m0 m1 m2
  unfold opV
  generalize wDo s o = V at *
  generalize o.k = y at *
  generalize bA o.t = T at *
  clear h hk ho hot ht hm n123 hy
  go_enter Tryz.func9, Tryz.ntmps9
  go_wp2_with fail
  refine (HC.out _ B0.out).mono ?_
  rintro e w1 ⟨rfl, h1, k1⟩
  have H1 := Lib.hid h1
  have K1 := Lib.hid ((Kz.of_below (Z := Z) (B := B) B0.out).trans k1)
  clear h1 k1
  go_wp2
  go_end0
  exact ⟨rfl, by rw [HV.out]; exact H1.out, K1.out⟩
set_option maxRecDepth 20000 in
theorem do_101 (h : Wr Z B b w vl ve s) (hk : WOk s) (hs : s.out.length ≤ 35184372088832) (o : OP) (ho : OpOk o) (hot : o.t.length ≤ 1099511627776) (ht : ∀ w', Below B w w' → P10 w') (n123 : ¬ o.k = 123) (n91 : ¬ o.k = 91) (hy : o.k = 101) :
    Calls Tryz.prog 9 #[.pointer (some ⟨b, 0, none⟩), opV o] w fun e w' => e = .returned (.tuple #[]) ∧ WrX Z B b w' (wDo s o) ∧ Kz Z B w w' := by
  have HC := Lib.hid (fun w1 (hb : Below w.heap.size w w1) => jwfin_any (h.next hb) hk hs)
  have HV := Lib.hid (show wDo s o = s.fin by unfold wDo; rw [if_neg n123, if_neg n91, if_pos hy])
  have p123 := u8eq_f (k := 123) 123 rfl n123
  have p91 := u8eq_f (k := 91) 91 rfl n91
  have p101 := u8eq_t (k := 101) 101 rfl hy
  have B0 := Lib.hid (new_blw w (.cells #[.int .u8 (o.k.toNat : Int), .string (bA o.t), .int .i64 o.n] 35))
  have hm := heap_alloc_new w (.cells #[.int .u8 (o.k.toNat : Int), .string (bA o.t), .int .i64 o.n] 35)
  have m0 := cell_of_row _ _ 0 _ _ _ hm
  have m1 := cell_of_row _ _ 1 _ _ _ hm
  have m2 := cell_of_row _ _ 2 _ _ _ hm
  simp only [List.getElem?_toArray, List.getElem?_cons_zero, List.getElem?_cons_succ] at m0 m1 m2
  unfold opV
  generalize wDo s o = V at *
  generalize o.k = y at *
  generalize bA o.t = T at *
  clear h hk ho hot ht hm n123 n91 hy
  go_enter Tryz.func9, Tryz.ntmps9
  go_wp2_with fail
  refine (HC.out _ B0.out).mono ?_
  rintro e w1 ⟨rfl, h1, k1⟩
  have H1 := Lib.hid h1
  have K1 := Lib.hid ((Kz.of_below (Z := Z) (B := B) B0.out).trans k1)
  clear h1 k1
  go_wp2
  go_end0
  exact ⟨rfl, by rw [HV.out]; exact H1.out, K1.out⟩
set_option maxRecDepth 20000 in
theorem do_107 (h : Wr Z B b w vl ve s) (hk : WOk s) (hs : s.out.length ≤ 35184372088832) (o : OP) (ho : OpOk o) (hot : o.t.length ≤ 1099511627776) (ht : ∀ w', Below B w w' → P10 w') (n123 : ¬ o.k = 123) (n91 : ¬ o.k = 91) (n101 : ¬ o.k = 101) (hy : o.k = 107) :
    Calls Tryz.prog 9 #[.pointer (some ⟨b, 0, none⟩), opV o] w fun e w' => e = .returned (.tuple #[]) ∧ WrX Z B b w' (wDo s o) ∧ Kz Z B w w' := by
  have HC := Lib.hid (fun w1 (hb : Below w.heap.size w w1) => jwkey_any (h.next hb) hk hs o.t hot)
  have HV := Lib.hid (show wDo s o = s.key o.t by unfold wDo; rw [if_neg n123, if_neg n91, if_neg n101, if_pos hy])
  have p123 := u8eq_f (k := 123) 123 rfl n123
  have p91 := u8eq_f (k := 91) 91 rfl n91
  have p101 := u8eq_f (k := 101) 101 rfl n101
  have p107 := u8eq_t (k := 107) 107 rfl hy
  have B0 := Lib.hid (new_blw w (.cells #[.int .u8 (o.k.toNat : Int), .string (bA o.t), .int .i64 o.n] 35))
  have hm := heap_alloc_new w (.cells #[.int .u8 (o.k.toNat : Int), .string (bA o.t), .int .i64 o.n] 35)
  have m0 := cell_of_row _ _ 0 _ _ _ hm
  have m1 := cell_of_row _ _ 1 _ _ _ hm
  have m2 := cell_of_row _ _ 2 _ _ _ hm
  simp only [List.getElem?_toArray, List.getElem?_cons_zero, List.getElem?_cons_succ] at m0 m1 m2
  unfold opV
  generalize wDo s o = V at *
  generalize o.k = y at *
  generalize bA o.t = T at *
  clear h hk ho hot ht hm n123 n91 n101 hy
  go_enter Tryz.func9, Tryz.ntmps9
  go_wp2_with fail
  refine (HC.out _ B0.out).mono ?_
  rintro e w1 ⟨rfl, h1, k1⟩
  have H1 := Lib.hid h1
  have K1 := Lib.hid ((Kz.of_below (Z := Z) (B := B) B0.out).trans k1)
  clear h1 k1
  go_wp2
  go_end0
  exact ⟨rfl, by rw [HV.out]; exact H1.out, K1.out⟩
set_option maxRecDepth 20000 in
theorem do_115 (h : Wr Z B b w vl ve s) (hk : WOk s) (hs : s.out.length ≤ 35184372088832) (o : OP) (ho : OpOk o) (hot : o.t.length ≤ 1099511627776) (ht : ∀ w', Below B w w' → P10 w') (n123 : ¬ o.k = 123) (n91 : ¬ o.k = 91) (n101 : ¬ o.k = 101) (n107 : ¬ o.k = 107) (hy : o.k = 115) :
    Calls Tryz.prog 9 #[.pointer (some ⟨b, 0, none⟩), opV o] w fun e w' => e = .returned (.tuple #[]) ∧ WrX Z B b w' (wDo s o) ∧ Kz Z B w w' := by
  have HC := Lib.hid (fun w1 (hb : Below w.heap.size w w1) => jwtext_any (h.next hb) hk hs o.t hot)
  have HV := Lib.hid (show wDo s o = s.val (jText o.t) by unfold wDo rVal; rw [if_neg n123, if_neg n91, if_neg n101, if_neg n107, if_pos hy])
  have p123 := u8eq_f (k := 123) 123 rfl n123
  have p91 := u8eq_f (k := 91) 91 rfl n91
  have p101 := u8eq_f (k := 101) 101 rfl n101
  have p107 := u8eq_f (k := 107) 107 rfl n107
  have p115 := u8eq_t (k := 115) 115 rfl hy
  have B0 := Lib.hid (new_blw w (.cells #[.int .u8 (o.k.toNat : Int), .string (bA o.t), .int .i64 o.n] 35))
  have hm := heap_alloc_new w (.cells #[.int .u8 (o.k.toNat : Int), .string (bA o.t), .int .i64 o.n] 35)
  have m0 := cell_of_row _ _ 0 _ _ _ hm
  have m1 := cell_of_row _ _ 1 _ _ _ hm
  have m2 := cell_of_row _ _ 2 _ _ _ hm
  simp only [List.getElem?_toArray, List.getElem?_cons_zero, List.getElem?_cons_succ] at m0 m1 m2
  unfold opV
  generalize wDo s o = V at *
  generalize o.k = y at *
  generalize bA o.t = T at *
  clear h hk ho hot ht hm n123 n91 n101 n107 hy
  go_enter Tryz.func9, Tryz.ntmps9
  go_wp2_with fail
  refine (HC.out _ B0.out).mono ?_
  rintro e w1 ⟨rfl, h1, k1⟩
  have H1 := Lib.hid h1
  have K1 := Lib.hid ((Kz.of_below (Z := Z) (B := B) B0.out).trans k1)
  clear h1 k1
  go_wp2
  go_end0
  exact ⟨rfl, by rw [HV.out]; exact H1.out, K1.out⟩
set_option maxRecDepth 20000 in
theorem do_110 (h : Wr Z B b w vl ve s) (hk : WOk s) (hs : s.out.length ≤ 35184372088832) (o : OP) (ho : OpOk o) (hot : o.t.length ≤ 1099511627776) (ht : ∀ w', Below B w w' → P10 w') (n123 : ¬ o.k = 123) (n91 : ¬ o.k = 91) (n101 : ¬ o.k = 101) (n107 : ¬ o.k = 107) (n115 : ¬ o.k = 115) (hy : o.k = 110) :
    Calls Tryz.prog 9 #[.pointer (some ⟨b, 0, none⟩), opV o] w fun e w' => e = .returned (.tuple #[]) ∧ WrX Z B b w' (wDo s o) ∧ Kz Z B w w' := by
  have HC := Lib.hid (fun w1 (hb : Below w.heap.size w w1) => jwwhole_any (h.next hb) hk hs o.n ho.1 ho.2 (fun w' hb' => ht w' ((Kz.below (Z := Z) (Kz.of_below hb) h.hB).trans hb')))
  have HV := Lib.hid (show wDo s o = s.val (Lib.itoa o.n) by unfold wDo rVal; rw [if_neg n123, if_neg n91, if_neg n101, if_neg n107, if_neg n115, if_pos hy])
  have p123 := u8eq_f (k := 123) 123 rfl n123
  have p91 := u8eq_f (k := 91) 91 rfl n91
  have p101 := u8eq_f (k := 101) 101 rfl n101
  have p107 := u8eq_f (k := 107) 107 rfl n107
  have p115 := u8eq_f (k := 115) 115 rfl n115
  have p110 := u8eq_t (k := 110) 110 rfl hy
  have B0 := Lib.hid (new_blw w (.cells #[.int .u8 (o.k.toNat : Int), .string (bA o.t), .int .i64 o.n] 35))
  have hm := heap_alloc_new w (.cells #[.int .u8 (o.k.toNat : Int), .string (bA o.t), .int .i64 o.n] 35)
  have m0 := cell_of_row _ _ 0 _ _ _ hm
  have m1 := cell_of_row _ _ 1 _ _ _ hm
  have m2 := cell_of_row _ _ 2 _ _ _ hm
  simp only [List.getElem?_toArray, List.getElem?_cons_zero, List.getElem?_cons_succ] at m0 m1 m2
  unfold opV
  generalize wDo s o = V at *
  generalize o.k = y at *
  generalize bA o.t = T at *
  clear h hk ho hot ht hm n123 n91 n101 n107 n115 hy
  go_enter Tryz.func9, Tryz.ntmps9
  go_wp2_with fail
  refine (HC.out _ B0.out).mono ?_
  rintro e w1 ⟨rfl, h1, k1⟩
  have H1 := Lib.hid h1
  have K1 := Lib.hid ((Kz.of_below (Z := Z) (B := B) B0.out).trans k1)
  clear h1 k1
  go_wp2
  go_end0
  exact ⟨rfl, by rw [HV.out]; exact H1.out, K1.out⟩
set_option maxRecDepth 20000 in
theorem do_116 (h : Wr Z B b w vl ve s) (hk : WOk s) (hs : s.out.length ≤ 35184372088832) (o : OP) (ho : OpOk o) (hot : o.t.length ≤ 1099511627776) (ht : ∀ w', Below B w w' → P10 w') (n123 : ¬ o.k = 123) (n91 : ¬ o.k = 91) (n101 : ¬ o.k = 101) (n107 : ¬ o.k = 107) (n115 : ¬ o.k = 115) (n110 : ¬ o.k = 110) (hy : o.k = 116) :
    Calls Tryz.prog 9 #[.pointer (some ⟨b, 0, none⟩), opV o] w fun e w' => e = .returned (.tuple #[]) ∧ WrX Z B b w' (wDo s o) ∧ Kz Z B w w' := by
  have HC := Lib.hid (fun w1 (hb : Below w.heap.size w w1) => jwflag_any (h.next hb) hk hs true)
  have HV := Lib.hid (show wDo s o = s.val [116, 114, 117, 101] by unfold wDo rVal; rw [if_neg n123, if_neg n91, if_neg n101, if_neg n107, if_neg n115, if_neg n110, if_pos hy])
  have p123 := u8eq_f (k := 123) 123 rfl n123
  have p91 := u8eq_f (k := 91) 91 rfl n91
  have p101 := u8eq_f (k := 101) 101 rfl n101
  have p107 := u8eq_f (k := 107) 107 rfl n107
  have p115 := u8eq_f (k := 115) 115 rfl n115
  have p110 := u8eq_f (k := 110) 110 rfl n110
  have p116 := u8eq_t (k := 116) 116 rfl hy
  have B0 := Lib.hid (new_blw w (.cells #[.int .u8 (o.k.toNat : Int), .string (bA o.t), .int .i64 o.n] 35))
  have hm := heap_alloc_new w (.cells #[.int .u8 (o.k.toNat : Int), .string (bA o.t), .int .i64 o.n] 35)
  have m0 := cell_of_row _ _ 0 _ _ _ hm
  have m1 := cell_of_row _ _ 1 _ _ _ hm
  have m2 := cell_of_row _ _ 2 _ _ _ hm
  simp only [List.getElem?_toArray, List.getElem?_cons_zero, List.getElem?_cons_succ] at m0 m1 m2
  unfold opV
  generalize wDo s o = V at *
  generalize o.k = y at *
  generalize bA o.t = T at *
  clear h hk ho hot ht hm n123 n91 n101 n107 n115 n110 hy
  go_enter Tryz.func9, Tryz.ntmps9
  go_wp2_with fail
  refine (HC.out _ B0.out).mono ?_
  rintro e w1 ⟨rfl, h1, k1⟩
  have H1 := Lib.hid h1
  have K1 := Lib.hid ((Kz.of_below (Z := Z) (B := B) B0.out).trans k1)
  clear h1 k1
  go_wp2
  go_end0
  exact ⟨rfl, by rw [HV.out]; exact H1.out, K1.out⟩
set_option maxRecDepth 20000 in
theorem do_102 (h : Wr Z B b w vl ve s) (hk : WOk s) (hs : s.out.length ≤ 35184372088832) (o : OP) (ho : OpOk o) (hot : o.t.length ≤ 1099511627776) (ht : ∀ w', Below B w w' → P10 w') (n123 : ¬ o.k = 123) (n91 : ¬ o.k = 91) (n101 : ¬ o.k = 101) (n107 : ¬ o.k = 107) (n115 : ¬ o.k = 115) (n110 : ¬ o.k = 110) (n116 : ¬ o.k = 116) (hy : o.k = 102) :
    Calls Tryz.prog 9 #[.pointer (some ⟨b, 0, none⟩), opV o] w fun e w' => e = .returned (.tuple #[]) ∧ WrX Z B b w' (wDo s o) ∧ Kz Z B w w' := by
  have HC := Lib.hid (fun w1 (hb : Below w.heap.size w w1) => jwflag_any (h.next hb) hk hs false)
  have HV := Lib.hid (show wDo s o = s.val [102, 97, 108, 115, 101] by unfold wDo rVal; rw [if_neg n123, if_neg n91, if_neg n101, if_neg n107, if_neg n115, if_neg n110, if_neg n116, if_pos hy])
  have p123 := u8eq_f (k := 123) 123 rfl n123
  have p91 := u8eq_f (k := 91) 91 rfl n91
  have p101 := u8eq_f (k := 101) 101 rfl n101
  have p107 := u8eq_f (k := 107) 107 rfl n107
  have p115 := u8eq_f (k := 115) 115 rfl n115
  have p110 := u8eq_f (k := 110) 110 rfl n110
  have p116 := u8eq_f (k := 116) 116 rfl n116
  have p102 := u8eq_t (k := 102) 102 rfl hy
  have B0 := Lib.hid (new_blw w (.cells #[.int .u8 (o.k.toNat : Int), .string (bA o.t), .int .i64 o.n] 35))
  have hm := heap_alloc_new w (.cells #[.int .u8 (o.k.toNat : Int), .string (bA o.t), .int .i64 o.n] 35)
  have m0 := cell_of_row _ _ 0 _ _ _ hm
  have m1 := cell_of_row _ _ 1 _ _ _ hm
  have m2 := cell_of_row _ _ 2 _ _ _ hm
  simp only [List.getElem?_toArray, List.getElem?_cons_zero, List.getElem?_cons_succ] at m0 m1 m2
  unfold opV
  generalize wDo s o = V at *
  generalize o.k = y at *
  generalize bA o.t = T at *
  clear h hk ho hot ht hm n123 n91 n101 n107 n115 n110 n116 hy
  go_enter Tryz.func9, Tryz.ntmps9
  go_wp2_with fail
  refine (HC.out _ B0.out).mono ?_
  rintro e w1 ⟨rfl, h1, k1⟩
  have H1 := Lib.hid h1
  have K1 := Lib.hid ((Kz.of_below (Z := Z) (B := B) B0.out).trans k1)
  clear h1 k1
  go_wp2
  go_end0
  exact ⟨rfl, by rw [HV.out]; exact H1.out, K1.out⟩
set_option maxRecDepth 20000 in
theorem do_else (h : Wr Z B b w vl ve s) (hk : WOk s) (hs : s.out.length ≤ 35184372088832) (o : OP) (ho : OpOk o) (hot : o.t.length ≤ 1099511627776) (ht : ∀ w', Below B w w' → P10 w') (n123 : ¬ o.k = 123) (n91 : ¬ o.k = 91) (n101 : ¬ o.k = 101) (n107 : ¬ o.k = 107) (n115 : ¬ o.k = 115) (n110 : ¬ o.k = 110) (n116 : ¬ o.k = 116) (n102 : ¬ o.k = 102) :
    Calls Tryz.prog 9 #[.pointer (some ⟨b, 0, none⟩), opV o] w fun e w' => e = .returned (.tuple #[]) ∧ WrX Z B b w' (wDo s o) ∧ Kz Z B w w' := by
  have HC := Lib.hid (fun w1 (hb : Below w.heap.size w w1) => jwnull_any (h.next hb) hk hs)
  have HV := Lib.hid (show wDo s o = s.val [110, 117, 108, 108] by unfold wDo rVal; rw [if_neg n123, if_neg n91, if_neg n101, if_neg n107, if_neg n115, if_neg n110, if_neg n116, if_neg n102])
  have p123 := u8eq_f (k := 123) 123 rfl n123
  have p91 := u8eq_f (k := 91) 91 rfl n91
  have p101 := u8eq_f (k := 101) 101 rfl n101
  have p107 := u8eq_f (k := 107) 107 rfl n107
  have p115 := u8eq_f (k := 115) 115 rfl n115
  have p110 := u8eq_f (k := 110) 110 rfl n110
  have p116 := u8eq_f (k := 116) 116 rfl n116
  have p102 := u8eq_f (k := 102) 102 rfl n102
  have B0 := Lib.hid (new_blw w (.cells #[.int .u8 (o.k.toNat : Int), .string (bA o.t), .int .i64 o.n] 35))
  have hm := heap_alloc_new w (.cells #[.int .u8 (o.k.toNat : Int), .string (bA o.t), .int .i64 o.n] 35)
  have m0 := cell_of_row _ _ 0 _ _ _ hm
  have m1 := cell_of_row _ _ 1 _ _ _ hm
  have m2 := cell_of_row _ _ 2 _ _ _ hm
  simp only [List.getElem?_toArray, List.getElem?_cons_zero, List.getElem?_cons_succ] at m0 m1 m2
  unfold opV
  generalize wDo s o = V at *
  generalize o.k = y at *
  generalize bA o.t = T at *
  clear h hk ho hot ht hm n123 n91 n101 n107 n115 n110 n116 n102
  go_enter Tryz.func9, Tryz.ntmps9
  go_wp2_with fail
  refine (HC.out _ B0.out).mono ?_
  rintro e w1 ⟨rfl, h1, k1⟩
  have H1 := Lib.hid h1
  have K1 := Lib.hid ((Kz.of_below (Z := Z) (B := B) B0.out).trans k1)
  clear h1 k1
  go_wp2
  go_end0
  exact ⟨rfl, by rw [HV.out]; exact H1.out, K1.out⟩
theorem do_any (h : Wr Z B b w vl ve s) (hk : WOk s) (hs : s.out.length ≤ 35184372088832) (o : OP) (ho : OpOk o) (hot : o.t.length ≤ 1099511627776) (ht : ∀ w', Below B w w' → P10 w') :
    Calls Tryz.prog 9 #[.pointer (some ⟨b, 0, none⟩), opV o] w fun e w' => e = .returned (.tuple #[]) ∧ WrX Z B b w' (wDo s o) ∧ Kz Z B w w' := by
  by_cases h123 : o.k = 123
  · exact do_123 h hk hs o ho hot ht  h123
  · skip
    by_cases h91 : o.k = 91
    · exact do_91 h hk hs o ho hot ht h123 h91
    · skip
      by_cases h101 : o.k = 101
      · exact do_101 h hk hs o ho hot ht h123 h91 h101
      · skip
        by_cases h107 : o.k = 107
        · exact do_107 h hk hs o ho hot ht h123 h91 h101 h107
        · skip
          by_cases h115 : o.k = 115
          · exact do_115 h hk hs o ho hot ht h123 h91 h101 h107 h115
          · skip
            by_cases h110 : o.k = 110
            · exact do_110 h hk hs o ho hot ht h123 h91 h101 h107 h115 h110
            · skip
              by_cases h116 : o.k = 116
              · exact do_116 h hk hs o ho hot ht h123 h91 h101 h107 h115 h110 h116
              · skip
                by_cases h102 : o.k = 102
                · exact do_102 h hk hs o ho hot ht h123 h91 h101 h107 h115 h110 h116 h102
                · skip
                  exact do_else h hk hs o ho hot ht h123 h91 h101 h107 h115 h110 h116 h102
end
/-- The example's writer: where it lies, what it is. -/
def WSt (w0 : World) (s : WS) (w : World) : Prop := WrX (fun _ => False) w0.heap.size w0.heap.size w s ∧ Kz (fun _ => False) w0.heap.size w0 w
theorem WSt.below {w0 w : World} {s : WS} (h : WSt w0 s w) : Below w0.heap.size w0 w := h.2.below (Nat.le_refl _)
theorem WSt.next {w0 w w' : World} {s : WS} (h : WSt w0 s w) (hb : Below w.heap.size w w') : WSt w0 s w' := ⟨h.1.next hb, h.2.trans (Kz.of_below hb)⟩
theorem wst_call {w0 w : World} {s s' : WS} {F : Nat} {args : Array Value} (h : WSt w0 s w) (hc : ∀ vl ve, Wr (fun _ => False) w0.heap.size w0.heap.size w vl ve s → Calls Tryz.prog F args w fun e w' => e = .returned (.tuple #[]) ∧ WrX (fun _ => False) w0.heap.size w0.heap.size w' s' ∧ Kz (fun _ => False) w0.heap.size w w') :
    Calls Tryz.prog F args w fun e w' => e = .returned (.tuple #[]) ∧ WSt w0 s' w' := by
  obtain ⟨⟨vl, ve, h1⟩, h2⟩ := h
  refine (hc vl ve h1).mono ?_
  rintro e w' ⟨he, h3, h4⟩
  exact ⟨he, h3, h2.trans h4⟩
theorem wst_done {w0 w : World} {s : WS} {t : ByteArray} {c : Int} (h : WSt w0 s w) (hk : WOk s) (hd : wDone s = (t.data.toList, c)) : Calls Tryz.prog 10 #[.pointer (some ⟨w0.heap.size, 0, none⟩)] w fun e w' => e = .returned (.tuple #[.string t, .int .i64 c]) ∧ WSt w0 s w' := by
  obtain ⟨⟨vl, ve, h1⟩, h2⟩ := h
  refine (jwdone_any h1 hk).mono ?_
  rintro e w' ⟨he, hb⟩
  rw [hd, bA_of] at he
  exact ⟨he, ⟨vl, ve, h1.next hb⟩, h2.trans (Kz.of_below hb)⟩
set_option maxRecDepth 100000 in
set_option maxHeartbeats 2000000 in
theorem works15_any (w : World) (ht : P10 w) : Calls Tryz.prog 5 #[] w fun e w' => e = .returned (.bool true) ∧ Below w.heap.size w w' := by
  have HNW := Lib.hid (show ∀ w0, Calls Tryz.prog 7 #[] w0 fun e w' => e = .returned (.pointer (some ⟨w0.heap.size, 0, none⟩)) ∧ WSt w0 WS.nw w' from fun w0 => (jwnew_any w0).mono (fun e w' ⟨a, b, c⟩ => ⟨a, b, Kz.of_below c⟩))
  have oS1 : WOk ⟨0, [123], [125], false, false⟩ := ⟨fun x hx => by simp at hx; first | exact .inl hx | exact .inr hx | omega, by decide⟩
  have oS2 : WOk ⟨0, [123, 34, 97, 34, 58], [125], false, true⟩ := ⟨fun x hx => by simp at hx; first | exact .inl hx | exact .inr hx | omega, by decide⟩
  have oS3 : WOk ⟨0, [123, 34, 97, 34, 58, 91], [125, 93], false, false⟩ := ⟨fun x hx => by simp at hx; rcases hx with rfl | rfl; exact .inr rfl; exact .inl rfl, by decide⟩
  have oS4 : WOk ⟨0, [123, 34, 97, 34, 58, 91, 49], [125, 93], true, false⟩ := ⟨fun x hx => by simp at hx; rcases hx with rfl | rfl; exact .inr rfl; exact .inl rfl, by decide⟩
  have oS5 : WOk ⟨0, [123, 34, 97, 34, 58, 91, 49, 44, 110, 117, 108, 108], [125, 93], true, false⟩ := ⟨fun x hx => by simp at hx; rcases hx with rfl | rfl; exact .inr rfl; exact .inl rfl, by decide⟩
  have oS6 : WOk ⟨0, [123, 34, 97, 34, 58, 91, 49, 44, 110, 117, 108, 108, 93], [125], true, false⟩ := ⟨fun x hx => by simp at hx; first | exact .inl hx | exact .inr hx | omega, by decide⟩
  have oS7 : WOk ⟨0, [123, 34, 97, 34, 58, 91, 49, 44, 110, 117, 108, 108, 93, 125], [], true, false⟩ := ⟨fun x hx => by simp at hx, by decide⟩
  have oS8 : WOk ⟨12, [], [], false, false⟩ := ⟨fun x hx => by simp at hx, by decide⟩
  have HT := Lib.hid (show ∀ w', Below w.heap.size w w' → P10 w' from fun w' hb => ht.below hb)
  have C1 := Lib.hid (show ∀ w1, WSt w WS.nw w1 → Calls Tryz.prog 14 #[.pointer (some ⟨w.heap.size, 0, none⟩)] w1 fun e w' => e = .returned (.tuple #[]) ∧ WSt w ⟨0, [123], [125], false, false⟩ w' from fun w1 hW => wst_call hW (fun vl ve h => by
    have := jwobject_any h .nw (by simp [WS.nw])
    rw [(show WS.nw.beg 123 125 = ⟨0, [123], [125], false, false⟩ from rfl)] at this
    exact this))
  have C2 := Lib.hid (show ∀ w1, WSt w ⟨0, [123], [125], false, false⟩ w1 → Calls Tryz.prog 15 #[.pointer (some ⟨w.heap.size, 0, none⟩), .string ⟨#[97]⟩] w1 fun e w' => e = .returned (.tuple #[]) ∧ WSt w ⟨0, [123, 34, 97, 34, 58], [125], false, true⟩ w' from fun w1 hW => wst_call hW (fun vl ve h => by
    have := jwkey_any h oS1 (by simp) [97] (by decide)
    rw [(show WS.key ⟨0, [123], [125], false, false⟩ [97] = ⟨0, [123, 34, 97, 34, 58], [125], false, true⟩ from rfl)] at this
    exact this))
  have C3 := Lib.hid (show ∀ w1, WSt w ⟨0, [123, 34, 97, 34, 58], [125], false, true⟩ w1 → Calls Tryz.prog 16 #[.pointer (some ⟨w.heap.size, 0, none⟩)] w1 fun e w' => e = .returned (.tuple #[]) ∧ WSt w ⟨0, [123, 34, 97, 34, 58, 91], [125, 93], false, false⟩ w' from fun w1 hW => wst_call hW (fun vl ve h => by
    have := jwlist_any h oS2 (by simp)
    rw [(show WS.beg ⟨0, [123, 34, 97, 34, 58], [125], false, true⟩ 91 93 = ⟨0, [123, 34, 97, 34, 58, 91], [125, 93], false, false⟩ from rfl)] at this
    exact this))
  have C4 := Lib.hid (show ∀ w1, WSt w ⟨0, [123, 34, 97, 34, 58, 91], [125, 93], false, false⟩ w1 → Calls Tryz.prog 17 #[.pointer (some ⟨w.heap.size, 0, none⟩), .int .i64 1] w1 fun e w' => e = .returned (.tuple #[]) ∧ WSt w ⟨0, [123, 34, 97, 34, 58, 91, 49], [125, 93], true, false⟩ w' from fun w1 hW => wst_call hW (fun vl ve h => by
    have := jwwhole_any h oS3 (by simp) 1 (by decide) (by decide) (fun w' hb' => HT.out w' (hW.below.trans hb'))
    rw [(show WS.val ⟨0, [123, 34, 97, 34, 58, 91], [125, 93], false, false⟩ (Lib.itoa 1) = ⟨0, [123, 34, 97, 34, 58, 91, 49], [125, 93], true, false⟩ by rw [show Lib.itoa 1 = [49] by decide +kernel]; rfl)] at this
    exact this))
  have C5 := Lib.hid (show ∀ w1, WSt w ⟨0, [123, 34, 97, 34, 58, 91, 49], [125, 93], true, false⟩ w1 → Calls Tryz.prog 18 #[.pointer (some ⟨w.heap.size, 0, none⟩)] w1 fun e w' => e = .returned (.tuple #[]) ∧ WSt w ⟨0, [123, 34, 97, 34, 58, 91, 49, 44, 110, 117, 108, 108], [125, 93], true, false⟩ w' from fun w1 hW => wst_call hW (fun vl ve h => by
    have := jwnull_any h oS4 (by simp)
    rw [(show WS.val ⟨0, [123, 34, 97, 34, 58, 91, 49], [125, 93], true, false⟩ [110, 117, 108, 108] = ⟨0, [123, 34, 97, 34, 58, 91, 49, 44, 110, 117, 108, 108], [125, 93], true, false⟩ from rfl)] at this
    exact this))
  have C6 := Lib.hid (show ∀ w1, WSt w ⟨0, [123, 34, 97, 34, 58, 91, 49, 44, 110, 117, 108, 108], [125, 93], true, false⟩ w1 → Calls Tryz.prog 19 #[.pointer (some ⟨w.heap.size, 0, none⟩)] w1 fun e w' => e = .returned (.tuple #[]) ∧ WSt w ⟨0, [123, 34, 97, 34, 58, 91, 49, 44, 110, 117, 108, 108, 93], [125], true, false⟩ w' from fun w1 hW => wst_call hW (fun vl ve h => by
    have := jwfin_any h oS5 (by simp)
    rw [(show WS.fin ⟨0, [123, 34, 97, 34, 58, 91, 49, 44, 110, 117, 108, 108], [125, 93], true, false⟩ = ⟨0, [123, 34, 97, 34, 58, 91, 49, 44, 110, 117, 108, 108, 93], [125], true, false⟩ from rfl)] at this
    exact this))
  have C7 := Lib.hid (show ∀ w1, WSt w ⟨0, [123, 34, 97, 34, 58, 91, 49, 44, 110, 117, 108, 108, 93], [125], true, false⟩ w1 → Calls Tryz.prog 19 #[.pointer (some ⟨w.heap.size, 0, none⟩)] w1 fun e w' => e = .returned (.tuple #[]) ∧ WSt w ⟨0, [123, 34, 97, 34, 58, 91, 49, 44, 110, 117, 108, 108, 93, 125], [], true, false⟩ w' from fun w1 hW => wst_call hW (fun vl ve h => by
    have := jwfin_any h oS6 (by simp)
    rw [(show WS.fin ⟨0, [123, 34, 97, 34, 58, 91, 49, 44, 110, 117, 108, 108, 93], [125], true, false⟩ = ⟨0, [123, 34, 97, 34, 58, 91, 49, 44, 110, 117, 108, 108, 93, 125], [], true, false⟩ from rfl)] at this
    exact this))
  have C8 := Lib.hid (show ∀ w1, WSt w ⟨0, [123, 34, 97, 34, 58, 91, 49, 44, 110, 117, 108, 108, 93, 125], [], true, false⟩ w1 → Calls Tryz.prog 20 #[.pointer (some ⟨w.heap.size, 0, none⟩), .bool true] w1 fun e w' => e = .returned (.tuple #[]) ∧ WSt w ⟨12, [], [], false, false⟩ w' from fun w1 hW => wst_call hW (fun vl ve h => by
    have := jwflag_any h oS7 (by simp) true
    simp only [if_true] at this
    rw [(show WS.val ⟨0, [123, 34, 97, 34, 58, 91, 49, 44, 110, 117, 108, 108, 93, 125], [], true, false⟩ [116, 114, 117, 101] = ⟨12, [], [], false, false⟩ from rfl)] at this
    exact this))
  have D6 := Lib.hid (fun w1 (h : WSt w ⟨0, [123, 34, 97, 34, 58, 91, 49, 44, 110, 117, 108, 108, 93], [125], true, false⟩ w1) => wst_done (t := ⟨#[]⟩) (c := 1) h oS6 rfl)
  have D7 := Lib.hid (fun w1 (h : WSt w ⟨0, [123, 34, 97, 34, 58, 91, 49, 44, 110, 117, 108, 108, 93, 125], [], true, false⟩ w1) => wst_done (t := ⟨#[123, 34, 97, 34, 58, 91, 49, 44, 110, 117, 108, 108, 93, 125]⟩) (c := 0) h oS7 rfl)
  have D8 := Lib.hid (fun w1 (h : WSt w ⟨12, [], [], false, false⟩ w1) => wst_done (t := ⟨#[]⟩) (c := 12) h oS8 rfl)
  have HNT := Lib.hid (fun w => jwtext_nil w ⟨#[97]⟩)
  have HND := Lib.hid jwdone_nil
  clear ht oS1 oS2 oS3 oS4 oS5 oS6 oS7 oS8
  have q1 : ((ByteArray.mk #[123, 34, 97, 34, 58, 91, 49, 44, 110, 117, 108, 108, 93, 125]).toList == (ByteArray.mk #[123, 34, 97, 34, 58, 91, 49, 44, 110, 117, 108, 108, 93, 125]).toList) = true := by simp
  go_enter Tryz.func5, Tryz.ntmps5
  go_wp2_with fail
  refine (HNW.out w).mono ?_
  rintro e w0 ⟨rfl, g0⟩
  have G0 := Lib.hid g0
  clear g0
  go_wp2_with fail
  refine (C1.out _ G0.out).mono ?_
  rintro e w1 ⟨rfl, g1⟩
  have G1 := Lib.hid g1
  clear g1 G0
  go_wp2_with fail
  refine (C2.out _ G1.out).mono ?_
  rintro e w2 ⟨rfl, g2⟩
  have G2 := Lib.hid g2
  clear g2 G1
  go_wp2_with fail
  refine (C3.out _ G2.out).mono ?_
  rintro e w3 ⟨rfl, g3⟩
  have G3 := Lib.hid g3
  clear g3 G2
  go_wp2_with fail
  refine (C4.out _ G3.out).mono ?_
  rintro e w4 ⟨rfl, g4⟩
  have G4 := Lib.hid g4
  clear g4 G3
  go_wp2_with fail
  refine (C5.out _ G4.out).mono ?_
  rintro e w5 ⟨rfl, g5⟩
  have G5 := Lib.hid g5
  clear g5 G4
  go_wp2_with fail
  refine (C6.out _ G5.out).mono ?_
  rintro e w6 ⟨rfl, g6⟩
  have G6 := Lib.hid g6
  clear g6 G5
  go_wp2_with fail
  refine (D6.out _ G6.out).mono ?_
  rintro e w7 ⟨rfl, g7⟩
  have G7 := Lib.hid g7
  clear g7 G6
  go_wp2_with fail
  refine (C7.out _ G7.out).mono ?_
  rintro e w8 ⟨rfl, g8⟩
  have G8 := Lib.hid g8
  clear g8 G7
  go_wp2_with fail
  refine (D7.out _ G8.out).mono ?_
  rintro e w9 ⟨rfl, g9⟩
  have G9 := Lib.hid g9
  clear g9 G8
  go_wp2_with fail
  refine (C8.out _ G9.out).mono ?_
  rintro e w10 ⟨rfl, g10⟩
  have G10 := Lib.hid g10
  clear g10 G9
  go_wp2_with fail
  refine (D8.out _ G10.out).mono ?_
  rintro e w11 ⟨rfl, g11⟩
  have G11 := Lib.hid g11
  clear g11 G10
  go_wp2_with fail
  refine (HNT.out _).mono ?_
  rintro e wx ⟨rfl, hw⟩
  rw [hw]; clear hw
  go_wp2_with fail
  refine (HND.out _).mono ?_
  rintro e wy ⟨rfl, hw⟩
  rw [hw]; clear hw
  go_wp2
  go_ret
  exact ⟨rfl, G11.out.below⟩
end Go.Proofs.YtnbhhnkcfbfdcaaGreatDoor
