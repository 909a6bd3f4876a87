/- Package cread: value, kind by kind. -/
import Derived.Test.YtmcklfndnjagiaaDoorCrA
import Derived.Test.YtmcklfndnjagiaaDoorReadA
namespace Go.Proofs.YtmcklfndnjagiaaDoor
open Go Go.RowKit
set_option linter.unusedVariables false

def nB : ByteArray := ⟨#[]⟩
theorem val_start {w : World} {b : Nat} {c : CS} (h : CurT 105 w b c) (s : ByteArray) (deep id : Int) (k : Nat) (K : Int) (hK : K = (k : Nat)) :
    ∃ w3, w3 = ((w.alloc (.cells #[.string s, .pointer (some ⟨b, 0, none⟩), .int .i64 deep] 68)).alloc (.cells #[.int .i64 0, .int .u8 0, .int .i64 0, .int .u64 0, .string ⟨#[]⟩, .string ⟨#[]⟩] 49)).alloc (.cells #[.int .i64 id, .int .u8 K, .int .i64 0, .int .u64 0, .string ⟨#[]⟩, .string ⟨#[]⟩] 49) ∧
      CurT 105 w3 b c ∧ Only b w w3 ∧ RdT w3 w.heap.size s (some ⟨b, 0, none⟩) deep ∧ GfT 49 w3 (w.heap.size + 1) (0, 0, 0, 0, ⟨#[]⟩, ⟨#[]⟩) ∧ GfT 49 w3 (w.heap.size + 1 + 1) (id, k, 0, 0, ⟨#[]⟩, ⟨#[]⟩) ∧ b < w.heap.size := by
  subst hK
  obtain ⟨h1, o1, -, r1⟩ := rd_start h s deep
  refine ⟨_, rfl, (h1.allocOld _).allocOld _, (o1.alloc _).alloc _, (r1.alloc _).alloc _, ?_, ?_, h.lt⟩
  · have := gf_alloc (w.alloc (.cells #[.string s, .pointer (some ⟨b, 0, none⟩), .int .i64 deep] 68)) (0, 0, 0, 0, ⟨#[]⟩, ⟨#[]⟩) 49
    rw [World.size_alloc] at this
    exact this.alloc _
  · have := gf_alloc ((w.alloc (.cells #[.string s, .pointer (some ⟨b, 0, none⟩), .int .i64 deep] 68)).alloc (.cells #[.int .i64 0, .int .u8 0, .int .i64 0, .int .u64 0, .string ⟨#[]⟩, .string ⟨#[]⟩] 49)) (id, k, 0, 0, ⟨#[]⟩, ⟨#[]⟩) 49
    rw [World.size_alloc, World.size_alloc] at this
    exact this
/-- The end: the field is laid where the result is. -/
theorem val_end {w w4 : World} {b g : Nat} {c : CS} (h : CurT 105 w4 b c) (o : Only b w w4) (hg : b ≠ g) (hw : w.heap.size ≤ g) (y : GD) : CurT 105 ((((((w4.setCell ⟨g, 0, none⟩ (.int .i64 y.1)).setCell ⟨g, 1, none⟩ (.int .u8 (y.2.1 : Nat))).setCell ⟨g, 2, none⟩ (.int .i64 y.2.2.1)).setCell ⟨g, 3, none⟩ (.int .u64 (y.2.2.2.1 : Nat))).setCell ⟨g, 4, none⟩ (.string y.2.2.2.2.1)).setCell ⟨g, 5, none⟩ (.string y.2.2.2.2.2)) b c ∧ Only b w ((((((w4.setCell ⟨g, 0, none⟩ (.int .i64 y.1)).setCell ⟨g, 1, none⟩ (.int .u8 (y.2.1 : Nat))).setCell ⟨g, 2, none⟩ (.int .i64 y.2.2.1)).setCell ⟨g, 3, none⟩ (.int .u64 (y.2.2.2.1 : Nat))).setCell ⟨g, 4, none⟩ (.string y.2.2.2.2.1)).setCell ⟨g, 5, none⟩ (.string y.2.2.2.2.2)) :=
  ⟨(Only.setGf w4 g y).cur h hg, gset_only (gset_only (gset_only (gset_only (gset_only (gset_only o hw) hw) hw) hw) hw) hw⟩
theorem gval_1 {b : Nat} {c : CS} {w : World} (h : CurT 105 w b c) (s : ByteArray) (deep id : Int) :
    Calls Tryd.prog 31 #[rdV s b deep, .int .i64 id, .int .u8 1] w fun e w' => e = .returned (gfV (id, 1, 1, 0, ⟨#[]⟩, ⟨#[]⟩)) ∧ CurT 105 w' b c ∧ Only b w w' := by
  obtain ⟨w3, hw3, h3, o3, r3, z3, f3, hb⟩ := val_start h s deep id 1 1 rfl
  clear h r3
  unfold rdV
  go_enter Tryd.func31, Tryd.ntmps31
  go_upto_region 2 with fail
  rw [← hw3]
  clear hw3
  have k2 := f3.c2; have kf := f3.fr
  go_upto_region 20 with fail
  have f4 := Lib.hid (f3.setNum 1)
  have z4 := Lib.hid (gset_fd (o := 2) (x := .int .i64 1) z3 (show w.heap.size + 1 ≠ w.heap.size + 1 + 1 by omega))
  have h4 := Lib.hid (gset_cur (o := 2) (x := .int .i64 1) h3 (show b ≠ w.heap.size + 1 + 1 by omega))
  have o4 := Lib.hid (gset_only (o := 2) (x := .int .i64 1) o3 (show w.heap.size ≤ w.heap.size + 1 + 1 by omega))
  clear f3 z3 h3 o3 k2 kf
  generalize (w3.setCell ⟨w.heap.size + 1 + 1, 2, none⟩ (.int .i64 1)) = w4 at *
  have e0 := f4.out.c0; have e1 := f4.out.c1; have e2 := f4.out.c2; have e3 := f4.out.c3; have e4 := f4.out.c4; have e5 := f4.out.c5
  have z0 := z4.out.c0; have z1 := z4.out.c1; have z2 := z4.out.c2; have z3 := z4.out.c3; have z4' := z4.out.c4; have z5 := z4.out.c5; have zf := z4.out.fr
  have f5 := Lib.hid (z4.out.setAll (id, 1, 1, 0, ⟨#[]⟩, ⟨#[]⟩))
  have V5 := Lib.hid (val_end h4.out o4.out (show b ≠ w.heap.size + 1 by omega) (show w.heap.size ≤ w.heap.size + 1 by omega) (id, 1, 1, 0, ⟨#[]⟩, ⟨#[]⟩))
  clear f4 z4 h4 o4
  try simp only []
  repeat (first | go_values | go_skip | go_guarded | go_step | go_upon)
  exact bodyPost_ret (gf_result Tryd.underlying49 rfl (by kernel_rfl) Tryd.results31 f5.out (by kernel_rfl)) rfl ⟨rfl, V5.out.1, V5.out.2⟩
theorem gval_2 {b : Nat} {c : CS} {w : World} (h : CurT 105 w b c) (s : ByteArray) (deep id : Int) :
    Calls Tryd.prog 31 #[rdV s b deep, .int .i64 id, .int .u8 2] w fun e w' => e = .returned (gfV (id, 2, 0, 0, ⟨#[]⟩, ⟨#[]⟩)) ∧ CurT 105 w' b c ∧ Only b w w' := by
  obtain ⟨w3, hw3, h3, o3, r3, z3, f3, hb⟩ := val_start h s deep id 2 2 rfl
  clear h r3
  unfold rdV
  go_enter Tryd.func31, Tryd.ntmps31
  go_upto_region 2 with fail
  rw [← hw3]
  clear hw3
  have k2 := f3.c2; have kf := f3.fr
  go_upto_region 20 with fail
  have f4 := Lib.hid (f3.setNum 0)
  have z4 := Lib.hid (gset_fd (o := 2) (x := .int .i64 0) z3 (show w.heap.size + 1 ≠ w.heap.size + 1 + 1 by omega))
  have h4 := Lib.hid (gset_cur (o := 2) (x := .int .i64 0) h3 (show b ≠ w.heap.size + 1 + 1 by omega))
  have o4 := Lib.hid (gset_only (o := 2) (x := .int .i64 0) o3 (show w.heap.size ≤ w.heap.size + 1 + 1 by omega))
  clear f3 z3 h3 o3 k2 kf
  generalize (w3.setCell ⟨w.heap.size + 1 + 1, 2, none⟩ (.int .i64 0)) = w4 at *
  have e0 := f4.out.c0; have e1 := f4.out.c1; have e2 := f4.out.c2; have e3 := f4.out.c3; have e4 := f4.out.c4; have e5 := f4.out.c5
  have z0 := z4.out.c0; have z1 := z4.out.c1; have z2 := z4.out.c2; have z3 := z4.out.c3; have z4' := z4.out.c4; have z5 := z4.out.c5; have zf := z4.out.fr
  have f5 := Lib.hid (z4.out.setAll (id, 2, 0, 0, ⟨#[]⟩, ⟨#[]⟩))
  have V5 := Lib.hid (val_end h4.out o4.out (show b ≠ w.heap.size + 1 by omega) (show w.heap.size ≤ w.heap.size + 1 by omega) (id, 2, 0, 0, ⟨#[]⟩, ⟨#[]⟩))
  clear f4 z4 h4 o4
  try simp only []
  repeat (first | go_values | go_skip | go_guarded | go_step | go_upon)
  exact bodyPost_ret (gf_result Tryd.underlying49 rfl (by kernel_rfl) Tryd.results31 f5.out (by kernel_rfl)) rfl ⟨rfl, V5.out.1, V5.out.2⟩
theorem gval_3 {b : Nat} {c : CS} {w : World} (h : CurT 105 w b c) (hc : c.ok) (s : ByteArray) (deep id : Int) :
    Calls Tryd.prog 31 #[rdV s b deep, .int .i64 id, .int .u8 3] w fun e w' => e = .returned (gfV (id, 3, wideI (c.pB : Nat) 8, 0, ⟨#[]⟩, ⟨#[]⟩)) ∧ CurT 105 w' b c.byte ∧ Only b w w' := by
  obtain ⟨c1, hc1⟩ : ∃ d, d = c.byte := ⟨_, rfl⟩
  obtain ⟨x, hx⟩ : ∃ x, x = c.pB := ⟨_, rfl⟩
  have HB := Lib.hid (fun w (h : CurT 105 w b c) => byte_l (Lib.hid hc1) (Lib.hid hx) h hc)
  have hx8 : x < 256 := by rw [hx]; exact (CS.peekB_nat c).2
  have m1 : IntKind.u64.wrap (x : Int) = (x : Int) := IntWalk.u64_in _ (by omega)
  have HW0 := fun w => wide_any (x : Nat) 8 w
  rw [← hc1, ← hx]
  obtain ⟨n, hn⟩ : ∃ n, n = wideI (x : Nat) 8 := ⟨_, rfl⟩
  rw [← hn] at HW0 ⊢
  have HW := Lib.hid HW0
  obtain ⟨w3, hw3, h3, o3, r3, z3, f3, hb⟩ := val_start h s deep id 3 3 rfl
  clear h hc1 hx hc HW0 hn
  unfold rdV
  go_enter Tryd.func31, Tryd.ntmps31
  go_upto_region 2 with fail
  rw [← hw3]
  clear hw3
  have g0 := r3.c0; have g1 := r3.c1; have g2 := r3.c2
  go_wp2_with fail
  with_reducible refine (HB.out _ h3).mono ?_
  rintro e w5 ⟨rfl, h5, o5⟩
  have f3 := f3.only o5 (show w.heap.size + 1 + 1 ≠ b by omega)
  have z3 := z3.only o5 (show w.heap.size + 1 ≠ b by omega)
  have o3 := o3.trans o5
  clear g0 g1 g2 o5 h3
  have h3 := h5
  clear h5
  go_wp2_with fail
  with_reducible refine (HW.out _).mono ?_
  rintro e w6 ⟨rfl, hww⟩
  rw [hww]
  clear hww
  have k2 := f3.c2; have kf := f3.fr
  go_upto_region 20 with fail
  have f4 := Lib.hid (f3.setNum n)
  have z4 := Lib.hid (gset_fd (o := 2) (x := .int .i64 n) z3 (show w.heap.size + 1 ≠ w.heap.size + 1 + 1 by omega))
  have h4 := Lib.hid (gset_cur (o := 2) (x := .int .i64 n) h3 (show b ≠ w.heap.size + 1 + 1 by omega))
  have o4 := Lib.hid (gset_only (o := 2) (x := .int .i64 n) o3 (show w.heap.size ≤ w.heap.size + 1 + 1 by omega))
  clear f3 z3 h3 o3 k2 kf
  generalize (w5.setCell ⟨w.heap.size + 1 + 1, 2, none⟩ (.int .i64 n)) = w4 at *
  have e0 := f4.out.c0; have e1 := f4.out.c1; have e2 := f4.out.c2; have e3 := f4.out.c3; have e4 := f4.out.c4; have e5 := f4.out.c5
  have z0 := z4.out.c0; have z1 := z4.out.c1; have z2 := z4.out.c2; have z3 := z4.out.c3; have z4' := z4.out.c4; have z5 := z4.out.c5; have zf := z4.out.fr
  have f5 := Lib.hid (z4.out.setAll (id, 3, n, 0, ⟨#[]⟩, ⟨#[]⟩))
  have V5 := Lib.hid (val_end h4.out o4.out (show b ≠ w.heap.size + 1 by omega) (show w.heap.size ≤ w.heap.size + 1 by omega) (id, 3, n, 0, ⟨#[]⟩, ⟨#[]⟩))
  clear f4 z4 h4 o4
  try simp only []
  repeat (first | go_values | go_skip | go_guarded | go_step | go_upon)
  exact bodyPost_ret (gf_result Tryd.underlying49 rfl (by kernel_rfl) Tryd.results31 f5.out (by kernel_rfl)) rfl ⟨rfl, V5.out.1, V5.out.2⟩
theorem gval_4 {b : Nat} {c : CS} {w : World} (h : CurT 105 w b c) (hc : c.ok) (s : ByteArray) (deep id : Int) :
    Calls Tryd.prog 31 #[rdV s b deep, .int .i64 id, .int .u8 4] w fun e w' => e = .returned (gfV (id, 4, zagI (c.vVal : Nat), 0, ⟨#[]⟩, ⟨#[]⟩)) ∧ CurT 105 w' b (c.vTo.want (fitB 4 c.vVal) 4) ∧ Only b w w' := by
  have HW0 := fun w (h : CurT 105 w b c) => whole_any h hc s deep 16
  rw [show decide (fitC (zagI (c.vVal : Nat)) 16 = 0) = fitB 4 c.vVal from rfl] at HW0
  obtain ⟨D, hD⟩ : ∃ d, d = c.vTo.want (fitB 4 c.vVal) 4 := ⟨_, rfl⟩
  obtain ⟨n, hn⟩ : ∃ n, n = zagI (c.vVal : Nat) := ⟨_, rfl⟩
  rw [← hD, ← hn] at HW0 ⊢
  have HW := Lib.hid HW0
  unfold rdV at HW
  obtain ⟨w3, hw3, h3, o3, r3, z3, f3, hb⟩ := val_start h s deep id 4 4 rfl
  clear h hc HW0 hD hn
  unfold rdV
  go_enter Tryd.func31, Tryd.ntmps31
  go_upto_region 2 with fail
  rw [← hw3]
  clear hw3
  have g0 := r3.c0; have g1 := r3.c1; have g2 := r3.c2
  go_wp2_with fail
  with_reducible refine (HW.out _ h3).mono ?_
  rintro e w5 ⟨rfl, h5, o5⟩
  have f3 := f3.only o5 (show w.heap.size + 1 + 1 ≠ b by omega)
  have z3 := z3.only o5 (show w.heap.size + 1 ≠ b by omega)
  have o3 := o3.trans o5
  clear g0 g1 g2 o5 h3
  have h3 := h5
  clear h5
  have k2 := f3.c2; have kf := f3.fr
  go_upto_region 20 with fail
  have f4 := Lib.hid (f3.setNum n)
  have z4 := Lib.hid (gset_fd (o := 2) (x := .int .i64 n) z3 (show w.heap.size + 1 ≠ w.heap.size + 1 + 1 by omega))
  have h4 := Lib.hid (gset_cur (o := 2) (x := .int .i64 n) h3 (show b ≠ w.heap.size + 1 + 1 by omega))
  have o4 := Lib.hid (gset_only (o := 2) (x := .int .i64 n) o3 (show w.heap.size ≤ w.heap.size + 1 + 1 by omega))
  clear f3 z3 h3 o3 k2 kf
  generalize (w5.setCell ⟨w.heap.size + 1 + 1, 2, none⟩ (.int .i64 n)) = w4 at *
  have e0 := f4.out.c0; have e1 := f4.out.c1; have e2 := f4.out.c2; have e3 := f4.out.c3; have e4 := f4.out.c4; have e5 := f4.out.c5
  have z0 := z4.out.c0; have z1 := z4.out.c1; have z2 := z4.out.c2; have z3 := z4.out.c3; have z4' := z4.out.c4; have z5 := z4.out.c5; have zf := z4.out.fr
  have f5 := Lib.hid (z4.out.setAll (id, 4, n, 0, ⟨#[]⟩, ⟨#[]⟩))
  have V5 := Lib.hid (val_end h4.out o4.out (show b ≠ w.heap.size + 1 by omega) (show w.heap.size ≤ w.heap.size + 1 by omega) (id, 4, n, 0, ⟨#[]⟩, ⟨#[]⟩))
  clear f4 z4 h4 o4
  try simp only []
  repeat (first | go_values | go_skip | go_guarded | go_step | go_upon)
  exact bodyPost_ret (gf_result Tryd.underlying49 rfl (by kernel_rfl) Tryd.results31 f5.out (by kernel_rfl)) rfl ⟨rfl, V5.out.1, V5.out.2⟩
theorem gval_5 {b : Nat} {c : CS} {w : World} (h : CurT 105 w b c) (hc : c.ok) (s : ByteArray) (deep id : Int) :
    Calls Tryd.prog 31 #[rdV s b deep, .int .i64 id, .int .u8 5] w fun e w' => e = .returned (gfV (id, 5, zagI (c.vVal : Nat), 0, ⟨#[]⟩, ⟨#[]⟩)) ∧ CurT 105 w' b (c.vTo.want (fitB 5 c.vVal) 4) ∧ Only b w w' := by
  have HW0 := fun w (h : CurT 105 w b c) => whole_any h hc s deep 32
  rw [show decide (fitC (zagI (c.vVal : Nat)) 32 = 0) = fitB 5 c.vVal from rfl] at HW0
  obtain ⟨D, hD⟩ : ∃ d, d = c.vTo.want (fitB 5 c.vVal) 4 := ⟨_, rfl⟩
  obtain ⟨n, hn⟩ : ∃ n, n = zagI (c.vVal : Nat) := ⟨_, rfl⟩
  rw [← hD, ← hn] at HW0 ⊢
  have HW := Lib.hid HW0
  unfold rdV at HW
  obtain ⟨w3, hw3, h3, o3, r3, z3, f3, hb⟩ := val_start h s deep id 5 5 rfl
  clear h hc HW0 hD hn
  unfold rdV
  go_enter Tryd.func31, Tryd.ntmps31
  go_upto_region 2 with fail
  rw [← hw3]
  clear hw3
  have g0 := r3.c0; have g1 := r3.c1; have g2 := r3.c2
  go_wp2_with fail
  with_reducible refine (HW.out _ h3).mono ?_
  rintro e w5 ⟨rfl, h5, o5⟩
  have f3 := f3.only o5 (show w.heap.size + 1 + 1 ≠ b by omega)
  have z3 := z3.only o5 (show w.heap.size + 1 ≠ b by omega)
  have o3 := o3.trans o5
  clear g0 g1 g2 o5 h3
  have h3 := h5
  clear h5
  have k2 := f3.c2; have kf := f3.fr
  go_upto_region 20 with fail
  have f4 := Lib.hid (f3.setNum n)
  have z4 := Lib.hid (gset_fd (o := 2) (x := .int .i64 n) z3 (show w.heap.size + 1 ≠ w.heap.size + 1 + 1 by omega))
  have h4 := Lib.hid (gset_cur (o := 2) (x := .int .i64 n) h3 (show b ≠ w.heap.size + 1 + 1 by omega))
  have o4 := Lib.hid (gset_only (o := 2) (x := .int .i64 n) o3 (show w.heap.size ≤ w.heap.size + 1 + 1 by omega))
  clear f3 z3 h3 o3 k2 kf
  generalize (w5.setCell ⟨w.heap.size + 1 + 1, 2, none⟩ (.int .i64 n)) = w4 at *
  have e0 := f4.out.c0; have e1 := f4.out.c1; have e2 := f4.out.c2; have e3 := f4.out.c3; have e4 := f4.out.c4; have e5 := f4.out.c5
  have z0 := z4.out.c0; have z1 := z4.out.c1; have z2 := z4.out.c2; have z3 := z4.out.c3; have z4' := z4.out.c4; have z5 := z4.out.c5; have zf := z4.out.fr
  have f5 := Lib.hid (z4.out.setAll (id, 5, n, 0, ⟨#[]⟩, ⟨#[]⟩))
  have V5 := Lib.hid (val_end h4.out o4.out (show b ≠ w.heap.size + 1 by omega) (show w.heap.size ≤ w.heap.size + 1 by omega) (id, 5, n, 0, ⟨#[]⟩, ⟨#[]⟩))
  clear f4 z4 h4 o4
  try simp only []
  repeat (first | go_values | go_skip | go_guarded | go_step | go_upon)
  exact bodyPost_ret (gf_result Tryd.underlying49 rfl (by kernel_rfl) Tryd.results31 f5.out (by kernel_rfl)) rfl ⟨rfl, V5.out.1, V5.out.2⟩
theorem gval_6 {b : Nat} {c : CS} {w : World} (h : CurT 105 w b c) (hc : c.ok) (s : ByteArray) (deep id : Int) :
    Calls Tryd.prog 31 #[rdV s b deep, .int .i64 id, .int .u8 6] w fun e w' => e = .returned (gfV (id, 6, zagI (c.vVal : Nat), 0, ⟨#[]⟩, ⟨#[]⟩)) ∧ CurT 105 w' b (c.vTo.want (fitB 6 c.vVal) 4) ∧ Only b w w' := by
  have HW0 := fun w (h : CurT 105 w b c) => whole_any h hc s deep 64
  rw [show decide (fitC (zagI (c.vVal : Nat)) 64 = 0) = fitB 6 c.vVal from rfl] at HW0
  obtain ⟨D, hD⟩ : ∃ d, d = c.vTo.want (fitB 6 c.vVal) 4 := ⟨_, rfl⟩
  obtain ⟨n, hn⟩ : ∃ n, n = zagI (c.vVal : Nat) := ⟨_, rfl⟩
  rw [← hD, ← hn] at HW0 ⊢
  have HW := Lib.hid HW0
  unfold rdV at HW
  obtain ⟨w3, hw3, h3, o3, r3, z3, f3, hb⟩ := val_start h s deep id 6 6 rfl
  clear h hc HW0 hD hn
  unfold rdV
  go_enter Tryd.func31, Tryd.ntmps31
  go_upto_region 2 with fail
  rw [← hw3]
  clear hw3
  have g0 := r3.c0; have g1 := r3.c1; have g2 := r3.c2
  go_wp2_with fail
  with_reducible refine (HW.out _ h3).mono ?_
  rintro e w5 ⟨rfl, h5, o5⟩
  have f3 := f3.only o5 (show w.heap.size + 1 + 1 ≠ b by omega)
  have z3 := z3.only o5 (show w.heap.size + 1 ≠ b by omega)
  have o3 := o3.trans o5
  clear g0 g1 g2 o5 h3
  have h3 := h5
  clear h5
  have k2 := f3.c2; have kf := f3.fr
  go_upto_region 20 with fail
  have f4 := Lib.hid (f3.setNum n)
  have z4 := Lib.hid (gset_fd (o := 2) (x := .int .i64 n) z3 (show w.heap.size + 1 ≠ w.heap.size + 1 + 1 by omega))
  have h4 := Lib.hid (gset_cur (o := 2) (x := .int .i64 n) h3 (show b ≠ w.heap.size + 1 + 1 by omega))
  have o4 := Lib.hid (gset_only (o := 2) (x := .int .i64 n) o3 (show w.heap.size ≤ w.heap.size + 1 + 1 by omega))
  clear f3 z3 h3 o3 k2 kf
  generalize (w5.setCell ⟨w.heap.size + 1 + 1, 2, none⟩ (.int .i64 n)) = w4 at *
  have e0 := f4.out.c0; have e1 := f4.out.c1; have e2 := f4.out.c2; have e3 := f4.out.c3; have e4 := f4.out.c4; have e5 := f4.out.c5
  have z0 := z4.out.c0; have z1 := z4.out.c1; have z2 := z4.out.c2; have z3 := z4.out.c3; have z4' := z4.out.c4; have z5 := z4.out.c5; have zf := z4.out.fr
  have f5 := Lib.hid (z4.out.setAll (id, 6, n, 0, ⟨#[]⟩, ⟨#[]⟩))
  have V5 := Lib.hid (val_end h4.out o4.out (show b ≠ w.heap.size + 1 by omega) (show w.heap.size ≤ w.heap.size + 1 by omega) (id, 6, n, 0, ⟨#[]⟩, ⟨#[]⟩))
  clear f4 z4 h4 o4
  try simp only []
  repeat (first | go_values | go_skip | go_guarded | go_step | go_upon)
  exact bodyPost_ret (gf_result Tryd.underlying49 rfl (by kernel_rfl) Tryd.results31 f5.out (by kernel_rfl)) rfl ⟨rfl, V5.out.1, V5.out.2⟩
theorem gval_7 {b : Nat} {c : CS} {w : World} (h : CurT 105 w b c) (hc : c.ok) (s : ByteArray) (deep id : Int) (ht : Tab w) (hg : 0 ≠ b) :
    Calls Tryd.prog 31 #[rdV s b deep, .int .i64 id, .int .u8 7] w fun e w' => e = .returned (gfV (id, 7, 0, valL (c.takeS (8 : Nat)).data.toList, ⟨#[]⟩, ⟨#[]⟩)) ∧ CurT 105 w' b (c.take (8 : Nat)) ∧ Only b w w' := by
  have HL0 := fun w (h : CurT 105 w b c) (ht : Tab w) => readLow64_any h hc ht hg
  obtain ⟨D, hD⟩ : ∃ d, d = c.take (8 : Nat) := ⟨_, rfl⟩
  obtain ⟨n, hn⟩ : ∃ n, n = valL (c.takeS (8 : Nat)).data.toList := ⟨_, rfl⟩
  rw [← hD, ← hn] at HL0 ⊢
  have HL := Lib.hid HL0
  have gl := ht.lt
  obtain ⟨w3, hw3, h3, o3, r3, z3, f3, hb⟩ := val_start h s deep id 7 7 rfl
  have HT := Lib.hid (show Tab w3 from fun k hk => by
    have := o3.block 0 gl hg
    rw [World.cell?_of_block (w := w) this]; exact ht k hk)
  clear h hc HL0 hD hn ht
  unfold rdV
  go_enter Tryd.func31, Tryd.ntmps31
  go_upto_region 2 with fail
  rw [← hw3]
  clear hw3
  have g0 := r3.c0; have g1 := r3.c1; have g2 := r3.c2
  go_wp2_with fail
  with_reducible refine (HL.out _ h3 HT.out).mono ?_
  rintro e w5 ⟨rfl, h5, o5⟩
  have f3 := f3.only o5 (show w.heap.size + 1 + 1 ≠ b by omega)
  have z3 := z3.only o5 (show w.heap.size + 1 ≠ b by omega)
  have o3 := o3.trans o5
  clear g0 g1 g2 o5 h3
  have h3 := h5
  clear h5
  have k2 := f3.c3; have kf := f3.fr
  go_upto_region 20 with fail
  have f4 := Lib.hid (f3.setBits n)
  have z4 := Lib.hid (gset_fd (o := 3) (x := .int .u64 (n : Nat)) z3 (show w.heap.size + 1 ≠ w.heap.size + 1 + 1 by omega))
  have h4 := Lib.hid (gset_cur (o := 3) (x := .int .u64 (n : Nat)) h3 (show b ≠ w.heap.size + 1 + 1 by omega))
  have o4 := Lib.hid (gset_only (o := 3) (x := .int .u64 (n : Nat)) o3 (show w.heap.size ≤ w.heap.size + 1 + 1 by omega))
  clear f3 z3 h3 o3 k2 kf
  generalize (w5.setCell ⟨w.heap.size + 1 + 1, 3, none⟩ (.int .u64 (n : Nat))) = w4 at *
  have e0 := f4.out.c0; have e1 := f4.out.c1; have e2 := f4.out.c2; have e3 := f4.out.c3; have e4 := f4.out.c4; have e5 := f4.out.c5
  have z0 := z4.out.c0; have z1 := z4.out.c1; have z2 := z4.out.c2; have z3 := z4.out.c3; have z4' := z4.out.c4; have z5 := z4.out.c5; have zf := z4.out.fr
  have f5 := Lib.hid (z4.out.setAll (id, 7, 0, n, ⟨#[]⟩, ⟨#[]⟩))
  have V5 := Lib.hid (val_end h4.out o4.out (show b ≠ w.heap.size + 1 by omega) (show w.heap.size ≤ w.heap.size + 1 by omega) (id, 7, 0, n, ⟨#[]⟩, ⟨#[]⟩))
  clear f4 z4 h4 o4
  try simp only []
  repeat (first | go_values | go_skip | go_guarded | go_step | go_upon)
  exact bodyPost_ret (gf_result Tryd.underlying49 rfl (by kernel_rfl) Tryd.results31 f5.out (by kernel_rfl)) rfl ⟨rfl, V5.out.1, V5.out.2⟩
theorem gval_8 {b : Nat} {c : CS} {w : World} (h : CurT 105 w b c) (hc : c.ok) (s : ByteArray) (deep id : Int) :
    Calls Tryd.prog 31 #[rdV s b deep, .int .i64 id, .int .u8 8] w fun e w' => ∃ T, e = .returned (gfV (id, 8, 0, 0, T, ⟨#[]⟩)) ∧ CurT 105 w' b c.txt ∧ Only b w w' ∧ (c.txt.er = 0 → T = c.vTo.takeS (c.vVal : Nat)) := by
  have HL := Lib.hid (fun w (h : CurT 105 w b c) => gtext_any h hc s deep)
  unfold rdV at HL
  obtain ⟨w3, hw3, h3, o3, r3, z3, f3, hb⟩ := val_start h s deep id 8 8 rfl
  clear h hc
  unfold rdV
  go_enter Tryd.func31, Tryd.ntmps31
  go_upto_region 2 with fail
  rw [← hw3]
  clear hw3
  have g0 := r3.c0; have g1 := r3.c1; have g2 := r3.c2
  go_wp2_with fail
  with_reducible refine (HL.out _ h3).mono ?_
  rintro e w5 ⟨T, rfl, h5, o5, hT⟩
  have f3 := f3.only o5 (show w.heap.size + 1 + 1 ≠ b by omega)
  have z3 := z3.only o5 (show w.heap.size + 1 ≠ b by omega)
  have o3 := o3.trans o5
  clear g0 g1 g2 o5 h3
  have h3 := h5
  clear h5
  have HT := Lib.hid hT
  clear hT
  have k2 := f3.c4; have kf := f3.fr
  go_upto_region 20 with fail
  have f4 := Lib.hid (f3.setText T)
  have z4 := Lib.hid (gset_fd (o := 4) (x := .string T) z3 (show w.heap.size + 1 ≠ w.heap.size + 1 + 1 by omega))
  have h4 := Lib.hid (gset_cur (o := 4) (x := .string T) h3 (show b ≠ w.heap.size + 1 + 1 by omega))
  have o4 := Lib.hid (gset_only (o := 4) (x := .string T) o3 (show w.heap.size ≤ w.heap.size + 1 + 1 by omega))
  clear f3 z3 h3 o3 k2 kf
  generalize (w5.setCell ⟨w.heap.size + 1 + 1, 4, none⟩ (.string T)) = w4 at *
  have e0 := f4.out.c0; have e1 := f4.out.c1; have e2 := f4.out.c2; have e3 := f4.out.c3; have e4 := f4.out.c4; have e5 := f4.out.c5
  have z0 := z4.out.c0; have z1 := z4.out.c1; have z2 := z4.out.c2; have z3 := z4.out.c3; have z4' := z4.out.c4; have z5 := z4.out.c5; have zf := z4.out.fr
  have f5 := Lib.hid (z4.out.setAll (id, 8, 0, 0, T, ⟨#[]⟩))
  have V5 := Lib.hid (val_end h4.out o4.out (show b ≠ w.heap.size + 1 by omega) (show w.heap.size ≤ w.heap.size + 1 by omega) (id, 8, 0, 0, T, ⟨#[]⟩))
  clear f4 z4 h4 o4
  try simp only []
  repeat (first | go_values | go_skip | go_guarded | go_step | go_upon)
  exact bodyPost_ret (gf_result Tryd.underlying49 rfl (by kernel_rfl) Tryd.results31 f5.out (by kernel_rfl)) rfl ⟨T, rfl, V5.out.1, V5.out.2, HT.out⟩
theorem gval_no {b : Nat} {c : CS} {w : World} (h : CurT 105 w b c) (hc : c.ok) (deep id : Int) (h0 : 0 ≤ deep) (k : Nat) (hk : k < 256) (hn : ¬ (1 ≤ k ∧ k ≤ 8)) :
    Calls Tryd.prog 31 #[rdV c.s b deep, .int .i64 id, .int .u8 (k : Nat)] w fun e w' => ∃ T, e = .returned (gfV (id, k, 0, 0, ⟨#[]⟩, T)) ∧ CurT 105 w' b (valTo (inTo (32 - deep).toNat) k c) ∧ Only b w w' ∧ ((valTo (inTo (32 - deep).toNat) k c).er = 0 → T = c.s.extract c.at_ (valTo (inTo (32 - deep).toNat) k c).at_) := by
  have HL0 := fun w (h : CurT 105 w b c) => raw_any h hc deep h0 k hk
  obtain ⟨s, hs⟩ : ∃ s, s = c.s := ⟨_, rfl⟩
  rw [← hs] at HL0 ⊢
  have HL := Lib.hid HL0
  unfold rdV at HL
  have p1 : ((k : Int) == 1) = false := beq_eq_false_iff_ne.mpr (by omega)
  have p1' : (k == 1) = false := beq_eq_false_iff_ne.mpr (by omega)
  have p2 : ((k : Int) == 2) = false := beq_eq_false_iff_ne.mpr (by omega)
  have p2' : (k == 2) = false := beq_eq_false_iff_ne.mpr (by omega)
  have p3 : ((k : Int) == 3) = false := beq_eq_false_iff_ne.mpr (by omega)
  have p3' : (k == 3) = false := beq_eq_false_iff_ne.mpr (by omega)
  have p4 : ((k : Int) == 4) = false := beq_eq_false_iff_ne.mpr (by omega)
  have p4' : (k == 4) = false := beq_eq_false_iff_ne.mpr (by omega)
  have p5 : ((k : Int) == 5) = false := beq_eq_false_iff_ne.mpr (by omega)
  have p5' : (k == 5) = false := beq_eq_false_iff_ne.mpr (by omega)
  have p6 : ((k : Int) == 6) = false := beq_eq_false_iff_ne.mpr (by omega)
  have p6' : (k == 6) = false := beq_eq_false_iff_ne.mpr (by omega)
  have p7 : ((k : Int) == 7) = false := beq_eq_false_iff_ne.mpr (by omega)
  have p7' : (k == 7) = false := beq_eq_false_iff_ne.mpr (by omega)
  have p8 : ((k : Int) == 8) = false := beq_eq_false_iff_ne.mpr (by omega)
  have p8' : (k == 8) = false := beq_eq_false_iff_ne.mpr (by omega)
  obtain ⟨w3, hw3, h3, o3, r3, z3, f3, hb⟩ := val_start h s deep id k (k : Nat) rfl
  clear h hc HL0 hs h0 hk hn
  unfold rdV
  go_enter Tryd.func31, Tryd.ntmps31
  go_upto_region 2 with fail
  rw [← hw3]
  clear hw3
  have g0 := r3.c0; have g1 := r3.c1; have g2 := r3.c2
  go_wp2_with fail
  with_reducible refine (HL.out _ h3).mono ?_
  rintro e w5 ⟨T, rfl, h5, o5, hT⟩
  have f3 := f3.only o5 (show w.heap.size + 1 + 1 ≠ b by omega)
  have z3 := z3.only o5 (show w.heap.size + 1 ≠ b by omega)
  have o3 := o3.trans o5
  clear g0 g1 g2 o5 h3
  have h3 := h5
  clear h5
  have HT := Lib.hid hT
  clear hT
  have k2 := f3.c5; have kf := f3.fr
  go_upto_region 20 with fail
  have f4 := Lib.hid (f3.setRaw T)
  have z4 := Lib.hid (gset_fd (o := 5) (x := .string T) z3 (show w.heap.size + 1 ≠ w.heap.size + 1 + 1 by omega))
  have h4 := Lib.hid (gset_cur (o := 5) (x := .string T) h3 (show b ≠ w.heap.size + 1 + 1 by omega))
  have o4 := Lib.hid (gset_only (o := 5) (x := .string T) o3 (show w.heap.size ≤ w.heap.size + 1 + 1 by omega))
  clear f3 z3 h3 o3 k2 kf
  generalize (w5.setCell ⟨w.heap.size + 1 + 1, 5, none⟩ (.string T)) = w4 at *
  have e0 := f4.out.c0; have e1 := f4.out.c1; have e2 := f4.out.c2; have e3 := f4.out.c3; have e4 := f4.out.c4; have e5 := f4.out.c5
  have z0 := z4.out.c0; have z1 := z4.out.c1; have z2 := z4.out.c2; have z3 := z4.out.c3; have z4' := z4.out.c4; have z5 := z4.out.c5; have zf := z4.out.fr
  have f5 := Lib.hid (z4.out.setAll (id, k, 0, 0, ⟨#[]⟩, T))
  have V5 := Lib.hid (val_end h4.out o4.out (show b ≠ w.heap.size + 1 by omega) (show w.heap.size ≤ w.heap.size + 1 by omega) (id, k, 0, 0, ⟨#[]⟩, T))
  clear f4 z4 h4 o4
  try simp only []
  repeat (first | go_values | go_skip | go_guarded | go_step | go_upon)
  exact bodyPost_ret (gf_result Tryd.underlying49 rfl (by kernel_rfl) Tryd.results31 f5.out (by kernel_rfl)) rfl ⟨T, rfl, V5.out.1, V5.out.2, HT.out⟩
end Go.Proofs.YtmcklfndnjagiaaDoor
