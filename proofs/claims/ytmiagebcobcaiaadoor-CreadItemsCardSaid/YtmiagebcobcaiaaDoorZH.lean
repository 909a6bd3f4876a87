/- Several texts in one (CrR, CrS): each begins with its own words. -/
import Derived.Test.YtmiagebcobcaiaaDoorZD
import Derived.Test.YtmiagebcobcaiaaDoorZB
import Derived.Test.YtmiagebcobcaiaaDoorRdRef
import Derived.Test.YtmiagebcobcaiaaDoorFoldB
import Derived.Test.YtmiagebcobcaiaaDoorZE
/- The document's own layer 22: bits, fits; of, kind by kind. -/
namespace Go.Proofs.YtmiagebcobcaiaaDoor
open Go Go.RowKit
set_option linter.unusedVariables false

theorem rbits_4 (w : World) : Calls Tryd.prog 59 #[.int .u8 4] w fun e w' => e = .returned (.int .i64 16) ∧ w' = w := by
  go_enter Tryd.func59, Tryd.ntmps59
  go_wp2
  go_ret
  exact ⟨rfl, rfl⟩
theorem rbits_5 (w : World) : Calls Tryd.prog 59 #[.int .u8 5] w fun e w' => e = .returned (.int .i64 32) ∧ w' = w := by
  go_enter Tryd.func59, Tryd.ntmps59
  go_wp2
  go_ret
  exact ⟨rfl, rfl⟩
theorem rbits_6 (w : World) : Calls Tryd.prog 59 #[.int .u8 6] w fun e w' => e = .returned (.int .i64 64) ∧ w' = w := by
  go_enter Tryd.func59, Tryd.ntmps59
  go_wp2
  go_ret
  exact ⟨rfl, rfl⟩
theorem rbits_no (k : Nat) (w : World) (h : ¬ (4 ≤ k ∧ k ≤ 6)) : Calls Tryd.prog 59 #[.int .u8 (k : Nat)] w fun e w' => e = .returned (.int .i64 0) ∧ w' = w := by
  have p4 : ((k : Int) == 4) = false := beq_eq_false_iff_ne.mpr (by omega)
  have p4' : (k == 4) = false := beq_eq_false_iff_ne.mpr (by omega)
  have p5 : ((k : Int) == 5) = false := beq_eq_false_iff_ne.mpr (by omega)
  have p5' : (k == 5) = false := beq_eq_false_iff_ne.mpr (by omega)
  have p6 : ((k : Int) == 6) = false := beq_eq_false_iff_ne.mpr (by omega)
  have p6' : (k == 6) = false := beq_eq_false_iff_ne.mpr (by omega)
  clear h
  go_enter Tryd.func59, Tryd.ntmps59
  go_wp2
  go_ret
  exact ⟨rfl, rfl⟩
theorem rbits_any (k : Nat) (w : World) : Calls Tryd.prog 59 #[.int .u8 (k : Nat)] w fun e w' => e = .returned (.int .i64 (bitsK k)) ∧ w' = w := by
  by_cases h : 4 ≤ k ∧ k ≤ 6
  · have hcase : k = 4 ∨ k = 5 ∨ k = 6 := by omega
    rcases hcase with rfl | rfl | rfl
    · exact rbits_4 w
    · exact rbits_5 w
    · exact rbits_6 w
  · rw [bitsK_no h]; exact rbits_no k w h
/-- Does a number fit? -/
def fitE (x : GD) : Int := if bitsK x.2.1 = 0 then 0 else fitC x.2.2.1 (bitsK x.2.1)
theorem rfits_any (x : GD) (w : World) (hb : ¬ bitsK x.2.1 = 0 → -9223372036854775808 ≤ x.2.2.1 ∧ x.2.2.1 ≤ 9223372036854775807) : Calls Tryd.prog 24 #[gfV x] w fun e w' => e = .returned (.int .i64 (fitE x)) ∧ Below w.heap.size w w' := by
  obtain ⟨x0, x1, x2, x3, x4, x5⟩ := x
  have HB := Lib.hid (fun w => rbits_any x1 w)
  have hu : fitE (x0, x1, x2, x3, x4, x5) = if bitsK x1 = 0 then 0 else fitC x2 (bitsK x1) := rfl
  have F0 := gf_alloc w (x0, x1, x2, x3, x4, x5) 40
  have B0 := Lib.hid (gf_grow w (x0, x1, x2, x3, x4, x5) 40)
  have g1 := F0.c1; have g2 := F0.c2
  dsimp only at g1 g2 B0
  unfold gfV
  dsimp only
  by_cases h : bitsK x1 = 0
  · rw [hu, if_pos h]
    rw [h] at HB
    clear hu h g2 F0 hb
    go_enter Tryd.func24, Tryd.ntmps24
    go_wp2_with fail
    with_reducible refine (HB.out _).mono ?_
    rintro e w1 ⟨rfl, hww⟩
    rw [hww]; clear hww
    go_wp2
    go_ret
    exact ⟨rfl, B0.out⟩
  · rw [hu, if_neg h]
    have p1 : (bitsK x1 == 0) = false := beq_eq_false_iff_ne.mpr h
    have HF := Lib.hid (fun w => rfit_any x2 (bitsK x1) w (hb h).1 (hb h).2)
    clear hu h hb F0
    generalize bitsK x1 = B at *
    go_enter Tryd.func24, Tryd.ntmps24
    go_wp2_with fail
    with_reducible refine (HB.out _).mono ?_
    rintro e w1 ⟨rfl, hww⟩
    rw [hww]; clear hww
    go_wp2_with fail
    go_quiet (first | (with_reducible exact Calls.quiet_of_same (HB.out _)) | (with_reducible exact Calls.quiet_of_same (HF.out _)))
    go_wp2
    go_ret
    exact ⟨rfl, Below.drewN B0.out _⟩
theorem rof_start (s : ByteArray) (id : Int) (k : Nat) (K : Int) (hK : K = (k : Nat)) (w : World) :
    ∃ w2, w2 = (w.alloc (.cells #[.int .i64 0, .int .u8 0, .int .i64 0, .int .u64 0, .string ⟨#[]⟩, .string ⟨#[]⟩] 40)).alloc (.cells #[.int .i64 id, .int .u8 K, .int .i64 0, .int .u64 0, .string ⟨#[]⟩, .string ⟨#[]⟩] 40) ∧
      GfT 40 w2 w.heap.size (0, 0, 0, 0, ⟨#[]⟩, ⟨#[]⟩) ∧ GfT 40 w2 (w.heap.size + 1) (id, k, 0, 0, ⟨#[]⟩, ⟨#[]⟩) ∧ Below w.heap.size w w2 ∧ w2.heap.size = w.heap.size + 1 + 1 := by
  subst hK
  refine ⟨_, rfl, ?_, ?_, ?_, ?_⟩
  · exact (gf_alloc w (0, 0, 0, 0, ⟨#[]⟩, ⟨#[]⟩) 40).alloc _
  · have := gf_alloc (w.alloc (.cells #[.int .i64 0, .int .u8 0, .int .i64 0, .int .u64 0, .string ⟨#[]⟩, .string ⟨#[]⟩] 40)) (id, k, 0, 0, ⟨#[]⟩, ⟨#[]⟩) 40
    rw [World.size_alloc] at this
    exact this
  · exact ((Below.refl _ w).alloc (Nat.le_refl _) _).alloc (by simp) _
  · simp
theorem rof_end {w0 w : World} {g : Nat} (h : Below w0.heap.size w0 w) (hg : w0.heap.size ≤ g) (y : GD) : Below w0.heap.size w0 ((((((w.setCell ⟨g, 0, none⟩ (.int .i64 y.1)).setCell ⟨g, 1, none⟩ (.int .u8 (y.2.1 : Nat))).setCell ⟨g, 2, none⟩ (.int .i64 y.2.2.1)).setCell ⟨g, 3, none⟩ (.int .u64 (y.2.2.2.1 : Nat))).setCell ⟨g, 4, none⟩ (.string y.2.2.2.2.1)).setCell ⟨g, 5, none⟩ (.string y.2.2.2.2.2)) :=
  gset_keeps (gset_keeps (gset_keeps (gset_keeps (gset_keeps (gset_keeps h hg) hg) hg) hg) hg) hg
set_option maxHeartbeats 1000000 in
theorem rof_1 (s : ByteArray) (id : Int) (w : World) (hs : s.size ≤ 1099511627776) :
    Calls Tryd.prog 23 #[.int .i64 id, .int .u8 1, .string s] w fun e w' => e = .returned (gfV (id, 1, 1, 0, ⟨#[]⟩, ⟨#[]⟩)) ∧ Below w.heap.size w w' := by
  have HN := Lib.hid (fun w => ref_new s w (by omega))
  obtain ⟨w2, hw2, z2, f2, b2, n2⟩ := rof_start s id 1 1 rfl w
  clear hs
  go_enter Tryd.func23, Tryd.ntmps23
  go_wp2_with fail
  rw [← hw2]
  clear hw2
  with_reducible refine (HN.out _).mono ?_
  rintro e w3 ⟨rfl, b3⟩
  obtain ⟨w4, hw4⟩ : ∃ w4, w4 = w3.alloc (.cells #[.string s, .int .i64 0, .int .i64 s.size, .int .i64 0] 56) := ⟨_, rfl⟩
  obtain ⟨C, hC⟩ : ∃ C, C = w3.heap.size := ⟨_, rfl⟩
  have hCl : w.heap.size + 1 + 1 ≤ C := by rw [hC, ← n2]; exact b3.size
  have b34 : Below w2.heap.size w2 w4 := by rw [hw4]; exact b3.trans (((Below.refl _ w3).alloc (Nat.le_refl _) _).mono b3.size)
  have z4 := z2.below b34 z2.lt
  have f4 := f2.below b34 f2.lt
  have b4 := b2.trans (b34.mono b2.size)
  have c4 : CurT 56 w4 C (CS.new s) := by rw [hw4, hC]; exact cur_alloc (w := w3) (c := CS.new s) _
  clear z2 f2 b2 n2 b3 b34 HN
  go_upto_region 3 with fail
  rw [← hC, ← hw4]
  clear hC hw4
  clear c4
  have k2 := f4.c2; have kf := f4.fr
  go_upto_region 17 with fail
  have f5 := Lib.hid (f4.setNum 1)
  have z5 := Lib.hid (gset_fd (o := 2) (x := .int .i64 1) z4 (show w.heap.size ≠ w.heap.size + 1 by omega))
  have b5 := Lib.hid (gset_keeps (o := 2) (x := .int .i64 1) b4 (show w.heap.size ≤ w.heap.size + 1 by omega))
  clear f4 z4 b4 k2 kf
  generalize (w4.setCell ⟨w.heap.size + 1, 2, none⟩ (.int .i64 1)) = w5 at *
  have e0 := f5.out.c0; have e1 := f5.out.c1; have e2 := f5.out.c2; have e3 := f5.out.c3; have e4 := f5.out.c4; have e5 := f5.out.c5
  have z0 := z5.out.c0; have z1 := z5.out.c1; have z2 := z5.out.c2; have z3 := z5.out.c3; have z4 := z5.out.c4; have z5' := z5.out.c5; have zf := z5.out.fr
  have f6 := Lib.hid (z5.out.setAll (id, 1, 1, 0, ⟨#[]⟩, ⟨#[]⟩))
  have V6 := Lib.hid (rof_end b5.out (Nat.le_refl _) (id, 1, 1, 0, ⟨#[]⟩, ⟨#[]⟩))
  clear f5 z5 b5
  try simp only []
  repeat (first | go_values | go_skip | go_guarded | go_step | go_upon)
  exact bodyPost_ret (gf_result Tryd.underlying40 rfl (by kernel_rfl) Tryd.results23 f6.out (by kernel_rfl)) rfl ⟨rfl, V6.out⟩
set_option maxHeartbeats 1000000 in
theorem rof_2 (s : ByteArray) (id : Int) (w : World) (hs : s.size ≤ 1099511627776) :
    Calls Tryd.prog 23 #[.int .i64 id, .int .u8 2, .string s] w fun e w' => e = .returned (gfV (id, 2, 0, 0, ⟨#[]⟩, ⟨#[]⟩)) ∧ Below w.heap.size w w' := by
  have HBI := Lib.hid (fun w => show Calls Tryd.prog 59 #[.int .u8 2] w (fun e w' => e = .returned (.int .i64 0) ∧ w' = w) from rbits_no 2 w (by omega))
  have HN := Lib.hid (fun w => ref_new s w (by omega))
  obtain ⟨w2, hw2, z2, f2, b2, n2⟩ := rof_start s id 2 2 rfl w
  clear hs
  go_enter Tryd.func23, Tryd.ntmps23
  go_wp2_with fail
  rw [← hw2]
  clear hw2
  with_reducible refine (HN.out _).mono ?_
  rintro e w3 ⟨rfl, b3⟩
  obtain ⟨w4, hw4⟩ : ∃ w4, w4 = w3.alloc (.cells #[.string s, .int .i64 0, .int .i64 s.size, .int .i64 0] 56) := ⟨_, rfl⟩
  obtain ⟨C, hC⟩ : ∃ C, C = w3.heap.size := ⟨_, rfl⟩
  have hCl : w.heap.size + 1 + 1 ≤ C := by rw [hC, ← n2]; exact b3.size
  have b34 : Below w2.heap.size w2 w4 := by rw [hw4]; exact b3.trans (((Below.refl _ w3).alloc (Nat.le_refl _) _).mono b3.size)
  have z4 := z2.below b34 z2.lt
  have f4 := f2.below b34 f2.lt
  have b4 := b2.trans (b34.mono b2.size)
  have c4 : CurT 56 w4 C (CS.new s) := by rw [hw4, hC]; exact cur_alloc (w := w3) (c := CS.new s) _
  clear z2 f2 b2 n2 b3 b34 HN
  go_wp2_with fail
  rw [← hC, ← hw4]
  clear hC hw4
  clear c4
  with_reducible refine (HBI.out _).mono ?_
  rintro e w6 ⟨rfl, hww⟩
  rw [hww]
  clear hww
  go_upto_region 17 with fail
  have f5 := Lib.hid f4
  have z5 := Lib.hid z4
  have b5 := Lib.hid b4
  clear f4 z4 b4
  have e0 := f5.out.c0; have e1 := f5.out.c1; have e2 := f5.out.c2; have e3 := f5.out.c3; have e4 := f5.out.c4; have e5 := f5.out.c5
  have z0 := z5.out.c0; have z1 := z5.out.c1; have z2 := z5.out.c2; have z3 := z5.out.c3; have z4 := z5.out.c4; have z5' := z5.out.c5; have zf := z5.out.fr
  have f6 := Lib.hid (z5.out.setAll (id, 2, 0, 0, ⟨#[]⟩, ⟨#[]⟩))
  have V6 := Lib.hid (rof_end b5.out (Nat.le_refl _) (id, 2, 0, 0, ⟨#[]⟩, ⟨#[]⟩))
  clear f5 z5 b5
  try simp only []
  repeat (first | go_values | go_skip | go_guarded | go_step | go_upon)
  exact bodyPost_ret (gf_result Tryd.underlying40 rfl (by kernel_rfl) Tryd.results23 f6.out (by kernel_rfl)) rfl ⟨rfl, V6.out⟩
set_option maxHeartbeats 1000000 in
theorem rof_3 (s : ByteArray) (id : Int) (w : World) (hs : s.size ≤ 1099511627776) (h0 : 0 < s.size) :
    Calls Tryd.prog 23 #[.int .i64 id, .int .u8 3, .string s] w fun e w' => e = .returned (gfV (id, 3, wideI (s[0].toNat : Int) 8, 0, ⟨#[]⟩, ⟨#[]⟩)) ∧ Below w.heap.size w w' := by
  obtain ⟨x, hx⟩ : ∃ x, x = (s[0]).toNat := ⟨_, rfl⟩
  have hx8 : x < 256 := by rw [hx]; exact (s[0]).toNat_lt
  have HW0 := fun w => rwide_any (x : Nat) 8 w (by omega) (by omega)
  obtain ⟨n, hn⟩ : ∃ n, n = wideI (x : Nat) 8 := ⟨_, rfl⟩
  rw [← hx, ← hn]
  rw [← hn] at HW0
  have m1 : IntKind.u64.wrap (x : Int) = (x : Int) := IntWalk.u64_in _ (by omega)
  have HW := Lib.hid HW0
  have HX := Lib.hid hx
  have HN := Lib.hid (fun w => ref_new s w (by omega))
  obtain ⟨w2, hw2, z2, f2, b2, n2⟩ := rof_start s id 3 3 rfl w
  clear hs hn HW0 hx
  go_enter Tryd.func23, Tryd.ntmps23
  go_wp2_with fail
  rw [← hw2]
  clear hw2
  with_reducible refine (HN.out _).mono ?_
  rintro e w3 ⟨rfl, b3⟩
  obtain ⟨w4, hw4⟩ : ∃ w4, w4 = w3.alloc (.cells #[.string s, .int .i64 0, .int .i64 s.size, .int .i64 0] 56) := ⟨_, rfl⟩
  obtain ⟨C, hC⟩ : ∃ C, C = w3.heap.size := ⟨_, rfl⟩
  have hCl : w.heap.size + 1 + 1 ≤ C := by rw [hC, ← n2]; exact b3.size
  have b34 : Below w2.heap.size w2 w4 := by rw [hw4]; exact b3.trans (((Below.refl _ w3).alloc (Nat.le_refl _) _).mono b3.size)
  have z4 := z2.below b34 z2.lt
  have f4 := f2.below b34 f2.lt
  have b4 := b2.trans (b34.mono b2.size)
  have c4 : CurT 56 w4 C (CS.new s) := by rw [hw4, hC]; exact cur_alloc (w := w3) (c := CS.new s) _
  clear z2 f2 b2 n2 b3 b34 HN
  go_wp2_with fail
  rw [← hC, ← hw4]
  clear hC hw4
  clear c4
  rw [← HX.out, m1]
  with_reducible refine (HW.out _).mono ?_
  rintro e w6 ⟨rfl, hww⟩
  rw [hww]
  clear hww
  have k2 := f4.c2; have kf := f4.fr
  go_upto_region 17 with fail
  have f5 := Lib.hid (f4.setNum n)
  have z5 := Lib.hid (gset_fd (o := 2) (x := .int .i64 n) z4 (show w.heap.size ≠ w.heap.size + 1 by omega))
  have b5 := Lib.hid (gset_keeps (o := 2) (x := .int .i64 n) b4 (show w.heap.size ≤ w.heap.size + 1 by omega))
  clear f4 z4 b4 k2 kf
  generalize (w4.setCell ⟨w.heap.size + 1, 2, none⟩ (.int .i64 n)) = w5 at *
  have e0 := f5.out.c0; have e1 := f5.out.c1; have e2 := f5.out.c2; have e3 := f5.out.c3; have e4 := f5.out.c4; have e5 := f5.out.c5
  have z0 := z5.out.c0; have z1 := z5.out.c1; have z2 := z5.out.c2; have z3 := z5.out.c3; have z4 := z5.out.c4; have z5' := z5.out.c5; have zf := z5.out.fr
  have f6 := Lib.hid (z5.out.setAll (id, 3, n, 0, ⟨#[]⟩, ⟨#[]⟩))
  have V6 := Lib.hid (rof_end b5.out (Nat.le_refl _) (id, 3, n, 0, ⟨#[]⟩, ⟨#[]⟩))
  clear f5 z5 b5
  try simp only []
  repeat (first | go_values | go_skip | go_guarded | go_step | go_upon)
  exact bodyPost_ret (gf_result Tryd.underlying40 rfl (by kernel_rfl) Tryd.results23 f6.out (by kernel_rfl)) rfl ⟨rfl, V6.out⟩
set_option maxHeartbeats 1000000 in
theorem rof_4 (s : ByteArray) (id : Int) (w : World) (hs : s.size ≤ 1099511627776) :
    Calls Tryd.prog 23 #[.int .i64 id, .int .u8 4, .string s] w fun e w' => e = .returned (gfV (id, 4, zagI ((CS.new s).vVal : Nat), 0, ⟨#[]⟩, ⟨#[]⟩)) ∧ Below w.heap.size w w' := by
  have hok : (CS.new s).ok := CS.new_ok (by omega)
  have hu := CS.vVal_lt (CS.new s)
  obtain ⟨V, hV⟩ : ∃ V : Int, V = ((CS.new s).vVal : Nat) := ⟨_, rfl⟩
  have HR := Lib.hid (fun w => rr_l (Lib.hid hV) (Lib.hid (Alike.refl hok)) (show s.size ≤ 140737488351232 by omega) w)
  have HZ0 := fun w => rzag_any V w (by omega) (by omega)
  obtain ⟨n, hn⟩ : ∃ n, n = zagI ((CS.new s).vVal : Nat) := ⟨_, rfl⟩
  rw [← hV] at hn
  rw [← hV, ← hn]
  rw [← hn] at HZ0
  have HZ := Lib.hid HZ0
  have HBI := Lib.hid (fun w => rbits_4 w)
  unfold CS.new at HR
  dsimp only at HR
  have HN := Lib.hid (fun w => ref_new s w (by omega))
  obtain ⟨w2, hw2, z2, f2, b2, n2⟩ := rof_start s id 4 4 rfl w
  clear hs HZ0 hn hu
  go_enter Tryd.func23, Tryd.ntmps23
  go_wp2_with fail
  rw [← hw2]
  clear hw2
  with_reducible refine (HN.out _).mono ?_
  rintro e w3 ⟨rfl, b3⟩
  obtain ⟨w4, hw4⟩ : ∃ w4, w4 = w3.alloc (.cells #[.string s, .int .i64 0, .int .i64 s.size, .int .i64 0] 56) := ⟨_, rfl⟩
  obtain ⟨C, hC⟩ : ∃ C, C = w3.heap.size := ⟨_, rfl⟩
  have hCl : w.heap.size + 1 + 1 ≤ C := by rw [hC, ← n2]; exact b3.size
  have b34 : Below w2.heap.size w2 w4 := by rw [hw4]; exact b3.trans (((Below.refl _ w3).alloc (Nat.le_refl _) _).mono b3.size)
  have z4 := z2.below b34 z2.lt
  have f4 := f2.below b34 f2.lt
  have b4 := b2.trans (b34.mono b2.size)
  have c4 : CurT 56 w4 C (CS.new s) := by rw [hw4, hC]; exact cur_alloc (w := w3) (c := CS.new s) _
  clear z2 f2 b2 n2 b3 b34 HN
  go_wp2_with fail
  rw [← hC, ← hw4]
  clear hC hw4
  with_reducible refine (HBI.out _).mono ?_
  rintro e w6 ⟨rfl, hww⟩
  rw [hww]
  clear hww
  have a0 := c4.c0; have a1 := c4.c1; have a2 := c4.c2; have a3 := c4.c3; have af := c4.fr
  dsimp only [CS.new] at a0 a1 a2 a3
  go_wp2_with fail
  refine (HR.out _).mono ?_
  rintro e w5 ⟨d, rfl, hal, hds, b5⟩
  obtain ⟨w6, hw6⟩ : ∃ w6, w6 = w5.alloc (.cells #[.string d.s, .int .i64 d.at_, .int .i64 d.en, .int .i64 d.er] 56) := ⟨_, rfl⟩
  have b56 : Below w4.heap.size w4 w6 := by rw [hw6]; exact b5.trans (((Below.refl _ w5).alloc (Nat.le_refl _) _).mono b5.size)
  have z4 := z4.below b56 z4.lt
  have f4 := f4.below b56 f4.lt
  have b4 := b4.trans (b56.mono b4.size)
  clear a0 a1 a2 a3 af c4 b5 b56 hal hds HR hV
  go_wp2_with fail
  rw [← hw6]
  clear hw6
  with_reducible refine (HZ.out _).mono ?_
  rintro e w6 ⟨rfl, hww⟩
  rw [hww]
  clear hww
  have k2 := f4.c2; have kf := f4.fr
  go_upto_region 17 with fail
  have f5 := Lib.hid (f4.setNum n)
  have z5 := Lib.hid (gset_fd (o := 2) (x := .int .i64 n) z4 (show w.heap.size ≠ w.heap.size + 1 by omega))
  have b5 := Lib.hid (gset_keeps (o := 2) (x := .int .i64 n) b4 (show w.heap.size ≤ w.heap.size + 1 by omega))
  clear f4 z4 b4 k2 kf
  generalize (w6.setCell ⟨w.heap.size + 1, 2, none⟩ (.int .i64 n)) = w5 at *
  have e0 := f5.out.c0; have e1 := f5.out.c1; have e2 := f5.out.c2; have e3 := f5.out.c3; have e4 := f5.out.c4; have e5 := f5.out.c5
  have z0 := z5.out.c0; have z1 := z5.out.c1; have z2 := z5.out.c2; have z3 := z5.out.c3; have z4 := z5.out.c4; have z5' := z5.out.c5; have zf := z5.out.fr
  have f6 := Lib.hid (z5.out.setAll (id, 4, n, 0, ⟨#[]⟩, ⟨#[]⟩))
  have V6 := Lib.hid (rof_end b5.out (Nat.le_refl _) (id, 4, n, 0, ⟨#[]⟩, ⟨#[]⟩))
  clear f5 z5 b5
  try simp only []
  repeat (first | go_values | go_skip | go_guarded | go_step | go_upon)
  exact bodyPost_ret (gf_result Tryd.underlying40 rfl (by kernel_rfl) Tryd.results23 f6.out (by kernel_rfl)) rfl ⟨rfl, V6.out⟩
set_option maxHeartbeats 1000000 in
theorem rof_5 (s : ByteArray) (id : Int) (w : World) (hs : s.size ≤ 1099511627776) :
    Calls Tryd.prog 23 #[.int .i64 id, .int .u8 5, .string s] w fun e w' => e = .returned (gfV (id, 5, zagI ((CS.new s).vVal : Nat), 0, ⟨#[]⟩, ⟨#[]⟩)) ∧ Below w.heap.size w w' := by
  have hok : (CS.new s).ok := CS.new_ok (by omega)
  have hu := CS.vVal_lt (CS.new s)
  obtain ⟨V, hV⟩ : ∃ V : Int, V = ((CS.new s).vVal : Nat) := ⟨_, rfl⟩
  have HR := Lib.hid (fun w => rr_l (Lib.hid hV) (Lib.hid (Alike.refl hok)) (show s.size ≤ 140737488351232 by omega) w)
  have HZ0 := fun w => rzag_any V w (by omega) (by omega)
  obtain ⟨n, hn⟩ : ∃ n, n = zagI ((CS.new s).vVal : Nat) := ⟨_, rfl⟩
  rw [← hV] at hn
  rw [← hV, ← hn]
  rw [← hn] at HZ0
  have HZ := Lib.hid HZ0
  have HBI := Lib.hid (fun w => rbits_5 w)
  unfold CS.new at HR
  dsimp only at HR
  have HN := Lib.hid (fun w => ref_new s w (by omega))
  obtain ⟨w2, hw2, z2, f2, b2, n2⟩ := rof_start s id 5 5 rfl w
  clear hs HZ0 hn hu
  go_enter Tryd.func23, Tryd.ntmps23
  go_wp2_with fail
  rw [← hw2]
  clear hw2
  with_reducible refine (HN.out _).mono ?_
  rintro e w3 ⟨rfl, b3⟩
  obtain ⟨w4, hw4⟩ : ∃ w4, w4 = w3.alloc (.cells #[.string s, .int .i64 0, .int .i64 s.size, .int .i64 0] 56) := ⟨_, rfl⟩
  obtain ⟨C, hC⟩ : ∃ C, C = w3.heap.size := ⟨_, rfl⟩
  have hCl : w.heap.size + 1 + 1 ≤ C := by rw [hC, ← n2]; exact b3.size
  have b34 : Below w2.heap.size w2 w4 := by rw [hw4]; exact b3.trans (((Below.refl _ w3).alloc (Nat.le_refl _) _).mono b3.size)
  have z4 := z2.below b34 z2.lt
  have f4 := f2.below b34 f2.lt
  have b4 := b2.trans (b34.mono b2.size)
  have c4 : CurT 56 w4 C (CS.new s) := by rw [hw4, hC]; exact cur_alloc (w := w3) (c := CS.new s) _
  clear z2 f2 b2 n2 b3 b34 HN
  go_wp2_with fail
  rw [← hC, ← hw4]
  clear hC hw4
  with_reducible refine (HBI.out _).mono ?_
  rintro e w6 ⟨rfl, hww⟩
  rw [hww]
  clear hww
  have a0 := c4.c0; have a1 := c4.c1; have a2 := c4.c2; have a3 := c4.c3; have af := c4.fr
  dsimp only [CS.new] at a0 a1 a2 a3
  go_wp2_with fail
  refine (HR.out _).mono ?_
  rintro e w5 ⟨d, rfl, hal, hds, b5⟩
  obtain ⟨w6, hw6⟩ : ∃ w6, w6 = w5.alloc (.cells #[.string d.s, .int .i64 d.at_, .int .i64 d.en, .int .i64 d.er] 56) := ⟨_, rfl⟩
  have b56 : Below w4.heap.size w4 w6 := by rw [hw6]; exact b5.trans (((Below.refl _ w5).alloc (Nat.le_refl _) _).mono b5.size)
  have z4 := z4.below b56 z4.lt
  have f4 := f4.below b56 f4.lt
  have b4 := b4.trans (b56.mono b4.size)
  clear a0 a1 a2 a3 af c4 b5 b56 hal hds HR hV
  go_wp2_with fail
  rw [← hw6]
  clear hw6
  with_reducible refine (HZ.out _).mono ?_
  rintro e w6 ⟨rfl, hww⟩
  rw [hww]
  clear hww
  have k2 := f4.c2; have kf := f4.fr
  go_upto_region 17 with fail
  have f5 := Lib.hid (f4.setNum n)
  have z5 := Lib.hid (gset_fd (o := 2) (x := .int .i64 n) z4 (show w.heap.size ≠ w.heap.size + 1 by omega))
  have b5 := Lib.hid (gset_keeps (o := 2) (x := .int .i64 n) b4 (show w.heap.size ≤ w.heap.size + 1 by omega))
  clear f4 z4 b4 k2 kf
  generalize (w6.setCell ⟨w.heap.size + 1, 2, none⟩ (.int .i64 n)) = w5 at *
  have e0 := f5.out.c0; have e1 := f5.out.c1; have e2 := f5.out.c2; have e3 := f5.out.c3; have e4 := f5.out.c4; have e5 := f5.out.c5
  have z0 := z5.out.c0; have z1 := z5.out.c1; have z2 := z5.out.c2; have z3 := z5.out.c3; have z4 := z5.out.c4; have z5' := z5.out.c5; have zf := z5.out.fr
  have f6 := Lib.hid (z5.out.setAll (id, 5, n, 0, ⟨#[]⟩, ⟨#[]⟩))
  have V6 := Lib.hid (rof_end b5.out (Nat.le_refl _) (id, 5, n, 0, ⟨#[]⟩, ⟨#[]⟩))
  clear f5 z5 b5
  try simp only []
  repeat (first | go_values | go_skip | go_guarded | go_step | go_upon)
  exact bodyPost_ret (gf_result Tryd.underlying40 rfl (by kernel_rfl) Tryd.results23 f6.out (by kernel_rfl)) rfl ⟨rfl, V6.out⟩
set_option maxHeartbeats 1000000 in
theorem rof_6 (s : ByteArray) (id : Int) (w : World) (hs : s.size ≤ 1099511627776) :
    Calls Tryd.prog 23 #[.int .i64 id, .int .u8 6, .string s] w fun e w' => e = .returned (gfV (id, 6, zagI ((CS.new s).vVal : Nat), 0, ⟨#[]⟩, ⟨#[]⟩)) ∧ Below w.heap.size w w' := by
  have hok : (CS.new s).ok := CS.new_ok (by omega)
  have hu := CS.vVal_lt (CS.new s)
  obtain ⟨V, hV⟩ : ∃ V : Int, V = ((CS.new s).vVal : Nat) := ⟨_, rfl⟩
  have HR := Lib.hid (fun w => rr_l (Lib.hid hV) (Lib.hid (Alike.refl hok)) (show s.size ≤ 140737488351232 by omega) w)
  have HZ0 := fun w => rzag_any V w (by omega) (by omega)
  obtain ⟨n, hn⟩ : ∃ n, n = zagI ((CS.new s).vVal : Nat) := ⟨_, rfl⟩
  rw [← hV] at hn
  rw [← hV, ← hn]
  rw [← hn] at HZ0
  have HZ := Lib.hid HZ0
  have HBI := Lib.hid (fun w => rbits_6 w)
  unfold CS.new at HR
  dsimp only at HR
  have HN := Lib.hid (fun w => ref_new s w (by omega))
  obtain ⟨w2, hw2, z2, f2, b2, n2⟩ := rof_start s id 6 6 rfl w
  clear hs HZ0 hn hu
  go_enter Tryd.func23, Tryd.ntmps23
  go_wp2_with fail
  rw [← hw2]
  clear hw2
  with_reducible refine (HN.out _).mono ?_
  rintro e w3 ⟨rfl, b3⟩
  obtain ⟨w4, hw4⟩ : ∃ w4, w4 = w3.alloc (.cells #[.string s, .int .i64 0, .int .i64 s.size, .int .i64 0] 56) := ⟨_, rfl⟩
  obtain ⟨C, hC⟩ : ∃ C, C = w3.heap.size := ⟨_, rfl⟩
  have hCl : w.heap.size + 1 + 1 ≤ C := by rw [hC, ← n2]; exact b3.size
  have b34 : Below w2.heap.size w2 w4 := by rw [hw4]; exact b3.trans (((Below.refl _ w3).alloc (Nat.le_refl _) _).mono b3.size)
  have z4 := z2.below b34 z2.lt
  have f4 := f2.below b34 f2.lt
  have b4 := b2.trans (b34.mono b2.size)
  have c4 : CurT 56 w4 C (CS.new s) := by rw [hw4, hC]; exact cur_alloc (w := w3) (c := CS.new s) _
  clear z2 f2 b2 n2 b3 b34 HN
  go_wp2_with fail
  rw [← hC, ← hw4]
  clear hC hw4
  with_reducible refine (HBI.out _).mono ?_
  rintro e w6 ⟨rfl, hww⟩
  rw [hww]
  clear hww
  have a0 := c4.c0; have a1 := c4.c1; have a2 := c4.c2; have a3 := c4.c3; have af := c4.fr
  dsimp only [CS.new] at a0 a1 a2 a3
  go_wp2_with fail
  refine (HR.out _).mono ?_
  rintro e w5 ⟨d, rfl, hal, hds, b5⟩
  obtain ⟨w6, hw6⟩ : ∃ w6, w6 = w5.alloc (.cells #[.string d.s, .int .i64 d.at_, .int .i64 d.en, .int .i64 d.er] 56) := ⟨_, rfl⟩
  have b56 : Below w4.heap.size w4 w6 := by rw [hw6]; exact b5.trans (((Below.refl _ w5).alloc (Nat.le_refl _) _).mono b5.size)
  have z4 := z4.below b56 z4.lt
  have f4 := f4.below b56 f4.lt
  have b4 := b4.trans (b56.mono b4.size)
  clear a0 a1 a2 a3 af c4 b5 b56 hal hds HR hV
  go_wp2_with fail
  rw [← hw6]
  clear hw6
  with_reducible refine (HZ.out _).mono ?_
  rintro e w6 ⟨rfl, hww⟩
  rw [hww]
  clear hww
  have k2 := f4.c2; have kf := f4.fr
  go_upto_region 17 with fail
  have f5 := Lib.hid (f4.setNum n)
  have z5 := Lib.hid (gset_fd (o := 2) (x := .int .i64 n) z4 (show w.heap.size ≠ w.heap.size + 1 by omega))
  have b5 := Lib.hid (gset_keeps (o := 2) (x := .int .i64 n) b4 (show w.heap.size ≤ w.heap.size + 1 by omega))
  clear f4 z4 b4 k2 kf
  generalize (w6.setCell ⟨w.heap.size + 1, 2, none⟩ (.int .i64 n)) = w5 at *
  have e0 := f5.out.c0; have e1 := f5.out.c1; have e2 := f5.out.c2; have e3 := f5.out.c3; have e4 := f5.out.c4; have e5 := f5.out.c5
  have z0 := z5.out.c0; have z1 := z5.out.c1; have z2 := z5.out.c2; have z3 := z5.out.c3; have z4 := z5.out.c4; have z5' := z5.out.c5; have zf := z5.out.fr
  have f6 := Lib.hid (z5.out.setAll (id, 6, n, 0, ⟨#[]⟩, ⟨#[]⟩))
  have V6 := Lib.hid (rof_end b5.out (Nat.le_refl _) (id, 6, n, 0, ⟨#[]⟩, ⟨#[]⟩))
  clear f5 z5 b5
  try simp only []
  repeat (first | go_values | go_skip | go_guarded | go_step | go_upon)
  exact bodyPost_ret (gf_result Tryd.underlying40 rfl (by kernel_rfl) Tryd.results23 f6.out (by kernel_rfl)) rfl ⟨rfl, V6.out⟩
set_option maxHeartbeats 1000000 in
theorem rof_7 (s : ByteArray) (id : Int) (w : World) (hs : s.size ≤ 1099511627776) (h8 : s.size ≤ 8) :
    Calls Tryd.prog 23 #[.int .i64 id, .int .u8 7, .string s] w fun e w' => e = .returned (gfV (id, 7, 0, valL s.data.toList, ⟨#[]⟩, ⟨#[]⟩)) ∧ Below w.heap.size w w' := by
  have HBI := Lib.hid (fun w => show Calls Tryd.prog 59 #[.int .u8 7] w (fun e w' => e = .returned (.int .i64 0) ∧ w' = w) from rbits_no 7 w (by omega))
  have HO0 := fun w => ofLow_any s w h8
  obtain ⟨n, hn⟩ : ∃ n, n = valL s.data.toList := ⟨_, rfl⟩
  rw [← hn] at HO0 ⊢
  have HO := Lib.hid HO0
  have HN := Lib.hid (fun w => ref_new s w (by omega))
  obtain ⟨w2, hw2, z2, f2, b2, n2⟩ := rof_start s id 7 7 rfl w
  clear hs HO0 hn h8
  go_enter Tryd.func23, Tryd.ntmps23
  go_wp2_with fail
  rw [← hw2]
  clear hw2
  with_reducible refine (HN.out _).mono ?_
  rintro e w3 ⟨rfl, b3⟩
  obtain ⟨w4, hw4⟩ : ∃ w4, w4 = w3.alloc (.cells #[.string s, .int .i64 0, .int .i64 s.size, .int .i64 0] 56) := ⟨_, rfl⟩
  obtain ⟨C, hC⟩ : ∃ C, C = w3.heap.size := ⟨_, rfl⟩
  have hCl : w.heap.size + 1 + 1 ≤ C := by rw [hC, ← n2]; exact b3.size
  have b34 : Below w2.heap.size w2 w4 := by rw [hw4]; exact b3.trans (((Below.refl _ w3).alloc (Nat.le_refl _) _).mono b3.size)
  have z4 := z2.below b34 z2.lt
  have f4 := f2.below b34 f2.lt
  have b4 := b2.trans (b34.mono b2.size)
  have c4 : CurT 56 w4 C (CS.new s) := by rw [hw4, hC]; exact cur_alloc (w := w3) (c := CS.new s) _
  clear z2 f2 b2 n2 b3 b34 HN
  go_wp2_with fail
  rw [← hC, ← hw4]
  clear hC hw4
  clear c4
  with_reducible refine (HBI.out _).mono ?_
  rintro e w6 ⟨rfl, hww⟩
  rw [hww]
  clear hww
  go_wp2_with fail
  with_reducible refine (HO.out _).mono ?_
  rintro e w6 ⟨rfl, hww⟩
  rw [hww]
  clear hww
  have k2 := f4.c3; have kf := f4.fr
  go_upto_region 17 with fail
  have f5 := Lib.hid (f4.setBits n)
  have z5 := Lib.hid (gset_fd (o := 3) (x := .int .u64 (n : Nat)) z4 (show w.heap.size ≠ w.heap.size + 1 by omega))
  have b5 := Lib.hid (gset_keeps (o := 3) (x := .int .u64 (n : Nat)) b4 (show w.heap.size ≤ w.heap.size + 1 by omega))
  clear f4 z4 b4 k2 kf
  generalize (w4.setCell ⟨w.heap.size + 1, 3, none⟩ (.int .u64 (n : Nat))) = w5 at *
  have e0 := f5.out.c0; have e1 := f5.out.c1; have e2 := f5.out.c2; have e3 := f5.out.c3; have e4 := f5.out.c4; have e5 := f5.out.c5
  have z0 := z5.out.c0; have z1 := z5.out.c1; have z2 := z5.out.c2; have z3 := z5.out.c3; have z4 := z5.out.c4; have z5' := z5.out.c5; have zf := z5.out.fr
  have f6 := Lib.hid (z5.out.setAll (id, 7, 0, n, ⟨#[]⟩, ⟨#[]⟩))
  have V6 := Lib.hid (rof_end b5.out (Nat.le_refl _) (id, 7, 0, n, ⟨#[]⟩, ⟨#[]⟩))
  clear f5 z5 b5
  try simp only []
  repeat (first | go_values | go_skip | go_guarded | go_step | go_upon)
  exact bodyPost_ret (gf_result Tryd.underlying40 rfl (by kernel_rfl) Tryd.results23 f6.out (by kernel_rfl)) rfl ⟨rfl, V6.out⟩
set_option maxHeartbeats 1000000 in
theorem rof_8 (s : ByteArray) (id : Int) (w : World) (hs : s.size ≤ 1099511627776) (h8 : (CS.new s).vTo.er = 0) :
    Calls Tryd.prog 23 #[.int .i64 id, .int .u8 8, .string s] w fun e w' => e = .returned (gfV (id, 8, 0, 0, s.extract (CS.new s).vTo.at_ s.size, ⟨#[]⟩)) ∧ Below w.heap.size w w' := by
  have HBI := Lib.hid (fun w => show Calls Tryd.prog 59 #[.int .u8 8] w (fun e w' => e = .returned (.int .i64 0) ∧ w' = w) from rbits_no 8 w (by omega))
  have hok : (CS.new s).ok := CS.new_ok (by omega)
  have hok2 := CS.vTo_ok hok
  have hs2 := CS.vTo_s (CS.new s)
  have HR := Lib.hid (fun w => rr_l (V := ((CS.new s).vVal : Nat)) (Lib.hid rfl) (Lib.hid (Alike.refl hok)) (show s.size ≤ 140737488351232 by omega) w)
  generalize ((CS.new s).vVal : Int) = V at HR
  generalize (CS.new s).vTo = D at *
  have hD : D.at_ ≤ s.size := by have := hok2.1; have := hs2.2; have : (CS.new s).en = s.size := rfl; omega
  obtain ⟨T, hT⟩ : ∃ T, T = s.extract D.at_ s.size := ⟨_, rfl⟩
  rw [← hT]
  have HT := Lib.hid hT
  clear hT hok hok2 hs2
  unfold CS.new at HR
  dsimp only at HR
  have HN := Lib.hid (fun w => ref_new s w (by omega))
  obtain ⟨w2, hw2, z2, f2, b2, n2⟩ := rof_start s id 8 8 rfl w
  clear hs
  go_enter Tryd.func23, Tryd.ntmps23
  go_wp2_with fail
  rw [← hw2]
  clear hw2
  with_reducible refine (HN.out _).mono ?_
  rintro e w3 ⟨rfl, b3⟩
  obtain ⟨w4, hw4⟩ : ∃ w4, w4 = w3.alloc (.cells #[.string s, .int .i64 0, .int .i64 s.size, .int .i64 0] 56) := ⟨_, rfl⟩
  obtain ⟨C, hC⟩ : ∃ C, C = w3.heap.size := ⟨_, rfl⟩
  have hCl : w.heap.size + 1 + 1 ≤ C := by rw [hC, ← n2]; exact b3.size
  have b34 : Below w2.heap.size w2 w4 := by rw [hw4]; exact b3.trans (((Below.refl _ w3).alloc (Nat.le_refl _) _).mono b3.size)
  have z4 := z2.below b34 z2.lt
  have f4 := f2.below b34 f2.lt
  have b4 := b2.trans (b34.mono b2.size)
  have c4 : CurT 56 w4 C (CS.new s) := by rw [hw4, hC]; exact cur_alloc (w := w3) (c := CS.new s) _
  clear z2 f2 b2 n2 b3 b34 HN
  go_wp2_with fail
  rw [← hC, ← hw4]
  clear hC hw4
  with_reducible refine (HBI.out _).mono ?_
  rintro e w6 ⟨rfl, hww⟩
  rw [hww]
  clear hww
  have a0 := c4.c0; have a1 := c4.c1; have a2 := c4.c2; have a3 := c4.c3; have af := c4.fr
  dsimp only [CS.new] at a0 a1 a2 a3
  go_wp2_with fail
  refine (HR.out _).mono ?_
  rintro e w5 ⟨d, rfl, hal, hds, b5⟩
  have hdD : D = d := hal.2.2.2.1 h8
  subst hdD
  clear h8
  have z5 := z4.below b5 z4.lt
  have f5 := f4.below b5 f4.lt
  have c5 := Below.cur b5 c4 c4.lt
  have b5' := b4.trans (b5.mono b4.size)
  clear a0 a1 a2 a3 af c4 b5 hal hds HR z4 f4 b4
  have a0 := c5.c0; have a1 := c5.c1; have a2 := c5.c2; have a3 := c5.c3; have af := c5.fr
  dsimp only [CS.new] at a0 a1 a2 a3
  go_upto_region 14 with fail
  obtain ⟨w4, hw4⟩ : ∃ w6, w6 = ((((w5.setCell ⟨C, 0, none⟩ (.string D.s)).setCell ⟨C, 1, none⟩ (.int .i64 D.at_)).setCell ⟨C, 2, none⟩ (.int .i64 D.en)).setCell ⟨C, 3, none⟩ (.int .i64 D.er)) := ⟨_, rfl⟩
  have c4 := c5.setAll D
  have o4 := Only.setAll w5 C D
  rw [← hw4] at c4 o4 ⊢
  have z4 := z5.only o4 (by omega)
  have f4 := f5.only o4 (by omega)
  have b4 := b5'.trans (o4.below (show w.heap.size ≤ C by omega) b5'.size)
  clear hw4 a0 a1 a2 a3 af c5 o4 z5 f5 b5'
  have a1 := c4.c1
  have q1 : (D.at_ : Int) ≤ (s.size : Int) := by omega
  have k2 := f4.c4; have kf := f4.fr
  go_upto_region 17 with fail
  have f5 := Lib.hid (f4.setText (s.extract D.at_ s.size))
  have z5 := Lib.hid (gset_fd (o := 4) (x := .string (s.extract D.at_ s.size)) z4 (show w.heap.size ≠ w.heap.size + 1 by omega))
  have b5 := Lib.hid (gset_keeps (o := 4) (x := .string (s.extract D.at_ s.size)) b4 (show w.heap.size ≤ w.heap.size + 1 by omega))
  rw [← HT.out] at f5 z5 b5 ⊢
  clear f4 z4 b4 k2 kf c4 a1
  generalize (w4.setCell ⟨w.heap.size + 1, 4, none⟩ (.string T)) = w5 at *
  have e0 := f5.out.c0; have e1 := f5.out.c1; have e2 := f5.out.c2; have e3 := f5.out.c3; have e4 := f5.out.c4; have e5 := f5.out.c5
  have z0 := z5.out.c0; have z1 := z5.out.c1; have z2 := z5.out.c2; have z3 := z5.out.c3; have z4 := z5.out.c4; have z5' := z5.out.c5; have zf := z5.out.fr
  have f6 := Lib.hid (z5.out.setAll (id, 8, 0, 0, T, ⟨#[]⟩))
  have V6 := Lib.hid (rof_end b5.out (Nat.le_refl _) (id, 8, 0, 0, T, ⟨#[]⟩))
  clear f5 z5 b5
  try simp only []
  repeat (first | go_values | go_skip | go_guarded | go_step | go_upon)
  exact bodyPost_ret (gf_result Tryd.underlying40 rfl (by kernel_rfl) Tryd.results23 f6.out (by kernel_rfl)) rfl ⟨rfl, V6.out⟩
set_option maxHeartbeats 1000000 in
theorem rof_9 (s : ByteArray) (id : Int) (w : World) (hs : s.size ≤ 1099511627776) (k : Nat) (h9 : 9 ≤ k) :
    Calls Tryd.prog 23 #[.int .i64 id, .int .u8 (k : Nat), .string s] w fun e w' => e = .returned (gfV (id, k, 0, 0, ⟨#[]⟩, s)) ∧ Below w.heap.size w w' := by
  have p1 : ((k : Int) == 1) = false := beq_eq_false_iff_ne.mpr (by omega)
  have p1' : (k == 1) = false := beq_eq_false_iff_ne.mpr (by omega)
  have p3 : ((k : Int) == 3) = false := beq_eq_false_iff_ne.mpr (by omega)
  have p3' : (k == 3) = false := beq_eq_false_iff_ne.mpr (by omega)
  have p7 : ((k : Int) == 7) = false := beq_eq_false_iff_ne.mpr (by omega)
  have p7' : (k == 7) = false := beq_eq_false_iff_ne.mpr (by omega)
  have p8 : ((k : Int) == 8) = false := beq_eq_false_iff_ne.mpr (by omega)
  have p8' : (k == 8) = false := beq_eq_false_iff_ne.mpr (by omega)
  have p9 : decide ((9 : Int) ≤ (k : Int)) = true := decide_eq_true (by omega)
  have p9' : decide (9 ≤ k) = true := decide_eq_true h9
  have HBI := Lib.hid (fun w => show Calls Tryd.prog 59 #[.int .u8 (k : Nat)] w (fun e w' => e = .returned (.int .i64 0) ∧ w' = w) from rbits_no k w (by omega))
  have HN := Lib.hid (fun w => ref_new s w (by omega))
  obtain ⟨w2, hw2, z2, f2, b2, n2⟩ := rof_start s id k (k : Nat) rfl w
  clear hs h9
  go_enter Tryd.func23, Tryd.ntmps23
  go_wp2_with fail
  rw [← hw2]
  clear hw2
  with_reducible refine (HN.out _).mono ?_
  rintro e w3 ⟨rfl, b3⟩
  obtain ⟨w4, hw4⟩ : ∃ w4, w4 = w3.alloc (.cells #[.string s, .int .i64 0, .int .i64 s.size, .int .i64 0] 56) := ⟨_, rfl⟩
  obtain ⟨C, hC⟩ : ∃ C, C = w3.heap.size := ⟨_, rfl⟩
  have hCl : w.heap.size + 1 + 1 ≤ C := by rw [hC, ← n2]; exact b3.size
  have b34 : Below w2.heap.size w2 w4 := by rw [hw4]; exact b3.trans (((Below.refl _ w3).alloc (Nat.le_refl _) _).mono b3.size)
  have z4 := z2.below b34 z2.lt
  have f4 := f2.below b34 f2.lt
  have b4 := b2.trans (b34.mono b2.size)
  have c4 : CurT 56 w4 C (CS.new s) := by rw [hw4, hC]; exact cur_alloc (w := w3) (c := CS.new s) _
  clear z2 f2 b2 n2 b3 b34 HN
  go_wp2_with fail
  rw [← hC, ← hw4]
  clear hC hw4
  clear c4
  with_reducible refine (HBI.out _).mono ?_
  rintro e w6 ⟨rfl, hww⟩
  rw [hww]
  clear hww
  have k2 := f4.c5; have kf := f4.fr
  go_upto_region 17 with fail
  have f5 := Lib.hid (f4.setRaw s)
  have z5 := Lib.hid (gset_fd (o := 5) (x := .string s) z4 (show w.heap.size ≠ w.heap.size + 1 by omega))
  have b5 := Lib.hid (gset_keeps (o := 5) (x := .string s) b4 (show w.heap.size ≤ w.heap.size + 1 by omega))
  clear f4 z4 b4 k2 kf
  generalize (w4.setCell ⟨w.heap.size + 1, 5, none⟩ (.string s)) = w5 at *
  have e0 := f5.out.c0; have e1 := f5.out.c1; have e2 := f5.out.c2; have e3 := f5.out.c3; have e4 := f5.out.c4; have e5 := f5.out.c5
  have z0 := z5.out.c0; have z1 := z5.out.c1; have z2 := z5.out.c2; have z3 := z5.out.c3; have z4 := z5.out.c4; have z5' := z5.out.c5; have zf := z5.out.fr
  have f6 := Lib.hid (z5.out.setAll (id, k, 0, 0, ⟨#[]⟩, s))
  have V6 := Lib.hid (rof_end b5.out (Nat.le_refl _) (id, k, 0, 0, ⟨#[]⟩, s))
  clear f5 z5 b5
  try simp only []
  repeat (first | go_values | go_skip | go_guarded | go_step | go_upon)
  exact bodyPost_ret (gf_result Tryd.underlying40 rfl (by kernel_rfl) Tryd.results23 f6.out (by kernel_rfl)) rfl ⟨rfl, V6.out⟩
theorem first_of (t : ByteArray) (h : 0 < t.size) : ((t.data[0]?).getD 0).toNat = (t[0]).toNat := by
  have : t.data[0]? = some t[0] := by rw [Array.getElem?_eq_getElem (by simpa using h)]; rfl
  rw [this]; rfl
theorem gOf_3 (id : Int) (t : ByteArray) (h : 0 < t.size) : gOf id 3 t = (id, 3, wideI ((t[0]).toNat : Int) 8, 0, ⟨#[]⟩, ⟨#[]⟩) := by
  unfold gOf
  rw [first_of t h, if_neg (by decide), if_pos rfl, if_neg (by decide), if_neg (by decide), if_neg (by decide)]
theorem gOf_num (id : Int) (k : Nat) (t : ByteArray) (hk : 4 ≤ k ∧ k ≤ 6) : gOf id k t = (id, k, zagI ((CS.new t).vVal : Nat), 0, ⟨#[]⟩, ⟨#[]⟩) := by
  have hb : ¬ bitsK k = 0 := by
    have hcase : k = 4 ∨ k = 5 ∨ k = 6 := by omega
    rcases hcase with rfl | rfl | rfl <;> decide
  unfold gOf
  rw [if_neg (by omega), if_neg (by omega), if_neg hb, if_neg (by omega), if_neg (by omega), if_neg (by omega)]
theorem gOf_7 (id : Int) (t : ByteArray) : gOf id 7 t = (id, 7, 0, valL t.data.toList, ⟨#[]⟩, ⟨#[]⟩) := by
  unfold gOf
  rw [if_neg (by decide), if_neg (by decide), if_pos (by decide), if_pos rfl, if_neg (by decide), if_neg (by decide)]
theorem gOf_8 (id : Int) (t : ByteArray) : gOf id 8 t = (id, 8, 0, 0, t.extract (CS.new t).vTo.at_ t.size, ⟨#[]⟩) := by
  unfold gOf
  rw [if_neg (by decide), if_neg (by decide), if_pos (by decide), if_neg (by decide), if_pos rfl, if_neg (by decide)]
/-- What a value's bytes say, when they were gone past. -/
theorem rof_all (d k : Nat) {c : CS} (hc : c.ok) (hs : c.s.size ≤ 1099511627776) (h1 : 1 ≤ k) (he : (valTo (inTo d) k c).er = 0) (id : Int) (w : World) :
    Calls Tryd.prog 23 #[.int .i64 id, .int .u8 (k : Nat), .string (c.s.extract c.at_ (valTo (inTo d) k c).at_)] w fun e w' => e = .returned (gfV (gOf id k (c.s.extract c.at_ (valTo (inTo d) k c).at_))) ∧ Below w.heap.size w w' := by
  have hz : ∀ a b, (c.s.extract a b).size ≤ 1099511627776 := fun a b => by rw [ByteArray.size_extract]; omega
  by_cases h8 : k ≤ 8
  · have hcase : k = 1 ∨ k = 2 ∨ k = 3 ∨ k = 4 ∨ k = 5 ∨ k = 6 ∨ k = 7 ∨ k = 8 := by omega
    rcases hcase with rfl | rfl | rfl | rfl | rfl | rfl | rfl | rfl
    · rw [gOf_one]; exact rof_1 _ id w (hz _ _)
    · rw [gOf_two]; exact rof_2 _ id w (hz _ _)
    · have hv : valTo (inTo d) 3 c = c.byte := by rw [val_no rfl, inTo_flat rfl]; rfl
      rw [hv] at he ⊢
      have hb := sub_byte hc he
      have h0 : 0 < (c.s.extract c.at_ c.byte.at_).size := by
        have hp : c.peekIs = true := by
          cases hp : c.peekIs with
          | true => rfl
          | false =>
            exfalso
            rw [CS.byte_no hc hp] at he
            by_cases e0 : c.er = 0
            · exact CS.bad_er e0 (by decide) he
            · rw [CS.fail_fail e0] at he; exact e0 he
        have hlt : c.at_ < c.en := (of_decide_eq_true hp).2
        rw [CS.byte_yes hp, ByteArray.size_extract]
        have := hc.2.1
        show 0 < min (c.at_ + 1) c.s.size - c.at_
        omega
      rw [gOf_3 id _ h0]
      exact rof_3 _ id w (hz _ _) h0
    · rw [gOf_num id 4 _ (by decide)]; exact rof_4 _ id w (hz _ _)
    · rw [gOf_num id 5 _ (by decide)]; exact rof_5 _ id w (hz _ _)
    · rw [gOf_num id 6 _ (by decide)]; exact rof_6 _ id w (hz _ _)
    · have hv : valTo (inTo d) 7 c = c.take 8 := by rw [val_no rfl, inTo_flat rfl]; rfl
      rw [hv] at he ⊢
      rw [gOf_7]
      exact rof_7 _ id w (hz _ _) (by rw [(sub_eight hc he).2]; exact Nat.le_refl _)
    · have hv : valTo (inTo d) 8 c = c.txt := by rw [val_no rfl, inTo_flat rfl]; rfl
      rw [hv] at he ⊢
      rw [gOf_8]
      exact rof_8 _ id w (hz _ _) (sub_text hc he).2.2.2.2
  · have hb : bitsK k = 0 := bitsK_no (by omega)
    have := rof_9 (c.s.extract c.at_ (valTo (inTo d) k c).at_) id w (hz _ _) k (by omega)
    unfold gOf
    rw [if_neg (by omega), if_neg (by omega), if_pos hb, if_neg (by omega), if_neg (by omega), if_pos (by omega)]
    exact this
theorem zagI_range {u : Nat} (h : u < 18446744073709551616) : -9223372036854775808 ≤ zagI (u : Nat) ∧ zagI (u : Nat) ≤ 9223372036854775807 := by
  unfold zagI; split <;> omega
/-- Whether it fits. -/
theorem fit_all (d k : Nat) {c : CS} (hc : c.ok) (he : (valTo (inTo d) k c).er = 0) (id : Int) :
    fitE (gOf id k (c.s.extract c.at_ (valTo (inTo d) k c).at_)) = (if fitB k c.vVal = true then 0 else 4) ∧
    (¬ bitsK k = 0 → -9223372036854775808 ≤ (gOf id k (c.s.extract c.at_ (valTo (inTo d) k c).at_)).2.2.1 ∧ (gOf id k (c.s.extract c.at_ (valTo (inTo d) k c).at_)).2.2.1 ≤ 9223372036854775807) := by
  have hu : ∀ s, fitE (gOf id k s) = if bitsK k = 0 then 0 else fitC (gOf id k s).2.2.1 (bitsK k) := fun s => rfl
  rw [hu]
  by_cases hk : 4 ≤ k ∧ k ≤ 6
  · have h9 : hdK k = false := by unfold hdK; rw [decide_eq_false (show ¬ 9 ≤ k by omega)]; rfl
    have ht : trB k = false := by unfold trB; simp; omega
    have hv : valTo (inTo d) k c = c.vTo := by
      rw [val_no ht, inTo_flat h9]
      unfold flatTo
      rw [if_neg (by rw [ht]; decide), if_neg (by omega), if_pos hk]
    rw [hv] at he ⊢
    obtain ⟨n, hn1, hn2, hn3⟩ := sub_num hc he
    have ha : c.vTo.at_ = c.at_ + (n + 0) := by rw [hn2]; rfl
    have hb : ¬ bitsK k = 0 := by
      have hcase : k = 4 ∨ k = 5 ∨ k = 6 := by omega
      rcases hcase with rfl | rfl | rfl <;> decide
    have hx : (gOf id k (c.s.extract c.at_ c.vTo.at_)).2.2.1 = zagI (c.vVal : Nat) := by
      rw [ha]
      have := (hn3 0 (by omega)).1
      show (if k = 1 then (1 : Int) else if k = 3 then _ else if bitsK k = 0 then 0 else zagI ((CS.new (c.s.extract c.at_ (c.at_ + (n + 0)))).vVal : Nat)) = _
      rw [if_neg (by omega), if_neg (by omega), if_neg hb, this]
    rw [hx, if_neg hb]
    refine ⟨?_, fun _ => zagI_range (CS.vVal_lt c)⟩
    unfold fitB
    rw [decide_eq_false hb, Bool.false_or]
    have hB : 1 ≤ bitsK k ∧ bitsK k ≤ 64 := by
      have hcase : k = 4 ∨ k = 5 ∨ k = 6 := by omega
      rcases hcase with rfl | rfl | rfl <;> decide
    by_cases hf : fitC (zagI (c.vVal : Nat)) (bitsK k) = 0
    · rw [decide_eq_true hf, if_pos rfl, hf]
    · rw [decide_eq_false hf, if_neg (by decide)]
      unfold fitC at hf ⊢
      rw [if_neg (by omega)] at hf ⊢
      split at hf
      · exact absurd rfl hf
      · rename_i h; rw [if_neg h]
  · have hb := bitsK_no hk
    rw [if_pos hb, fitB_no hb, if_pos rfl]
    exact ⟨rfl, fun h => absurd hb h⟩
end Go.Proofs.YtmiagebcobcaiaaDoor
/- The document's own layer 22: Struct. -/
namespace Go.Proofs.YtmiagebcobcaiaaDoor
open Go Go.RowKit
set_option linter.unusedVariables false

theorem deep_st (s : ByteArray) (deep : Int) (h : 32 ≤ deep) : (stR s deep).er = 33 ∧ stF s deep = [] ∧ stN s deep = 0 := by
  have hc : cAt s deep = ⟨s, 0, s.size, 33⟩ := by unfold cAt; rw [if_pos h]; rfl
  have hk : (⟨s, 0, s.size, 33⟩ : CS).pB = 0 := by
    have : (⟨s, 0, s.size, 33⟩ : CS).peekIs = false := by unfold CS.peekIs; simp
    unfold CS.pB; rw [CS.peekB_no this]; rfl
  have hB : (⟨s, 0, s.size, 33⟩ : CS).byte = ⟨s, 0, s.size, 33⟩ := by
    have hw : (⟨s, 0, s.size, 33⟩ : CS).why 1 = 33 := by unfold CS.why; rw [if_pos (show ¬ (33 : Int) = 0 by decide)]
    unfold CS.byte CS.take
    rw [hw, if_neg (by decide)]
  have hR : stR s deep = ⟨s, 0, s.size, 33⟩ := by
    unfold stR
    rw [hc, fld_next _ (by decide)]
    have := CS.h_end hk 0
    rw [if_pos this.2.2, this.1, hB]
  have he : ¬ (stR s deep).er = 0 := by rw [hR]; exact (by decide : ¬ (33 : Int) = 0)
  exact ⟨by rw [hR], if_neg he, if_neg he⟩
theorem rst_deep (s : ByteArray) (deep : Int) (w : World) (h : 32 ≤ deep) :
    Calls Tryd.prog 8 #[.string s, .int .i64 deep] w fun e w' => ∃ v, e = .returned (.tuple #[v, .int .i64 (stN s deep : Nat), .int .i64 (stR s deep).er]) ∧ GRow 40 w' w.heap.size v (stF s deep) ∧ Below w.heap.size w w' := by
  obtain ⟨h1, h2, h3⟩ := deep_st s deep h
  rw [h1, h2, h3]
  have p1 : decide ((32 : Int) ≤ deep) = true := decide_eq_true h
  clear h h1 h2 h3
  go_enter Tryd.func8, Tryd.ntmps8
  go_wp2
  go_ret3
  exact ⟨_, rfl, grow_nil _ _ _, Below.refl _ _⟩
theorem crow_alloc {W w : World} {C : Nat} {c : CS} {N : Nat} {B : Nat} {v : Value} {l : List GD} (q : CurT 56 w C c) (row : GRow 40 w B v l) (hB : B ≤ w.heap.size) (bel : Below W.heap.size W w) (d : CS) :
    ∃ w', w' = w.alloc (.cells #[.string d.s, .int .i64 d.at_, .int .i64 d.en, .int .i64 d.er] 56) ∧ CurT 56 w' C c ∧ CurT 56 w' w.heap.size d ∧ GRow 40 w' B v l ∧ B ≤ w'.heap.size ∧ Below W.heap.size W w' ∧ Below w.heap.size w w' := by
  have hb : Below w.heap.size w (w.alloc (.cells #[.string d.s, .int .i64 d.at_, .int .i64 d.en, .int .i64 d.er] 56)) := (Below.refl _ w).alloc (Nat.le_refl _) _
  exact ⟨_, rfl, q.allocOld _, cur_alloc _, row.below hb (Nat.le_refl _), Nat.le_trans hB hb.size, grown_then bel hb, hb⟩
theorem vrd_want (d k : Nat) (c : CS) : valTo (rdTo d) k c = (valTo (inTo d) k c).want (fitB k c.vVal) 4 := by
  rcases Bool.eq_false_or_eq_true (trB k) with h | h
  · have hb : bitsK k = 0 := by
      unfold trB at h; simp at h
      rcases h with rfl | rfl <;> rfl
    rw [val_tr h, val_tr h, fitB_no hb]; rfl
  · rw [val_no h, val_no h]; rfl
/-- A state of some blocks, behind what keeps what there was. -/
theorem crow_next {W w w' : World} {C H : Nat} {c h : CS} {B : Nat} {v : Value} {l : List GD} (q : CurT 56 w C c) (x : CurT 56 w H h) (row : GRow 40 w B v l) (hB : B ≤ w.heap.size) (bel : Below W.heap.size W w) (b : Below w.heap.size w w') :
    CurT 56 w' C c ∧ CurT 56 w' H h ∧ GRow 40 w' B v l ∧ B ≤ w'.heap.size ∧ Below W.heap.size W w' :=
  ⟨Below.cur b q q.lt, Below.cur b x x.lt, row.below b (Nat.le_refl _), Nat.le_trans hB b.size, grown_then bel b⟩
theorem gfd_alloc (w : World) (x0 x2 : Int) (x1 x3 : Nat) (x4 x5 : ByteArray) : ∃ w', w' = w.alloc (.cells #[.int .i64 x0, .int .u8 (x1 : Nat), .int .i64 x2, .int .u64 (x3 : Nat), .string x4, .string x5] 40) ∧ GfT 40 w' w.heap.size (x0, x1, x2, x3, x4, x5) ∧ Below w.heap.size w w' :=
  ⟨_, rfl, gf_alloc w (x0, x1, x2, x3, x4, x5) _, gf_grow w (x0, x1, x2, x3, x4, x5) _⟩
theorem cur_grown {w w' : World} {Y B : Nat} {D : CS} {v : Value} {l : List GD} (h : CurT 56 w Y D) (row : GRow 40 w B v l) (hg : w.grownBy w' v.ownBlock) : CurT 56 w' Y D :=
  (hg.block Y h.lt (row.not_at h (fun cs e => by cases e))).trans h
def RsRel2 (s : ByteArray) (d : Nat) (R : CS) (L : List GD) (C B : Nat) (w : World) (v u i : Value) (wr : World) : Prop :=
  ∃ (m j : Nat) (last : Int) (c : CS) (pre : List GD), u = .int .i64 last ∧ i = .int .i64 (j : Nat) ∧ numB last = true ∧ c.ok ∧ c.s = s ∧ c.en = s.size ∧ c.er = 0 ∧ j ≤ c.at_ ∧ c.lf < m ∧ fldTo (rdTo d) m last c = R ∧ (R.er = 0 → pre ++ stL (rdTo d) m last c = L) ∧ pre.length = j ∧
    CurT 56 wr C c ∧ GRow 40 wr B v pre ∧ B ≤ wr.heap.size ∧ Below w.heap.size w wr
set_option maxRecDepth 20000 in
set_option maxHeartbeats 4000000 in
theorem rst_in (s : ByteArray) (deep : Int) (w : World) (hs : s.size ≤ 1099511627776) (hd : 0 ≤ deep ∧ deep < 32) :
    Calls Tryd.prog 8 #[.string s, .int .i64 deep] w fun e w' => ∃ v, e = .returned (.tuple #[v, .int .i64 (stN s deep : Nat), .int .i64 (stR s deep).er]) ∧ GRow 40 w' w.heap.size v (stF s deep) ∧ Below w.heap.size w w' := by
  have p0 : decide ((32 : Int) ≤ deep) = false := decide_eq_false (by omega)
  have hcA : cAt s deep = CS.new s := by unfold cAt; rw [if_neg (by omega)]
  obtain ⟨R, hR⟩ : ∃ R, R = stR s deep := ⟨_, rfl⟩
  obtain ⟨L, hL⟩ : ∃ L, L = stL (rdTo (dAt deep)) fuelN 0 (cAt s deep) := ⟨_, rfl⟩
  obtain ⟨N, hN⟩ : ∃ N, N = stN s deep := ⟨_, rfl⟩
  obtain ⟨F, hF⟩ : ∃ F, F = stF s deep := ⟨_, rfl⟩
  have HN := Lib.hid (show N = if R.er = 0 then R.at_ else 0 by rw [hR, hN]; rfl)
  have HF := Lib.hid (show F = if R.er = 0 then L else [] by rw [hF, hR, hL]; rfl)
  rw [← hN, ← hF, ← hR]
  obtain ⟨dd, hdd⟩ : ∃ dd, dd = dAt deep := ⟨_, rfl⟩
  have hR' : fldTo (rdTo dd) fuelN 0 (CS.new s) = R := by rw [hR, hdd, ← hcA]; rfl
  rw [← hdd, hcA] at hL
  have hok0 : (CS.new s).ok := CS.new_ok (by omega)
  have m1 : IntKind.i64.wrap (deep + 1) = deep + 1 := IntWalk.i64_in _ (by omega)
  have HVal := Lib.hid (fun (k : Nat) (c : CS) (w : World) hk (ha : Alike c c) (hs : c.s.size ≤ 140737488351232) => rvalue_any dd (deep + 1) (by omega) (by rw [hdd]; rfl) k c c w hk ha hs)
  have H0 := Lib.hid (show (CS.new s).lf < fuelN ∧ fldTo (rdTo dd) fuelN 0 (CS.new s) = R ∧ (R.er = 0 → [] ++ stL (rdTo dd) fuelN 0 (CS.new s) = L) from ⟨lf_fuel hok0, hR', fun _ => hL.symm⟩)
  have HNew := Lib.hid (fun w => ref_new s w (by omega))
  have HSZ := Lib.hid hs
  clear hR hL hN hF hR' hdd hcA hs hd
  go_enter Tryd.func8, Tryd.ntmps8
  go_wp2_with fail
  with_reducible refine (HNew.out _).mono ?_
  rintro e w1 ⟨rfl, b1⟩
  obtain ⟨C, hC⟩ : ∃ C, C = w1.heap.size := ⟨_, rfl⟩
  obtain ⟨w2, hw2⟩ : ∃ w2, w2 = w1.alloc (.cells #[.string s, .int .i64 0, .int .i64 s.size, .int .i64 0] 56) := ⟨_, rfl⟩
  have q2 : CurT 56 w2 C (CS.new s) := by rw [hw2, hC]; exact cur_alloc (w := w1) (c := CS.new s) _
  have b2 : Below w.heap.size w w2 := by rw [hw2]; exact b1.trans (((Below.refl _ w1).alloc (Nat.le_refl _) _).mono b1.size)
  have hCw : w.heap.size ≤ C := by rw [hC]; exact b1.size
  obtain ⟨B, hB⟩ : ∃ B, B = w2.heap.size := ⟨_, rfl⟩
  have hCB : C < B := by rw [hB]; exact q2.lt
  have hBw : w.heap.size ≤ B := by rw [hB]; exact b2.size
  have HR0 := Lib.hid (show RsRel2 s dd R L C B w (.slice none 0 0) (.int .i64 0) (.int .i64 0) w2 from
    ⟨fuelN, 0, 0, CS.new s, [], rfl, rfl, rfl, hok0, rfl, rfl, rfl, Nat.zero_le _, H0.out.1, H0.out.2.1, H0.out.2.2, rfl, q2, grow_nil _ _ _, by rw [hB]; exact Nat.le_refl _, b2⟩)
  clear b1 q2 b2 hok0 H0 hB HNew
  go_wp2_with fail
  rw [← hC, ← hw2]
  clear hC hw2
  go_loopw [8, 9, 10] (fun v u i wr => RsRel2 s dd R L C B w v u i wr) (fun _ _ i _ => s.size + 1 - (intOf i).toNat)
  case atStart => exact HR0.out
  case round =>
    clear HR0
    obtain ⟨m, j, last, c, pre, rfl, rfl, hnl, hok, hcs, hen, he0, hja, hlf, hT, hL, hpl, q1, row1, hB1, bel1⟩ := hrel
    have hjs : j ≤ s.size := by have := hok.1; omega
    have p1 : decide ((j : Int) ≤ (s.size : Int)) = true := decide_eq_true (by omega)
    have p1' : decide (j ≤ s.size) = true := decide_eq_true hjs
    have hsz := HSZ.out
    have HX0 := fun w => rfield_any (Alike.refl hok) (by rw [hcs]; omega) w last hnl
    have hm : 0 < m := by omega
    have hstd := head_std last c hok
    have hokh := CS.hTo_ok hok last
    have hsh : (c.hTo last).s = s := hstd.2.1.trans hcs
    have henh : (c.hTo last).en = s.size := hstd.2.2.1.trans hen
    have hkl := CS.hKd_le c last
    have hnum := CS.hId_numb c last
    have hmore := head_more (c := c) hok (last := last)
    have hRn := fld_next (rdTo dd) hm last c
    have hLn := stL_next (rdTo dd) hm last c
    have hst := fun y (h0 : ¬ c.hKd last = 0) hy => st_step (y := y) hok hm h0 hT hL hy
    rw [hT] at hRn
    obtain ⟨k, hk⟩ : ∃ k, k = c.hKd last := ⟨_, rfl⟩
    obtain ⟨id, hid⟩ : ∃ id, id = c.hId last := ⟨_, rfl⟩
    obtain ⟨h, hh⟩ : ∃ h, h = c.hTo last := ⟨_, rfl⟩
    rw [← hk, ← hid, ← hh] at hst HX0 hRn hLn
    rw [← hk] at hkl hmore
    rw [← hid] at hnum
    rw [← hh] at hokh hsh henh hmore
    have HX := Lib.hid HX0
    have a0 := q1.c0; have a1 := q1.c1; have a2 := q1.c2; have a3 := q1.c3
    rw [hen] at a2 HX
    rw [hcs] at a0 HX
    rw [he0] at a3 HX
    have hjl : j ≤ c.at_ := hja
    have hen2 := hen
    clear hk hid hh HX0 hT hnl hen he0 hja hstd
    by_cases h0 : h.er = 0
    · by_cases hk0 : k = 0
      · rw [if_pos hk0] at hRn hLn
        have HRH := Lib.hid hRn
        have HLP := Lib.hid (show L = pre by have := hL (by rw [hRn]; exact h0); rw [hLn, List.append_nil] at this; exact this.symm)
        have HE := Lib.hid h0
        rw [hk0] at HX
        clear hRn hLn hL hst hmore hkl hnum hokh hsh henh hcs hok hm hlf h0 hk0 hpl hen2
        go_wp2_with fail
        refine (HX.out _).mono ?_
        rintro e w3 ⟨d, rfl, hal, hds, b3⟩
        have hdh : h = d := hal.2.2.2.1 HE.out
        subst hdh
        have HD0 := Lib.hid HE.out
        have q3 := Below.cur b3 q1 q1.lt
        have row3 := row1.below b3 (Nat.le_refl _)
        have hB3 := Nat.le_trans hB1 b3.size
        have bel3 := grown_then bel1 b3
        clear a0 a1 a2 a3 q1 row1 hB1 bel1 b3 hal hds HX
        obtain ⟨w4, hw4, q4, x4, row4, hB4, bel4, -⟩ := crow_alloc (N := 0) q3 row3 hB3 bel3 h
        obtain ⟨H, hH⟩ : ∃ H, H = w3.heap.size := ⟨_, rfl⟩
        rw [← hH] at x4
        clear q3 row3 hB3 bel3
        have p2 : (h.er != 0) = false := by rw [HE.out]; rfl
        go_upto_region 10 with fail
        rw [← hH, ← hw4]
        clear hH hw4
        have a1 := x4.c1; have a3 := x4.c3
        have ROW := Lib.hid (row4.base hBw)
        rw [← HLP.out, show L = F by rw [HF.out, if_pos (by rw [HRH.out]; exact HE.out)]] at ROW
        have HN2 := Lib.hid (show N = h.at_ by rw [HN.out, if_pos (by rw [HRH.out]; exact HE.out), HRH.out])
        have HE2 := Lib.hid (show R.er = 0 by rw [HRH.out]; exact HE.out)
        clear HN HF HLP row4 q4 x4
        go_wp2_with fail
        go_quiet (fail)
        go_wp2
        go_ret3
        exact ⟨_, ret_st (by rw [HN2.out]) HE2.out.symm, ROW.out, Below.drewN bel4 _⟩
      · rw [if_neg hk0] at hRn
        obtain ⟨hm1, hm2, hm3⟩ := hmore hk0
        have hvs := val_std dd k h hokh
        have hvr := vrd_std dd k h hokh
        have HV0 := fun w => HVal.out k h w hkl (Alike.refl hokh) (by rw [hsh]; omega)
        have hOf := fun (he : (valTo (inTo dd) k h).er = 0) w => rof_all dd k hokh (by rw [hsh]; exact HSZ.out) (by omega) he id w
        have hFi := fun (he : (valTo (inTo dd) k h).er = 0) => fit_all dd k hokh he id
        have hst2 := fun y => hst y hk0
        unfold gAt at hst2
        have hbad := fun (he : ¬ (valTo (rdTo dd) k h).er = 0) => fldg_bad (rdTo dd) hvr.1 he (m - 1) id
        have hwant := vrd_want dd k h
        generalize valTo (rdTo dd) k h = Dr at *
        generalize valTo (inTo dd) k h = D at *
        generalize fitB k h.vVal = fb at *
        obtain ⟨v1, v2, v3, v4, v5⟩ := hvs
        have p3 : ((k : Int) == 0) = false := beq_eq_false_iff_ne.mpr (by omega)
        have p3' : (k == 0) = false := beq_eq_false_iff_ne.mpr hk0
        have HV := Lib.hid HV0
        have HE := Lib.hid h0
        have HBad := Lib.hid hbad
        have HOf := Lib.hid hOf
        have HFi := Lib.hid hFi
        have HST := Lib.hid hst2
        have HW := Lib.hid hwant
        have HRn := Lib.hid hRn
        have HVR := Lib.hid hvr
        have HNUM := Lib.hid hnum
        have HPL := Lib.hid hpl
        have hpl2 : pre.length ≤ 1099511627776 := by omega
        have q1s : (h.at_ : Int) ≤ (D.at_ : Int) := by omega
        have q2s : (D.at_ : Int) ≤ (s.size : Int) := by have := v1.1; omega
        have HD := Lib.hid (show D.ok ∧ D.s = s ∧ D.en = s.size ∧ D.lf < m - 1 from ⟨v1, v2.trans hsh, v3.trans henh, by have := lf_less hok v1 (by rw [v3, henh]; exact hen2.symm) (show c.at_ + 1 ≤ D.at_ by omega); omega⟩)
        have hatD : j + 1 ≤ D.at_ := by omega
        rw [hsh] at HOf HFi HST
        rw [h0] at HV
        clear hbad hOf hFi hst2 hwant hRn hLn hvr HV0 v1 v2 v3 v4 v5 hm1 hm2 hm3 hL hst hmore hkl hnum hokh hsh henh hcs hok hm hlf h0 hk0 hpl hen2
        go_wp2_with fail
        refine (HX.out _).mono ?_
        rintro e w3 ⟨d, rfl, hal, hds, b3⟩
        have hdh : h = d := hal.2.2.2.1 HE.out
        subst hdh
        have q3 := Below.cur b3 q1 q1.lt
        have row3 := row1.below b3 (Nat.le_refl _)
        have hB3 := Nat.le_trans hB1 b3.size
        have bel3 := grown_then bel1 b3
        clear a0 a1 a2 a3 q1 row1 hB1 bel1 b3 hal hds HX
        obtain ⟨w4, hw4, q4, x4, row4, hB4, bel4, -⟩ := crow_alloc (N := 0) q3 row3 hB3 bel3 h
        obtain ⟨H, hH⟩ : ∃ H, H = w3.heap.size := ⟨_, rfl⟩
        have hHB : B ≤ H := by rw [hH]; exact hB3
        rw [← hH] at x4
        clear q3 row3 hB3 bel3
        go_upto_region 10 with fail
        rw [← hH, ← hw4]
        clear hH hw4
        have a0 := x4.c0; have a1 := x4.c1; have a2 := x4.c2; have a3 := x4.c3
        rw [HE.out] at a3
        go_wp2_with fail
        with_reducible refine (HV.out _).mono ?_
        rintro e w5 ⟨y, rfl, hal, -, b5⟩
        obtain ⟨q5, x5, row5, hB5, bel5⟩ := crow_next q4 x4 row4 hB4 bel4 b5
        clear a0 a1 a2 a3 q4 x4 row4 hB4 bel4 b5 HV
        obtain ⟨w6, hw6, q6, y6, row6, hB6, bel6, b56⟩ := crow_alloc (N := 0) q5 row5 hB5 bel5 y
        have x6 := Below.cur b56 x5 x5.lt
        obtain ⟨Y, hY⟩ : ∃ Y, Y = w5.heap.size := ⟨_, rfl⟩
        rw [← hY] at y6
        clear q5 x5 row5 hB5 bel5 b56
        go_upto_region 15 with fail
        rw [← hY, ← hw6]
        clear hY hw6
        by_cases hD0 : D.er = 0
        · have hdy : D = y := hal.2.2.2.1 hD0
          subst hdy
          have HD0 := Lib.hid hD0
          have hOf := HOf.out hD0
          obtain ⟨hF1, hF2⟩ := HFi.out hD0
          clear HOf HFi hal hD0
          have a1 := x6.c1; have a3 := y6.c3; have b1 := y6.c1
          rw [HD0.out] at a3
          obtain ⟨X, hX⟩ : ∃ X, X = gOf id k (s.extract h.at_ D.at_) := ⟨_, rfl⟩
          have hXr := fun (hf : fb = true) => HST.out X (fun _ => by rw [HW.out, hf]; exact hX)
          rw [← hX] at hOf hF1 hF2
          have HOf := Lib.hid hOf
          have HF1 := Lib.hid (fun w => rfits_any X w (fun hb => hF2 (fun e => hb (by rw [hX]; exact e))))
          rw [hF1] at HF1
          have HXR := Lib.hid hXr
          clear hOf hF1 hF2 hX hXr HST
          obtain ⟨X0, X1, X2, X3, X4, X5⟩ := X
          unfold gfV at HOf HF1
          dsimp only at HOf HF1
          go_wp2_with fail
          with_reducible refine (HOf.out _).mono ?_
          rintro e w7 ⟨rfl, b7⟩
          obtain ⟨q7, y7, row7, hB7, bel7⟩ := crow_next q6 y6 row6 hB6 bel6 b7
          clear a1 a3 b1 q6 x6 y6 row6 hB6 bel6 b7 HOf q1s q2s
          obtain ⟨w8, hw8, g8, b8⟩ := gfd_alloc w7 X0 X2 X1 X3 X4 X5
          obtain ⟨q8, y8, row8, hB8, bel8⟩ := crow_next q7 y7 row7 hB7 bel7 b8
          obtain ⟨G, hG⟩ : ∃ G, G = w7.heap.size := ⟨_, rfl⟩
          rw [← hG] at g8
          clear q7 y7 row7 hB7 bel7 b8
          go_upto_region 18 with fail
          rw [← hG, ← hw8]
          clear hG hw8
          have e0 := g8.c0; have e1 := g8.c1; have e2 := g8.c2; have e3 := g8.c3; have e4 := g8.c4; have e5 := g8.c5
          dsimp only at e0 e1 e2 e3 e4 e5
          cases fb with
          | false =>
            have hDr : Dr = D.fail 4 := HW.out
            have hDe : Dr.er = 4 := by rw [hDr, CS.fail_er HD0.out]
            have hRD : R = Dr := HRn.out.trans (HBad.out (by rw [hDe]; decide))
            have hne : ¬ R.er = 0 := by rw [hRD, hDe]; decide
            have HRE := Lib.hid (show R.er = 4 by rw [hRD, hDe])
            have HN2 := Lib.hid (show N = 0 by rw [HN.out, if_neg hne])
            have HF2 := Lib.hid (show F = [] by rw [HF.out, if_neg hne])
            clear hDr hDe hRD hne HN HF HXR HBad HRn HW HVR q8 y8 row8 g8
            simp only [Bool.false_eq_true, if_false] at HF1
            go_wp2_with fail
            with_reducible refine (HF1.out _).mono ?_
            rintro e w9 ⟨rfl, b9⟩
            have bel9 := grown_then bel8 b9
            go_wp2
            go_ret3
            exact ⟨_, ret_st (by rw [HN2.out]; rfl) HRE.out.symm, by rw [HF2.out]; exact grow_nil _ _ _, bel9⟩
          | true =>
            have HDr := Lib.hid (show Dr = D from HW.out)
            simp only [if_true] at HF1
            go_wp2_with fail
            with_reducible refine (HF1.out _).mono ?_
            rintro e w9 ⟨rfl, b9⟩
            obtain ⟨q9, y9, row9, hB9, bel9⟩ := crow_next q8 y8 row8 hB8 bel8 b9
            have g9 := g8.below b9 g8.lt
            clear e0 e1 e2 e3 e4 e5 q8 y8 row8 hB8 bel8 b9 g8 HF1
            have e0 := g9.c0; have e1 := g9.c1; have e2 := g9.c2; have e3 := g9.c3; have e4 := g9.c4; have e5 := g9.c5
            dsimp only at e0 e1 e2 e3 e4 e5
            go_wp2_with (at_builtin; go_loud (refine wpList_append_gd rfl (.tmp 68) (.tmp 70) 27 rfl 40 Tryd.underlying27 infoRg _ w9 B pre row9 hB9 rfl _ _ _ _ _ _ (X0, X1, X2, X3, X4, X5) rfl rfl rfl rfl rfl rfl rfl hpl2 ?_; intro v10 w10 hv10 hb10 hg10; have q10 := Below.cur hb10 q9 hCB; have y10 := cur_grown y9 row9 hg10; have c0' := q10.c0; have c1' := q10.c1; have c2' := q10.c2; have c3' := q10.c3; have cf' := q10.fr; have d0 := y10.c0; have d1 := y10.c1; have d2 := y10.c2; have d3 := y10.c3))
            have HS := Lib.hid (HXR.out (by first | exact rfl | trivial))
            rw [HDr.out] at HS
            have o11 := Only.setAll w10 C D
            have q11 := q10.setAll D
            have row11 := hv10.only o11 hCB
            have bel10 := bel9.trans (hb10.mono hBw)
            have bel11 := bel10.trans (o11.below hCw bel10.size)
            have hB11 := Nat.le_trans hB9 (Nat.le_trans hb10.size o11.size)
            go_roundw
            case rel => exact ⟨m - 1, j + 1, id, D, pre ++ [(X0, X1, X2, X3, X4, X5)], rfl, by go_num, HNUM.out, HD.out.1, HD.out.2.1, HD.out.2.2.1, HD0.out, hatD, HD.out.2.2.2, HS.out.1, HS.out.2, by rw [List.length_append, HPL.out]; rfl, q11, row11, hB11, bel11⟩
            case measure => simp [intOf]; omega
        · have hDr : Dr = D := HW.out.trans (CS.want_bad hD0 fb 4)
          have hRD : R = D := HRn.out.trans ((HBad.out (by rw [hDr]; exact hD0)).trans hDr)
          have hne : ¬ R.er = 0 := by rw [hRD]; exact hD0
          have hye : D.er = y.er := hal.2.2.1
          have p4 : (y.er != 0) = true := bne_iff_ne.mpr (by rw [← hye]; exact hD0)
          have HRE := Lib.hid (show R.er = y.er by rw [hRD]; exact hye)
          have HN2 := Lib.hid (show N = 0 by rw [HN.out, if_neg hne])
          have HF2 := Lib.hid (show F = [] by rw [HF.out, if_neg hne])
          clear hDr hRD hne hye hal HN HF HBad HRn HW HVR HOf HFi HST hD0 row6 q6 x6 hB6
          have a3 := y6.c3
          go_wp2_with fail
          go_quiet (fail)
          go_wp2
          go_ret3
          exact ⟨_, ret_st (by rw [HN2.out]; rfl) HRE.out.symm, by rw [HF2.out]; exact grow_nil _ _ _, Below.drewN bel6 _⟩
    · have hk0 : k = 0 := by
        by_cases hk0 : k = 0
        · exact hk0
        · exact absurd (hmore hk0).1 h0
      rw [if_pos hk0] at hRn
      have HRH := Lib.hid hRn
      have HE := Lib.hid h0
      have hne : ¬ R.er = 0 := by rw [hRn]; exact h0
      have HN2 := Lib.hid (show N = 0 by rw [HN.out, if_neg hne])
      have HF2 := Lib.hid (show F = [] by rw [HF.out, if_neg hne])
      clear hRn hLn hL hst hmore hkl hnum hokh hsh henh hcs hok hm hlf h0 hk0 hpl hne HN HF hen2
      go_wp2_with fail
      refine (HX.out _).mono ?_
      rintro e w3 ⟨d, rfl, hal, hds, b3⟩
      have HD := Lib.hid (show R.er = d.er by rw [HRH.out]; exact hal.2.2.1)
      have p2 : (d.er != 0) = true := bne_iff_ne.mpr (by rw [← hal.2.2.1]; exact HE.out)
      have q3 := Below.cur b3 q1 q1.lt
      have row3 := row1.below b3 (Nat.le_refl _)
      have hB3 := Nat.le_trans hB1 b3.size
      have bel3 := grown_then bel1 b3
      clear a0 a1 a2 a3 q1 row1 hB1 bel1 b3 hal hds HX
      obtain ⟨w4, hw4, q4, x4, row4, hB4, bel4, -⟩ := crow_alloc (N := 0) q3 row3 hB3 bel3 d
      obtain ⟨H, hH⟩ : ∃ H, H = w3.heap.size := ⟨_, rfl⟩
      rw [← hH] at x4
      clear q3 row3 hB3 bel3
      go_upto_region 10 with fail
      rw [← hH, ← hw4]
      clear hH hw4
      have a3 := x4.c3
      clear row4 q4 x4
      go_wp2_with fail
      go_quiet (fail)
      go_wp2
      go_ret3
      exact ⟨_, ret_st (by rw [HN2.out]; rfl) HD.out.symm, by rw [HF2.out]; exact grow_nil _ _ _, Below.drewN bel4 _⟩
theorem rst_any (s : ByteArray) (deep : Int) (w : World) (hs : s.size ≤ 1099511627776) (hd : 0 ≤ deep) :
    Calls Tryd.prog 8 #[.string s, .int .i64 deep] w fun e w' => ∃ v, e = .returned (.tuple #[v, .int .i64 (stN s deep : Nat), .int .i64 (stR s deep).er]) ∧ GRow 40 w' w.heap.size v (stF s deep) ∧ Below w.heap.size w w' := by
  by_cases h : 32 ≤ deep
  · exact rst_deep s deep w h
  · exact rst_in s deep w hs ⟨hd, by omega⟩
end Go.Proofs.YtmiagebcobcaiaaDoor
