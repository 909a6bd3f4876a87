/- The document's writer (package truchmanref15): Do, values, but those that others may be in. -/
import Derived.Test.YtnbhhnkcfbfdcaaDoorJwRh
namespace Go.Proofs.YtnbhhnkcfbfdcaaDoor
open Go Go.RowKit
set_option linter.unusedVariables false

section
set_option maxRecDepth 20000 in
set_option maxHeartbeats 4000000 in
theorem rfdo_deep (w : World) {A P : ByteArray} {k : Bool} {f : Bool} {y : Int} {T : ByteArray} {n : Int} (p101 : (y == 101) = false) (p107 : (y == 107) = false) (b1 b2 : Bool) (p123 : (y == 123) = b1) (p91 : (y == 91) = b2) (hbg : (b1 || b2) = true) (hd : decide (32 ≤ (P.size : Int)) = true) (hd' : decide (32 ≤ P.size) = true)  :
    Calls Tryd.prog 7 #[.agg #[.string A, .string P, .bool k, .bool f, .int .i64 0], .agg #[.int .u8 y, .string T, .int .i64 n]] w fun e w' => e = .returned (rcV A P k f 33) ∧ Below w.heap.size w w' := by
  have HBAD := Lib.hid (show ∀ w, Calls Tryd.prog 19 #[.agg #[.string A, .string P, .bool k, .bool f, .int .i64 0], .int .i64 33] w fun e w' => e = .returned (.agg #[.string A, .string P, .bool k, .bool f, .int .i64 33]) ∧ Below w.heap.size w w' from fun w => rfbad_any A P k f 0 33 w)
  have N0 := dow_new w A P k f 0 y T n
  go_enter Tryd.func7, Tryd.ntmps7
  go_upto_region 1 with fail
  generalize (((w.alloc (.cells #[.string A, .string P, .bool k, .bool f, .int .i64 0] 28)).alloc (.cells #[.int .u8 y, .string T, .int .i64 n] 31)).alloc (.cells #[.string ⟨#[]⟩, .string ⟨#[]⟩, .bool false, .bool false, .int .i64 0] 28)) = W at *
  obtain ⟨a0, a1, a2, a3, a4, o0, o1, o2, N1⟩ := dos_of N0
  have HW := Lib.hid N0
  clear N0 N1
  go_upto_region 11 with fail
  go_cut [5] from 63 to 70 (fun v wx => v = .bool (b1 || b2) ∧ wx = W)
  case first =>
    cases b1 <;> cases b2
    all_goals go_wp2_with fail
    all_goals go_meet
    all_goals (case rel => exact (⟨rfl, rfl⟩ : Value.bool _ = .bool _ ∧ W = W))
  case rest =>
    obtain ⟨rfl, hwc⟩ := hcut
    rw [hwc]; clear hwc
    rw [hbg]
    clear hbg p123 p91
    go_wp2_with fail
    refine (HBAD.out _).mono ?_
    rintro e w9 ⟨rfl, hb9⟩
    have D9 := HW.out.next hb9
    obtain ⟨q0, q1, q2, q3, q4, c0', c1', c2', c3', c4', qf⟩ := D9.q5
    have H9 := Lib.hid D9
    clear D9 hb9
    go_wp2
    refine bodyPost_ret (rc_result Tryd.results7 (DoW.fin H9.out _ _ _ _ _).1 rfl) rfl ?_
    exact ⟨rfl, (DoW.fin H9.out _ _ _ _ _).2⟩
set_option maxRecDepth 20000 in
set_option maxHeartbeats 4000000 in
theorem rfdo_ord1 (w : World) {A P : ByteArray} {k : Bool} {f : Bool} {y : Int} {T : ByteArray} {n : Int} (p101 : (y == 101) = false) (p107 : (y == 107) = false) (b1 b2 : Bool) (p123 : (y == 123) = b1) (p91 : (y == 91) = b2) (hbg : (b1 || b2) = true) (hd : decide (32 ≤ (P.size : Int)) = false) (hd' : decide (32 ≤ P.size) = false) (hP : P.size ≤ 32) (x : UInt8) (hx : lstP P = x.toNat) (t1 t2 t4 : Bool) (e1 : P.toList.isEmpty = t1) (e2 : A.toList.isEmpty = t2) (e4 : ((x.toNat : Int) == 123) = t4) (hob : (t1 && !t2 || t4 && !k) = true)  :
    Calls Tryd.prog 7 #[.agg #[.string A, .string P, .bool k, .bool f, .int .i64 0], .agg #[.int .u8 y, .string T, .int .i64 n]] w fun e w' => e = .returned (rcV A P k f 12) ∧ Below w.heap.size w w' := by
  have HBAD := Lib.hid (show ∀ w, Calls Tryd.prog 19 #[.agg #[.string A, .string P, .bool k, .bool f, .int .i64 0], .int .i64 12] w fun e w' => e = .returned (.agg #[.string A, .string P, .bool k, .bool f, .int .i64 12]) ∧ Below w.heap.size w w' from fun w => rfbad_any A P k f 0 12 w)
  have HL := Lib.hid (show ∀ w, Calls Tryd.prog 20 #[.agg #[.string A, .string P, .bool k, .bool f, .int .i64 0]] w fun e w' => e = .returned (.int .u8 (x.toNat : Int)) ∧ Below w.heap.size w w' from fun w => by have := rflast_any A P k f 0 w hP; rw [hx] at this; exact this)
  have N0 := dow_new w A P k f 0 y T n
  clear hx
  go_enter Tryd.func7, Tryd.ntmps7
  go_upto_region 1 with fail
  generalize (((w.alloc (.cells #[.string A, .string P, .bool k, .bool f, .int .i64 0] 28)).alloc (.cells #[.int .u8 y, .string T, .int .i64 n] 31)).alloc (.cells #[.string ⟨#[]⟩, .string ⟨#[]⟩, .bool false, .bool false, .int .i64 0] 28)) = W at *
  obtain ⟨a0, a1, a2, a3, a4, o0, o1, o2, N1⟩ := dos_of N0
  have HW := Lib.hid N0
  clear N0 N1
  go_upto_region 11 with fail
  go_cut [5] from 63 to 70 (fun v wx => v = .bool (b1 || b2) ∧ wx = W)
  case first =>
    cases b1 <;> cases b2
    all_goals go_wp2_with fail
    all_goals go_meet
    all_goals (case rel => exact (⟨rfl, rfl⟩ : Value.bool _ = .bool _ ∧ W = W))
  case rest =>
    obtain ⟨rfl, hwc⟩ := hcut
    rw [hwc]; clear hwc
    rw [hbg]
    clear hbg p123 p91
    go_upto_region 14 with fail
    go_cut [97] from 80 to 97 (fun v wx => v = .bool (t1 && !t2 || t4 && !k) ∧ DoW w A P k f 0 y T n wx)
    case first =>
      have HL0 := Lib.hid (HL.out W)
      clear hob
      cases t1 <;> cases t2 <;> cases t4 <;> cases k
      all_goals go_wp2_with (go_at_call 20; (with_reducible refine HL0.out.mono ?_); rintro e w5 ⟨rfl, hb5⟩; have D5 := Lib.hid (HW.out.next hb5); obtain ⟨d0, d1, d2, d3, d4, d5, d6, d7, -⟩ := dos_of D5.out; clear hb5)
      all_goals go_meet
      all_goals (case rel => first | exact ⟨rfl, D5.out⟩ | exact ⟨rfl, HW.out⟩)
    case rest =>
      obtain ⟨rfl, D6⟩ := hcut
      rw [hob]
      obtain ⟨g0, g1, g2, g3, g4, g5, g6, g7, -⟩ := dos_of D6
      have H6 := Lib.hid D6
      clear D6 hob e1 e2 e4 a0 a1 a2 a3 a4 o0 o1 o2
      go_wp2_with fail
      refine (HBAD.out _).mono ?_
      rintro e w9 ⟨rfl, hb9⟩
      have D9 := H6.out.next hb9
      obtain ⟨q0, q1, q2, q3, q4, c0', c1', c2', c3', c4', qf⟩ := D9.q5
      have H9 := Lib.hid D9
      clear D9 hb9
      go_wp2
      refine bodyPost_ret (rc_result Tryd.results7 (DoW.fin H9.out _ _ _ _ _).1 rfl) rfl ?_
      exact ⟨rfl, (DoW.fin H9.out _ _ _ _ _).2⟩
set_option maxRecDepth 20000 in
set_option maxHeartbeats 4000000 in
theorem rfdo_ord2 (w : World) {A P : ByteArray} {k : Bool} {f : Bool} {y : Int} {T : ByteArray} {n : Int} (p101 : (y == 101) = false) (p107 : (y == 107) = false) (b1 b2 : Bool) (p123 : (y == 123) = b1) (p91 : (y == 91) = b2) (hbg : (b1 || b2) = false) (hP : P.size ≤ 32) (x : UInt8) (hx : lstP P = x.toNat) (t1 t2 t4 : Bool) (e1 : P.toList.isEmpty = t1) (e2 : A.toList.isEmpty = t2) (e4 : ((x.toNat : Int) == 123) = t4) (hob : (t1 && !t2 || t4 && !k) = true)  :
    Calls Tryd.prog 7 #[.agg #[.string A, .string P, .bool k, .bool f, .int .i64 0], .agg #[.int .u8 y, .string T, .int .i64 n]] w fun e w' => e = .returned (rcV A P k f 12) ∧ Below w.heap.size w w' := by
  have HBAD := Lib.hid (show ∀ w, Calls Tryd.prog 19 #[.agg #[.string A, .string P, .bool k, .bool f, .int .i64 0], .int .i64 12] w fun e w' => e = .returned (.agg #[.string A, .string P, .bool k, .bool f, .int .i64 12]) ∧ Below w.heap.size w w' from fun w => rfbad_any A P k f 0 12 w)
  have HL := Lib.hid (show ∀ w, Calls Tryd.prog 20 #[.agg #[.string A, .string P, .bool k, .bool f, .int .i64 0]] w fun e w' => e = .returned (.int .u8 (x.toNat : Int)) ∧ Below w.heap.size w w' from fun w => by have := rflast_any A P k f 0 w hP; rw [hx] at this; exact this)
  have N0 := dow_new w A P k f 0 y T n
  clear hx
  go_enter Tryd.func7, Tryd.ntmps7
  go_upto_region 1 with fail
  generalize (((w.alloc (.cells #[.string A, .string P, .bool k, .bool f, .int .i64 0] 28)).alloc (.cells #[.int .u8 y, .string T, .int .i64 n] 31)).alloc (.cells #[.string ⟨#[]⟩, .string ⟨#[]⟩, .bool false, .bool false, .int .i64 0] 28)) = W at *
  obtain ⟨a0, a1, a2, a3, a4, o0, o1, o2, N1⟩ := dos_of N0
  have HW := Lib.hid N0
  clear N0 N1
  go_upto_region 11 with fail
  go_cut [5] from 63 to 70 (fun v wx => v = .bool (b1 || b2) ∧ wx = W)
  case first =>
    cases b1 <;> cases b2
    all_goals go_wp2_with fail
    all_goals go_meet
    all_goals (case rel => exact (⟨rfl, rfl⟩ : Value.bool _ = .bool _ ∧ W = W))
  case rest =>
    obtain ⟨rfl, hwc⟩ := hcut
    rw [hwc]; clear hwc
    rw [hbg]
    clear hbg p123 p91
    go_upto_region 14 with fail
    go_cut [97] from 80 to 97 (fun v wx => v = .bool (t1 && !t2 || t4 && !k) ∧ DoW w A P k f 0 y T n wx)
    case first =>
      have HL0 := Lib.hid (HL.out W)
      clear hob
      cases t1 <;> cases t2 <;> cases t4 <;> cases k
      all_goals go_wp2_with (go_at_call 20; (with_reducible refine HL0.out.mono ?_); rintro e w5 ⟨rfl, hb5⟩; have D5 := Lib.hid (HW.out.next hb5); obtain ⟨d0, d1, d2, d3, d4, d5, d6, d7, -⟩ := dos_of D5.out; clear hb5)
      all_goals go_meet
      all_goals (case rel => first | exact ⟨rfl, D5.out⟩ | exact ⟨rfl, HW.out⟩)
    case rest =>
      obtain ⟨rfl, D6⟩ := hcut
      rw [hob]
      obtain ⟨g0, g1, g2, g3, g4, g5, g6, g7, -⟩ := dos_of D6
      have H6 := Lib.hid D6
      clear D6 hob e1 e2 e4 a0 a1 a2 a3 a4 o0 o1 o2
      go_wp2_with fail
      refine (HBAD.out _).mono ?_
      rintro e w9 ⟨rfl, hb9⟩
      have D9 := H6.out.next hb9
      obtain ⟨q0, q1, q2, q3, q4, c0', c1', c2', c3', c4', qf⟩ := D9.q5
      have H9 := Lib.hid D9
      clear D9 hb9
      go_wp2
      refine bodyPost_ret (rc_result Tryd.results7 (DoW.fin H9.out _ _ _ _ _).1 rfl) rfl ?_
      exact ⟨rfl, (DoW.fin H9.out _ _ _ _ _).2⟩
set_option maxRecDepth 20000 in
set_option maxHeartbeats 8000000 in
theorem rfdo_val (w : World) {A P : ByteArray} {k : Bool} {f : Bool} {y : Int} {T : ByteArray} {n : Int} (p101 : (y == 101) = false) (p107 : (y == 107) = false) (b1 b2 : Bool) (p123 : (y == 123) = b1) (p91 : (y == 91) = b2) (hbg : (b1 || b2) = false) (hP : P.size ≤ 32) (x : UInt8) (hx : lstP P = x.toNat) (t1 t2 t4 : Bool) (e1 : P.toList.isEmpty = t1) (e2 : A.toList.isEmpty = t2) (e4 : ((x.toNat : Int) == 123) = t4) (hob : (t1 && !t2 || t4 && !k) = false) (hA : A.size ≤ 70368744177664) (C : ByteArray) (hC : C = if f = true then ⟨#[44]⟩ else ⟨#[]⟩) (J : ByteArray) (hJ : J.size ≤ 70368744177664) (HJ : Hid (∀ w, Calls Tryd.prog 23 #[.agg #[.int .u8 y, .string T, .int .i64 n]] w fun e w' => e = .returned (.string J) ∧ Below w.heap.size w w')) :
    Calls Tryd.prog 7 #[.agg #[.string A, .string P, .bool k, .bool f, .int .i64 0], .agg #[.int .u8 y, .string T, .int .i64 n]] w fun e w' => e = .returned (rcV (A ++ C ++ J) P false true 0) ∧ Below w.heap.size w w' := by
  have HC := Lib.hid (show ∀ w, Calls Tryd.prog 21 #[.agg #[.string A, .string P, .bool k, .bool f, .int .i64 0]] w fun e w' => e = .returned (.string C) ∧ Below w.heap.size w w' from fun w => by have := rfcomma_any A P k f 0 w; rw [← hC] at this; exact this)
  have hs1 : C.size ≤ 1 := by rw [hC]; split <;> decide
  have l1 : ¬ 9223372036854775807 < A.size + C.size := by omega
  have l2 : ¬ 9223372036854775807 < A.size + C.size + J.size := by omega
  have HL := Lib.hid (show ∀ w, Calls Tryd.prog 20 #[.agg #[.string A, .string P, .bool k, .bool f, .int .i64 0]] w fun e w' => e = .returned (.int .u8 (x.toNat : Int)) ∧ Below w.heap.size w w' from fun w => by have := rflast_any A P k f 0 w hP; rw [hx] at this; exact this)
  have N0 := dow_new w A P k f 0 y T n
  clear hx hC
  go_enter Tryd.func7, Tryd.ntmps7
  go_upto_region 1 with fail
  generalize (((w.alloc (.cells #[.string A, .string P, .bool k, .bool f, .int .i64 0] 28)).alloc (.cells #[.int .u8 y, .string T, .int .i64 n] 31)).alloc (.cells #[.string ⟨#[]⟩, .string ⟨#[]⟩, .bool false, .bool false, .int .i64 0] 28)) = W at *
  obtain ⟨a0, a1, a2, a3, a4, o0, o1, o2, N1⟩ := dos_of N0
  have HW := Lib.hid N0
  clear N0 N1
  go_upto_region 11 with fail
  go_cut [5] from 63 to 70 (fun v wx => v = .bool (b1 || b2) ∧ wx = W)
  case first =>
    cases b1 <;> cases b2
    all_goals go_wp2_with fail
    all_goals go_meet
    all_goals (case rel => exact (⟨rfl, rfl⟩ : Value.bool _ = .bool _ ∧ W = W))
  case rest =>
    obtain ⟨rfl, hwc⟩ := hcut
    rw [hwc]; clear hwc
    rw [hbg]
    clear hbg p123 p91
    go_upto_region 14 with fail
    go_cut [97] from 80 to 97 (fun v wx => v = .bool (t1 && !t2 || t4 && !k) ∧ DoW w A P k f 0 y T n wx)
    case first =>
      have HL0 := Lib.hid (HL.out W)
      clear hob
      cases t1 <;> cases t2 <;> cases t4 <;> cases k
      all_goals go_wp2_with (go_at_call 20; (with_reducible refine HL0.out.mono ?_); rintro e w5 ⟨rfl, hb5⟩; have D5 := Lib.hid (HW.out.next hb5); obtain ⟨d0, d1, d2, d3, d4, d5, d6, d7, -⟩ := dos_of D5.out; clear hb5)
      all_goals go_meet
      all_goals (case rel => first | exact ⟨rfl, D5.out⟩ | exact ⟨rfl, HW.out⟩)
    case rest =>
      obtain ⟨rfl, D6⟩ := hcut
      rw [hob]
      obtain ⟨g0, g1, g2, g3, g4, g5, g6, g7, -⟩ := dos_of D6
      have H6 := Lib.hid D6
      clear D6 hob e1 e2 e4 a0 a1 a2 a3 a4 o0 o1 o2
      go_wp2_with fail
      have hS0 := dos_of H6.out.drew
      refine wp_region_held_drew (S := fun wx => DoS w A P k f 0 y T n wx) (by kernel_rfl) hS0 (fun hS => ?_)
      clear hS0
      generalize World.drew _ = w0 at *
      clear g0 g1 g2 g3 g4 g5 g6 g7
      refine wpAnyH_take (i := 0) (oi := ⟨some 119, _, _, _, _, _⟩) (v := ?_) rfl (by decide +kernel) (by decide +kernel) (by decide +kernel) (fun _ _ _ h => h) (Or.inl ⟨by rfl, ?_⟩) hS ?_
      rotate_left 1
      · intro wS hSw
        obtain ⟨s0, s1, s2, s3, s4, s5, s6, s7, -⟩ := hSw
        go_simp
        try with_reducible rfl
      try simp only [Act.put, List.setIfInBounds_toArray, List.set_cons_zero, List.set_cons_succ]
      refine wpAnyH_take (i := 1) (oi := ⟨some 120, _, _, _, _, _⟩) (v := ?_) rfl (by decide +kernel) (by decide +kernel) (by decide +kernel) (fun _ _ _ h => h) (Or.inl ⟨by rfl, ?_⟩) hS ?_
      rotate_left 1
      · intro wS hSw
        obtain ⟨s0, s1, s2, s3, s4, s5, s6, s7, -⟩ := hSw
        go_simp
        try with_reducible rfl
      try simp only [Act.put, List.setIfInBounds_toArray, List.set_cons_zero, List.set_cons_succ]
      refine wpAnyH_take (i := 2) (oi := ⟨some 121, _, _, _, _, _⟩) (v := ?_) rfl (by decide +kernel) (by decide +kernel) (by decide +kernel) (fun _ _ _ h => h) (Or.inl ⟨by rfl, ?_⟩) hS ?_
      rotate_left 1
      · intro wS hSw
        obtain ⟨s0, s1, s2, s3, s4, s5, s6, s7, -⟩ := hSw
        go_simp
        try with_reducible rfl
      try simp only [Act.put, List.setIfInBounds_toArray, List.set_cons_zero, List.set_cons_succ]
      refine wpAnyH_take (i := 5) (oi := ⟨some 124, _, _, _, _, _⟩) (v := ?_) rfl (by decide +kernel) (by decide +kernel) (by decide +kernel) (fun _ _ _ h => h) (Or.inl ⟨by rfl, ?_⟩) hS ?_
      rotate_left 1
      · intro wS hSw
        obtain ⟨s0, s1, s2, s3, s4, s5, s6, s7, -⟩ := hSw
        go_simp
        try with_reducible rfl
      try simp only [Act.put, List.setIfInBounds_toArray, List.set_cons_zero, List.set_cons_succ]
      refine wpAnyH_take (i := 8) (oi := ⟨some 127, _, _, _, _, _⟩) (v := ?_) rfl (by decide +kernel) (by decide +kernel) (by decide +kernel) (fun _ _ _ h => h) (Or.inl ⟨by rfl, ?_⟩) hS ?_
      rotate_left 1
      · intro wS hSw
        obtain ⟨s0, s1, s2, s3, s4, s5, s6, s7, -⟩ := hSw
        go_simp
        try with_reducible rfl
      try simp only [Act.put, List.setIfInBounds_toArray, List.set_cons_zero, List.set_cons_succ]
      refine wpAnyH_take (i := 9) (oi := ⟨some 128, _, _, _, _, _⟩) (v := ?_) rfl (by decide +kernel) (by decide +kernel) (by decide +kernel) (fun _ _ _ h => h) (Or.inl ⟨by rfl, ?_⟩) hS ?_
      rotate_left 1
      · intro wS hSw
        obtain ⟨s0, s1, s2, s3, s4, s5, s6, s7, -⟩ := hSw
        go_simp
        try with_reducible rfl
      try simp only [Act.put, List.setIfInBounds_toArray, List.set_cons_zero, List.set_cons_succ]
      refine wpAnyH_ready (rs := [3]) (by decide +kernel) (by simp) ?_
      refine AllReadyH.cons (o := ⟨some 122, _, _, _, _, _⟩) rfl (fun K hK => ?_) AllReadyH.nil
      rw [if_pos (by rfl)]
      go_simp
      with_reducible refine (HC.out _).mono ?_
      rintro e w7 ⟨rfl, hb⟩
      refine hK.out _ _ (dos_of ((dos_w hS).next hb)) (fun hS => ?_)
      clear hK K hb
      try simp only [Act.put, List.setIfInBounds_toArray, List.set_cons_zero, List.set_cons_succ]
      refine wpAnyH_take (i := 4) (oi := ⟨some 123, _, _, _, _, _⟩) (v := ?_) rfl (by decide +kernel) (by decide +kernel) (by decide +kernel) (fun _ _ _ h => h) (Or.inl ⟨by rfl, ?_⟩) hS ?_
      rotate_left 1
      · intro wS hSw
        obtain ⟨s0, s1, s2, s3, s4, s5, s6, s7, -⟩ := hSw
        go_simp
        try with_reducible rfl
      try simp only [Act.put, List.setIfInBounds_toArray, List.set_cons_zero, List.set_cons_succ]
      refine wpAnyH_ready (rs := [6]) (by decide +kernel) (by simp) ?_
      refine AllReadyH.cons (o := ⟨some 125, _, _, _, _, _⟩) rfl (fun K hK => ?_) AllReadyH.nil
      rw [if_pos (by rfl)]
      go_simp
      with_reducible refine (HJ.out _).mono ?_
      rintro e w8 ⟨rfl, hb⟩
      refine hK.out _ _ (dos_of ((dos_w hS).next hb)) (fun hS => ?_)
      clear hK K hb
      try simp only [Act.put, List.setIfInBounds_toArray, List.set_cons_zero, List.set_cons_succ]
      refine wpAnyH_take (i := 7) (oi := ⟨some 126, _, _, _, _, _⟩) (v := ?_) rfl (by decide +kernel) (by decide +kernel) (by decide +kernel) (fun _ _ _ h => h) (Or.inl ⟨by rfl, ?_⟩) hS ?_
      rotate_left 1
      · intro wS hSw
        obtain ⟨s0, s1, s2, s3, s4, s5, s6, s7, -⟩ := hSw
        go_simp
        try with_reducible rfl
      try simp only [Act.put, List.setIfInBounds_toArray, List.set_cons_zero, List.set_cons_succ]
      refine wpAnyH_take (i := 10) (oi := ⟨some 129, _, _, _, _, _⟩) (v := ?_) rfl (by decide +kernel) (by decide +kernel) (by decide +kernel) (fun _ _ _ h => h) (Or.inl ⟨by rfl, ?_⟩) hS ?_
      rotate_left 1
      · intro wS hSw
        obtain ⟨s0, s1, s2, s3, s4, s5, s6, s7, -⟩ := hSw
        go_simp
        try with_reducible rfl
      try simp only [Act.put, List.setIfInBounds_toArray, List.set_cons_zero, List.set_cons_succ]
      refine wpAnyH_ready (rs := [11]) (by decide +kernel) (by simp) ?_
      refine AllReadyH.cons (o := ⟨none, _, _, _, _, _⟩) rfl (fun K hK => ?_) AllReadyH.nil
      rw [if_pos (by rfl)]
      have HP := Lib.hid (dos_w hS)
      obtain ⟨q, hq, qf⟩ := HP.out.qv
      have c0' := hq 0 (by decide); have c1' := hq 1 (by decide); have c2' := hq 2 (by decide); have c3' := hq 3 (by decide); have c4' := hq 4 (by decide)
      clear hq
      go_simp
      refine hK.out _ _ (dos_of (DoW.store HP.out _ _ _ _ _)) (fun hS => ?_)
      clear hK K c0' c1' c2' c3' c4' qf
      try simp only [Act.put, List.setIfInBounds_toArray, List.set_cons_zero, List.set_cons_succ]
      refine wpAnyH_done (by kernel_rfl) ?_ _
      clear hS
      go_wp2
      refine bodyPost_ret (rc_result Tryd.results7 (DoW.fin HP.out _ _ _ _ _).1 rfl) rfl ?_
      exact ⟨rfl, (DoW.fin HP.out _ _ _ _ _).2⟩
end
end Go.Proofs.YtnbhhnkcfbfdcaaDoor
