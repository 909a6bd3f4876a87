/- The document's writer (package truchmanref15): Do, way by way. -/
import Derived.Test.YtnbhhnkcfbfdcaaDoorJwRg
import Derived.Deep.Cut
import Derived.Deep.CutRange
namespace Go.Proofs.YtnbhhnkcfbfdcaaDoor
open Go Go.RowKit
set_option linter.unusedVariables false

/-- 'string(b)' of one byte that lies there. -/
theorem text_cell {P : Program} {t e d : TypeId} {w : World} {g : Nat} {b : UInt8} (h : w.cell? ⟨g, 0, none⟩ = some (.int .u8 (b.toNat : Int))) (ht : P.underlying t = some (.slice e)) (he : P.underlying e = some (.int .u8)) (hd : P.underlying d = some .string) :
    (convert t d (.slice (some ⟨g, 0, none⟩) 1 1)).run P w = .ok (.string (bA [b])) w := by
  refine run_convert_bytes_back _ t d e ⟨g, 0, none⟩ 1 [b] ht he hd fun j hj => ?_
  have h0 : j = 0 := by simpa using hj
  subst h0
  exact h
theorem cell_next {w w' : World} {p : Addr} {v : Value} (h : w.cell? p = some v) (hb : Below w.heap.size w w') : w'.cell? p = some v := (hb.cell (World.block_lt_of_cell? w p h)).trans h
theorem new_byte (w : World) (z : Int) : (w.alloc (.cells #[.int .u8 z] 5)).cell? ⟨w.heap.size, 0, none⟩ = some (.int .u8 z) := by rw [cell_of_row _ _ 0 _ _ _ (heap_alloc_new w _)]; rfl
section
set_option maxRecDepth 20000 in
set_option maxHeartbeats 1000000 in
theorem rfdo_err (w : World) {A P : ByteArray} {k : Bool} {f : Bool} {c : Int} {y : Int} {T : ByteArray} {n : Int} (hc : ¬ c = 0) :
    Calls Tryd.prog 7 #[.agg #[.string A, .string P, .bool k, .bool f, .int .i64 c], .agg #[.int .u8 y, .string T, .int .i64 n]] w fun e w' => e = .returned (rcV A P k f c) ∧ Below w.heap.size w w' := by
  have p1 : (c != 0) = true := bne_iff_ne.mpr hc
  have N0 := dow_new w A P k f c y T n
  clear hc
  go_enter Tryd.func7, Tryd.ntmps7
  go_upto_region 1 with fail
  generalize (((w.alloc (.cells #[.string A, .string P, .bool k, .bool f, .int .i64 c] 28)).alloc (.cells #[.int .u8 y, .string T, .int .i64 n] 31)).alloc (.cells #[.string ⟨#[]⟩, .string ⟨#[]⟩, .bool false, .bool false, .int .i64 0] 28)) = W at *
  obtain ⟨a0, a1, a2, a3, a4, o0, o1, o2, N1⟩ := dos_of N0
  have HW := Lib.hid N0
  clear N0 N1
  obtain ⟨q0, q1, q2, q3, q4, c0', c1', c2', c3', c4', qf⟩ := HW.out.q5
  go_wp2
  refine bodyPost_ret (rc_result Tryd.results7 (DoW.fin HW.out _ _ _ _ _).1 rfl) rfl ?_
  exact ⟨rfl, (DoW.fin HW.out _ _ _ _ _).2⟩
set_option maxRecDepth 20000 in
set_option maxHeartbeats 1000000 in
theorem rfdo_fin_bad1 (w : World) {A P : ByteArray} {k : Bool} {f : Bool} {y : Int} {T : ByteArray} {n : Int} (hy : y = 101) (he : P.toList.isEmpty = true) :
    Calls Tryd.prog 7 #[.agg #[.string A, .string P, .bool k, .bool f, .int .i64 0], .agg #[.int .u8 y, .string T, .int .i64 n]] w fun e w' => e = .returned (rcV A P k f 12) ∧ Below w.heap.size w w' := by
  have HBAD := Lib.hid (show ∀ w, Calls Tryd.prog 19 #[.agg #[.string A, .string P, .bool k, .bool f, .int .i64 0], .int .i64 12] w fun e w' => e = .returned (.agg #[.string A, .string P, .bool k, .bool f, .int .i64 12]) ∧ Below w.heap.size w w' from fun w => rfbad_any A P k f 0 12 w)
  have p101 : (y == 101) = true := by rw [hy]; rfl
  have N0 := dow_new w A P k f 0 y T n
  clear hy
  go_enter Tryd.func7, Tryd.ntmps7
  go_upto_region 1 with fail
  generalize (((w.alloc (.cells #[.string A, .string P, .bool k, .bool f, .int .i64 0] 28)).alloc (.cells #[.int .u8 y, .string T, .int .i64 n] 31)).alloc (.cells #[.string ⟨#[]⟩, .string ⟨#[]⟩, .bool false, .bool false, .int .i64 0] 28)) = W at *
  obtain ⟨a0, a1, a2, a3, a4, o0, o1, o2, N1⟩ := dos_of N0
  have HW := Lib.hid N0
  clear N0 N1
  go_wp2_with fail
  refine (HBAD.out _).mono ?_
  rintro e w9 ⟨rfl, hb9⟩
  have D9 := HW.out.next hb9
  obtain ⟨q0, q1, q2, q3, q4, c0', c1', c2', c3', c4', qf⟩ := D9.q5
  have H9 := Lib.hid D9
  clear D9 hb9
  go_wp2
  refine bodyPost_ret (rc_result Tryd.results7 (DoW.fin H9.out _ _ _ _ _).1 rfl) rfl ?_
  exact ⟨rfl, (DoW.fin H9.out _ _ _ _ _).2⟩
set_option maxRecDepth 20000 in
set_option maxHeartbeats 1000000 in
theorem rfdo_fin_bad2 (w : World) {A P : ByteArray} {f : Bool} {y : Int} {T : ByteArray} {n : Int} (hy : y = 101) (he : P.toList.isEmpty = false) :
    Calls Tryd.prog 7 #[.agg #[.string A, .string P, .bool true, .bool f, .int .i64 0], .agg #[.int .u8 y, .string T, .int .i64 n]] w fun e w' => e = .returned (rcV A P true f 12) ∧ Below w.heap.size w w' := by
  have HBAD := Lib.hid (show ∀ w, Calls Tryd.prog 19 #[.agg #[.string A, .string P, .bool true, .bool f, .int .i64 0], .int .i64 12] w fun e w' => e = .returned (.agg #[.string A, .string P, .bool true, .bool f, .int .i64 12]) ∧ Below w.heap.size w w' from fun w => rfbad_any A P true f 0 12 w)
  have p101 : (y == 101) = true := by rw [hy]; rfl
  have N0 := dow_new w A P true f 0 y T n
  clear hy
  go_enter Tryd.func7, Tryd.ntmps7
  go_upto_region 1 with fail
  generalize (((w.alloc (.cells #[.string A, .string P, .bool true, .bool f, .int .i64 0] 28)).alloc (.cells #[.int .u8 y, .string T, .int .i64 n] 31)).alloc (.cells #[.string ⟨#[]⟩, .string ⟨#[]⟩, .bool false, .bool false, .int .i64 0] 28)) = W at *
  obtain ⟨a0, a1, a2, a3, a4, o0, o1, o2, N1⟩ := dos_of N0
  have HW := Lib.hid N0
  clear N0 N1
  go_wp2_with fail
  refine (HBAD.out _).mono ?_
  rintro e w9 ⟨rfl, hb9⟩
  have D9 := HW.out.next hb9
  obtain ⟨q0, q1, q2, q3, q4, c0', c1', c2', c3', c4', qf⟩ := D9.q5
  have H9 := Lib.hid D9
  clear D9 hb9
  go_wp2
  refine bodyPost_ret (rc_result Tryd.results7 (DoW.fin H9.out _ _ _ _ _).1 rfl) rfl ?_
  exact ⟨rfl, (DoW.fin H9.out _ _ _ _ _).2⟩
set_option maxRecDepth 20000 in
set_option maxHeartbeats 4000000 in
theorem rfdo_fin (w : World) {A P : ByteArray} {f : Bool} {y : Int} {T : ByteArray} {n : Int} (hy : y = 101) (he : P.toList.isEmpty = false) (hA : A.size ≤ 70368744177664) (hP : P.size ≤ 32) (x : UInt8) (hx : lstP P = x.toNat) (b : UInt8) (hb : IntKind.u8.wrap ((x.toNat : Int) + 2) = (b.toNat : Int)) (U : ByteArray) (hU : bA [b] = U) (K : Nat) (hK : K + 1 = P.size) :
    Calls Tryd.prog 7 #[.agg #[.string A, .string P, .bool false, .bool f, .int .i64 0], .agg #[.int .u8 y, .string T, .int .i64 n]] w fun e w' => e = .returned (rcV (A ++ U) (P.extract 0 K) false true 0) ∧ Below w.heap.size w w' := by
  have HL := Lib.hid (show ∀ w, Calls Tryd.prog 20 #[.agg #[.string A, .string P, .bool false, .bool f, .int .i64 0]] w fun e w' => e = .returned (.int .u8 (x.toNat : Int)) ∧ Below w.heap.size w w' from fun w => by have := rflast_any A P false f 0 w hP; rw [hx] at this; exact this)
  have hs1 : U.size ≤ 1 := by rw [← hU, bA_size]; exact Nat.le_refl _
  have l1 : ¬ 9223372036854775807 < A.size + U.size := by omega
  have zw : IntKind.i64.wrap ((P.size : Int) - 1) = (K : Int) := by rw [i64_small (by omega) (by omega)]; omega
  have z0 : (0 : Int) ≤ (K : Int) := by omega
  have z1 : (K : Int) ≤ (P.size : Int) := by omega
  have HU := Lib.hid hU
  have p101 : (y == 101) = true := by rw [hy]; rfl
  have N0 := dow_new w A P false f 0 y T n
  clear hy hx hK hU
  go_enter Tryd.func7, Tryd.ntmps7
  go_upto_region 1 with fail
  generalize (((w.alloc (.cells #[.string A, .string P, .bool false, .bool f, .int .i64 0] 28)).alloc (.cells #[.int .u8 y, .string T, .int .i64 n] 31)).alloc (.cells #[.string ⟨#[]⟩, .string ⟨#[]⟩, .bool false, .bool false, .int .i64 0] 28)) = W at *
  obtain ⟨a0, a1, a2, a3, a4, o0, o1, o2, N1⟩ := dos_of N0
  have HW := Lib.hid N0
  clear N0 N1
  go_wp2_with fail
  have hS0 := dos_of HW.out.drew
  refine wp_region_held_drew (S := fun wx => DoS w A P false f 0 y T n wx) (by kernel_rfl) hS0 (fun hS => ?_)
  clear hS0
  generalize W.drew = w0 at *
  refine wpAnyH_take (i := 0) (oi := ⟨some 22, _, _, _, _, _⟩) (v := ?_) rfl (by decide +kernel) (by decide +kernel) (by decide +kernel) (fun _ _ _ h => h) (Or.inl ⟨by rfl, ?_⟩) hS ?_
  rotate_left 1
  · intro wS hSw
    obtain ⟨s0, s1, s2, s3, s4, s5, s6, s7, -⟩ := hSw
    go_simp
    try with_reducible rfl
  try simp only [Act.put, List.setIfInBounds_toArray, List.set_cons_zero, List.set_cons_succ]
  refine wpAnyH_take (i := 1) (oi := ⟨some 23, _, _, _, _, _⟩) (v := ?_) rfl (by decide +kernel) (by decide +kernel) (by decide +kernel) (fun _ _ _ h => h) (Or.inl ⟨by rfl, ?_⟩) hS ?_
  rotate_left 1
  · intro wS hSw
    obtain ⟨s0, s1, s2, s3, s4, s5, s6, s7, -⟩ := hSw
    go_simp
    try with_reducible rfl
  try simp only [Act.put, List.setIfInBounds_toArray, List.set_cons_zero, List.set_cons_succ]
  refine wpAnyH_take (i := 2) (oi := ⟨some 24, _, _, _, _, _⟩) (v := ?_) rfl (by decide +kernel) (by decide +kernel) (by decide +kernel) (fun _ _ _ h => h) (Or.inl ⟨by rfl, ?_⟩) hS ?_
  rotate_left 1
  · intro wS hSw
    obtain ⟨s0, s1, s2, s3, s4, s5, s6, s7, -⟩ := hSw
    go_simp
    try with_reducible rfl
  try simp only [Act.put, List.setIfInBounds_toArray, List.set_cons_zero, List.set_cons_succ]
  refine wpAnyH_take (i := 8) (oi := ⟨some 30, _, _, _, _, _⟩) (v := ?_) rfl (by decide +kernel) (by decide +kernel) (by decide +kernel) (fun _ _ _ h => h) (Or.inl ⟨by rfl, ?_⟩) hS ?_
  rotate_left 1
  · intro wS hSw
    obtain ⟨s0, s1, s2, s3, s4, s5, s6, s7, -⟩ := hSw
    go_simp
    try with_reducible rfl
  try simp only [Act.put, List.setIfInBounds_toArray, List.set_cons_zero, List.set_cons_succ]
  refine wpAnyH_take (i := 9) (oi := ⟨some 31, _, _, _, _, _⟩) (v := ?_) rfl (by decide +kernel) (by decide +kernel) (by decide +kernel) (fun _ _ _ h => h) (Or.inl ⟨by rfl, ?_⟩) hS ?_
  rotate_left 1
  · intro wS hSw
    obtain ⟨s0, s1, s2, s3, s4, s5, s6, s7, -⟩ := hSw
    go_simp
    try with_reducible rfl
  try simp only [Act.put, List.setIfInBounds_toArray, List.set_cons_zero, List.set_cons_succ]
  refine wpAnyH_take (i := 10) (oi := ⟨some 32, _, _, _, _, _⟩) (v := ?_) rfl (by decide +kernel) (by decide +kernel) (by decide +kernel) (fun _ _ _ h => h) (Or.inl ⟨by rfl, ?_⟩) hS ?_
  rotate_left 1
  · intro wS hSw
    obtain ⟨s0, s1, s2, s3, s4, s5, s6, s7, -⟩ := hSw
    go_simp
    try with_reducible rfl
  try simp only [Act.put, List.setIfInBounds_toArray, List.set_cons_zero, List.set_cons_succ]
  refine wpAnyH_take (i := 11) (oi := ⟨some 33, _, _, _, _, _⟩) (v := ?_) rfl (by decide +kernel) (by decide +kernel) (by decide +kernel) (fun _ _ _ h => h) (Or.inl ⟨by rfl, ?_⟩) hS ?_
  rotate_left 1
  · intro wS hSw
    obtain ⟨s0, s1, s2, s3, s4, s5, s6, s7, -⟩ := hSw
    go_simp
    try with_reducible rfl
  try simp only [Act.put, List.setIfInBounds_toArray, List.set_cons_zero, List.set_cons_succ]
  refine wpAnyH_take (i := 12) (oi := ⟨some 34, _, _, _, _, _⟩) (v := ?_) rfl (by decide +kernel) (by decide +kernel) (by decide +kernel) (fun _ _ _ h => h) (Or.inl ⟨by rfl, ?_⟩) hS ?_
  rotate_left 1
  · intro wS hSw
    obtain ⟨s0, s1, s2, s3, s4, s5, s6, s7, -⟩ := hSw
    go_simp
    try with_reducible rfl
  try simp only [Act.put, List.setIfInBounds_toArray, List.set_cons_zero, List.set_cons_succ]
  refine wpAnyH_take (i := 13) (oi := ⟨some 35, _, _, _, _, _⟩) (v := ?_) rfl (by decide +kernel) (by decide +kernel) (by decide +kernel) (fun _ _ _ h => h) (Or.inl ⟨by rfl, ?_⟩) hS ?_
  rotate_left 1
  · intro wS hSw
    obtain ⟨s0, s1, s2, s3, s4, s5, s6, s7, -⟩ := hSw
    go_simp
    try with_reducible rfl
  try simp only [Act.put, List.setIfInBounds_toArray, List.set_cons_zero, List.set_cons_succ]
  refine wpAnyH_take (i := 14) (oi := ⟨some 36, _, _, _, _, _⟩) (v := ?_) rfl (by decide +kernel) (by decide +kernel) (by decide +kernel) (fun _ _ _ h => h) (Or.inl ⟨by rfl, ?_⟩) hS ?_
  rotate_left 1
  · intro wS hSw
    obtain ⟨s0, s1, s2, s3, s4, s5, s6, s7, -⟩ := hSw
    go_simp
    try with_reducible rfl
  try simp only [Act.put, List.setIfInBounds_toArray, List.set_cons_zero, List.set_cons_succ]
  refine wpAnyH_ready (rs := [3]) (by decide +kernel) (by simp) ?_
  refine AllReadyH.cons (o := ⟨some 25, _, _, _, _, _⟩) rfl (fun K hK => ?_) AllReadyH.nil
  rw [if_pos (by rfl)]
  go_simp
  with_reducible refine (HL.out _).mono ?_
  rintro e w1 ⟨rfl, hb⟩
  refine hK.out _ _ (dos_of ((dos_w hS).next hb)) (fun hS => ?_)
  clear hK K hb
  try simp only [Act.put, List.setIfInBounds_toArray, List.set_cons_zero, List.set_cons_succ]
  refine wpAnyH_take (i := 4) (oi := ⟨some 26, _, _, _, _, _⟩) (v := ?_) rfl (by decide +kernel) (by decide +kernel) (by decide +kernel) (fun _ _ _ h => h) (Or.inl ⟨by rfl, ?_⟩) hS ?_
  rotate_left 1
  · intro wS hSw
    obtain ⟨s0, s1, s2, s3, s4, s5, s6, s7, -⟩ := hSw
    go_simp
    try with_reducible rfl
  try simp only [Act.put, List.setIfInBounds_toArray, List.set_cons_zero, List.set_cons_succ]
  refine wpAnyH_ready (rs := [5]) (by decide +kernel) (by simp) ?_
  refine AllReadyH.cons (o := ⟨some 27, _, _, _, _, _⟩) rfl (fun K hK => ?_) AllReadyH.nil
  rw [if_pos (by rfl)]
  have hb := new_blw w1 (.cells #[.int .u8 (b.toNat : Int)] 5)
  have m5 := new_byte w1 (b.toNat : Int)
  go_simp
  refine hK.out _ _ (dos_of ((dos_w hS).next hb)) (fun hS => ?_)
  clear hK K hb
  generalize hw : w1.alloc (.cells #[.int .u8 (b.toNat : Int)] 5) = w2 at *
  clear hw
  try simp only [Act.put, List.setIfInBounds_toArray, List.set_cons_zero, List.set_cons_succ]
  refine wpAnyH_ready (rs := [6]) (by decide +kernel) (by simp) ?_
  refine AllReadyH.cons (o := ⟨some 28, _, _, _, _, _⟩) rfl (fun K hK => ?_) AllReadyH.nil
  rw [if_pos (by rfl)]
  have kv := text_cell (P := Tryd.prog) (b := b) m5 Tryd.underlying41 Tryd.underlying5 Tryd.underlying9
  rw [HU.out] at kv
  go_simp
  refine hK.out _ _ hS (fun hS => ?_)
  clear hK K kv
  try simp only [Act.put, List.setIfInBounds_toArray, List.set_cons_zero, List.set_cons_succ]
  refine wpAnyH_take (i := 7) (oi := ⟨some 29, _, _, _, _, _⟩) (v := ?_) rfl (by decide +kernel) (by decide +kernel) (by decide +kernel) (fun _ _ _ h => h) (Or.inl ⟨by rfl, ?_⟩) hS ?_
  rotate_left 1
  · intro wS hSw
    obtain ⟨s0, s1, s2, s3, s4, s5, s6, s7, -⟩ := hSw
    go_simp
    try with_reducible rfl
  try simp only [Act.put, List.setIfInBounds_toArray, List.set_cons_zero, List.set_cons_succ]
  refine wpAnyH_take (i := 15) (oi := ⟨some 37, _, _, _, _, _⟩) (v := ?_) rfl (by decide +kernel) (by decide +kernel) (by decide +kernel) (fun _ _ _ h => h) (Or.inl ⟨by rfl, ?_⟩) hS ?_
  rotate_left 1
  · intro wS hSw
    obtain ⟨s0, s1, s2, s3, s4, s5, s6, s7, -⟩ := hSw
    go_simp
    try with_reducible rfl
  try simp only [Act.put, List.setIfInBounds_toArray, List.set_cons_zero, List.set_cons_succ]
  refine wpAnyH_ready (rs := [16]) (by decide +kernel) (by simp) ?_
  refine AllReadyH.cons (o := ⟨none, _, _, _, _, _⟩) rfl (fun K hK => ?_) AllReadyH.nil
  rw [if_pos (by rfl)]
  have HP := Lib.hid (dos_w hS)
  obtain ⟨q, hq, qf⟩ := HP.out.qv
  have c0' := hq 0 (by decide); have c1' := hq 1 (by decide); have c2' := hq 2 (by decide); have c3' := hq 3 (by decide); have c4' := hq 4 (by decide)
  clear hq
  go_simp
  refine hK.out _ _ (dos_of (DoW.store HP.out _ _ _ _ _)) (fun hS => ?_)
  clear hK K c0' c1' c2' c3' c4' qf
  try simp only [Act.put, List.setIfInBounds_toArray, List.set_cons_zero, List.set_cons_succ]
  refine wpAnyH_done (by kernel_rfl) ?_ _
  clear hS
  go_wp2
  refine bodyPost_ret (rc_result Tryd.results7 (DoW.fin HP.out _ _ _ _ _).1 rfl) rfl ?_
  exact ⟨rfl, (DoW.fin HP.out _ _ _ _ _).2⟩
set_option maxRecDepth 20000 in
set_option maxHeartbeats 1000000 in
theorem rfdo_key_bad1 (w : World) {A P : ByteArray} {k : Bool} {f : Bool} {y : Int} {T : ByteArray} {n : Int} (hy : y = 107) (hP : P.size ≤ 32) (x : UInt8) (hx : lstP P = x.toNat) (q : ((x.toNat : Int) != 123) = true) :
    Calls Tryd.prog 7 #[.agg #[.string A, .string P, .bool k, .bool f, .int .i64 0], .agg #[.int .u8 y, .string T, .int .i64 n]] w fun e w' => e = .returned (rcV A P k f 12) ∧ Below w.heap.size w w' := by
  have HBAD := Lib.hid (show ∀ w, Calls Tryd.prog 19 #[.agg #[.string A, .string P, .bool k, .bool f, .int .i64 0], .int .i64 12] w fun e w' => e = .returned (.agg #[.string A, .string P, .bool k, .bool f, .int .i64 12]) ∧ Below w.heap.size w w' from fun w => rfbad_any A P k f 0 12 w)
  have HL := Lib.hid (show ∀ w, Calls Tryd.prog 20 #[.agg #[.string A, .string P, .bool k, .bool f, .int .i64 0]] w fun e w' => e = .returned (.int .u8 (x.toNat : Int)) ∧ Below w.heap.size w w' from fun w => by have := rflast_any A P k f 0 w hP; rw [hx] at this; exact this)
  have n101 : ¬ y = 101 := by rw [hy]; decide
  have p101 : (y == 101) = false := beq_eq_false_iff_ne.mpr n101
  have p107 : (y == 107) = true := by rw [hy]; rfl
  have N0 := dow_new w A P k f 0 y T n
  clear hy hx n101
  go_enter Tryd.func7, Tryd.ntmps7
  go_upto_region 1 with fail
  generalize (((w.alloc (.cells #[.string A, .string P, .bool k, .bool f, .int .i64 0] 28)).alloc (.cells #[.int .u8 y, .string T, .int .i64 n] 31)).alloc (.cells #[.string ⟨#[]⟩, .string ⟨#[]⟩, .bool false, .bool false, .int .i64 0] 28)) = W at *
  obtain ⟨a0, a1, a2, a3, a4, o0, o1, o2, N1⟩ := dos_of N0
  have HW := Lib.hid N0
  clear N0 N1
  go_wp2_with fail
  refine (HL.out _).mono ?_
  rintro e w5 ⟨rfl, hb5⟩
  have D5 := HW.out.next hb5
  obtain ⟨d0, d1, d2, d3, d4, d5, d6, d7, -⟩ := dos_of D5
  have H5 := Lib.hid D5
  clear D5 hb5
  go_wp2_with fail
  refine (HBAD.out _).mono ?_
  rintro e w9 ⟨rfl, hb9⟩
  have D9 := H5.out.next hb9
  obtain ⟨q0, q1, q2, q3, q4, c0', c1', c2', c3', c4', qf⟩ := D9.q5
  have H9 := Lib.hid D9
  clear D9 hb9
  go_wp2
  refine bodyPost_ret (rc_result Tryd.results7 (DoW.fin H9.out _ _ _ _ _).1 rfl) rfl ?_
  exact ⟨rfl, (DoW.fin H9.out _ _ _ _ _).2⟩
set_option maxRecDepth 20000 in
set_option maxHeartbeats 1000000 in
theorem rfdo_key_bad2 (w : World) {A P : ByteArray} {f : Bool} {y : Int} {T : ByteArray} {n : Int} (hy : y = 107) (hP : P.size ≤ 32) (x : UInt8) (hx : lstP P = x.toNat) (q : ((x.toNat : Int) != 123) = false) :
    Calls Tryd.prog 7 #[.agg #[.string A, .string P, .bool true, .bool f, .int .i64 0], .agg #[.int .u8 y, .string T, .int .i64 n]] w fun e w' => e = .returned (rcV A P true f 12) ∧ Below w.heap.size w w' := by
  have HBAD := Lib.hid (show ∀ w, Calls Tryd.prog 19 #[.agg #[.string A, .string P, .bool true, .bool f, .int .i64 0], .int .i64 12] w fun e w' => e = .returned (.agg #[.string A, .string P, .bool true, .bool f, .int .i64 12]) ∧ Below w.heap.size w w' from fun w => rfbad_any A P true f 0 12 w)
  have HL := Lib.hid (show ∀ w, Calls Tryd.prog 20 #[.agg #[.string A, .string P, .bool true, .bool f, .int .i64 0]] w fun e w' => e = .returned (.int .u8 (x.toNat : Int)) ∧ Below w.heap.size w w' from fun w => by have := rflast_any A P true f 0 w hP; rw [hx] at this; exact this)
  have n101 : ¬ y = 101 := by rw [hy]; decide
  have p101 : (y == 101) = false := beq_eq_false_iff_ne.mpr n101
  have p107 : (y == 107) = true := by rw [hy]; rfl
  have N0 := dow_new w A P true f 0 y T n
  clear hy hx n101
  go_enter Tryd.func7, Tryd.ntmps7
  go_upto_region 1 with fail
  generalize (((w.alloc (.cells #[.string A, .string P, .bool true, .bool f, .int .i64 0] 28)).alloc (.cells #[.int .u8 y, .string T, .int .i64 n] 31)).alloc (.cells #[.string ⟨#[]⟩, .string ⟨#[]⟩, .bool false, .bool false, .int .i64 0] 28)) = W at *
  obtain ⟨a0, a1, a2, a3, a4, o0, o1, o2, N1⟩ := dos_of N0
  have HW := Lib.hid N0
  clear N0 N1
  go_wp2_with fail
  refine (HL.out _).mono ?_
  rintro e w5 ⟨rfl, hb5⟩
  have D5 := HW.out.next hb5
  obtain ⟨d0, d1, d2, d3, d4, d5, d6, d7, -⟩ := dos_of D5
  have H5 := Lib.hid D5
  clear D5 hb5
  go_wp2_with fail
  refine (HBAD.out _).mono ?_
  rintro e w9 ⟨rfl, hb9⟩
  have D9 := H5.out.next hb9
  obtain ⟨q0, q1, q2, q3, q4, c0', c1', c2', c3', c4', qf⟩ := D9.q5
  have H9 := Lib.hid D9
  clear D9 hb9
  go_wp2
  refine bodyPost_ret (rc_result Tryd.results7 (DoW.fin H9.out _ _ _ _ _).1 rfl) rfl ?_
  exact ⟨rfl, (DoW.fin H9.out _ _ _ _ _).2⟩
set_option maxRecDepth 20000 in
set_option maxHeartbeats 4000000 in
theorem rfdo_key (w : World) {A P : ByteArray} {f : Bool} {y : Int} {T : ByteArray} {n : Int} (hy : y = 107) (hA : A.size ≤ 70368744177664) (hP : P.size ≤ 32) (x : UInt8) (hx : lstP P = x.toNat) (q : ((x.toNat : Int) != 123) = false) (C : ByteArray) (hC : C = if f = true then ⟨#[44]⟩ else ⟨#[]⟩) (J : ByteArray) (hJ : J.size ≤ 70368744177664) (HJ : Hid (∀ w, Calls Tryd.prog 22 #[.string T] w fun e w' => e = .returned (.string J) ∧ Below w.heap.size w w')) :
    Calls Tryd.prog 7 #[.agg #[.string A, .string P, .bool false, .bool f, .int .i64 0], .agg #[.int .u8 y, .string T, .int .i64 n]] w fun e w' => e = .returned (rcV (A ++ C ++ J ++ ⟨#[58]⟩) P true false 0) ∧ Below w.heap.size w w' := by
  have HL := Lib.hid (show ∀ w, Calls Tryd.prog 20 #[.agg #[.string A, .string P, .bool false, .bool f, .int .i64 0]] w fun e w' => e = .returned (.int .u8 (x.toNat : Int)) ∧ Below w.heap.size w w' from fun w => by have := rflast_any A P false f 0 w hP; rw [hx] at this; exact this)
  have HC := Lib.hid (show ∀ w, Calls Tryd.prog 21 #[.agg #[.string A, .string P, .bool false, .bool f, .int .i64 0]] w fun e w' => e = .returned (.string C) ∧ Below w.heap.size w w' from fun w => by have := rfcomma_any A P false f 0 w; rw [← hC] at this; exact this)
  have n101 : ¬ y = 101 := by rw [hy]; decide
  have p101 : (y == 101) = false := beq_eq_false_iff_ne.mpr n101
  have p107 : (y == 107) = true := by rw [hy]; rfl
  have hs1 : C.size ≤ 1 := by rw [hC]; split <;> decide
  have l1 : ¬ 9223372036854775807 < A.size + C.size := by omega
  have l2 : ¬ 9223372036854775807 < A.size + C.size + J.size := by omega
  have l3 : ¬ 9223372036854775807 < A.size + C.size + J.size + 1 := by omega
  have N0 := dow_new w A P false f 0 y T n
  clear hy hx n101 hC
  go_enter Tryd.func7, Tryd.ntmps7
  go_upto_region 1 with fail
  generalize (((w.alloc (.cells #[.string A, .string P, .bool false, .bool f, .int .i64 0] 28)).alloc (.cells #[.int .u8 y, .string T, .int .i64 n] 31)).alloc (.cells #[.string ⟨#[]⟩, .string ⟨#[]⟩, .bool false, .bool false, .int .i64 0] 28)) = W at *
  obtain ⟨a0, a1, a2, a3, a4, o0, o1, o2, N1⟩ := dos_of N0
  have HW := Lib.hid N0
  clear N0 N1
  go_wp2_with fail
  refine (HL.out _).mono ?_
  rintro e w5 ⟨rfl, hb5⟩
  have D5 := HW.out.next hb5
  obtain ⟨d0, d1, d2, d3, d4, d5, d6, d7, -⟩ := dos_of D5
  have H5 := Lib.hid D5
  clear D5 hb5
  go_wp2_with fail
  have hS0 := dos_of H5.out.drew
  refine wp_region_held_drew (S := fun wx => DoS w A P false f 0 y T n wx) (by kernel_rfl) hS0 (fun hS => ?_)
  clear hS0
  generalize w5.drew = w0 at *
  refine wpAnyH_take (i := 0) (oi := ⟨some 50, _, _, _, _, _⟩) (v := ?_) rfl (by decide +kernel) (by decide +kernel) (by decide +kernel) (fun _ _ _ h => h) (Or.inl ⟨by rfl, ?_⟩) hS ?_
  rotate_left 1
  · intro wS hSw
    obtain ⟨s0, s1, s2, s3, s4, s5, s6, s7, -⟩ := hSw
    go_simp
    try with_reducible rfl
  try simp only [Act.put, List.setIfInBounds_toArray, List.set_cons_zero, List.set_cons_succ]
  refine wpAnyH_take (i := 1) (oi := ⟨some 51, _, _, _, _, _⟩) (v := ?_) rfl (by decide +kernel) (by decide +kernel) (by decide +kernel) (fun _ _ _ h => h) (Or.inl ⟨by rfl, ?_⟩) hS ?_
  rotate_left 1
  · intro wS hSw
    obtain ⟨s0, s1, s2, s3, s4, s5, s6, s7, -⟩ := hSw
    go_simp
    try with_reducible rfl
  try simp only [Act.put, List.setIfInBounds_toArray, List.set_cons_zero, List.set_cons_succ]
  refine wpAnyH_take (i := 2) (oi := ⟨some 52, _, _, _, _, _⟩) (v := ?_) rfl (by decide +kernel) (by decide +kernel) (by decide +kernel) (fun _ _ _ h => h) (Or.inl ⟨by rfl, ?_⟩) hS ?_
  rotate_left 1
  · intro wS hSw
    obtain ⟨s0, s1, s2, s3, s4, s5, s6, s7, -⟩ := hSw
    go_simp
    try with_reducible rfl
  try simp only [Act.put, List.setIfInBounds_toArray, List.set_cons_zero, List.set_cons_succ]
  refine wpAnyH_take (i := 5) (oi := ⟨some 55, _, _, _, _, _⟩) (v := ?_) rfl (by decide +kernel) (by decide +kernel) (by decide +kernel) (fun _ _ _ h => h) (Or.inl ⟨by rfl, ?_⟩) hS ?_
  rotate_left 1
  · intro wS hSw
    obtain ⟨s0, s1, s2, s3, s4, s5, s6, s7, -⟩ := hSw
    go_simp
    try with_reducible rfl
  try simp only [Act.put, List.setIfInBounds_toArray, List.set_cons_zero, List.set_cons_succ]
  refine wpAnyH_take (i := 6) (oi := ⟨some 56, _, _, _, _, _⟩) (v := ?_) rfl (by decide +kernel) (by decide +kernel) (by decide +kernel) (fun _ _ _ h => h) (Or.inl ⟨by rfl, ?_⟩) hS ?_
  rotate_left 1
  · intro wS hSw
    obtain ⟨s0, s1, s2, s3, s4, s5, s6, s7, -⟩ := hSw
    go_simp
    try with_reducible rfl
  try simp only [Act.put, List.setIfInBounds_toArray, List.set_cons_zero, List.set_cons_succ]
  refine wpAnyH_take (i := 10) (oi := ⟨some 60, _, _, _, _, _⟩) (v := ?_) rfl (by decide +kernel) (by decide +kernel) (by decide +kernel) (fun _ _ _ h => h) (Or.inl ⟨by rfl, ?_⟩) hS ?_
  rotate_left 1
  · intro wS hSw
    obtain ⟨s0, s1, s2, s3, s4, s5, s6, s7, -⟩ := hSw
    go_simp
    try with_reducible rfl
  try simp only [Act.put, List.setIfInBounds_toArray, List.set_cons_zero, List.set_cons_succ]
  refine wpAnyH_take (i := 11) (oi := ⟨some 61, _, _, _, _, _⟩) (v := ?_) rfl (by decide +kernel) (by decide +kernel) (by decide +kernel) (fun _ _ _ h => h) (Or.inl ⟨by rfl, ?_⟩) hS ?_
  rotate_left 1
  · intro wS hSw
    obtain ⟨s0, s1, s2, s3, s4, s5, s6, s7, -⟩ := hSw
    go_simp
    try with_reducible rfl
  try simp only [Act.put, List.setIfInBounds_toArray, List.set_cons_zero, List.set_cons_succ]
  refine wpAnyH_ready (rs := [3]) (by decide +kernel) (by simp) ?_
  refine AllReadyH.cons (o := ⟨some 53, _, _, _, _, _⟩) rfl (fun K hK => ?_) AllReadyH.nil
  rw [if_pos (by rfl)]
  go_simp
  with_reducible refine (HC.out _).mono ?_
  rintro e w6 ⟨rfl, hb⟩
  refine hK.out _ _ (dos_of ((dos_w hS).next hb)) (fun hS => ?_)
  clear hK K hb
  try simp only [Act.put, List.setIfInBounds_toArray, List.set_cons_zero, List.set_cons_succ]
  refine wpAnyH_take (i := 4) (oi := ⟨some 54, _, _, _, _, _⟩) (v := ?_) rfl (by decide +kernel) (by decide +kernel) (by decide +kernel) (fun _ _ _ h => h) (Or.inl ⟨by rfl, ?_⟩) hS ?_
  rotate_left 1
  · intro wS hSw
    obtain ⟨s0, s1, s2, s3, s4, s5, s6, s7, -⟩ := hSw
    go_simp
    try with_reducible rfl
  try simp only [Act.put, List.setIfInBounds_toArray, List.set_cons_zero, List.set_cons_succ]
  refine wpAnyH_ready (rs := [7]) (by decide +kernel) (by simp) ?_
  refine AllReadyH.cons (o := ⟨some 57, _, _, _, _, _⟩) rfl (fun K hK => ?_) AllReadyH.nil
  rw [if_pos (by rfl)]
  go_simp
  with_reducible refine (HJ.out _).mono ?_
  rintro e w7 ⟨rfl, hb⟩
  refine hK.out _ _ (dos_of ((dos_w hS).next hb)) (fun hS => ?_)
  clear hK K hb
  try simp only [Act.put, List.setIfInBounds_toArray, List.set_cons_zero, List.set_cons_succ]
  refine wpAnyH_take (i := 8) (oi := ⟨some 58, _, _, _, _, _⟩) (v := ?_) rfl (by decide +kernel) (by decide +kernel) (by decide +kernel) (fun _ _ _ h => h) (Or.inl ⟨by rfl, ?_⟩) hS ?_
  rotate_left 1
  · intro wS hSw
    obtain ⟨s0, s1, s2, s3, s4, s5, s6, s7, -⟩ := hSw
    go_simp
    try with_reducible rfl
  try simp only [Act.put, List.setIfInBounds_toArray, List.set_cons_zero, List.set_cons_succ]
  refine wpAnyH_take (i := 9) (oi := ⟨some 59, _, _, _, _, _⟩) (v := ?_) rfl (by decide +kernel) (by decide +kernel) (by decide +kernel) (fun _ _ _ h => h) (Or.inl ⟨by rfl, ?_⟩) hS ?_
  rotate_left 1
  · intro wS hSw
    obtain ⟨s0, s1, s2, s3, s4, s5, s6, s7, -⟩ := hSw
    go_simp
    try with_reducible rfl
  try simp only [Act.put, List.setIfInBounds_toArray, List.set_cons_zero, List.set_cons_succ]
  refine wpAnyH_take (i := 12) (oi := ⟨some 62, _, _, _, _, _⟩) (v := ?_) rfl (by decide +kernel) (by decide +kernel) (by decide +kernel) (fun _ _ _ h => h) (Or.inl ⟨by rfl, ?_⟩) hS ?_
  rotate_left 1
  · intro wS hSw
    obtain ⟨s0, s1, s2, s3, s4, s5, s6, s7, -⟩ := hSw
    go_simp
    try with_reducible rfl
  try simp only [Act.put, List.setIfInBounds_toArray, List.set_cons_zero, List.set_cons_succ]
  refine wpAnyH_ready (rs := [13]) (by decide +kernel) (by simp) ?_
  refine AllReadyH.cons (o := ⟨none, _, _, _, _, _⟩) rfl (fun K hK => ?_) AllReadyH.nil
  rw [if_pos (by rfl)]
  have HP := Lib.hid (dos_w hS)
  obtain ⟨q, hq, qf⟩ := HP.out.qv
  have c0' := hq 0 (by decide); have c1' := hq 1 (by decide); have c2' := hq 2 (by decide); have c3' := hq 3 (by decide); have c4' := hq 4 (by decide)
  clear hq
  go_simp
  refine hK.out _ _ (dos_of (DoW.store HP.out _ _ _ _ _)) (fun hS => ?_)
  clear hK K c0' c1' c2' c3' c4' qf
  try simp only [Act.put, List.setIfInBounds_toArray, List.set_cons_zero, List.set_cons_succ]
  refine wpAnyH_done (by kernel_rfl) ?_ _
  clear hS
  go_wp2
  refine bodyPost_ret (rc_result Tryd.results7 (DoW.fin HP.out _ _ _ _ _).1 rfl) rfl ?_
  exact ⟨rfl, (DoW.fin HP.out _ _ _ _ _).2⟩
end
end Go.Proofs.YtnbhhnkcfbfdcaaDoor
