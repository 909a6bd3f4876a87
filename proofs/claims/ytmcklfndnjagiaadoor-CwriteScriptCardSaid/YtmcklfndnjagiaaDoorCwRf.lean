/- The document's writer (package truchmanref23): alone, content. -/
import Derived.Test.YtmcklfndnjagiaaDoorCwRc
import Derived.Test.YtmcklfndnjagiaaDoorChP
import Derived.Test.YtmcklfndnjagiaaDoorFoldB
import Derived.Test.YtmcklfndnjagiaaDoorLayC
import Derived.Deep.RegionWith
import Derived.Deep.Cut
import Derived.Deep.CutRange
namespace Go.Proofs.YtmcklfndnjagiaaDoor
open Go Go.RowKit
set_option linter.unusedVariables false

theorem two_boxes (w : World) (A : ByteArray) (v : Value) (er : Int) (o : WO) : StT ((w.alloc (.cells #[.string A, v, .int .i64 er] 29)).alloc (.cells (opC o) 32)) w.heap.size A v er ∧ OpT ((w.alloc (.cells #[.string A, v, .int .i64 er] 29)).alloc (.cells (opC o) 32)) (w.heap.size + 1) o ∧ Below w.heap.size w ((w.alloc (.cells #[.string A, v, .int .i64 er] 29)).alloc (.cells (opC o) 32)) := by
  have h1 := new_st w A v er
  have b1 := new_grow w (.cells #[.string A, v, .int .i64 er] 29)
  have h2 := new_op (w.alloc (.cells #[.string A, v, .int .i64 er] 29)) o
  have b2 := new_grow (w.alloc (.cells #[.string A, v, .int .i64 er] 29)) (.cells (opC o) 32)
  rw [World.size_alloc] at h2
  exact ⟨h1.below b2, h2, grown_then b1 b2⟩
theorem empty_bytes (l : List UInt8) : (bA l).toList.isEmpty = decide (l = []) := by rw [isEmpty_of, bA_size]; simp
set_option maxRecDepth 20000 in
theorem rwalone_sdeep (A : ByteArray) (a : Option Addr) (n cap : Nat) (er : Int) (o : WO) (w : World) (hk : o.k = 123) (h : 32 ≤ n) : Calls Tryd.prog 21 #[stV A (.slice a n cap) er, opV o] w fun e w' => e = .returned (.int .i64 33) ∧ Below w.heap.size w w' := by
  obtain ⟨k, id, nn, wh, bt, tx⟩ := o
  simp only at *
  subst hk
  obtain ⟨S0, O0, B0⟩ := two_boxes w A (.slice a n cap) er ⟨123, id, nn, wh, bt, tx⟩
  have d1 : decide ((n : Int) ≥ 32) = true := decide_eq_true (by omega)
  have d2 : decide ((32 : Int) ≤ (n : Int)) = true := decide_eq_true (by omega)
  have d3 : decide (32 ≤ n) = true := decide_eq_true h
  clear h
  unfold stV opV opC at *
  simp only at *
  have a1 := S0.c1
  obtain ⟨q0, q1, q2, q3, q4, q5⟩ := O0.c
  simp only at q0 q1 q2 q3 q4 q5
  have HB := Lib.hid B0
  have HO := Lib.hid O0
  clear S0 O0 B0
  go_enter Tryd.func21, Tryd.ntmps21
  go_upto_region 1 with fail
  generalize ((w.alloc (.cells #[.string A, .slice a n cap, .int .i64 er] 29)).alloc (.cells #[.int .u8 (((123 : Nat) : Int) : Int), .int .i64 id, .int .i64 nn, .int .u8 (wh : Nat), .int .u64 (bt : Nat), .string (bA tx)] 32)) = W at *
  go_wp2
  go_ret
  exact ⟨rfl, HB.out⟩
set_option maxRecDepth 20000 in
theorem rwalone_ldeep (A : ByteArray) (a : Option Addr) (n cap : Nat) (er : Int) (o : WO) (w : World) (hk : o.k = 91) (h : 32 ≤ n) : Calls Tryd.prog 21 #[stV A (.slice a n cap) er, opV o] w fun e w' => e = .returned (.int .i64 33) ∧ Below w.heap.size w w' := by
  obtain ⟨k, id, nn, wh, bt, tx⟩ := o
  simp only at *
  subst hk
  obtain ⟨S0, O0, B0⟩ := two_boxes w A (.slice a n cap) er ⟨91, id, nn, wh, bt, tx⟩
  have d1 : decide ((n : Int) ≥ 32) = true := decide_eq_true (by omega)
  have d2 : decide ((32 : Int) ≤ (n : Int)) = true := decide_eq_true (by omega)
  have d3 : decide (32 ≤ n) = true := decide_eq_true h
  clear h
  unfold stV opV opC at *
  simp only at *
  have a1 := S0.c1
  obtain ⟨q0, q1, q2, q3, q4, q5⟩ := O0.c
  simp only at q0 q1 q2 q3 q4 q5
  have HB := Lib.hid B0
  have HO := Lib.hid O0
  clear S0 O0 B0
  go_enter Tryd.func21, Tryd.ntmps21
  go_upto_region 1 with fail
  generalize ((w.alloc (.cells #[.string A, .slice a n cap, .int .i64 er] 29)).alloc (.cells #[.int .u8 (((91 : Nat) : Int) : Int), .int .i64 id, .int .i64 nn, .int .u8 (wh : Nat), .int .u64 (bt : Nat), .string (bA tx)] 32)) = W at *
  go_wp2
  go_ret
  exact ⟨rfl, HB.out⟩
set_option maxRecDepth 20000 in
theorem rwalone_str (A : ByteArray) (a : Option Addr) (n cap : Nat) (er : Int) (o : WO) (w : World) (hk : o.k = 123) (h : ¬ 32 ≤ n) : Calls Tryd.prog 21 #[stV A (.slice a n cap) er, opV o] w fun e w' => e = .returned (.int .i64 0) ∧ Below w.heap.size w w' := by
  obtain ⟨k, id, nn, wh, bt, tx⟩ := o
  simp only at *
  subst hk
  obtain ⟨S0, O0, B0⟩ := two_boxes w A (.slice a n cap) er ⟨123, id, nn, wh, bt, tx⟩
  have d1 : decide ((n : Int) ≥ 32) = false := decide_eq_false (by omega)
  have d2 : decide ((32 : Int) ≤ (n : Int)) = false := decide_eq_false (by omega)
  have d3 : decide (32 ≤ n) = false := decide_eq_false h
  clear h
  unfold stV opV opC at *
  simp only at *
  have a1 := S0.c1
  obtain ⟨q0, q1, q2, q3, q4, q5⟩ := O0.c
  simp only at q0 q1 q2 q3 q4 q5
  have HB := Lib.hid B0
  have HO := Lib.hid O0
  clear S0 O0 B0
  go_enter Tryd.func21, Tryd.ntmps21
  go_upto_region 1 with fail
  generalize ((w.alloc (.cells #[.string A, .slice a n cap, .int .i64 er] 29)).alloc (.cells #[.int .u8 (((123 : Nat) : Int) : Int), .int .i64 id, .int .i64 nn, .int .u8 (wh : Nat), .int .u64 (bt : Nat), .string (bA tx)] 32)) = W at *
  go_wp2
  go_ret
  exact ⟨rfl, HB.out⟩
set_option maxRecDepth 20000 in
theorem rwalone_lbad (A : ByteArray) (a : Option Addr) (n cap : Nat) (er : Int) (o : WO) (w : World) (hk : o.k = 91) (h : ¬ 32 ≤ n) (hL : (bA (lsB o.n o.wh)).toList.isEmpty = true) : Calls Tryd.prog 21 #[stV A (.slice a n cap) er, opV o] w fun e w' => e = .returned (.int .i64 4) ∧ Below w.heap.size w w' := by
  obtain ⟨k, id, nn, wh, bt, tx⟩ := o
  simp only at *
  subst hk
  obtain ⟨S0, O0, B0⟩ := two_boxes w A (.slice a n cap) er ⟨91, id, nn, wh, bt, tx⟩
  have d1 : decide ((n : Int) ≥ 32) = false := decide_eq_false (by omega)
  have d2 : decide ((32 : Int) ≤ (n : Int)) = false := decide_eq_false (by omega)
  have d3 : decide (32 ≤ n) = false := decide_eq_false h
  have HL := Lib.hid (fun w => rpl_any nn wh w)
  generalize bA (lsB nn wh) = T at *
  clear h
  unfold stV opV opC at *
  simp only at *
  have a1 := S0.c1
  obtain ⟨q0, q1, q2, q3, q4, q5⟩ := O0.c
  simp only at q0 q1 q2 q3 q4 q5
  have HB := Lib.hid B0
  have HO := Lib.hid O0
  clear S0 O0 B0
  go_enter Tryd.func21, Tryd.ntmps21
  go_upto_region 1 with fail
  generalize ((w.alloc (.cells #[.string A, .slice a n cap, .int .i64 er] 29)).alloc (.cells #[.int .u8 (((91 : Nat) : Int) : Int), .int .i64 id, .int .i64 nn, .int .u8 (wh : Nat), .int .u64 (bt : Nat), .string (bA tx)] 32)) = W at *
  go_wp2_with fail
  refine (HL.out _).mono ?_
  rintro e w1 ⟨rfl, hb⟩
  have HB1 := Lib.hid (grown_then HB.out hb)
  obtain ⟨r0, -⟩ := (HO.out.below hb).c
  simp only at r0
  clear hb
  go_wp2
  go_ret
  exact ⟨rfl, HB1.out⟩
set_option maxRecDepth 20000 in
theorem rwalone_lst (A : ByteArray) (a : Option Addr) (n cap : Nat) (er : Int) (o : WO) (w : World) (hk : o.k = 91) (h : ¬ 32 ≤ n) (hL : (bA (lsB o.n o.wh)).toList.isEmpty = false) : Calls Tryd.prog 21 #[stV A (.slice a n cap) er, opV o] w fun e w' => e = .returned (.int .i64 0) ∧ Below w.heap.size w w' := by
  obtain ⟨k, id, nn, wh, bt, tx⟩ := o
  simp only at *
  subst hk
  obtain ⟨S0, O0, B0⟩ := two_boxes w A (.slice a n cap) er ⟨91, id, nn, wh, bt, tx⟩
  have d1 : decide ((n : Int) ≥ 32) = false := decide_eq_false (by omega)
  have d2 : decide ((32 : Int) ≤ (n : Int)) = false := decide_eq_false (by omega)
  have d3 : decide (32 ≤ n) = false := decide_eq_false h
  have HL := Lib.hid (fun w => rpl_any nn wh w)
  generalize bA (lsB nn wh) = T at *
  clear h
  unfold stV opV opC at *
  simp only at *
  have a1 := S0.c1
  obtain ⟨q0, q1, q2, q3, q4, q5⟩ := O0.c
  simp only at q0 q1 q2 q3 q4 q5
  have HB := Lib.hid B0
  have HO := Lib.hid O0
  clear S0 O0 B0
  go_enter Tryd.func21, Tryd.ntmps21
  go_upto_region 1 with fail
  generalize ((w.alloc (.cells #[.string A, .slice a n cap, .int .i64 er] 29)).alloc (.cells #[.int .u8 (((91 : Nat) : Int) : Int), .int .i64 id, .int .i64 nn, .int .u8 (wh : Nat), .int .u64 (bt : Nat), .string (bA tx)] 32)) = W at *
  go_wp2_with fail
  refine (HL.out _).mono ?_
  rintro e w1 ⟨rfl, hb⟩
  have HB1 := Lib.hid (grown_then HB.out hb)
  obtain ⟨r0, -⟩ := (HO.out.below hb).c
  simp only at r0
  clear hb
  go_wp2
  go_ret
  exact ⟨rfl, HB1.out⟩
set_option maxRecDepth 20000 in
theorem rwalone_other (A : ByteArray) (a : Option Addr) (n cap : Nat) (er : Int) (o : WO) (w : World) (hk : ¬ o.k = 123 ∧ ¬ o.k = 91 ∧ ¬ o.k = 110)  : Calls Tryd.prog 21 #[stV A (.slice a n cap) er, opV o] w fun e w' => e = .returned (.int .i64 0) ∧ Below w.heap.size w w' := by
  obtain ⟨k, id, nn, wh, bt, tx⟩ := o
  simp only at *
  obtain ⟨k1, k2, k3⟩ := hk
  have j1 : ((k : Int) == 123) = false := beq_eq_false_iff_ne.mpr (by omega)
  have j2 : ((k : Int) == 91) = false := beq_eq_false_iff_ne.mpr (by omega)
  have j3 : ((k : Int) == 110) = false := beq_eq_false_iff_ne.mpr (by omega)
  obtain ⟨S0, O0, B0⟩ := two_boxes w A (.slice a n cap) er ⟨k, id, nn, wh, bt, tx⟩
  unfold stV opV opC at *
  simp only at *
  have a1 := S0.c1
  obtain ⟨q0, q1, q2, q3, q4, q5⟩ := O0.c
  simp only at q0 q1 q2 q3 q4 q5
  have HB := Lib.hid B0
  have HO := Lib.hid O0
  clear S0 O0 B0 k1 k2 k3
  go_enter Tryd.func21, Tryd.ntmps21
  go_upto_region 1 with fail
  generalize ((w.alloc (.cells #[.string A, .slice a n cap, .int .i64 er] 29)).alloc (.cells #[.int .u8 ((k : Nat) : Int), .int .i64 id, .int .i64 nn, .int .u8 (wh : Nat), .int .u64 (bt : Nat), .string (bA tx)] 32)) = W at *
  go_wp2
  go_ret
  exact ⟨rfl, HB.out⟩
set_option maxRecDepth 20000 in
theorem rwalone_kind (A : ByteArray) (a : Option Addr) (n cap : Nat) (er : Int) (o : WO) (w : World) (hk : o.k = 110) (h : wBits o.wh = 0) : Calls Tryd.prog 21 #[stV A (.slice a n cap) er, opV o] w fun e w' => e = .returned (.int .i64 7) ∧ Below w.heap.size w w' := by
  obtain ⟨k, id, nn, wh, bt, tx⟩ := o
  simp only at *
  subst hk
  obtain ⟨S0, O0, B0⟩ := two_boxes w A (.slice a n cap) er ⟨110, id, nn, wh, bt, tx⟩
  have HK := Lib.hid (fun w => rbits_any wh w)
  obtain ⟨v, hv⟩ : ∃ v, v = wBits wh := ⟨_, rfl⟩
  rw [← hv] at HK h
  subst h
  clear hv
  unfold stV opV opC at *
  simp only at *
  have a1 := S0.c1
  obtain ⟨q0, q1, q2, q3, q4, q5⟩ := O0.c
  simp only at q0 q1 q2 q3 q4 q5
  have HB := Lib.hid B0
  have HO := Lib.hid O0
  clear S0 O0 B0
  go_enter Tryd.func21, Tryd.ntmps21
  go_upto_region 1 with fail
  generalize ((w.alloc (.cells #[.string A, .slice a n cap, .int .i64 er] 29)).alloc (.cells #[.int .u8 (((110 : Nat) : Int) : Int), .int .i64 id, .int .i64 nn, .int .u8 (wh : Nat), .int .u64 (bt : Nat), .string (bA tx)] 32)) = W at *
  go_wp2_with fail
  refine (HK.out _).mono ?_
  rintro e w1 ⟨rfl, hw⟩
  rw [hw]; clear hw
  go_wp2
  go_ret
  exact ⟨rfl, HB.out⟩
set_option maxRecDepth 20000 in
theorem rwalone_who (A : ByteArray) (a : Option Addr) (n cap : Nat) (er : Int) (o : WO) (w : World) (hk : o.k = 110) (h : ¬ wBits o.wh = 0) (hn : -9223372036854775808 ≤ o.n ∧ o.n ≤ 9223372036854775807) : Calls Tryd.prog 21 #[stV A (.slice a n cap) er, opV o] w fun e w' => e = .returned (.int .i64 (fitC o.n (wBits o.wh))) ∧ Below w.heap.size w w' := by
  obtain ⟨k, id, nn, wh, bt, tx⟩ := o
  simp only at *
  subst hk
  obtain ⟨S0, O0, B0⟩ := two_boxes w A (.slice a n cap) er ⟨110, id, nn, wh, bt, tx⟩
  have HK := Lib.hid (fun w => rbits_any wh w)
  obtain ⟨v, hv⟩ : ∃ v, v = wBits wh := ⟨_, rfl⟩
  rw [← hv] at HK h
  rw [← hv]
  have HF := Lib.hid (fun w => rfit_any nn v w hn.1 hn.2)
  obtain ⟨c, hc⟩ : ∃ c, c = fitC nn v := ⟨_, rfl⟩
  obtain ⟨u, hu⟩ : ∃ u, u = fitU nn v := ⟨_, rfl⟩
  rw [← hc, ← hu] at HF
  rw [← hc]
  have p1 : (v == 0) = false := beq_eq_false_iff_ne.mpr h
  clear hv h hc hu hn
  unfold stV opV opC at *
  simp only at *
  have a1 := S0.c1
  obtain ⟨q0, q1, q2, q3, q4, q5⟩ := O0.c
  simp only at q0 q1 q2 q3 q4 q5
  have HB := Lib.hid B0
  have HO := Lib.hid O0
  clear S0 O0 B0
  go_enter Tryd.func21, Tryd.ntmps21
  go_upto_region 1 with fail
  generalize ((w.alloc (.cells #[.string A, .slice a n cap, .int .i64 er] 29)).alloc (.cells #[.int .u8 (((110 : Nat) : Int) : Int), .int .i64 id, .int .i64 nn, .int .u8 (wh : Nat), .int .u64 (bt : Nat), .string (bA tx)] 32)) = W at *
  go_wp2_with fail
  refine (HK.out _).mono ?_
  rintro e w1 ⟨rfl, hw⟩
  rw [hw]; clear hw
  go_wp2_with fail
  go_quiet (first | (go_at_call 48; exact Calls.quiet_of_same (HK.out _)) | (go_at_call 49; exact Calls.quiet_of_same (HF.out _)))
  go_wp2
  go_ret
  exact ⟨rfl, Below.drewN HB.out _⟩
theorem rwalone_any (s : WT) (a : Option Addr) (cap : Nat) (o : WO) (ho : OpOk o) (w : World) : Calls Tryd.prog 21 #[stV (bA s.out) (.slice a s.l.length cap) s.er, opV o] w fun e w' => e = .returned (.int .i64 (wAlone s o)) ∧ Below w.heap.size w w' := by
  unfold wAlone
  by_cases h1 : o.k = 123
  · by_cases h : 32 ≤ s.l.length
    · rw [if_pos ⟨.inl h1, h⟩]; exact rwalone_sdeep _ _ _ _ _ o w h1 h
    · rw [if_neg (fun e => h e.2), if_neg (by omega), if_neg (by omega)]; exact rwalone_str _ _ _ _ _ o w h1 h
  by_cases h2 : o.k = 91
  · by_cases h : 32 ≤ s.l.length
    · rw [if_pos ⟨.inr h2, h⟩]; exact rwalone_ldeep _ _ _ _ _ o w h2 h
    · rw [if_neg (fun e => h e.2)]
      cases hx : (cntB o.n && kB o.wh) with
      | false =>
        rw [if_pos ⟨h2, rfl⟩]
        refine rwalone_lbad _ _ _ _ _ o w h2 h ?_
        rw [empty_bytes]
        have := lsB_len o.n o.wh
        rw [hx] at this
        exact decide_eq_true (List.eq_nil_of_length_eq_zero (by have := of_decide_eq_false this; omega))
      | true =>
        rw [if_neg (fun e => by cases e.2), if_neg (by omega)]
        refine rwalone_lst _ _ _ _ _ o w h2 h ?_
        rw [empty_bytes]
        have := lsB_len o.n o.wh
        rw [hx] at this
        have := of_decide_eq_true this
        exact decide_eq_false (fun e => by rw [e] at this; simp at this)
  rw [if_neg (by omega), if_neg (by omega)]
  by_cases h3 : o.k = 110
  · rw [if_pos h3]
    by_cases h : wBits o.wh = 0
    · rw [if_pos h]; exact rwalone_kind _ _ _ _ _ o w h3 h
    · rw [if_neg h]; exact rwalone_who _ _ _ _ _ o w h3 h ⟨ho.2.1, ho.2.2.1⟩
  · rw [if_neg h3]; exact rwalone_other _ _ _ _ _ o w ⟨h1, h2, h3⟩
set_option maxRecDepth 20000 in
theorem rwcont_str (o : WO) (w : World) (hk : o.k = 123) (li : Bool)  : Calls Tryd.prog 28 #[opV o, .bool li] w fun e w' => e = .returned (.string (bA [])) ∧ Below w.heap.size w w' := by
  obtain ⟨k, id, nn, wh, bt, tx⟩ := o
  simp only at *
  subst hk
  have O0 := new_op w ⟨123, id, nn, wh, bt, tx⟩
  have B0 := new_grow w (.cells (opC ⟨123, id, nn, wh, bt, tx⟩) 32)
  unfold opV opC at *
  simp only at *
  obtain ⟨q0, q1, q2, q3, q4, q5⟩ := O0.c
  simp only at q0 q1 q2 q3 q4 q5
  have HB := Lib.hid B0
  have HO := Lib.hid O0
  clear O0 B0
  go_enter Tryd.func28, Tryd.ntmps28
  go_upto_region 1 with fail
  generalize hW : w.alloc (.cells #[.int .u8 ((123 : Nat) : Int), .int .i64 id, .int .i64 nn, .int .u8 (wh : Nat), .int .u64 (bt : Nat), .string (bA tx)] 32) = W at *
  clear hW
  go_wp2
  go_ret
  exact ⟨rfl, HB.out⟩
set_option maxRecDepth 20000 in
theorem rwcont_lst (o : WO) (w : World) (hk : o.k = 91) (li : Bool)  : Calls Tryd.prog 28 #[opV o, .bool li] w fun e w' => e = .returned (.string (bA (lsB o.n o.wh))) ∧ Below w.heap.size w w' := by
  obtain ⟨k, id, nn, wh, bt, tx⟩ := o
  simp only at *
  subst hk
  have O0 := new_op w ⟨91, id, nn, wh, bt, tx⟩
  have B0 := new_grow w (.cells (opC ⟨91, id, nn, wh, bt, tx⟩) 32)
  have HL := Lib.hid (fun w => rpl_any nn wh w)
  generalize bA (lsB nn wh) = T at *
  unfold opV opC at *
  simp only at *
  obtain ⟨q0, q1, q2, q3, q4, q5⟩ := O0.c
  simp only at q0 q1 q2 q3 q4 q5
  have HB := Lib.hid B0
  have HO := Lib.hid O0
  clear O0 B0
  go_enter Tryd.func28, Tryd.ntmps28
  go_upto_region 1 with fail
  generalize hW : w.alloc (.cells #[.int .u8 ((91 : Nat) : Int), .int .i64 id, .int .i64 nn, .int .u8 (wh : Nat), .int .u64 (bt : Nat), .string (bA tx)] 32) = W at *
  clear hW
  go_wp2_with fail
  refine (HL.out _).mono ?_
  rintro e w1 ⟨rfl, hb⟩
  have HB1 := Lib.hid (grown_then HB.out hb)
  clear hb
  go_wp2
  go_ret
  exact ⟨rfl, HB1.out⟩
set_option maxRecDepth 20000 in
theorem rwcont_flgn (o : WO) (w : World) (hk : o.k = 102)  : Calls Tryd.prog 28 #[opV o, .bool false] w fun e w' => e = .returned (.string (bA [])) ∧ Below w.heap.size w w' := by
  obtain ⟨k, id, nn, wh, bt, tx⟩ := o
  simp only at *
  subst hk
  have O0 := new_op w ⟨102, id, nn, wh, bt, tx⟩
  have B0 := new_grow w (.cells (opC ⟨102, id, nn, wh, bt, tx⟩) 32)
  unfold opV opC at *
  simp only at *
  obtain ⟨q0, q1, q2, q3, q4, q5⟩ := O0.c
  simp only at q0 q1 q2 q3 q4 q5
  have HB := Lib.hid B0
  have HO := Lib.hid O0
  clear O0 B0
  go_enter Tryd.func28, Tryd.ntmps28
  go_upto_region 1 with fail
  generalize hW : w.alloc (.cells #[.int .u8 ((102 : Nat) : Int), .int .i64 id, .int .i64 nn, .int .u8 (wh : Nat), .int .u64 (bt : Nat), .string (bA tx)] 32) = W at *
  clear hW
  go_wp2
  go_ret
  exact ⟨rfl, HB.out⟩
set_option maxRecDepth 20000 in
theorem rwcont_flgy (o : WO) (w : World) (hk : o.k = 102) (b : UInt8) (hb : b = UInt8.ofNat (oKd o)) : Calls Tryd.prog 28 #[opV o, .bool true] w fun e w' => e = .returned (.string (bA [b])) ∧ Below w.heap.size w w' := by
  obtain ⟨k, id, nn, wh, bt, tx⟩ := o
  simp only at *
  subst hk
  have O0 := new_op w ⟨102, id, nn, wh, bt, tx⟩
  have B0 := new_grow w (.cells (opC ⟨102, id, nn, wh, bt, tx⟩) 32)
  have hk8 : oKd ⟨102, id, nn, wh, bt, tx⟩ < 256 := by unfold oKd; simp; split <;> decide
  have HK := Lib.hid (fun w => rkind_any ⟨102, id, nn, wh, bt, tx⟩ (.inr (.inr (.inl rfl))) w)
  obtain ⟨K, hK⟩ : ∃ K, K = oKd ⟨102, id, nn, wh, bt, tx⟩ := ⟨_, rfl⟩
  rw [← hK] at HK hb hk8
  have hz : (K : Int) = (b.toNat : Int) := by rw [hb, toNat_ofNat8 hk8]
  have hone := Lib.hid (fun w => text_one Tryd.prog 52 5 9 w (K : Int) b hz Tryd.underlying52 Tryd.underlying5 Tryd.underlying9)
  clear hz hb hk8 hK
  unfold opV opC at *
  simp only at *
  obtain ⟨q0, q1, q2, q3, q4, q5⟩ := O0.c
  simp only at q0 q1 q2 q3 q4 q5
  have HB := Lib.hid B0
  have HO := Lib.hid O0
  clear O0 B0
  go_enter Tryd.func28, Tryd.ntmps28
  go_upto_region 1 with fail
  generalize hW : w.alloc (.cells #[.int .u8 ((102 : Nat) : Int), .int .i64 id, .int .i64 nn, .int .u8 (wh : Nat), .int .u64 (bt : Nat), .string (bA tx)] 32) = W at *
  clear hW
  go_wp2_with fail
  refine (HK.out _).mono ?_
  rintro e w1 ⟨rfl, hb⟩
  have HB1 := Lib.hid (grown_then HB.out hb)
  clear hb
  go_wp2_with fail
  rw [hone.out]
  have HB2 := Lib.hid (grown_then HB1.out (new_grow w1 (.cells #[.int .u8 (K : Int)] 5)))
  go_wp2
  go_ret
  exact ⟨rfl, HB2.out⟩
set_option maxRecDepth 20000 in
theorem rwcont_byte (o : WO) (w : World) (hk : o.k = 110) (li : Bool) (h3 : o.wh = 3) (hn : -9223372036854775808 ≤ o.n ∧ o.n ≤ 9223372036854775807) (hf : fitC o.n 8 = 0) (b : UInt8) (hb : b = UInt8.ofNat (o.n % 256).toNat) : Calls Tryd.prog 28 #[opV o, .bool li] w fun e w' => e = .returned (.string (bA [b])) ∧ Below w.heap.size w w' := by
  obtain ⟨k, id, nn, wh, bt, tx⟩ := o
  simp only at *
  subst hk
  have O0 := new_op w ⟨110, id, nn, wh, bt, tx⟩
  have B0 := new_grow w (.cells (opC ⟨110, id, nn, wh, bt, tx⟩) 32)
  have p3 : ((wh : Int) == 3) = true := by rw [h3]; rfl
  have HF := Lib.hid (fun w => rfit_any nn 8 w hn.1 hn.2)
  have hu : fitU nn 8 = nn % 256 := by unfold fitU; rw [if_pos hf]; rfl
  rw [hf, hu] at HF
  obtain ⟨u, hu2⟩ : ∃ u, u = nn % 256 := ⟨_, rfl⟩
  have hur : 0 ≤ u ∧ u < 256 := by omega
  rw [← hu2] at HF hb
  have hz : u = (b.toNat : Int) := by rw [hb, toNat_ofNat8 (by omega)]; omega
  have e8 : IntKind.u8.wrap u = u := IntWalk.u8_in _ (by omega)
  have hone := Lib.hid (fun w => text_one Tryd.prog 52 5 9 w u b hz Tryd.underlying52 Tryd.underlying5 Tryd.underlying9)
  clear hz hb hur hu2 hu hf hn h3
  unfold opV opC at *
  simp only at *
  obtain ⟨q0, q1, q2, q3, q4, q5⟩ := O0.c
  simp only at q0 q1 q2 q3 q4 q5
  have HB := Lib.hid B0
  have HO := Lib.hid O0
  clear O0 B0
  go_enter Tryd.func28, Tryd.ntmps28
  go_upto_region 1 with fail
  generalize hW : w.alloc (.cells #[.int .u8 ((110 : Nat) : Int), .int .i64 id, .int .i64 nn, .int .u8 (wh : Nat), .int .u64 (bt : Nat), .string (bA tx)] 32) = W at *
  clear hW
  go_wp2_with fail
  refine (HF.out _).mono ?_
  rintro e w1 ⟨rfl, hw⟩
  rw [hw]; clear hw
  go_wp2_with fail
  rw [hone.out]
  have HB2 := Lib.hid (grown_then HB.out (new_grow W (.cells #[.int .u8 u] 5)))
  go_wp2
  go_ret
  exact ⟨rfl, HB2.out⟩
set_option maxRecDepth 20000 in
theorem rwcont_who (o : WO) (w : World) (hk : o.k = 110) (li : Bool) (h3 : ¬ o.wh = 3) (hn : -9223372036854775808 ≤ o.n ∧ o.n ≤ 9223372036854775807) : Calls Tryd.prog 28 #[opV o, .bool li] w fun e w' => e = .returned (.string (bA (vB (zigI o.n).toNat))) ∧ Below w.heap.size w w' := by
  obtain ⟨k, id, nn, wh, bt, tx⟩ := o
  simp only at *
  subst hk
  have O0 := new_op w ⟨110, id, nn, wh, bt, tx⟩
  have B0 := new_grow w (.cells (opC ⟨110, id, nn, wh, bt, tx⟩) 32)
  have hzr : 0 ≤ zigI nn ∧ zigI nn < 18446744073709551616 := by unfold zigI; split <;> omega
  obtain ⟨z, hz⟩ : ∃ z : Nat, zigI nn = (z : Int) := ⟨(zigI nn).toNat, by omega⟩
  have HG := Lib.hid (fun w => rzig_any nn w hn.1 hn.2)
  rw [hz] at HG ⊢
  have HP := Lib.hid (fun w => rput_any 10 z w (by omega) (by omega))
  have p3 : ((wh : Int) == 3) = false := beq_eq_false_iff_ne.mpr (by omega)
  rw [show ((z : Int).toNat) = z from rfl]
  generalize bA (vB z) = T at *
  clear hz hzr hn h3
  unfold opV opC at *
  simp only at *
  obtain ⟨q0, q1, q2, q3, q4, q5⟩ := O0.c
  simp only at q0 q1 q2 q3 q4 q5
  have HB := Lib.hid B0
  have HO := Lib.hid O0
  clear O0 B0
  go_enter Tryd.func28, Tryd.ntmps28
  go_upto_region 1 with fail
  generalize hW : w.alloc (.cells #[.int .u8 ((110 : Nat) : Int), .int .i64 id, .int .i64 nn, .int .u8 (wh : Nat), .int .u64 (bt : Nat), .string (bA tx)] 32) = W at *
  clear hW
  go_wp2_with fail
  refine (HG.out _).mono ?_
  rintro e w1 ⟨rfl, hw⟩
  rw [hw]; clear hw
  go_wp2_with fail
  refine (HP.out _).mono ?_
  rintro e w2 ⟨rfl, hb⟩
  have HB1 := Lib.hid (grown_then HB.out hb)
  clear hb
  go_wp2
  go_ret
  exact ⟨rfl, HB1.out⟩
set_option maxRecDepth 20000 in
theorem rwcont_dbl (o : WO) (w : World) (hk : o.k = 100) (li : Bool) (hu : o.bt < 18446744073709551616) : Calls Tryd.prog 28 #[opV o, .bool li] w fun e w' => e = .returned (.string (bA (lowL o.bt 8))) ∧ Below w.heap.size w w' := by
  obtain ⟨k, id, nn, wh, bt, tx⟩ := o
  simp only at *
  subst hk
  have O0 := new_op w ⟨100, id, nn, wh, bt, tx⟩
  have B0 := new_grow w (.cells (opC ⟨100, id, nn, wh, bt, tx⟩) 32)
  have HP := Lib.hid (fun w => rlow_any bt 8 w hu (by decide))
  generalize bA (lowL bt 8) = T at *
  clear hu
  unfold opV opC at *
  simp only at *
  obtain ⟨q0, q1, q2, q3, q4, q5⟩ := O0.c
  simp only at q0 q1 q2 q3 q4 q5
  have HB := Lib.hid B0
  have HO := Lib.hid O0
  clear O0 B0
  go_enter Tryd.func28, Tryd.ntmps28
  go_upto_region 1 with fail
  generalize hW : w.alloc (.cells #[.int .u8 ((100 : Nat) : Int), .int .i64 id, .int .i64 nn, .int .u8 (wh : Nat), .int .u64 (bt : Nat), .string (bA tx)] 32) = W at *
  clear hW
  go_wp2_with fail
  refine (HP.out _).mono ?_
  rintro e w1 ⟨rfl, hb⟩
  have HB1 := Lib.hid (grown_then HB.out hb)
  clear hb
  go_wp2
  go_ret
  exact ⟨rfl, HB1.out⟩
set_option maxRecDepth 20000 in
theorem rwcont_txt (o : WO) (w : World) (hk : o.k = 115) (li : Bool) (ht : o.tx.length ≤ 1099511627776) : Calls Tryd.prog 28 #[opV o, .bool li] w fun e w' => e = .returned (.string (bA (vB o.tx.length ++ o.tx))) ∧ Below w.heap.size w w' := by
  obtain ⟨k, id, nn, wh, bt, tx⟩ := o
  simp only at *
  subst hk
  have O0 := new_op w ⟨115, id, nn, wh, bt, tx⟩
  have B0 := new_grow w (.cells (opC ⟨115, id, nn, wh, bt, tx⟩) 32)
  have hz : (bA tx).size = tx.length := bA_size _
  have zt : IntKind.u64.wrap ((bA tx).size : Int) = ((bA tx).size : Int) := IntWalk.u64_in _ (by omega)
  have HP := Lib.hid (fun w => rput_any 10 (bA tx).size w (by omega) (by omega))
  rw [← bA_append, ← hz]
  have hP : (bA (vB (bA tx).size)).size ≤ 10 := by rw [bA_size]; exact vB_le10 (by omega)
  have l1 : ¬ 9223372036854775807 < (bA (vB (bA tx).size)).size + (bA tx).size := by omega
  generalize bA (vB (bA tx).size) = T at *
  clear hz ht hP
  unfold opV opC at *
  simp only at *
  obtain ⟨q0, q1, q2, q3, q4, q5⟩ := O0.c
  simp only at q0 q1 q2 q3 q4 q5
  have HB := Lib.hid B0
  have HO := Lib.hid O0
  clear O0 B0
  go_enter Tryd.func28, Tryd.ntmps28
  go_upto_region 1 with fail
  generalize hW : w.alloc (.cells #[.int .u8 ((115 : Nat) : Int), .int .i64 id, .int .i64 nn, .int .u8 (wh : Nat), .int .u64 (bt : Nat), .string (bA tx)] 32) = W at *
  clear hW
  go_wp2_with fail
  go_cut [4] from 59 to 66 (fun q wx => q = .string (T ++ bA tx) ∧ Below W.heap.size W wx)
  case first =>
    go_region_with (first | (go_at_call 53; (with_reducible refine (HP.out _).mono ?_); rintro e w2 ⟨rfl, hb⟩; have r5 := ((show OpT W.drew w.heap.size ⟨115, id, nn, wh, bt, tx⟩ from HO.out).below hb).c.2.2.2.2.2; simp only at r5; have HB2 := Lib.hid hb; clear hb))
    all_goals go_wp2
    all_goals go_meet
    all_goals (case rel => exact ⟨rfl, by first | exact HB2.out | exact Below.drewN HB2.out _ | exact (Below.drewN (Below.refl _ _) 1).trans HB2.out⟩)
  case rest =>
    obtain ⟨rfl, hb⟩ := hcut
    have HB3 := Lib.hid (grown_then HB.out hb)
    clear hb
    go_wp2
    go_ret
    exact ⟨rfl, HB3.out⟩
end Go.Proofs.YtmcklfndnjagiaaDoor
