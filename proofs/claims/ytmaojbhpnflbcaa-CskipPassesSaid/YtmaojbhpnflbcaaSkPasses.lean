/- CskipPasses, walked. -/
import Derived.Test.YtmaojbhpnflbcaaSkWork
import Derived.Test.YtmaojbhpnflbcaaSkV
import Derived.Deep.QuietTactic
import Derived.BigQuiet
namespace Go.Proofs.Ytmaojbhpnflbcaa
open Go Go.RowKit
set_option linter.unusedVariables false

theorem bel_alloc (w : World) (o : Obj) : Below w.heap.size w (w.alloc o) := (Below.refl _ _).alloc (Nat.le_refl _) _
theorem skp_out (s : ByteArray) (k : Nat) (deep : Int) (w : World) (h : 300 < s.size ∨ deep < 0 ∨ 100 < deep) :
    Calls Try.prog 3 #[.string s, .int .u8 (k : Nat), .int .i64 deep] w fun e w' => e = .returned (.bool true) ∧ Below w.heap.size w w' := by
  by_cases h1 : 300 < s.size
  · have p1 : decide ((300 : Int) < (s.size : Int)) = true := decide_eq_true (by omega)
    have p1' : decide (300 < s.size) = true := decide_eq_true h1
    clear h
    go_enter Try.func3, Try.ntmps3
    go_wp2_with ((with_reducible refine (works21_any _).mono ?_); rintro e w2 ⟨rfl, hbel2⟩)
    go_ret
    exact ⟨rfl, hbel2⟩
  · have p1 : decide ((300 : Int) < (s.size : Int)) = false := decide_eq_false (by omega)
    have p1' : decide (300 < s.size) = false := decide_eq_false h1
    by_cases h2 : deep < 0
    · have p2 : decide (deep < 0) = true := decide_eq_true h2
      clear h
      go_enter Try.func3, Try.ntmps3
      go_wp2_with ((with_reducible refine (works21_any _).mono ?_); rintro e w2 ⟨rfl, hbel2⟩)
      go_ret
      exact ⟨rfl, hbel2⟩
    · have p2 : decide (deep < 0) = false := decide_eq_false h2
      have p3 : decide (100 < deep) = true := decide_eq_true (by omega)
      clear h
      go_enter Try.func3, Try.ntmps3
      go_wp2_with ((with_reducible refine (works21_any _).mono ?_); rintro e w2 ⟨rfl, hbel2⟩)
      go_ret
      exact ⟨rfl, hbel2⟩
set_option maxRecDepth 100000 in
set_option maxHeartbeats 4000000 in
theorem skp_tt (s : ByteArray) (k : Nat) (deep : Int) (w : World) (hk : k < 256) (h1 : s.size ≤ 300) (h2 : 0 ≤ deep) (h3 : deep ≤ 100) (hAe : (valTo (inTo (32 - deep).toNat) k (CS.new s)).er = 0) (hBe : (inTo (32 - deep).toNat k (CS.new s)).er = 0) :
    Calls Try.prog 3 #[.string s, .int .u8 (k : Nat), .int .i64 deep] w fun e w' => e = .returned (.bool true) ∧ Below w.heap.size w w' := by
  have p1 : decide ((300 : Int) < (s.size : Int)) = false := decide_eq_false (by omega)
  have p1' : decide (300 < s.size) = false := decide_eq_false (by omega)
  have p2 : decide (deep < 0) = false := decide_eq_false (by omega)
  have p3 : decide (100 < deep) = false := decide_eq_false (by omega)
  have hok := CS.new_ok (s := s) (by omega)
  obtain ⟨A, hA⟩ : ∃ A, A = valTo (inTo (32 - deep).toNat) k (CS.new s) := ⟨_, rfl⟩
  obtain ⟨B, hB⟩ : ∃ B, B = inTo (32 - deep).toNat k (CS.new s) := ⟨_, rfl⟩
  have HVa0 := (fun b w (h : CurT 37 w b (CS.new s)) => skip_value k deep h2 hk h hok)
  have HVb0 := (fun b w (h : CurT 37 w b (CS.new s)) => skip_inner k deep h2 hk h hok)
  have HRa0 := (fun w => rvalue_any _ deep h2 rfl k (CS.new s) (CS.new s) w hk (Alike.refl hok) (by show s.size ≤ _; omega))
  have HRb0 := (fun w => rinner_of (rvalue_any _ deep h2 rfl) k (CS.new s) (CS.new s) w hk (Alike.refl hok) (by show s.size ≤ _; omega))
  rw [← hA] at HVa0 HRa0 hAe
  rw [← hB] at HVb0 HRb0 hBe
  have HAE := Lib.hid hAe
  have HBE := Lib.hid hBe
  have HVa := Lib.hid HVa0
  have HVb := Lib.hid HVb0
  have HRa := Lib.hid HRa0
  have HRb := Lib.hid HRb0
  clear hA hB hok hk h2 h3 hAe hBe HVa0 HVb0 HRa0 HRb0
  go_enter Try.func3, Try.ntmps3
  go_wp2_with fail
  refine (new_cur s _ (by omega)).mono ?_
  rintro e w1 ⟨a, rfl, ha, a1, B1⟩
  go_wp2_with fail
  refine (new_cur s _ (by omega)).mono ?_
  rintro e w2 ⟨b, rfl, hb, b2, k2⟩
  have a2 := Below.cur k2 a1 a1.lt
  have B2 := grown_then B1 k2
  have hab : a ≠ b := by have := a1.lt; omega
  have hb2 : w.heap.size ≤ b := by have := B1.size; omega
  clear a1 k2 B1 hb
  go_wp2_with fail
  with_reducible refine (HVa.out _ _ a2).mono ?_
  rintro e w3 ⟨rfl, a3, o3⟩
  have b3 := o3.cur b2 hab.symm
  have B3 := B2.trans (o3.below ha B2.size)
  clear a2 b2 o3 B2
  go_wp2_with fail
  with_reducible refine (HVb.out _ _ b3).mono ?_
  rintro e w4 ⟨rfl, b4, o4⟩
  have a4 := o4.cur a3 hab
  have B4 := B3.trans (o4.below hb2 B3.size)
  clear a3 b3 o4 B3
  go_wp2_with fail
  refine (ref_new s _ (by omega)).mono ?_
  rintro e w5 ⟨rfl, k5⟩
  have a5 := Below.cur k5 a4 a4.lt
  have b5 := Below.cur k5 b4 b4.lt
  have B5 := grown_then B4 k5
  clear a4 b4 k5 B4
  go_wp2_with fail
  refine (HRa.out _).mono ?_
  rintro e w6 ⟨v, rfl, hv, -, k6⟩
  have a6 := Below.cur k6 a5 a5.lt
  have b6 := Below.cur k6 b5 b5.lt
  have B6 := grown_then B5 k6
  clear a5 b5 k6 B5
  go_wp2_with fail
  refine (ref_new s _ (by omega)).mono ?_
  rintro e w7 ⟨rfl, k7⟩
  have a7 := Below.cur k7 a6 a6.lt
  have b7 := Below.cur k7 b6 b6.lt
  have B7 := grown_then B6 k7
  clear a6 b6 k7 B6
  go_wp2_with fail
  refine (HRb.out _).mono ?_
  rintro e w8 ⟨y, rfl, hy, -, k8⟩
  have a8 := Below.cur k8 a7 a7.lt
  have b8 := Below.cur k8 b7 b7.lt
  have B8 := grown_then B7 k8
  clear a7 b7 k8 B7
  go_wp2_with fail
  have q9 := cur_alloc (w := w8) (c := v) 28
  have q10 := Below.cur (bel_alloc (w8.alloc (.cells #[.string v.s, .int .i64 v.at_, .int .i64 v.en, .int .i64 v.er] 28)) (.cells #[.string y.s, .int .i64 y.at_, .int .i64 y.en, .int .i64 y.er] 28)) q9 q9.lt
  have r10 := cur_alloc (w := w8.alloc (.cells #[.string v.s, .int .i64 v.at_, .int .i64 v.en, .int .i64 v.er] 28)) (c := y) 28
  have K10 := (bel_alloc w8 (.cells #[.string v.s, .int .i64 v.at_, .int .i64 v.en, .int .i64 v.er] 28)).trans ((bel_alloc (w8.alloc (.cells #[.string v.s, .int .i64 v.at_, .int .i64 v.en, .int .i64 v.er] 28)) (.cells #[.string y.s, .int .i64 y.at_, .int .i64 y.en, .int .i64 y.er] 28)).mono (by simp))
  have a10 := Below.cur K10 a8 a8.lt
  have b10 := Below.cur K10 b8 b8.lt
  have B10 := Lib.hid (grown_then B8 K10)
  clear a8 b8 B8 q9 K10
  obtain ⟨w10, hw10⟩ : ∃ W, W = ((w8.alloc (.cells #[.string v.s, .int .i64 v.at_, .int .i64 v.en, .int .i64 v.er] 28)).alloc (.cells #[.string y.s, .int .i64 y.at_, .int .i64 y.en, .int .i64 y.er] 28)) := ⟨_, rfl⟩
  rw [← hw10] at q10 r10 a10 b10 B10 ⊢
  have hsz : (w8.alloc (.cells #[.string v.s, .int .i64 v.at_, .int .i64 v.en, .int .i64 v.er] 28)).heap.size = w8.heap.size + 1 := by simp
  rw [hsz] at r10
  clear hw10 hsz
  have c1 := q10.c1; have c3 := q10.c3
  have d1 := r10.c1; have d3 := r10.c3
  have hva := hv.2.2.1
  have hyb := hy.2.2.1
  have HEa := Lib.hid (fun n => err_any (w := w10.drewN n) (a10.drewN n))
  have HEb := Lib.hid (fun n => err_any (w := w10.drewN n) (b10.drewN n))
  have HAa := Lib.hid (fun n => at_any (w := w10.drewN n) (a10.drewN n) hv.1)
  have HAb := Lib.hid (fun n => at_any (w := w10.drewN n) (b10.drewN n) hy.1)
  rw [hva] at HEa
  rw [hyb] at HEb
  have n1 : (v.er != v.er) = false := by simp
  have n2 : (y.er != y.er) = false := by simp
  have e1 : v.er = 0 := by rw [← hva]; exact HAE.out
  have e2 : y.er = 0 := by rw [← hyb]; exact HBE.out
  have hAv : A = v := hv.2.2.2.1 (hva.trans e1)
  rw [hAv] at HAa
  have g1 : (v.er == 0) = true := by rw [e1]; rfl
  have n3 : ((v.at_ : Int) != (v.at_ : Int)) = false := by simp
  have n3' : (v.at_ != v.at_) = false := by simp
  have hBy : B = y := hy.2.2.2.1 (hyb.trans e2)
  rw [hBy] at HAb
  have g2 : (y.er == 0) = true := by rw [e2]; rfl
  have n4 : ((y.at_ : Int) != (y.at_ : Int)) = false := by simp
  have n4' : (y.at_ != y.at_) = false := by simp
  clear e1 e2 hAv hBy hv hy hva hyb a10 b10 q10 r10 HVa HVb HRa HRb p1 p1' p2 p3 ha hb2 hab h1 HAE HBE
  go_quiet (first | (go_at_call 13; with_reducible exact Calls.quiet_of_same (HEa.out _)) | (go_at_call 13; with_reducible exact Calls.quiet_of_same (HEb.out _)) | (go_at_call 14; with_reducible exact Calls.quiet_of_same (HAa.out _)) | (go_at_call 14; with_reducible exact Calls.quiet_of_same (HAb.out _)))
  go_wp2_with fail
  refine (works21_any _).mono ?_
  rintro e w11 ⟨rfl, k11⟩
  go_wp2
  go_ret
  exact ⟨rfl, grown_then (Below.drewN B10.out _) k11⟩
set_option maxRecDepth 100000 in
set_option maxHeartbeats 4000000 in
theorem skp_tf (s : ByteArray) (k : Nat) (deep : Int) (w : World) (hk : k < 256) (h1 : s.size ≤ 300) (h2 : 0 ≤ deep) (h3 : deep ≤ 100) (hAe : (valTo (inTo (32 - deep).toNat) k (CS.new s)).er = 0) (hBe : ¬ (inTo (32 - deep).toNat k (CS.new s)).er = 0) :
    Calls Try.prog 3 #[.string s, .int .u8 (k : Nat), .int .i64 deep] w fun e w' => e = .returned (.bool true) ∧ Below w.heap.size w w' := by
  have p1 : decide ((300 : Int) < (s.size : Int)) = false := decide_eq_false (by omega)
  have p1' : decide (300 < s.size) = false := decide_eq_false (by omega)
  have p2 : decide (deep < 0) = false := decide_eq_false (by omega)
  have p3 : decide (100 < deep) = false := decide_eq_false (by omega)
  have hok := CS.new_ok (s := s) (by omega)
  obtain ⟨A, hA⟩ : ∃ A, A = valTo (inTo (32 - deep).toNat) k (CS.new s) := ⟨_, rfl⟩
  obtain ⟨B, hB⟩ : ∃ B, B = inTo (32 - deep).toNat k (CS.new s) := ⟨_, rfl⟩
  have HVa0 := (fun b w (h : CurT 37 w b (CS.new s)) => skip_value k deep h2 hk h hok)
  have HVb0 := (fun b w (h : CurT 37 w b (CS.new s)) => skip_inner k deep h2 hk h hok)
  have HRa0 := (fun w => rvalue_any _ deep h2 rfl k (CS.new s) (CS.new s) w hk (Alike.refl hok) (by show s.size ≤ _; omega))
  have HRb0 := (fun w => rinner_of (rvalue_any _ deep h2 rfl) k (CS.new s) (CS.new s) w hk (Alike.refl hok) (by show s.size ≤ _; omega))
  rw [← hA] at HVa0 HRa0 hAe
  rw [← hB] at HVb0 HRb0 hBe
  have HAE := Lib.hid hAe
  have HBE := Lib.hid hBe
  have HVa := Lib.hid HVa0
  have HVb := Lib.hid HVb0
  have HRa := Lib.hid HRa0
  have HRb := Lib.hid HRb0
  clear hA hB hok hk h2 h3 hAe hBe HVa0 HVb0 HRa0 HRb0
  go_enter Try.func3, Try.ntmps3
  go_wp2_with fail
  refine (new_cur s _ (by omega)).mono ?_
  rintro e w1 ⟨a, rfl, ha, a1, B1⟩
  go_wp2_with fail
  refine (new_cur s _ (by omega)).mono ?_
  rintro e w2 ⟨b, rfl, hb, b2, k2⟩
  have a2 := Below.cur k2 a1 a1.lt
  have B2 := grown_then B1 k2
  have hab : a ≠ b := by have := a1.lt; omega
  have hb2 : w.heap.size ≤ b := by have := B1.size; omega
  clear a1 k2 B1 hb
  go_wp2_with fail
  with_reducible refine (HVa.out _ _ a2).mono ?_
  rintro e w3 ⟨rfl, a3, o3⟩
  have b3 := o3.cur b2 hab.symm
  have B3 := B2.trans (o3.below ha B2.size)
  clear a2 b2 o3 B2
  go_wp2_with fail
  with_reducible refine (HVb.out _ _ b3).mono ?_
  rintro e w4 ⟨rfl, b4, o4⟩
  have a4 := o4.cur a3 hab
  have B4 := B3.trans (o4.below hb2 B3.size)
  clear a3 b3 o4 B3
  go_wp2_with fail
  refine (ref_new s _ (by omega)).mono ?_
  rintro e w5 ⟨rfl, k5⟩
  have a5 := Below.cur k5 a4 a4.lt
  have b5 := Below.cur k5 b4 b4.lt
  have B5 := grown_then B4 k5
  clear a4 b4 k5 B4
  go_wp2_with fail
  refine (HRa.out _).mono ?_
  rintro e w6 ⟨v, rfl, hv, -, k6⟩
  have a6 := Below.cur k6 a5 a5.lt
  have b6 := Below.cur k6 b5 b5.lt
  have B6 := grown_then B5 k6
  clear a5 b5 k6 B5
  go_wp2_with fail
  refine (ref_new s _ (by omega)).mono ?_
  rintro e w7 ⟨rfl, k7⟩
  have a7 := Below.cur k7 a6 a6.lt
  have b7 := Below.cur k7 b6 b6.lt
  have B7 := grown_then B6 k7
  clear a6 b6 k7 B6
  go_wp2_with fail
  refine (HRb.out _).mono ?_
  rintro e w8 ⟨y, rfl, hy, -, k8⟩
  have a8 := Below.cur k8 a7 a7.lt
  have b8 := Below.cur k8 b7 b7.lt
  have B8 := grown_then B7 k8
  clear a7 b7 k8 B7
  go_wp2_with fail
  have q9 := cur_alloc (w := w8) (c := v) 28
  have q10 := Below.cur (bel_alloc (w8.alloc (.cells #[.string v.s, .int .i64 v.at_, .int .i64 v.en, .int .i64 v.er] 28)) (.cells #[.string y.s, .int .i64 y.at_, .int .i64 y.en, .int .i64 y.er] 28)) q9 q9.lt
  have r10 := cur_alloc (w := w8.alloc (.cells #[.string v.s, .int .i64 v.at_, .int .i64 v.en, .int .i64 v.er] 28)) (c := y) 28
  have K10 := (bel_alloc w8 (.cells #[.string v.s, .int .i64 v.at_, .int .i64 v.en, .int .i64 v.er] 28)).trans ((bel_alloc (w8.alloc (.cells #[.string v.s, .int .i64 v.at_, .int .i64 v.en, .int .i64 v.er] 28)) (.cells #[.string y.s, .int .i64 y.at_, .int .i64 y.en, .int .i64 y.er] 28)).mono (by simp))
  have a10 := Below.cur K10 a8 a8.lt
  have b10 := Below.cur K10 b8 b8.lt
  have B10 := Lib.hid (grown_then B8 K10)
  clear a8 b8 B8 q9 K10
  obtain ⟨w10, hw10⟩ : ∃ W, W = ((w8.alloc (.cells #[.string v.s, .int .i64 v.at_, .int .i64 v.en, .int .i64 v.er] 28)).alloc (.cells #[.string y.s, .int .i64 y.at_, .int .i64 y.en, .int .i64 y.er] 28)) := ⟨_, rfl⟩
  rw [← hw10] at q10 r10 a10 b10 B10 ⊢
  have hsz : (w8.alloc (.cells #[.string v.s, .int .i64 v.at_, .int .i64 v.en, .int .i64 v.er] 28)).heap.size = w8.heap.size + 1 := by simp
  rw [hsz] at r10
  clear hw10 hsz
  have c1 := q10.c1; have c3 := q10.c3
  have d1 := r10.c1; have d3 := r10.c3
  have hva := hv.2.2.1
  have hyb := hy.2.2.1
  have HEa := Lib.hid (fun n => err_any (w := w10.drewN n) (a10.drewN n))
  have HEb := Lib.hid (fun n => err_any (w := w10.drewN n) (b10.drewN n))
  have HAa := Lib.hid (fun n => at_any (w := w10.drewN n) (a10.drewN n) hv.1)
  have HAb := Lib.hid (fun n => at_any (w := w10.drewN n) (b10.drewN n) hy.1)
  rw [hva] at HEa
  rw [hyb] at HEb
  have n1 : (v.er != v.er) = false := by simp
  have n2 : (y.er != y.er) = false := by simp
  have e1 : v.er = 0 := by rw [← hva]; exact HAE.out
  have e2 : ¬ y.er = 0 := by rw [← hyb]; exact HBE.out
  have hAv : A = v := hv.2.2.2.1 (hva.trans e1)
  rw [hAv] at HAa
  have g1 : (v.er == 0) = true := by rw [e1]; rfl
  have n3 : ((v.at_ : Int) != (v.at_ : Int)) = false := by simp
  have n3' : (v.at_ != v.at_) = false := by simp
  have g2 : (y.er == 0) = false := beq_eq_false_iff_ne.mpr e2
  clear e1 e2 hAv hv hy hva hyb a10 b10 q10 r10 HVa HVb HRa HRb p1 p1' p2 p3 ha hb2 hab h1 HAE HBE
  go_quiet (first | (go_at_call 13; with_reducible exact Calls.quiet_of_same (HEa.out _)) | (go_at_call 13; with_reducible exact Calls.quiet_of_same (HEb.out _)) | (go_at_call 14; with_reducible exact Calls.quiet_of_same (HAa.out _)))
  go_wp2_with fail
  refine (works21_any _).mono ?_
  rintro e w11 ⟨rfl, k11⟩
  go_wp2
  go_ret
  exact ⟨rfl, grown_then (Below.drewN B10.out _) k11⟩
set_option maxRecDepth 100000 in
set_option maxHeartbeats 4000000 in
theorem skp_ft (s : ByteArray) (k : Nat) (deep : Int) (w : World) (hk : k < 256) (h1 : s.size ≤ 300) (h2 : 0 ≤ deep) (h3 : deep ≤ 100) (hAe : ¬ (valTo (inTo (32 - deep).toNat) k (CS.new s)).er = 0) (hBe : (inTo (32 - deep).toNat k (CS.new s)).er = 0) :
    Calls Try.prog 3 #[.string s, .int .u8 (k : Nat), .int .i64 deep] w fun e w' => e = .returned (.bool true) ∧ Below w.heap.size w w' := by
  have p1 : decide ((300 : Int) < (s.size : Int)) = false := decide_eq_false (by omega)
  have p1' : decide (300 < s.size) = false := decide_eq_false (by omega)
  have p2 : decide (deep < 0) = false := decide_eq_false (by omega)
  have p3 : decide (100 < deep) = false := decide_eq_false (by omega)
  have hok := CS.new_ok (s := s) (by omega)
  obtain ⟨A, hA⟩ : ∃ A, A = valTo (inTo (32 - deep).toNat) k (CS.new s) := ⟨_, rfl⟩
  obtain ⟨B, hB⟩ : ∃ B, B = inTo (32 - deep).toNat k (CS.new s) := ⟨_, rfl⟩
  have HVa0 := (fun b w (h : CurT 37 w b (CS.new s)) => skip_value k deep h2 hk h hok)
  have HVb0 := (fun b w (h : CurT 37 w b (CS.new s)) => skip_inner k deep h2 hk h hok)
  have HRa0 := (fun w => rvalue_any _ deep h2 rfl k (CS.new s) (CS.new s) w hk (Alike.refl hok) (by show s.size ≤ _; omega))
  have HRb0 := (fun w => rinner_of (rvalue_any _ deep h2 rfl) k (CS.new s) (CS.new s) w hk (Alike.refl hok) (by show s.size ≤ _; omega))
  rw [← hA] at HVa0 HRa0 hAe
  rw [← hB] at HVb0 HRb0 hBe
  have HAE := Lib.hid hAe
  have HBE := Lib.hid hBe
  have HVa := Lib.hid HVa0
  have HVb := Lib.hid HVb0
  have HRa := Lib.hid HRa0
  have HRb := Lib.hid HRb0
  clear hA hB hok hk h2 h3 hAe hBe HVa0 HVb0 HRa0 HRb0
  go_enter Try.func3, Try.ntmps3
  go_wp2_with fail
  refine (new_cur s _ (by omega)).mono ?_
  rintro e w1 ⟨a, rfl, ha, a1, B1⟩
  go_wp2_with fail
  refine (new_cur s _ (by omega)).mono ?_
  rintro e w2 ⟨b, rfl, hb, b2, k2⟩
  have a2 := Below.cur k2 a1 a1.lt
  have B2 := grown_then B1 k2
  have hab : a ≠ b := by have := a1.lt; omega
  have hb2 : w.heap.size ≤ b := by have := B1.size; omega
  clear a1 k2 B1 hb
  go_wp2_with fail
  with_reducible refine (HVa.out _ _ a2).mono ?_
  rintro e w3 ⟨rfl, a3, o3⟩
  have b3 := o3.cur b2 hab.symm
  have B3 := B2.trans (o3.below ha B2.size)
  clear a2 b2 o3 B2
  go_wp2_with fail
  with_reducible refine (HVb.out _ _ b3).mono ?_
  rintro e w4 ⟨rfl, b4, o4⟩
  have a4 := o4.cur a3 hab
  have B4 := B3.trans (o4.below hb2 B3.size)
  clear a3 b3 o4 B3
  go_wp2_with fail
  refine (ref_new s _ (by omega)).mono ?_
  rintro e w5 ⟨rfl, k5⟩
  have a5 := Below.cur k5 a4 a4.lt
  have b5 := Below.cur k5 b4 b4.lt
  have B5 := grown_then B4 k5
  clear a4 b4 k5 B4
  go_wp2_with fail
  refine (HRa.out _).mono ?_
  rintro e w6 ⟨v, rfl, hv, -, k6⟩
  have a6 := Below.cur k6 a5 a5.lt
  have b6 := Below.cur k6 b5 b5.lt
  have B6 := grown_then B5 k6
  clear a5 b5 k6 B5
  go_wp2_with fail
  refine (ref_new s _ (by omega)).mono ?_
  rintro e w7 ⟨rfl, k7⟩
  have a7 := Below.cur k7 a6 a6.lt
  have b7 := Below.cur k7 b6 b6.lt
  have B7 := grown_then B6 k7
  clear a6 b6 k7 B6
  go_wp2_with fail
  refine (HRb.out _).mono ?_
  rintro e w8 ⟨y, rfl, hy, -, k8⟩
  have a8 := Below.cur k8 a7 a7.lt
  have b8 := Below.cur k8 b7 b7.lt
  have B8 := grown_then B7 k8
  clear a7 b7 k8 B7
  go_wp2_with fail
  have q9 := cur_alloc (w := w8) (c := v) 28
  have q10 := Below.cur (bel_alloc (w8.alloc (.cells #[.string v.s, .int .i64 v.at_, .int .i64 v.en, .int .i64 v.er] 28)) (.cells #[.string y.s, .int .i64 y.at_, .int .i64 y.en, .int .i64 y.er] 28)) q9 q9.lt
  have r10 := cur_alloc (w := w8.alloc (.cells #[.string v.s, .int .i64 v.at_, .int .i64 v.en, .int .i64 v.er] 28)) (c := y) 28
  have K10 := (bel_alloc w8 (.cells #[.string v.s, .int .i64 v.at_, .int .i64 v.en, .int .i64 v.er] 28)).trans ((bel_alloc (w8.alloc (.cells #[.string v.s, .int .i64 v.at_, .int .i64 v.en, .int .i64 v.er] 28)) (.cells #[.string y.s, .int .i64 y.at_, .int .i64 y.en, .int .i64 y.er] 28)).mono (by simp))
  have a10 := Below.cur K10 a8 a8.lt
  have b10 := Below.cur K10 b8 b8.lt
  have B10 := Lib.hid (grown_then B8 K10)
  clear a8 b8 B8 q9 K10
  obtain ⟨w10, hw10⟩ : ∃ W, W = ((w8.alloc (.cells #[.string v.s, .int .i64 v.at_, .int .i64 v.en, .int .i64 v.er] 28)).alloc (.cells #[.string y.s, .int .i64 y.at_, .int .i64 y.en, .int .i64 y.er] 28)) := ⟨_, rfl⟩
  rw [← hw10] at q10 r10 a10 b10 B10 ⊢
  have hsz : (w8.alloc (.cells #[.string v.s, .int .i64 v.at_, .int .i64 v.en, .int .i64 v.er] 28)).heap.size = w8.heap.size + 1 := by simp
  rw [hsz] at r10
  clear hw10 hsz
  have c1 := q10.c1; have c3 := q10.c3
  have d1 := r10.c1; have d3 := r10.c3
  have hva := hv.2.2.1
  have hyb := hy.2.2.1
  have HEa := Lib.hid (fun n => err_any (w := w10.drewN n) (a10.drewN n))
  have HEb := Lib.hid (fun n => err_any (w := w10.drewN n) (b10.drewN n))
  have HAa := Lib.hid (fun n => at_any (w := w10.drewN n) (a10.drewN n) hv.1)
  have HAb := Lib.hid (fun n => at_any (w := w10.drewN n) (b10.drewN n) hy.1)
  rw [hva] at HEa
  rw [hyb] at HEb
  have n1 : (v.er != v.er) = false := by simp
  have n2 : (y.er != y.er) = false := by simp
  have e1 : ¬ v.er = 0 := by rw [← hva]; exact HAE.out
  have e2 : y.er = 0 := by rw [← hyb]; exact HBE.out
  have g1 : (v.er == 0) = false := beq_eq_false_iff_ne.mpr e1
  have hBy : B = y := hy.2.2.2.1 (hyb.trans e2)
  rw [hBy] at HAb
  have g2 : (y.er == 0) = true := by rw [e2]; rfl
  have n4 : ((y.at_ : Int) != (y.at_ : Int)) = false := by simp
  have n4' : (y.at_ != y.at_) = false := by simp
  clear e1 e2 hBy hv hy hva hyb a10 b10 q10 r10 HVa HVb HRa HRb p1 p1' p2 p3 ha hb2 hab h1 HAE HBE
  go_quiet (first | (go_at_call 13; with_reducible exact Calls.quiet_of_same (HEa.out _)) | (go_at_call 13; with_reducible exact Calls.quiet_of_same (HEb.out _)) | (go_at_call 14; with_reducible exact Calls.quiet_of_same (HAb.out _)))
  go_wp2_with fail
  refine (works21_any _).mono ?_
  rintro e w11 ⟨rfl, k11⟩
  go_wp2
  go_ret
  exact ⟨rfl, grown_then (Below.drewN B10.out _) k11⟩
set_option maxRecDepth 100000 in
set_option maxHeartbeats 4000000 in
theorem skp_ff (s : ByteArray) (k : Nat) (deep : Int) (w : World) (hk : k < 256) (h1 : s.size ≤ 300) (h2 : 0 ≤ deep) (h3 : deep ≤ 100) (hAe : ¬ (valTo (inTo (32 - deep).toNat) k (CS.new s)).er = 0) (hBe : ¬ (inTo (32 - deep).toNat k (CS.new s)).er = 0) :
    Calls Try.prog 3 #[.string s, .int .u8 (k : Nat), .int .i64 deep] w fun e w' => e = .returned (.bool true) ∧ Below w.heap.size w w' := by
  have p1 : decide ((300 : Int) < (s.size : Int)) = false := decide_eq_false (by omega)
  have p1' : decide (300 < s.size) = false := decide_eq_false (by omega)
  have p2 : decide (deep < 0) = false := decide_eq_false (by omega)
  have p3 : decide (100 < deep) = false := decide_eq_false (by omega)
  have hok := CS.new_ok (s := s) (by omega)
  obtain ⟨A, hA⟩ : ∃ A, A = valTo (inTo (32 - deep).toNat) k (CS.new s) := ⟨_, rfl⟩
  obtain ⟨B, hB⟩ : ∃ B, B = inTo (32 - deep).toNat k (CS.new s) := ⟨_, rfl⟩
  have HVa0 := (fun b w (h : CurT 37 w b (CS.new s)) => skip_value k deep h2 hk h hok)
  have HVb0 := (fun b w (h : CurT 37 w b (CS.new s)) => skip_inner k deep h2 hk h hok)
  have HRa0 := (fun w => rvalue_any _ deep h2 rfl k (CS.new s) (CS.new s) w hk (Alike.refl hok) (by show s.size ≤ _; omega))
  have HRb0 := (fun w => rinner_of (rvalue_any _ deep h2 rfl) k (CS.new s) (CS.new s) w hk (Alike.refl hok) (by show s.size ≤ _; omega))
  rw [← hA] at HVa0 HRa0 hAe
  rw [← hB] at HVb0 HRb0 hBe
  have HAE := Lib.hid hAe
  have HBE := Lib.hid hBe
  have HVa := Lib.hid HVa0
  have HVb := Lib.hid HVb0
  have HRa := Lib.hid HRa0
  have HRb := Lib.hid HRb0
  clear hA hB hok hk h2 h3 hAe hBe HVa0 HVb0 HRa0 HRb0
  go_enter Try.func3, Try.ntmps3
  go_wp2_with fail
  refine (new_cur s _ (by omega)).mono ?_
  rintro e w1 ⟨a, rfl, ha, a1, B1⟩
  go_wp2_with fail
  refine (new_cur s _ (by omega)).mono ?_
  rintro e w2 ⟨b, rfl, hb, b2, k2⟩
  have a2 := Below.cur k2 a1 a1.lt
  have B2 := grown_then B1 k2
  have hab : a ≠ b := by have := a1.lt; omega
  have hb2 : w.heap.size ≤ b := by have := B1.size; omega
  clear a1 k2 B1 hb
  go_wp2_with fail
  with_reducible refine (HVa.out _ _ a2).mono ?_
  rintro e w3 ⟨rfl, a3, o3⟩
  have b3 := o3.cur b2 hab.symm
  have B3 := B2.trans (o3.below ha B2.size)
  clear a2 b2 o3 B2
  go_wp2_with fail
  with_reducible refine (HVb.out _ _ b3).mono ?_
  rintro e w4 ⟨rfl, b4, o4⟩
  have a4 := o4.cur a3 hab
  have B4 := B3.trans (o4.below hb2 B3.size)
  clear a3 b3 o4 B3
  go_wp2_with fail
  refine (ref_new s _ (by omega)).mono ?_
  rintro e w5 ⟨rfl, k5⟩
  have a5 := Below.cur k5 a4 a4.lt
  have b5 := Below.cur k5 b4 b4.lt
  have B5 := grown_then B4 k5
  clear a4 b4 k5 B4
  go_wp2_with fail
  refine (HRa.out _).mono ?_
  rintro e w6 ⟨v, rfl, hv, -, k6⟩
  have a6 := Below.cur k6 a5 a5.lt
  have b6 := Below.cur k6 b5 b5.lt
  have B6 := grown_then B5 k6
  clear a5 b5 k6 B5
  go_wp2_with fail
  refine (ref_new s _ (by omega)).mono ?_
  rintro e w7 ⟨rfl, k7⟩
  have a7 := Below.cur k7 a6 a6.lt
  have b7 := Below.cur k7 b6 b6.lt
  have B7 := grown_then B6 k7
  clear a6 b6 k7 B6
  go_wp2_with fail
  refine (HRb.out _).mono ?_
  rintro e w8 ⟨y, rfl, hy, -, k8⟩
  have a8 := Below.cur k8 a7 a7.lt
  have b8 := Below.cur k8 b7 b7.lt
  have B8 := grown_then B7 k8
  clear a7 b7 k8 B7
  go_wp2_with fail
  have q9 := cur_alloc (w := w8) (c := v) 28
  have q10 := Below.cur (bel_alloc (w8.alloc (.cells #[.string v.s, .int .i64 v.at_, .int .i64 v.en, .int .i64 v.er] 28)) (.cells #[.string y.s, .int .i64 y.at_, .int .i64 y.en, .int .i64 y.er] 28)) q9 q9.lt
  have r10 := cur_alloc (w := w8.alloc (.cells #[.string v.s, .int .i64 v.at_, .int .i64 v.en, .int .i64 v.er] 28)) (c := y) 28
  have K10 := (bel_alloc w8 (.cells #[.string v.s, .int .i64 v.at_, .int .i64 v.en, .int .i64 v.er] 28)).trans ((bel_alloc (w8.alloc (.cells #[.string v.s, .int .i64 v.at_, .int .i64 v.en, .int .i64 v.er] 28)) (.cells #[.string y.s, .int .i64 y.at_, .int .i64 y.en, .int .i64 y.er] 28)).mono (by simp))
  have a10 := Below.cur K10 a8 a8.lt
  have b10 := Below.cur K10 b8 b8.lt
  have B10 := Lib.hid (grown_then B8 K10)
  clear a8 b8 B8 q9 K10
  obtain ⟨w10, hw10⟩ : ∃ W, W = ((w8.alloc (.cells #[.string v.s, .int .i64 v.at_, .int .i64 v.en, .int .i64 v.er] 28)).alloc (.cells #[.string y.s, .int .i64 y.at_, .int .i64 y.en, .int .i64 y.er] 28)) := ⟨_, rfl⟩
  rw [← hw10] at q10 r10 a10 b10 B10 ⊢
  have hsz : (w8.alloc (.cells #[.string v.s, .int .i64 v.at_, .int .i64 v.en, .int .i64 v.er] 28)).heap.size = w8.heap.size + 1 := by simp
  rw [hsz] at r10
  clear hw10 hsz
  have c1 := q10.c1; have c3 := q10.c3
  have d1 := r10.c1; have d3 := r10.c3
  have hva := hv.2.2.1
  have hyb := hy.2.2.1
  have HEa := Lib.hid (fun n => err_any (w := w10.drewN n) (a10.drewN n))
  have HEb := Lib.hid (fun n => err_any (w := w10.drewN n) (b10.drewN n))
  have HAa := Lib.hid (fun n => at_any (w := w10.drewN n) (a10.drewN n) hv.1)
  have HAb := Lib.hid (fun n => at_any (w := w10.drewN n) (b10.drewN n) hy.1)
  rw [hva] at HEa
  rw [hyb] at HEb
  have n1 : (v.er != v.er) = false := by simp
  have n2 : (y.er != y.er) = false := by simp
  have e1 : ¬ v.er = 0 := by rw [← hva]; exact HAE.out
  have e2 : ¬ y.er = 0 := by rw [← hyb]; exact HBE.out
  have g1 : (v.er == 0) = false := beq_eq_false_iff_ne.mpr e1
  have g2 : (y.er == 0) = false := beq_eq_false_iff_ne.mpr e2
  clear e1 e2 hv hy hva hyb a10 b10 q10 r10 HVa HVb HRa HRb p1 p1' p2 p3 ha hb2 hab h1 HAE HBE
  go_quiet (first | (go_at_call 13; with_reducible exact Calls.quiet_of_same (HEa.out _)) | (go_at_call 13; with_reducible exact Calls.quiet_of_same (HEb.out _)))
  go_wp2_with fail
  refine (works21_any _).mono ?_
  rintro e w11 ⟨rfl, k11⟩
  go_wp2
  go_ret
  exact ⟨rfl, grown_then (Below.drewN B10.out _) k11⟩
theorem skp_in (s : ByteArray) (k : Nat) (deep : Int) (w : World) (hk : k < 256) (h1 : s.size ≤ 300) (h2 : 0 ≤ deep) (h3 : deep ≤ 100) :
    Calls Try.prog 3 #[.string s, .int .u8 (k : Nat), .int .i64 deep] w fun e w' => e = .returned (.bool true) ∧ Below w.heap.size w w' := by
  by_cases hA : (valTo (inTo (32 - deep).toNat) k (CS.new s)).er = 0
  · by_cases hB : (inTo (32 - deep).toNat k (CS.new s)).er = 0
    · exact skp_tt s k deep w hk h1 h2 h3 hA hB
    · exact skp_tf s k deep w hk h1 h2 h3 hA hB
  · by_cases hB : (inTo (32 - deep).toNat k (CS.new s)).er = 0
    · exact skp_ft s k deep w hk h1 h2 h3 hA hB
    · exact skp_ff s k deep w hk h1 h2 h3 hA hB
theorem skp_any (s : ByteArray) (kind deep : Int) (w : World) (h1 : s.size ≤ 140737488351232) (h2 : 0 ≤ kind) (h3 : kind ≤ 255) (h4 : -9223372036854775808 ≤ deep) (h5 : deep ≤ 9223372036854775807) :
    Calls Try.prog 3 #[.string s, .int .u8 kind, .int .i64 deep] w fun e w' => e = .returned (.bool true) ∧ Below w.heap.size w w' := by
  obtain ⟨k, rfl⟩ := Int.eq_ofNat_of_zero_le h2
  by_cases g1 : 300 < s.size
  · exact skp_out s k deep w (.inl g1)
  · by_cases g2 : deep < 0
    · exact skp_out s k deep w (.inr (.inl g2))
    · by_cases g3 : 100 < deep
      · exact skp_out s k deep w (.inr (.inr g3))
      · exact skp_in s k deep w (by omega) (by omega) (by omega) (by omega)
end Go.Proofs.Ytmaojbhpnflbcaa
