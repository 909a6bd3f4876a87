/- Package chead: PutField, PutList, PutMap. -/
import Derived.Test.YtmcklfndnjagiaaDoorChB
import Derived.Test.YtmcklfndnjagiaaDoorChAp
namespace Go.Proofs.YtmcklfndnjagiaaDoor
open Go Go.RowKit
set_option linter.unusedVariables false

theorem vput_sl {l : List UInt8} {v : Value} {w : World} (h : SlB w v l) (u : Nat) (hu : u < 18446744073709551616) (hl : l.length ≤ 140737488354000) :
    Calls Tryd.prog 41 #[v, .int .u64 (u : Nat)] w fun e w' => ∃ v', e = .returned v' ∧ Bts 5 w' w.heap.size v' (l ++ vB u) ∧ Below w.heap.size w w' := by
  obtain ⟨a, cap, rfl, hc, hin⟩ := h
  exact vput_wide a cap l u w hl hu hin
theorem clone_sl {l : List UInt8} {v : Value} {w : World} (h : SlB w v l) (hl : l.length ≤ 140737488351232) :
    Calls Tryd.prog 75 #[v] w fun e w' => ∃ v', e = .returned v' ∧ Bts 5 w' w.heap.size v' l ∧ Below w.heap.size w w' := by
  obtain ⟨a, cap, rfl, hc, hin⟩ := h
  exact clone_any a cap l w hl hin
theorem join_full (k : Nat) (w : World) (h : 16 * 15 + k < 256) :
    Calls Tryd.prog 77 #[.int .u8 15, .int .u8 (k : Nat)] w fun e w' => e = .returned (.int .u8 ((16 * 15 + k : Nat) : Int)) ∧ w' = w := join_any 15 k w h
theorem hput_zero {l : List UInt8} {v : Value} {w : World} (h : SlB w v l) (hl : l.length ≤ 140737488354000) :
    Calls Tryd.prog 76 #[v, .int .u8 0] w fun e w' => ∃ v', e = .returned v' ∧ Bts 5 w' w.heap.size v' (l ++ [UInt8.ofNat 0]) ∧ Below w.heap.size w w' := hput_any h 0 (by omega) hl
theorem cnt_l {i : Int} {x : Bool} (hx : Hid (x = cntB i)) (w : World) :
    Calls Tryd.prog 74 #[.int .i64 i] w fun e w' => e = .returned (.bool x) ∧ w' = w := by
  rw [hx.out]; exact ch_count i w

theorem putf_number {l : List UInt8} {v : Value} {w : World} (h : SlB w v l) (hl : l.length ≤ 140737488351232) (last id : Int) (k : Nat) (hn : numB id = false) :
    Calls Tryd.prog 70 #[v, .int .i64 last, .int .i64 id, .int .u8 (k : Nat)] w fun e w' => ∃ x, e = .returned x ∧ Bts 5 w' w.heap.size x (l ++ hdB last id k) ∧ Below w.heap.size w w' := by
  have HN := Lib.hid (fun w => num_l (Lib.hid hn.symm) w)
  have HR := Lib.hid (show l ++ hdB last id k = l by unfold hdB; simp [hn])
  have HC := Lib.hid (clone_sl h hl)
  clear h hl
  go_enter Tryd.func70, Tryd.ntmps70
  go_wp2_with fail
  with_reducible refine (HN.out _).mono ?_
  rintro e w1 ⟨rfl, rfl⟩
  go_wp2_with fail
  with_reducible refine (HC.out).mono ?_
  rintro e w1 ⟨x, rfl, hb, b1⟩
  go_wp2
  go_ret
  exact ⟨_, rfl, by rw [HR.out]; exact hb, b1⟩

theorem putf_kind {l : List UInt8} {v : Value} {w : World} (h : SlB w v l) (hl : l.length ≤ 140737488351232) (last id : Int) (k : Nat) (hn : numB id = true) (hk : kB k = false) :
    Calls Tryd.prog 70 #[v, .int .i64 last, .int .i64 id, .int .u8 (k : Nat)] w fun e w' => ∃ x, e = .returned x ∧ Bts 5 w' w.heap.size x (l ++ hdB last id k) ∧ Below w.heap.size w w' := by
  have HN := Lib.hid (fun w => num_l (Lib.hid hn.symm) w)
  have HK := Lib.hid (fun w => isk_l (Lib.hid hk.symm) w)
  have HR := Lib.hid (show l ++ hdB last id k = l by unfold hdB; simp [hk])
  have HC := Lib.hid (clone_sl h hl)
  clear h hl
  go_enter Tryd.func70, Tryd.ntmps70
  go_wp2_with fail
  with_reducible refine (HN.out _).mono ?_
  rintro e w1 ⟨rfl, rfl⟩
  go_wp2_with fail
  with_reducible refine (HK.out _).mono ?_
  rintro e w1 ⟨rfl, rfl⟩
  go_wp2_with fail
  with_reducible refine (HC.out).mono ?_
  rintro e w1 ⟨x, rfl, hb, b1⟩
  go_wp2
  go_ret
  exact ⟨_, rfl, by rw [HR.out]; exact hb, b1⟩

theorem putf_near {l : List UInt8} {v : Value} {w : World} (h : SlB w v l) (hl : l.length ≤ 140737488351232) (last id : Int) (k : Nat) (hn : numB id = true) (hk : kB k = true) (hr : nearB last id = true) :
    Calls Tryd.prog 70 #[v, .int .i64 last, .int .i64 id, .int .u8 (k : Nat)] w fun e w' => ∃ x, e = .returned x ∧ Bts 5 w' w.heap.size x (l ++ hdB last id k) ∧ Below w.heap.size w w' := by
  have HN := Lib.hid (fun w => num_l (Lib.hid hn.symm) w)
  have HK := Lib.hid (fun w => isk_l (Lib.hid hk.symm) w)
  have g1 := numB_yes hn
  have g2 := kB_yes hk
  have g3 := nearB_yes hr
  have HQ := Lib.hid (fun w => is_near last id w hn)
  rw [hr] at HQ
  obtain ⟨d, hd⟩ : ∃ d : Nat, id - last = (d : Int) := ⟨(id - last).toNat, by omega⟩
  have e1 : IntKind.i64.wrap (id - last) = (d : Int) := by rw [hd]; exact IntWalk.i64_in _ (by omega)
  have e2 : IntKind.u8.wrap (d : Int) = (d : Int) := IntWalk.u8_in _ (by omega)
  have HJ := Lib.hid (fun w => join_any d k w (by omega))
  obtain ⟨x, hx⟩ : ∃ x, x = 16 * d + k := ⟨_, rfl⟩
  rw [← hx] at HJ
  have HP := Lib.hid (fun w (h : SlB w v l) => hput_any h x (by omega) (by omega))
  have HR := Lib.hid (show hdB last id k = [UInt8.ofNat x] by
    unfold hdB; rw [if_pos (by rw [hn, hk]; rfl), if_pos hr, hd, hx]; rfl)
  have HS := Lib.hid h
  clear h hl hn hk hr g1 g2 g3 hd hx
  go_enter Tryd.func70, Tryd.ntmps70
  go_wp2_with fail
  with_reducible refine (HN.out _).mono ?_
  rintro e w1 ⟨rfl, rfl⟩
  go_wp2_with fail
  with_reducible refine (HK.out _).mono ?_
  rintro e w1 ⟨rfl, rfl⟩
  go_wp2_with fail
  with_reducible refine (HQ.out _).mono ?_
  rintro e w1 ⟨rfl, rfl⟩
  go_wp2_with fail
  with_reducible refine (HJ.out _).mono ?_
  rintro e w1 ⟨rfl, rfl⟩
  go_wp2_with fail
  with_reducible refine (HP.out _ HS.out).mono ?_
  rintro e w1 ⟨x, rfl, hb, b1⟩
  go_wp2
  go_ret
  exact ⟨_, rfl, by rw [HR.out]; exact hb, b1⟩

theorem putf_far {l : List UInt8} {v : Value} {w : World} (h : SlB w v l) (hl : l.length ≤ 140737488351232) (last id : Int) (k : Nat) (hk8 : k < 256) (hn : numB id = true) (hk : kB k = true) (hr : nearB last id = false) :
    Calls Tryd.prog 70 #[v, .int .i64 last, .int .i64 id, .int .u8 (k : Nat)] w fun e w' => ∃ x, e = .returned x ∧ Bts 5 w' w.heap.size x (l ++ hdB last id k) ∧ Below w.heap.size w w' := by
  have HN := Lib.hid (fun w => num_l (Lib.hid hn.symm) w)
  have HK := Lib.hid (fun w => isk_l (Lib.hid hk.symm) w)
  have g1 := numB_yes hn
  have HQ := Lib.hid (fun w => is_near last id w hn)
  rw [hr] at HQ
  have HZ := Lib.hid (fun w => zig_any id w (by omega) (by omega))
  obtain ⟨z, hz⟩ : ∃ z : Nat, zigI id = (z : Int) := ⟨(zigI id).toNat, by have := zigI_range hn; omega⟩
  have hz2 := zigI_range hn
  rw [hz] at HZ hz2
  have HP := Lib.hid (fun w (h : SlB w v l) => hput_any h k hk8 (by omega))
  have HV := Lib.hid (fun (v : Value) (w : World) (h : SlB w v (l ++ [UInt8.ofNat k])) => vput_sl h z (by omega) (by rw [List.length_append, List.length_singleton]; omega))
  have HR := Lib.hid (show l ++ hdB last id k = (l ++ [UInt8.ofNat k]) ++ vB z by
    unfold hdB; rw [if_pos (by rw [hn, hk]; rfl), if_neg (by simp [hr]), hz, List.append_assoc]; rfl)
  have HS := Lib.hid h
  clear h hl hn hk hr g1 hz hz2
  go_enter Tryd.func70, Tryd.ntmps70
  go_wp2_with fail
  with_reducible refine (HN.out _).mono ?_
  rintro e w1 ⟨rfl, rfl⟩
  go_wp2_with fail
  with_reducible refine (HK.out _).mono ?_
  rintro e w1 ⟨rfl, rfl⟩
  go_wp2_with fail
  with_reducible refine (HQ.out _).mono ?_
  rintro e w1 ⟨rfl, rfl⟩
  go_wp2_with fail
  with_reducible refine (HP.out _ HS.out).mono ?_
  rintro e w1 ⟨x1, rfl, hb, b1⟩
  go_wp2_with fail
  with_reducible refine (HZ.out _).mono ?_
  rintro e w2 ⟨rfl, rfl⟩
  go_wp2_with fail
  with_reducible refine (HV.out _ _ hb.slB).mono ?_
  rintro e w3 ⟨x2, rfl, hb2, b2⟩
  go_wp2
  go_ret
  exact ⟨_, rfl, by rw [HR.out]; exact hb2.base b1.size, grown_then b1 b2⟩

theorem putf_any {l : List UInt8} {v : Value} {w : World} (h : SlB w v l) (hl : l.length ≤ 140737488351232) (last id : Int) (k : Nat) (hk8 : k < 256) :
    Calls Tryd.prog 70 #[v, .int .i64 last, .int .i64 id, .int .u8 (k : Nat)] w fun e w' => ∃ x, e = .returned x ∧ Bts 5 w' w.heap.size x (l ++ hdB last id k) ∧ Below w.heap.size w w' := by
  rcases Bool.eq_false_or_eq_true (numB id) with hn | hn
  · rcases Bool.eq_false_or_eq_true (kB k) with hk | hk
    · rcases Bool.eq_false_or_eq_true (nearB last id) with hr | hr
      · exact putf_near h hl last id k hn hk hr
      · exact putf_far h hl last id k hk8 hn hk hr
    · exact putf_kind h hl last id k hn hk
  · exact putf_number h hl last id k hn

theorem putl_count {l : List UInt8} {v : Value} {w : World} (h : SlB w v l) (hl : l.length ≤ 140737488351232) (n : Int) (k : Nat) (hn : cntB n = false) :
    Calls Tryd.prog 46 #[v, .int .i64 n, .int .u8 (k : Nat)] w fun e w' => ∃ x, e = .returned x ∧ Bts 5 w' w.heap.size x (l ++ lsB n k) ∧ Below w.heap.size w w' := by
  have HN := Lib.hid (fun w => cnt_l (Lib.hid hn.symm) w)
  have HR := Lib.hid (show l ++ lsB n k = l by unfold lsB; simp [hn])
  have HC := Lib.hid (clone_sl h hl)
  clear h hl
  go_enter Tryd.func46, Tryd.ntmps46
  go_wp2_with fail
  with_reducible refine (HN.out _).mono ?_
  rintro e w1 ⟨rfl, rfl⟩
  go_wp2_with fail
  with_reducible refine (HC.out).mono ?_
  rintro e w1 ⟨x, rfl, hb, b1⟩
  go_wp2
  go_ret
  exact ⟨_, rfl, by rw [HR.out]; exact hb, b1⟩

theorem putl_kind {l : List UInt8} {v : Value} {w : World} (h : SlB w v l) (hl : l.length ≤ 140737488351232) (n : Int) (k : Nat) (hn : cntB n = true) (hk : kB k = false) :
    Calls Tryd.prog 46 #[v, .int .i64 n, .int .u8 (k : Nat)] w fun e w' => ∃ x, e = .returned x ∧ Bts 5 w' w.heap.size x (l ++ lsB n k) ∧ Below w.heap.size w w' := by
  have HN := Lib.hid (fun w => cnt_l (Lib.hid hn.symm) w)
  have HK := Lib.hid (fun w => isk_l (Lib.hid hk.symm) w)
  have HR := Lib.hid (show l ++ lsB n k = l by unfold lsB; simp [hk])
  have HC := Lib.hid (clone_sl h hl)
  clear h hl
  go_enter Tryd.func46, Tryd.ntmps46
  go_wp2_with fail
  with_reducible refine (HN.out _).mono ?_
  rintro e w1 ⟨rfl, rfl⟩
  go_wp2_with fail
  with_reducible refine (HK.out _).mono ?_
  rintro e w1 ⟨rfl, rfl⟩
  go_wp2_with fail
  with_reducible refine (HC.out).mono ?_
  rintro e w1 ⟨x, rfl, hb, b1⟩
  go_wp2
  go_ret
  exact ⟨_, rfl, by rw [HR.out]; exact hb, b1⟩

theorem putl_short {l : List UInt8} {v : Value} {w : World} (h : SlB w v l) (hl : l.length ≤ 140737488351232) (n : Int) (k : Nat) (hn : cntB n = true) (hk : kB k = true) (hr : n < 15) :
    Calls Tryd.prog 46 #[v, .int .i64 n, .int .u8 (k : Nat)] w fun e w' => ∃ x, e = .returned x ∧ Bts 5 w' w.heap.size x (l ++ lsB n k) ∧ Below w.heap.size w w' := by
  have HN := Lib.hid (fun w => cnt_l (Lib.hid hn.symm) w)
  have HK := Lib.hid (fun w => isk_l (Lib.hid hk.symm) w)
  have g1 := cntB_yes hn
  have g2 := kB_yes hk
  have p1 : decide (n < 15) = true := decide_eq_true hr
  obtain ⟨d, hd⟩ : ∃ d : Nat, n = (d : Int) := ⟨n.toNat, by omega⟩
  subst hd
  have p2 : decide (d < 15) = true := decide_eq_true (by omega)
  have e2 : IntKind.u8.wrap (d : Int) = (d : Int) := IntWalk.u8_in _ (by omega)
  have HJ := Lib.hid (fun w => join_any d k w (by omega))
  obtain ⟨x, hx⟩ : ∃ x, x = 16 * d + k := ⟨_, rfl⟩
  rw [← hx] at HJ
  have HP := Lib.hid (fun w (h : SlB w v l) => hput_any h x (by omega) (by omega))
  have HR := Lib.hid (show lsB (d : Int) k = [UInt8.ofNat x] by
    unfold lsB; rw [if_pos (by rw [hn, hk]; rfl), if_pos hr, hx]; rfl)
  have HS := Lib.hid h
  clear h hl hn hk hr g1 g2 hx
  go_enter Tryd.func46, Tryd.ntmps46
  go_wp2_with fail
  with_reducible refine (HN.out _).mono ?_
  rintro e w1 ⟨rfl, rfl⟩
  go_wp2_with fail
  with_reducible refine (HK.out _).mono ?_
  rintro e w1 ⟨rfl, rfl⟩
  go_wp2_with fail
  with_reducible refine (HJ.out _).mono ?_
  rintro e w1 ⟨rfl, rfl⟩
  go_wp2_with fail
  with_reducible refine (HP.out _ HS.out).mono ?_
  rintro e w1 ⟨x, rfl, hb, b1⟩
  go_wp2
  go_ret
  exact ⟨_, rfl, by rw [HR.out]; exact hb, b1⟩

theorem putl_long {l : List UInt8} {v : Value} {w : World} (h : SlB w v l) (hl : l.length ≤ 140737488351232) (n : Int) (k : Nat) (hn : cntB n = true) (hk : kB k = true) (hr : ¬ n < 15) :
    Calls Tryd.prog 46 #[v, .int .i64 n, .int .u8 (k : Nat)] w fun e w' => ∃ x, e = .returned x ∧ Bts 5 w' w.heap.size x (l ++ lsB n k) ∧ Below w.heap.size w w' := by
  have HN := Lib.hid (fun w => cnt_l (Lib.hid hn.symm) w)
  have HK := Lib.hid (fun w => isk_l (Lib.hid hk.symm) w)
  have g1 := cntB_yes hn
  have g2 := kB_yes hk
  have p1 : decide (n < 15) = false := decide_eq_false hr
  obtain ⟨d, hd⟩ : ∃ d : Nat, n = (d : Int) := ⟨n.toNat, by omega⟩
  subst hd
  have p2 : decide (d < 15) = false := decide_eq_false (by omega)
  have e2 : IntKind.u64.wrap (d : Int) = (d : Int) := IntWalk.u64_in _ (by omega)
  have HJ := Lib.hid (fun w => join_full k w (by omega))
  obtain ⟨x, hx⟩ : ∃ x, x = 16 * 15 + k := ⟨_, rfl⟩
  rw [← hx] at HJ
  have HP := Lib.hid (fun w (h : SlB w v l) => hput_any h x (by omega) (by omega))
  have HV := Lib.hid (fun (v : Value) (w : World) (h : SlB w v (l ++ [UInt8.ofNat x])) => vput_sl h d (by omega) (by rw [List.length_append, List.length_singleton]; omega))
  have HR := Lib.hid (show l ++ lsB (d : Int) k = (l ++ [UInt8.ofNat x]) ++ vB d by
    unfold lsB; rw [if_pos (by rw [hn, hk]; rfl), if_neg hr, List.append_assoc, hx]; rfl)
  have HS := Lib.hid h
  clear h hl hn hk hr g1 g2 hx
  go_enter Tryd.func46, Tryd.ntmps46
  go_wp2_with fail
  with_reducible refine (HN.out _).mono ?_
  rintro e w1 ⟨rfl, rfl⟩
  go_wp2_with fail
  with_reducible refine (HK.out _).mono ?_
  rintro e w1 ⟨rfl, rfl⟩
  go_wp2_with fail
  with_reducible refine (HJ.out _).mono ?_
  rintro e w1 ⟨rfl, rfl⟩
  go_wp2_with fail
  with_reducible refine (HP.out _ HS.out).mono ?_
  rintro e w1 ⟨x1, rfl, hb, b1⟩
  go_wp2_with fail
  with_reducible refine (HV.out _ _ hb.slB).mono ?_
  rintro e w3 ⟨x2, rfl, hb2, b2⟩
  go_wp2
  go_ret
  exact ⟨_, rfl, by rw [HR.out]; exact hb2.base b1.size, grown_then b1 b2⟩

theorem putl_any {l : List UInt8} {v : Value} {w : World} (h : SlB w v l) (hl : l.length ≤ 140737488351232) (n : Int) (k : Nat) :
    Calls Tryd.prog 46 #[v, .int .i64 n, .int .u8 (k : Nat)] w fun e w' => ∃ x, e = .returned x ∧ Bts 5 w' w.heap.size x (l ++ lsB n k) ∧ Below w.heap.size w w' := by
  rcases Bool.eq_false_or_eq_true (cntB n) with hn | hn
  · rcases Bool.eq_false_or_eq_true (kB k) with hk | hk
    · by_cases hr : n < 15
      · exact putl_short h hl n k hn hk hr
      · exact putl_long h hl n k hn hk hr
    · exact putl_kind h hl n k hn hk
  · exact putl_count h hl n k hn






end Go.Proofs.YtmcklfndnjagiaaDoor
