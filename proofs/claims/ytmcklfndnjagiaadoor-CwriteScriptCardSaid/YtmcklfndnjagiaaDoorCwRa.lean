/- The document's writer (package truchmanref23): bits, same, kind, bad, Done, end. -/
import Derived.Test.YtmcklfndnjagiaaDoorCwRm
import Derived.Deep.QuietTactic
import Derived.BigQuiet
namespace Go.Proofs.YtmcklfndnjagiaaDoor
open Go Go.RowKit
set_option linter.unusedVariables false

theorem rbits_any (k : Nat) (w : World) : Calls Tryd.prog 48 #[.int .u8 (k : Nat)] w fun e w' => e = .returned (.int .i64 (wBits k)) ∧ w' = w := by
  have HB := Lib.hid (show wBits k = if k = 3 then 8 else if k = 4 then 16 else if k = 5 then 32 else if k = 6 then 64 else 0 from rfl)
  generalize wBits k = v at *
  by_cases h3 : k = 3
  · subst h3
    have HV := Lib.hid (show v = 8 by rw [HB.out]; rfl)
    clear HB
    go_enter Tryd.func48, Tryd.ntmps48
    go_wp2
    go_ret
    exact ⟨by rw [HV.out]; rfl, rfl⟩
  have p3 : ((k : Int) == 3) = false := beq_eq_false_iff_ne.mpr (by omega)
  by_cases h4 : k = 4
  · subst h4
    have HV := Lib.hid (show v = 16 by rw [HB.out]; rfl)
    clear HB
    go_enter Tryd.func48, Tryd.ntmps48
    go_wp2
    go_ret
    exact ⟨by rw [HV.out]; rfl, rfl⟩
  have p4 : ((k : Int) == 4) = false := beq_eq_false_iff_ne.mpr (by omega)
  by_cases h5 : k = 5
  · subst h5
    have HV := Lib.hid (show v = 32 by rw [HB.out]; rfl)
    clear HB
    go_enter Tryd.func48, Tryd.ntmps48
    go_wp2
    go_ret
    exact ⟨by rw [HV.out]; rfl, rfl⟩
  have p5 : ((k : Int) == 5) = false := beq_eq_false_iff_ne.mpr (by omega)
  by_cases h6 : k = 6
  · subst h6
    have HV := Lib.hid (show v = 64 by rw [HB.out]; rfl)
    clear HB
    go_enter Tryd.func48, Tryd.ntmps48
    go_wp2
    go_ret
    exact ⟨by rw [HV.out]; rfl, rfl⟩
  have p6 : ((k : Int) == 6) = false := beq_eq_false_iff_ne.mpr (by omega)
  have HV := Lib.hid (show v = 0 by rw [HB.out, if_neg h3, if_neg h4, if_neg h5, if_neg h6])
  clear HB h3 h4 h5 h6
  go_enter Tryd.func48, Tryd.ntmps48
  go_wp2
  go_ret
  exact ⟨by rw [HV.out]; rfl, rfl⟩
theorem rsame_any (a b : Nat) (w : World) : Calls Tryd.prog 24 #[.int .u8 (a : Nat), .int .u8 (b : Nat)] w fun e w' => e = .returned (.bool (sameB a b)) ∧ w' = w := by
  obtain ⟨x0, h0⟩ : ∃ x, x = decide (a = b) := ⟨_, rfl⟩
  obtain ⟨x1, h1⟩ : ∃ x, x = decide (0 < a) := ⟨_, rfl⟩
  obtain ⟨x2, h2⟩ : ∃ x, x = decide (a < 3) := ⟨_, rfl⟩
  obtain ⟨x3, h3⟩ : ∃ x, x = decide (0 < b) := ⟨_, rfl⟩
  obtain ⟨x4, h4⟩ : ∃ x, x = decide (b < 3) := ⟨_, rfl⟩
  have HS := Lib.hid (show sameB a b = (x0 || (x1 && x2 && x3 && x4)) by
    have e1 : trB a = (decide (0 < a) && decide (a < 3)) := by
      unfold trB
      by_cases q1 : a = 1
      · subst q1; rfl
      · by_cases q2 : a = 2
        · subst q2; rfl
        · rw [decide_eq_false q1, decide_eq_false q2]
          by_cases q3 : 0 < a
          · rw [decide_eq_false (show ¬ a < 3 by omega)]; simp
          · rw [decide_eq_false q3]; rfl
    have e2 : trB b = (decide (0 < b) && decide (b < 3)) := by
      unfold trB
      by_cases q1 : b = 1
      · subst q1; rfl
      · by_cases q2 : b = 2
        · subst q2; rfl
        · rw [decide_eq_false q1, decide_eq_false q2]
          by_cases q3 : 0 < b
          · rw [decide_eq_false (show ¬ b < 3 by omega)]; simp
          · rw [decide_eq_false q3]; rfl
    unfold sameB
    rw [e1, e2, h0, h1, h2, h3, h4]
    simp only [Bool.and_assoc])
  have p0 : ((a : Int) == (b : Int)) = x0 := by
    rw [h0]
    by_cases e : a = b
    · rw [e]; simp
    · rw [decide_eq_false e]; exact beq_eq_false_iff_ne.mpr (by omega)
  have p0' : (a == b) = x0 := by rw [h0]; by_cases e : a = b <;> simp [e]
  have p1 : decide (0 < (a : Int)) = x1 := by rw [h1]; apply decide_eq_decide.mpr; omega
  have p1' : decide (0 < a) = x1 := h1.symm
  have p2 : decide ((a : Int) < 3) = x2 := by rw [h2]; apply decide_eq_decide.mpr; omega
  have p2' : decide (a < 3) = x2 := h2.symm
  have p3 : decide (0 < (b : Int)) = x3 := by rw [h3]; apply decide_eq_decide.mpr; omega
  have p3' : decide (0 < b) = x3 := h3.symm
  have p4 : decide ((b : Int) < 3) = x4 := by rw [h4]; apply decide_eq_decide.mpr; omega
  have p4' : decide (b < 3) = x4 := h4.symm
  generalize sameB a b = r at *
  clear h0 h1 h2 h3 h4
  cases x0 <;> cases x1 <;> cases x2 <;> cases x3 <;> cases x4
  all_goals (
    have HR := Lib.hid HS.out
    clear HS
    go_enter Tryd.func24, Tryd.ntmps24
    go_wp2
    go_ret
    exact ⟨by rw [HR.out]; rfl, rfl⟩)
/-- What a value's op may be. -/
def VKn (o : WO) : Prop := o.k = 123 ∨ o.k = 91 ∨ o.k = 102 ∨ o.k = 110 ∨ o.k = 100 ∨ o.k = 115
set_option maxHeartbeats 1000000 in
theorem rkind_any (o : WO) (hk : VKn o) (w : World) : Calls Tryd.prog 25 #[opV o] w fun e w' => e = .returned (.int .u8 (oKd o : Nat)) ∧ Below w.heap.size w w' := by
  have B0 := Lib.hid (new_grow w (.cells (opC o) 32))
  obtain ⟨q0, q1, q2, q3, q4, q5⟩ := (new_op w o).c
  obtain ⟨k, id, n, wh, bt, tx⟩ := o
  unfold VKn at hk
  unfold opV opC at *
  simp only at *
  rcases hk with rfl | rfl | rfl | rfl | rfl | rfl
  · show Calls _ _ _ _ fun e w' => e = .returned (.int .u8 12) ∧ _
    go_enter Tryd.func25, Tryd.ntmps25
    go_wp2
    go_ret
    exact ⟨rfl, B0.out⟩
  · show Calls _ _ _ _ fun e w' => e = .returned (.int .u8 9) ∧ _
    go_enter Tryd.func25, Tryd.ntmps25
    go_wp2
    go_ret
    exact ⟨rfl, B0.out⟩
  · by_cases hn : n = 1
    · subst hn
      show Calls _ _ _ _ fun e w' => e = .returned (.int .u8 1) ∧ _
      go_enter Tryd.func25, Tryd.ntmps25
      go_wp2
      go_ret
      exact ⟨rfl, B0.out⟩
    · have p1 : (n == 1) = false := beq_eq_false_iff_ne.mpr hn
      have HX := Lib.hid (show oKd ⟨102, id, n, wh, bt, tx⟩ = 2 by unfold oKd; simp [hn])
      clear hn
      go_enter Tryd.func25, Tryd.ntmps25
      go_wp2
      go_ret
      exact ⟨by rw [HX.out]; rfl, B0.out⟩
  · show Calls _ _ _ _ fun e w' => e = .returned (.int .u8 (wh : Nat)) ∧ _
    go_enter Tryd.func25, Tryd.ntmps25
    go_wp2
    go_ret
    exact ⟨rfl, B0.out⟩
  · show Calls _ _ _ _ fun e w' => e = .returned (.int .u8 7) ∧ _
    go_enter Tryd.func25, Tryd.ntmps25
    go_wp2
    go_ret
    exact ⟨rfl, B0.out⟩
  · show Calls _ _ _ _ fun e w' => e = .returned (.int .u8 8) ∧ _
    go_enter Tryd.func25, Tryd.ntmps25
    go_wp2
    go_ret
    exact ⟨rfl, B0.out⟩
/-- The state that came in, and the one to tell. -/
structure BdS (w : World) (A : ByteArray) (v : Value) (er : Int) (wx : World) : Prop where
  s : StT wx w.heap.size A v er
  q : StT wx (w.heap.size + 1) ⟨#[]⟩ (.slice none 0 0) 0
  b : Below w.heap.size w wx
theorem bds_new (w : World) (A : ByteArray) (v : Value) (er : Int) : BdS w A v er ((w.alloc (.cells #[.string A, v, .int .i64 er] 29)).alloc (.cells #[.string ⟨#[]⟩, .slice none 0 0, .int .i64 0] 29)) := by
  have h1 := new_st w A v er
  have b1 := new_grow w (.cells #[.string A, v, .int .i64 er] 29)
  have h2 := new_st (w.alloc (.cells #[.string A, v, .int .i64 er] 29)) ⟨#[]⟩ (.slice none 0 0) 0
  have b2 := new_grow (w.alloc (.cells #[.string A, v, .int .i64 er] 29)) (.cells #[.string ⟨#[]⟩, .slice none 0 0, .int .i64 0] 29)
  rw [World.size_alloc] at h2
  exact ⟨h1.below b2, h2, grown_then b1 b2⟩
set_option maxRecDepth 20000 in
theorem rwbad_any (A : ByteArray) (ad : Option Addr) (n c : Nat) (er d : Int) (w : World) : Calls Tryd.prog 22 #[stV A (.slice ad n c) er, .int .i64 d] w fun e w' => e = .returned (stV A (.slice ad n c) d) ∧ Below w.heap.size w w' := by
  have N0 := bds_new w A (.slice ad n c) er
  unfold stV
  go_enter Tryd.func22, Tryd.ntmps22
  go_upto_region 1 with fail
  generalize ((w.alloc (.cells #[.string A, .slice ad n c, .int .i64 er] 29)).alloc (.cells #[.string ⟨#[]⟩, .slice none 0 0, .int .i64 0] 29)) = W at *
  have a4 := N0.s.c2; have af := N0.s.fr 2
  have hS := N0.s.set2 d
  have hQ : StT (W.setCell ⟨w.heap.size, 2, none⟩ (.int .i64 d)) (w.heap.size + 1) ⟨#[]⟩ (.slice none 0 0) 0 := (RowKit.Below.heap_setCell _ _ _ _ (show w.heap.size + 1 ≠ w.heap.size by omega)).trans N0.q
  have hB : Below w.heap.size w (W.setCell ⟨w.heap.size, 2, none⟩ (.int .i64 d)) := N0.b.setCell (Nat.le_refl _) _
  go_upto_region 2 with fail
  generalize W.setCell ⟨w.heap.size, 2, none⟩ (.int .i64 d) = W1 at *
  clear a4 af N0
  have a0 := hS.c0; have a1 := hS.c1; have a2 := hS.c2
  have q0 := hQ.c0; have q1 := hQ.c1; have q2 := hQ.c2; have qf := hQ.fr
  have HQ := Lib.hid hQ
  have HB := Lib.hid hB
  clear hS hQ hB
  go_wp2
  refine bodyPost_ret (st_result Tryd.results22 (HQ.out.setAll _ _ _) rfl) rfl ?_
  exact ⟨rfl, HB.out.trans ((set3_only W1 (w.heap.size + 1) _ _ _).below (Nat.le_succ _) HB.out.size)⟩
theorem rwdone_any (s : WT) (v : Value) (w : World) (h : PIn w v s.l.reverse) : Calls Tryd.prog 11 #[stV (bA s.out) v s.er] w fun e w' => e = .returned (.tuple #[.string (bA (doneW s).1), .int .i64 (doneW s).2]) ∧ Below w.heap.size w w' := by
  have HD := Lib.hid (show doneW s = if s.er ≠ 0 then ([], s.er) else if s.l = [] then (s.out, 0) else ([], 1) from rfl)
  generalize doneW s = V at *
  obtain ⟨a, cap, rfl⟩ := h.form
  obtain ⟨out, l, er⟩ := s
  simp only at *
  have N0 := new_st w (bA out) (.slice a l.reverse.length cap) er
  have B0 := Lib.hid (new_grow w (.cells #[.string (bA out), .slice a l.reverse.length cap, .int .i64 er] 29))
  have c0 := N0.c0; have c1 := N0.c1; have c2 := N0.c2
  unfold stV
  clear N0 h
  obtain ⟨n, hn⟩ : ∃ n, n = l.reverse.length := ⟨_, rfl⟩
  rw [← hn] at c0 c1 c2 B0 ⊢
  rw [List.length_reverse] at hn
  by_cases he : er = 0
  · subst he
    by_cases hl : l = []
    · have HV := Lib.hid (show V = (out, 0) by rw [HD.out, if_neg (fun e => e rfl), if_pos hl])
      obtain rfl : n = 0 := by rw [hn, hl]; rfl
      generalize hT : bA out = T at *
      have HT := Lib.hid hT
      clear HD hl hn hT
      go_enter Tryd.func11, Tryd.ntmps11
      go_wp2
      go_ret2
      exact ⟨by rw [HV.out, HT.out]; rfl, B0.out⟩
    · have HV := Lib.hid (show V = ([], 1) by rw [HD.out, if_neg (fun e => e rfl), if_neg hl])
      have hpos : 0 < n := by rw [hn]; exact List.length_pos_iff.mpr hl
      have p1 : decide (0 < (n : Int)) = true := decide_eq_true (by omega)
      have p2 : decide (0 < n) = true := decide_eq_true hpos
      generalize bA out = T at *
      clear HD hn hl hpos
      go_enter Tryd.func11, Tryd.ntmps11
      go_wp2
      go_ret2
      exact ⟨by rw [HV.out]; rfl, B0.out⟩
  · have HV := Lib.hid (show V = ([], er) by rw [HD.out, if_pos he])
    have p1 : (er != 0) = true := bne_iff_ne.mpr he
    generalize bA out = T at *
    clear HD he hn
    go_enter Tryd.func11, Tryd.ntmps11
    go_wp2_with fail
    go_quiet (fail)
    go_wp2
    go_ret2
    exact ⟨by rw [HV.out]; rfl, Below.drewN B0.out _⟩
end Go.Proofs.YtmcklfndnjagiaaDoor
