/- Package moment: Of; the document's Of. -/
import Derived.Test.YtgljkoffanphkaaMoB
import Derived.OneCell
import Derived.OwnWalk
namespace Go.Proofs.Ytgljkoffanphkaa
open Go Go.RowKit
set_option linter.unusedVariables false

theorem nanoYes (us : Int) (h : nanoB us = true) (w : World) :
    Calls Try.prog 17 #[.int .i64 us] w fun e w' => e = .returned (.tuple #[.int .u64 (us * 1000), .int .i64 0]) ∧ w' = w := by
  have ho := nanoB_yes h
  have := nano_any us w (by omega) (by omega); rw [(nano_yes h).1, (nano_yes h).2] at this; exact this
theorem nanoNo (us : Int) (h : nanoB us = false) (w : World) (h1 : -9223372036854775808 ≤ us) (h2 : us ≤ 9223372036854775807) :
    Calls Try.prog 17 #[.int .i64 us] w fun e w' => e = .returned (.tuple #[.int .u64 0, .int .i64 11]) ∧ w' = w := by
  have := nano_any us w h1 h2; rw [(nano_no h).1, (nano_no h).2] at this; exact this
theorem rnanoYes (us : Int) (h : nanoB us = true) (w : World) :
    Calls Try.prog 18 #[.int .i64 us] w fun e w' => e = .returned (.tuple #[.int .u64 (us * 1000), .int .i64 0]) ∧ w' = w := by
  have ho := nanoB_yes h
  have := rnano_any us w (by omega) (by omega); rw [(nano_yes h).1, (nano_yes h).2] at this; exact this
theorem rnanoNo (us : Int) (h : nanoB us = false) (w : World) (h1 : -9223372036854775808 ≤ us) (h2 : us ≤ 9223372036854775807) :
    Calls Try.prog 18 #[.int .i64 us] w fun e w' => e = .returned (.tuple #[.int .u64 0, .int .i64 11]) ∧ w' = w := by
  have := rnano_any us w h1 h2; rw [(nano_no h).1, (nano_no h).2] at this; exact this

theorem ret_three {k1 k2 k3 : IntKind} {a b c a' b' c' : Int} (h : a = a') (h' : b = b') (h'' : c = c') : Ending.returned (.tuple #[.int k1 a, .int k2 b, .int k3 c]) = .returned (.tuple #[.int k1 a', .int k2 b', .int k3 c']) := by rw [h, h', h'']
theorem ret_range {s e c s' e' c' : Int} (h : s = s') (h' : e = e') (h'' : c = c') : Ending.returned (.tuple #[rV s e, .int .i64 c]) = .returned (.tuple #[rV s' e', .int .i64 c']) := by rw [h, h', h'']

set_option maxRecDepth 10000 in
theorem rof_any (b l : Int) (w : World) (h1 : -9223372036854775808 ≤ b) (h2 : b ≤ 9223372036854775807) (h3 : -9223372036854775808 ≤ l) (h4 : l ≤ 9223372036854775807) :
    Calls Try.prog 16 #[.int .i64 b, .int .i64 l] w fun e w' => e = .returned (.tuple #[.int .u64 (ofS b l), .int .u64 (ofE b l), .int .i64 (ofC b l)]) ∧ w' = w := by
  rcases Bool.eq_false_or_eq_true (nanoB b) with hb | hb
  · have kb := nanoB_yes hb
    have hN := Lib.hid (rnanoYes b hb)
    rcases Bool.eq_false_or_eq_true (nanoB l) with hl | hl
    · have kl := nanoB_yes hl
      have hM := Lib.hid (rnanoYes l hl)
      have e0 : IntKind.u64.wrap (9223372036854775807 - l * 1000) = 9223372036854775807 - l * 1000 := PlainAid.u64_nonneg (by omega) (by omega)
      by_cases hs : 9223372036854775807 - l * 1000 < b * 1000
      · have p1 : decide (9223372036854775807 - l * 1000 < b * 1000) = true := by simp [hs]
        have HR := Lib.hid (of_no (b := b) (l := l) (by unfold ofB; simp [hb, hl]; omega))
        clear hb hl
        go_enter Try.func16, Try.ntmps16
        go_wp2_with fail
        with_reducible refine (hN.out _).mono ?_
        rintro r w1 ⟨rfl, b1⟩
        rw [b1]; clear b1
        go_wp2_with fail
        with_reducible refine (hM.out _).mono ?_
        rintro r w2 ⟨rfl, b2⟩
        rw [b2]; clear b2
        go_wp2
        go_ret3
        exact ⟨ret_three HR.out.1.symm HR.out.2.1.symm HR.out.2.2.symm, rfl⟩
      · have p1 : decide (9223372036854775807 - l * 1000 < b * 1000) = false := by simp; omega
        have e1 : IntKind.u64.wrap (b * 1000 + l * 1000) = b * 1000 + l * 1000 := PlainAid.u64_nonneg (by omega) (by omega)
        have HR := Lib.hid (of_yes (b := b) (l := l) (by unfold ofB; simp [hb, hl]; omega))
        clear hb hl
        go_enter Try.func16, Try.ntmps16
        go_wp2_with fail
        with_reducible refine (hN.out _).mono ?_
        rintro r w1 ⟨rfl, b1⟩
        rw [b1]; clear b1
        go_wp2_with fail
        with_reducible refine (hM.out _).mono ?_
        rintro r w2 ⟨rfl, b2⟩
        rw [b2]; clear b2
        go_wp2
        go_ret3
        exact ⟨ret_three HR.out.1.symm HR.out.2.1.symm HR.out.2.2.symm, rfl⟩
    · have hM := Lib.hid (fun w => rnanoNo l hl w h3 h4)
      have HR := Lib.hid (of_no (b := b) (l := l) (by unfold ofB; simp [hl]))
      clear hb hl
      go_enter Try.func16, Try.ntmps16
      go_wp2_with fail
      with_reducible refine (hN.out _).mono ?_
      rintro r w1 ⟨rfl, b1⟩
      rw [b1]; clear b1
      go_wp2_with fail
      with_reducible refine (hM.out _).mono ?_
      rintro r w2 ⟨rfl, b2⟩
      rw [b2]; clear b2
      go_wp2
      go_ret3
      exact ⟨ret_three HR.out.1.symm HR.out.2.1.symm HR.out.2.2.symm, rfl⟩
  · have hN := Lib.hid (fun w => rnanoNo b hb w h1 h2)
    have hM := Lib.hid (fun w => rnano_any l w h3 h4)
    have HR := Lib.hid (of_no (b := b) (l := l) (by unfold ofB; simp [hb]))
    clear hb
    go_enter Try.func16, Try.ntmps16
    go_wp2_with fail
    with_reducible refine (hN.out _).mono ?_
    rintro r w1 ⟨rfl, b1⟩
    rw [b1]; clear b1
    go_wp2_with fail
    with_reducible refine (hM.out _).mono ?_
    rintro r w2 ⟨rfl, b2⟩
    rw [b2]; clear b2
    go_wp2
    go_ret3
    exact ⟨ret_three HR.out.1.symm HR.out.2.1.symm HR.out.2.2.symm, rfl⟩

theorem two_rblk (t t' : TypeId) (w : World) (s e s' e' : Int) :
    RBlk t ((w.alloc (.cells #[.int .u64 s, .int .u64 e] t)).alloc (.cells #[.int .u64 s', .int .u64 e'] t')) w.heap.size s e ∧ RBlk t' ((w.alloc (.cells #[.int .u64 s, .int .u64 e] t)).alloc (.cells #[.int .u64 s', .int .u64 e'] t')) (w.heap.size + 1) s' e' ∧
      Below w.heap.size w ((w.alloc (.cells #[.int .u64 s, .int .u64 e] t)).alloc (.cells #[.int .u64 s', .int .u64 e'] t')) ∧ ((w.alloc (.cells #[.int .u64 s, .int .u64 e] t)).alloc (.cells #[.int .u64 s', .int .u64 e'] t')).heap.size = w.heap.size + 2 :=
  ⟨heap_alloc2_old w _ _, heap_alloc2_new w _ _, (below_alloc w _).alloc (by simp) _, by simp⟩

theorem RBlk.set {t : TypeId} {w : World} {b : Nat} {s e : Int} (h : RBlk t w b s e) (s' e' : Int) : RBlk t ((w.setCell ⟨b, 0, none⟩ (.int .u64 s')).setCell ⟨b, 1, none⟩ (.int .u64 e')) b s' e' :=
  heap_setCell_block (heap_setCell_block h _) _
/-- A result variable that is a range; one beside a number. -/
theorem range_result {P : Program} {T : TypeId} {d : TypeDesc} (hu : P.underlying T = some d) (hd : (match d with | .struct _ | .array _ _ => true | _ => false) = true) (hi : (P.info? T).map (·.size) = some 2)
    {fn : Func} {p : Tmp} (h : fn.results = #[.cell p T]) {tmps : Array Value} {w : World} {g : Nat} {t : TypeId} {s e : Int} (hg : RBlk t w g s e) (hp : tmps.getD p undef = .pointer (some ⟨g, 0, none⟩)) :
    (results fn tmps).run P w = .ok (rV s e) w :=
  results_cell_row h tmps w g t #[.int .u64 s, .int .u64 e] (0, 0) d hp hg hu hd hi
theorem range_result2 {P : Program} {T : TypeId} {d : TypeDesc} (hu : P.underlying T = some d) (hd : (match d with | .struct _ | .array _ _ => true | _ => false) = true) (hi : (P.info? T).map (·.size) = some 2)
    {fn : Func} {p u : Tmp} (h : fn.results = #[.cell p T, .tmp u]) {tmps : Array Value} {w : World} {g : Nat} {t : TypeId} {s e : Int} {v : Value} (hg : RBlk t w g s e) (hp : tmps.getD p undef = .pointer (some ⟨g, 0, none⟩)) (hv : tmps.getD u undef = v) :
    (results fn tmps).run P w = .ok (.tuple #[rV s e, v]) w := by
  have hq := run_loadVar_row (P := P) w g t T #[.int .u64 s, .int .u64 e] (0, 0) d hg hu hd hi
  have hp' : tmps[p]?.getD undef = .pointer (some ⟨g, 0, none⟩) := by simpa using hp
  have hv' : tmps[u]?.getD undef = v := by simpa using hv
  simp [results, h, hp', hv', asAddr, hq, rV]
theorem below_set {N : Nat} {w W : World} {b o : Nat} {v : Value} (h : Below N w W) (hb : N ≤ b) : Below N w (W.setCell ⟨b, o, none⟩ v) :=
  h.trans ⟨rfl, rfl, rfl, by simp [World.setCell], fun k hk => Below.heap_setCell _ _ _ _ (show k ≠ b from Nat.ne_of_lt (Nat.lt_of_lt_of_le hk hb))⟩

set_option maxRecDepth 10000 in
theorem of_any (b l : Int) (w : World) (h1 : -9223372036854775808 ≤ b) (h2 : b ≤ 9223372036854775807) (h3 : -9223372036854775808 ≤ l) (h4 : l ≤ 9223372036854775807) :
    Calls Try.prog 15 #[.int .i64 b, .int .i64 l] w fun e w' => e = .returned (.tuple #[rV (ofS b l) (ofE b l), .int .i64 (ofC b l)]) ∧ Below w.heap.size w w' := by
  have hZ := Lib.hid (rblk_alloc 24 w 0 0)
  have hB := Lib.hid (below_alloc w (.cells #[.int .u64 0, .int .u64 0] 24))
  rcases Bool.eq_false_or_eq_true (nanoB b) with hb | hb
  · have kb := nanoB_yes hb
    have hN := Lib.hid (nanoYes b hb)
    rcases Bool.eq_false_or_eq_true (nanoB l) with hl | hl
    · have kl := nanoB_yes hl
      have hM := Lib.hid (nanoYes l hl)
      have e1 : IntKind.u64.wrap (b * 1000 + l * 1000) = b * 1000 + l * 1000 := PlainAid.u64_nonneg (by omega) (by omega)
      have h2 := Lib.hid (two_rblk 24 24 w 0 0 (b * 1000) (b * 1000 + l * 1000))
      by_cases hs : b * 1000 + l * 1000 ≤ 9223372036854775807
      · have HR := Lib.hid (of_yes (b := b) (l := l) (by unfold ofB; simp [hb, hl]; omega))
        have hC := Lib.hid (check_yes (b * 1000) (b * 1000 + l * 1000) (by unfold fineB; simp; omega))
        clear hb hl
        go_enter Try.func15, Try.ntmps15
        go_wp2_with fail
        with_reducible refine (hN.out _).mono ?_
        rintro r w1 ⟨rfl, b1⟩
        rw [b1]; clear b1
        go_wp2_with fail
        with_reducible refine (hM.out _).mono ?_
        rintro r w2 ⟨rfl, b2⟩
        rw [b2]; clear b2
        go_wp2_with fail
        with_reducible refine (hC.out _).mono ?_
        rintro r w3 ⟨rfl, b3⟩
        have A0 := h2.out.1.below b3 (by rw [h2.out.2.2.2]; omega)
        have A1 := h2.out.2.1.below b3 (by rw [h2.out.2.2.2]; omega)
        have B1 := Lib.hid (grown_then h2.out.2.2.1 b3)
        have F0 := A0.fr
        have c0 := A0.c0
        have c1 := A0.c1
        have d0 := A1.c0
        have d1 := A1.c1
        have A2 := Lib.hid (A0.set (b * 1000) (b * 1000 + l * 1000))
        clear b3 A1 h2 A0
        go_wp2
        exact bodyPost_ret (range_result2 Try.underlying24 rfl (by kernel_rfl) Try.results15 A2.out rfl rfl) rfl ⟨ret_range HR.out.1.symm HR.out.2.1.symm HR.out.2.2.symm, below_set (below_set B1.out (Nat.le_refl _)) (Nat.le_refl _)⟩
      · have HR := Lib.hid (of_no (b := b) (l := l) (by unfold ofB; simp; omega))
        have hC := Lib.hid (check_no (b * 1000) (b * 1000 + l * 1000) (by unfold fineB; simp; omega))
        clear hb hl
        go_enter Try.func15, Try.ntmps15
        go_wp2_with fail
        with_reducible refine (hN.out _).mono ?_
        rintro r w1 ⟨rfl, b1⟩
        rw [b1]; clear b1
        go_wp2_with fail
        with_reducible refine (hM.out _).mono ?_
        rintro r w2 ⟨rfl, b2⟩
        rw [b2]; clear b2
        go_wp2_with fail
        with_reducible refine (hC.out _).mono ?_
        rintro r w3 ⟨rfl, b3⟩
        have A0 := h2.out.1.below b3 (by rw [h2.out.2.2.2]; omega)
        have A1 := h2.out.2.1.below b3 (by rw [h2.out.2.2.2]; omega)
        have B1 := Lib.hid (grown_then h2.out.2.2.1 b3)
        have F0 := A0.fr
        have c0 := A0.c0
        have c1 := A0.c1
        have d0 := A1.c0
        have d1 := A1.c1
        have A2 := Lib.hid (A0.set 0 0)
        clear b3 A1 h2 A0
        go_wp2
        exact bodyPost_ret (range_result2 Try.underlying24 rfl (by kernel_rfl) Try.results15 A2.out rfl rfl) rfl ⟨ret_range HR.out.1.symm HR.out.2.1.symm HR.out.2.2.symm, below_set (below_set B1.out (Nat.le_refl _)) (Nat.le_refl _)⟩
    · have hM := Lib.hid (fun w => nanoNo l hl w h3 h4)
      have HR := Lib.hid (of_no (b := b) (l := l) (by unfold ofB; simp [hl]))
      clear hb hl
      go_enter Try.func15, Try.ntmps15
      go_wp2_with fail
      with_reducible refine (hN.out _).mono ?_
      rintro r w1 ⟨rfl, b1⟩
      rw [b1]; clear b1
      go_wp2_with fail
      with_reducible refine (hM.out _).mono ?_
      rintro r w2 ⟨rfl, b2⟩
      rw [b2]; clear b2
      go_wp2
      exact bodyPost_ret (range_result2 Try.underlying24 rfl (by kernel_rfl) Try.results15 hZ.out rfl rfl) rfl ⟨ret_range HR.out.1.symm HR.out.2.1.symm HR.out.2.2.symm, hB.out⟩
  · have hN := Lib.hid (fun w => nanoNo b hb w h1 h2)
    have HR := Lib.hid (of_no (b := b) (l := l) (by unfold ofB; simp [hb]))
    clear hb
    go_enter Try.func15, Try.ntmps15
    go_wp2_with fail
    with_reducible refine (hN.out _).mono ?_
    rintro r w1 ⟨rfl, b1⟩
    rw [b1]; clear b1
    go_wp2
    exact bodyPost_ret (range_result2 Try.underlying24 rfl (by kernel_rfl) Try.results15 hZ.out rfl rfl) rfl ⟨ret_range HR.out.1.symm HR.out.2.1.symm HR.out.2.2.symm, hB.out⟩
end Go.Proofs.Ytgljkoffanphkaa
