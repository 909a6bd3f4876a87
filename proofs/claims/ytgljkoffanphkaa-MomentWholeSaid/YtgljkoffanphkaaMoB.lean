/- Package moment: a range's Begun, Lasts; Of; the document's Begun, Lasts, Of, Whole. -/
import Derived.Test.YtgljkoffanphkaaMoA
import Derived.Deep.RegionWith
namespace Go.Proofs.Ytgljkoffanphkaa
open Go Go.RowKit
set_option linter.unusedVariables false

/-- Block b holds the range from s to e. -/
def RBlk (t : TypeId) (w : World) (b : Nat) (s e : Int) : Prop := w.heap[b]? = some (.cells #[.int .u64 s, .int .u64 e] t (0, 0))
theorem RBlk.lt {t : TypeId} {w : World} {b : Nat} {s e : Int} (h : RBlk t w b s e) : b < w.heap.size := lt_of_block h
theorem RBlk.c0 {t : TypeId} {w : World} {b : Nat} {s e : Int} (h : RBlk t w b s e) : w.cell? ⟨b, 0, none⟩ = some (.int .u64 s) := by unfold RBlk at h; simp [World.cell?, h]
theorem RBlk.c1 {t : TypeId} {w : World} {b : Nat} {s e : Int} (h : RBlk t w b s e) : w.cell? ⟨b, 1, none⟩ = some (.int .u64 e) := by unfold RBlk at h; simp [World.cell?, h]
theorem RBlk.fr {t : TypeId} {w : World} {b : Nat} {s e : Int} (h : RBlk t w b s e) (o : Nat) : w.frozen? ⟨b, o, none⟩ = false := by unfold RBlk at h; simp [World.frozen?, h]
theorem RBlk.below {t : TypeId} {w w' : World} {b N : Nat} {s e : Int} (h : RBlk t w b s e) (hb : Below N w w') (hN : b < N) : RBlk t w' b s e := (hb.block b hN).trans h
theorem rblk_alloc (t : TypeId) (w : World) (s e : Int) : RBlk t (w.alloc (.cells #[.int .u64 s, .int .u64 e] t)) w.heap.size s e := heap_alloc_new w _
theorem grown_then {w W w' : World} (h1 : Below w.heap.size w W) (h2 : Below W.heap.size W w') : Below w.heap.size w w' := h1.trans ⟨h2.os, h2.tape, h2.output, h2.size, fun k hk => h2.block k (Nat.lt_of_lt_of_le hk h1.size)⟩

def begI (s e : Int) : Int := if fineB s e then s / 1000 else 0
def lasI (s e : Int) : Int := if fineB s e then (e - s) / 1000 else 0
def ofB (b l : Int) : Bool := decide (nanoB b = true ∧ nanoB l = true ∧ b * 1000 + l * 1000 ≤ 9223372036854775807)
def ofS (b l : Int) : Int := if ofB b l then b * 1000 else 0
def ofE (b l : Int) : Int := if ofB b l then b * 1000 + l * 1000 else 0
def ofC (b l : Int) : Int := if ofB b l then 0 else 11
theorem of_yes {b l : Int} (h : ofB b l = true) : ofS b l = b * 1000 ∧ ofE b l = b * 1000 + l * 1000 ∧ ofC b l = 0 := by unfold ofS ofE ofC; simp [h]
theorem of_no {b l : Int} (h : ofB b l = false) : ofS b l = 0 ∧ ofE b l = 0 ∧ ofC b l = 11 := by unfold ofS ofE ofC; simp [h]
theorem beg_yes {s e : Int} (h : fineB s e = true) : begI s e = s / 1000 ∧ lasI s e = (e - s) / 1000 := by unfold begI lasI; simp [h]
theorem beg_no {s e : Int} (h : fineB s e = false) : begI s e = 0 ∧ lasI s e = 0 := by unfold begI lasI; simp [h]

theorem check_yes (s e : Int) (h : fineB s e = true) (w : World) :
    Calls Try.prog 8 #[rV s e] w fun r w' => r = .returned (.int .i64 0) ∧ Below w.heap.size w w' := by
  have := check_any s e w; rw [chk_yes h] at this; exact this
theorem check_no (s e : Int) (h : fineB s e = false) (w : World) :
    Calls Try.prog 8 #[rV s e] w fun r w' => r = .returned (.int .i64 11) ∧ Below w.heap.size w w' := by
  have := check_any s e w; rw [chk_no h] at this; exact this
theorem rfine_yes (s e : Int) (h : fineB s e = true) (w : World) :
    Calls Try.prog 9 #[.int .u64 s, .int .u64 e] w fun r w' => r = .returned (.bool true) ∧ w' = w := by
  have := fine_any s e w; rw [h] at this; exact this
theorem rfine_no (s e : Int) (h : fineB s e = false) (w : World) :
    Calls Try.prog 9 #[.int .u64 s, .int .u64 e] w fun r w' => r = .returned (.bool false) ∧ w' = w := by
  have := fine_any s e w; rw [h] at this; exact this

set_option maxRecDepth 10000 in
theorem told_start (s e : Int) (w : World) (h1 : 0 ≤ s) (h2 : s ≤ 18446744073709551615) :
    Calls Try.prog 21 #[rV s e, .func (.func 22) #[] #[]] w fun r w' => r = .returned (.int .i64 (begI s e)) ∧ Below w.heap.size w w' := by
  have hA := Lib.hid (rblk_alloc 24 w s e)
  have hB := Lib.hid (below_alloc w (.cells #[.int .u64 s, .int .u64 e] 24))
  rcases Bool.eq_false_or_eq_true (fineB s e) with hf | hf
  · have ho := fineB_yes hf
    have hC := Lib.hid (check_yes s e hf)
    have HR := Lib.hid (beg_yes hf)
    have hS := Lib.hid (fun w => start_any s e w)
    have hM := Lib.hid (fun w => micro_any s w (by omega) (by omega))
    clear hf ho
    go_enter Try.func21, Try.ntmps21
    go_wp2_with fail
    with_reducible refine (hC.out _).mono ?_
    rintro r w1 ⟨rfl, b1⟩
    have A1 := hA.out.below b1 (by simp)
    have B1 := Lib.hid (grown_then hB.out b1)
    have c0 := A1.c0
    have c1 := A1.c1
    clear b1 hB A1
    go_wp2_with fail
    with_reducible refine (hS.out _).mono ?_
    rintro r w2 ⟨rfl, b2⟩
    have B2 := Lib.hid (grown_then B1.out b2)
    clear b2
    go_wp2_with fail
    with_reducible refine (hM.out _).mono ?_
    rintro r w3 ⟨rfl, b3⟩
    rw [b3]; clear b3
    go_wp2
    go_ret
    exact ⟨ret_num HR.out.1.symm, B2.out⟩
  · have hC := Lib.hid (check_no s e hf)
    have HR := Lib.hid (beg_no hf)
    clear hf
    go_enter Try.func21, Try.ntmps21
    go_wp2_with fail
    with_reducible refine (hC.out _).mono ?_
    rintro r w1 ⟨rfl, b1⟩
    have B1 := Lib.hid (grown_then hB.out b1)
    clear b1 hB
    go_wp2
    go_ret
    exact ⟨ret_num HR.out.1.symm, B1.out⟩
set_option maxRecDepth 10000 in
theorem told_length (s e : Int) (w : World) (h1 : 0 ≤ s) (h2 : s ≤ 18446744073709551615) :
    Calls Try.prog 21 #[rV s e, .func (.func 23) #[] #[]] w fun r w' => r = .returned (.int .i64 (lasI s e)) ∧ Below w.heap.size w w' := by
  have hA := Lib.hid (rblk_alloc 24 w s e)
  have hB := Lib.hid (below_alloc w (.cells #[.int .u64 s, .int .u64 e] 24))
  rcases Bool.eq_false_or_eq_true (fineB s e) with hf | hf
  · have ho := fineB_yes hf
    have hC := Lib.hid (check_yes s e hf)
    have HR := Lib.hid (beg_yes hf)
    have hS := Lib.hid (fun w => length_any s e w h1 ho.1 (by omega))
    have hM := Lib.hid (fun w => micro_any (e - s) w (by omega) (by omega))
    clear hf ho
    go_enter Try.func21, Try.ntmps21
    go_wp2_with fail
    with_reducible refine (hC.out _).mono ?_
    rintro r w1 ⟨rfl, b1⟩
    have A1 := hA.out.below b1 (by simp)
    have B1 := Lib.hid (grown_then hB.out b1)
    have c0 := A1.c0
    have c1 := A1.c1
    clear b1 hB A1
    go_wp2_with fail
    with_reducible refine (hS.out _).mono ?_
    rintro r w2 ⟨rfl, b2⟩
    have B2 := Lib.hid (grown_then B1.out b2)
    clear b2
    go_wp2_with fail
    with_reducible refine (hM.out _).mono ?_
    rintro r w3 ⟨rfl, b3⟩
    rw [b3]; clear b3
    go_wp2
    go_ret
    exact ⟨ret_num HR.out.2.symm, B2.out⟩
  · have hC := Lib.hid (check_no s e hf)
    have HR := Lib.hid (beg_no hf)
    clear hf
    go_enter Try.func21, Try.ntmps21
    go_wp2_with fail
    with_reducible refine (hC.out _).mono ?_
    rintro r w1 ⟨rfl, b1⟩
    have B1 := Lib.hid (grown_then hB.out b1)
    clear b1 hB
    go_wp2
    go_ret
    exact ⟨ret_num HR.out.2.symm, B1.out⟩
theorem begun_any (s e : Int) (w : World) (h1 : 0 ≤ s) (h2 : s ≤ 18446744073709551615) :
    Calls Try.prog 10 #[rV s e] w fun r w' => r = .returned (.int .i64 (begI s e)) ∧ Below w.heap.size w w' := by
  have hB := Lib.hid (below_alloc w (.cells #[.int .u64 s, .int .u64 e] 24))
  have hT := Lib.hid (fun w => told_start s e w h1 h2)
  go_enter Try.func10, Try.ntmps10
  go_wp2_with fail
  with_reducible refine (hT.out _).mono ?_
  rintro r w1 ⟨rfl, b1⟩
  have B1 := Lib.hid (grown_then hB.out b1)
  clear b1 hB
  go_wp2
  go_ret
  exact ⟨rfl, B1.out⟩
theorem lasts_any (s e : Int) (w : World) (h1 : 0 ≤ s) (h2 : s ≤ 18446744073709551615) :
    Calls Try.prog 12 #[rV s e] w fun r w' => r = .returned (.int .i64 (lasI s e)) ∧ Below w.heap.size w w' := by
  have hB := Lib.hid (below_alloc w (.cells #[.int .u64 s, .int .u64 e] 24))
  have hT := Lib.hid (fun w => told_length s e w h1 h2)
  go_enter Try.func12, Try.ntmps12
  go_wp2_with fail
  with_reducible refine (hT.out _).mono ?_
  rintro r w1 ⟨rfl, b1⟩
  have B1 := Lib.hid (grown_then hB.out b1)
  clear b1 hB
  go_wp2
  go_ret
  exact ⟨rfl, B1.out⟩
theorem rbegun_any (s e : Int) (w : World) (h1 : 0 ≤ s) (h2 : s ≤ 18446744073709551615) :
    Calls Try.prog 11 #[.int .u64 s, .int .u64 e] w fun r w' => r = .returned (.int .i64 (begI s e)) ∧ w' = w := by
  rcases Bool.eq_false_or_eq_true (fineB s e) with hf | hf
  · have ho := fineB_yes hf
    have hC := Lib.hid (rfine_yes s e hf)
    have HR := Lib.hid (beg_yes hf)
    have hM := Lib.hid (fun w => rmicro_any s w (by omega) (by omega))
    have e1 : IntKind.u64.wrap (e - s) = e - s := PlainAid.u64_nonneg (by omega) (by omega)
    clear hf ho
    go_enter Try.func11, Try.ntmps11
    go_wp2_with fail
    with_reducible refine (hC.out _).mono ?_
    rintro r w1 ⟨rfl, b1⟩
    rw [b1]; clear b1
    go_wp2_with fail
    with_reducible refine (hM.out _).mono ?_
    rintro r w3 ⟨rfl, b3⟩
    rw [b3]; clear b3
    go_wp2
    go_ret
    exact ⟨ret_num HR.out.1.symm, rfl⟩
  · have hC := Lib.hid (rfine_no s e hf)
    have HR := Lib.hid (beg_no hf)
    clear hf
    go_enter Try.func11, Try.ntmps11
    go_wp2_with fail
    with_reducible refine (hC.out _).mono ?_
    rintro r w1 ⟨rfl, b1⟩
    rw [b1]; clear b1
    go_wp2
    go_ret
    exact ⟨ret_num HR.out.1.symm, rfl⟩
theorem rlasts_any (s e : Int) (w : World) (h1 : 0 ≤ s) (h2 : s ≤ 18446744073709551615) :
    Calls Try.prog 13 #[.int .u64 s, .int .u64 e] w fun r w' => r = .returned (.int .i64 (lasI s e)) ∧ w' = w := by
  rcases Bool.eq_false_or_eq_true (fineB s e) with hf | hf
  · have ho := fineB_yes hf
    have hC := Lib.hid (rfine_yes s e hf)
    have HR := Lib.hid (beg_yes hf)
    have hM := Lib.hid (fun w => rmicro_any (e - s) w (by omega) (by omega))
    have e1 : IntKind.u64.wrap (e - s) = e - s := PlainAid.u64_nonneg (by omega) (by omega)
    clear hf ho
    go_enter Try.func13, Try.ntmps13
    go_wp2_with fail
    with_reducible refine (hC.out _).mono ?_
    rintro r w1 ⟨rfl, b1⟩
    rw [b1]; clear b1
    go_wp2_with fail
    with_reducible refine (hM.out _).mono ?_
    rintro r w3 ⟨rfl, b3⟩
    rw [b3]; clear b3
    go_wp2
    go_ret
    exact ⟨ret_num HR.out.2.symm, rfl⟩
  · have hC := Lib.hid (rfine_no s e hf)
    have HR := Lib.hid (beg_no hf)
    clear hf
    go_enter Try.func13, Try.ntmps13
    go_wp2_with fail
    with_reducible refine (hC.out _).mono ?_
    rintro r w1 ⟨rfl, b1⟩
    rw [b1]; clear b1
    go_wp2
    go_ret
    exact ⟨ret_num HR.out.2.symm, rfl⟩
end Go.Proofs.Ytgljkoffanphkaa
