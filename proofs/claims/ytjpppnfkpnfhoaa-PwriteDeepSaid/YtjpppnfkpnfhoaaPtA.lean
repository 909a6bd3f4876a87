/- Package ptag: May, whole, Size, Put, meant, Read; slices.Clone of bytes. -/
import Derived.Test.YtjpppnfkpnfhoaaPtNum
import Derived.Test.YtjpppnfkpnfhoaaApp
import Derived.Laws.StructEq
import Derived.Lib.SliceRun
namespace Go.Proofs.Ytjpppnfkpnfhoaa
open Go Go.RowKit
set_option linter.unusedVariables false

abbrev tgV (n v : Int) : Value := .agg #[.int .i64 n, .int .i64 v]
/-- Block b holds a tag. -/
def TgT (t : TypeId) (w : World) (b : Nat) (n v : Int) : Prop := w.heap[b]? = some (.cells #[.int .i64 n, .int .i64 v] t (0, 0))
theorem TgT.lt {t : TypeId} {w : World} {b : Nat} {n v : Int} (h : TgT t w b n v) : b < w.heap.size := lt_of_block h
theorem TgT.c0 {t : TypeId} {w : World} {b : Nat} {n v : Int} (h : TgT t w b n v) : w.cell? ⟨b, 0, none⟩ = some (.int .i64 n) := by unfold TgT at h; simp [World.cell?, h]
theorem TgT.c1 {t : TypeId} {w : World} {b : Nat} {n v : Int} (h : TgT t w b n v) : w.cell? ⟨b, 1, none⟩ = some (.int .i64 v) := by unfold TgT at h; simp [World.cell?, h]
theorem TgT.fr {t : TypeId} {w : World} {b : Nat} {n v : Int} (h : TgT t w b n v) (o : Nat) : w.frozen? ⟨b, o, none⟩ = false := by unfold TgT at h; simp [World.frozen?, h]
theorem TgT.below {t : TypeId} {w w' : World} {b N : Nat} {n v : Int} (h : TgT t w b n v) (hb : Below N w w') (hN : b < N) : TgT t w' b n v := (hb.block b hN).trans h
theorem TgT.drewN {t : TypeId} {w : World} {b : Nat} {n v : Int} (h : TgT t w b n v) (m : Nat) : TgT t (w.drewN m) b n v := h
theorem TgT.only {t : TypeId} {w w' : World} {b c : Nat} {n v : Int} (h : TgT t w b n v) (ho : Only c w w') (hb : b ≠ c) : TgT t w' b n v := (ho.block b h.lt hb).trans h
theorem tg_alloc (t : TypeId) (w : World) (n v : Int) : TgT t (w.alloc (.cells #[.int .i64 n, .int .i64 v] t)) w.heap.size n v := heap_alloc_new w _
theorem tg_grow (t : TypeId) (w : World) (n v : Int) : Below w.heap.size w (w.alloc (.cells #[.int .i64 n, .int .i64 v] t)) := (Below.refl _ _).alloc (Nat.le_refl _) _
theorem TgT.set {t : TypeId} {w : World} {b : Nat} {n v : Int} (h : TgT t w b n v) (n' v' : Int) : TgT t ((w.setCell ⟨b, 0, none⟩ (.int .i64 n')).setCell ⟨b, 1, none⟩ (.int .i64 v')) b n' v' :=
  heap_setCell_block (heap_setCell_block h _) _
theorem tg_set_below {N : Nat} {w W : World} {b : Nat} {x y : Value} (h : Below N w W) (hb : N ≤ b) : Below N w ((W.setCell ⟨b, 0, none⟩ x).setCell ⟨b, 1, none⟩ y) :=
  h.trans ⟨rfl, rfl, rfl, by simp [World.setCell], fun k hk => (Below.heap_setCell _ _ _ _ (show k ≠ b from Nat.ne_of_lt (Nat.lt_of_lt_of_le hk hb))).trans (Below.heap_setCell _ _ _ _ (show k ≠ b from Nat.ne_of_lt (Nat.lt_of_lt_of_le hk hb)))⟩
theorem tg_set_only {c : Nat} {w W : World} {b : Nat} {x y : Value} (h : Only c w W) (hb : w.heap.size ≤ b) : Only c w ((W.setCell ⟨b, 0, none⟩ x).setCell ⟨b, 1, none⟩ y) :=
  ⟨h.os, h.tape, h.output, by have := h.size; simpa [World.setCell] using this, fun k hk hc => ((Below.heap_setCell _ _ _ _ (show k ≠ b from Nat.ne_of_lt (Nat.lt_of_lt_of_le hk hb))).trans (Below.heap_setCell _ _ _ _ (show k ≠ b from Nat.ne_of_lt (Nat.lt_of_lt_of_le hk hb)))).trans (h.block k hk hc)⟩
theorem tg_set_cur {w : World} {b k : Nat} {x y : Value} {t : TypeId} {c : CS} (h : CurT t w k c) (hk : k ≠ b) : CurT t ((w.setCell ⟨b, 0, none⟩ x).setCell ⟨b, 1, none⟩ y) k c :=
  ((Below.heap_setCell _ _ _ _ hk).trans (Below.heap_setCell _ _ _ _ hk)).trans h
theorem tg_set_tg {w : World} {b k : Nat} {x y : Value} {t : TypeId} {n v : Int} (h : TgT t w k n v) (hk : k ≠ b) : TgT t ((w.setCell ⟨b, 0, none⟩ x).setCell ⟨b, 1, none⟩ y) k n v :=
  ((Below.heap_setCell _ _ _ _ hk).trans (Below.heap_setCell _ _ _ _ hk)).trans h
/-- Two tags that have just been laid, seen behind a call that turned nothing that was there. -/
theorem tg_two {t : TypeId} {w w1 : World} {a b c d : Int} (h : Below ((w.alloc (.cells #[.int .i64 a, .int .i64 b] t)).alloc (.cells #[.int .i64 c, .int .i64 d] t)).heap.size ((w.alloc (.cells #[.int .i64 a, .int .i64 b] t)).alloc (.cells #[.int .i64 c, .int .i64 d] t)) w1) :
    TgT t w1 w.heap.size a b ∧ TgT t w1 (w.heap.size + 1) c d ∧ Below w.heap.size w w1 := by
  have g1 := tg_alloc t w a b
  have g2 := tg_alloc t (w.alloc (.cells #[.int .i64 a, .int .i64 b] t)) c d
  have g3 := g1.below (tg_grow t _ c d) (by simp)
  rw [World.size_alloc] at g2
  exact ⟨g3.below h g3.lt, g2.below h g2.lt, below_on (below_on (tg_grow _ w a b) (tg_grow _ _ c d) (by simp)) h (by simp; omega)⟩
/-- A result variable that is a tag. -/
theorem tg_result {P : Program} {T : TypeId} {d : TypeDesc} (hu : P.underlying T = some d) (hd : (match d with | .struct _ | .array _ _ => true | _ => false) = true) (hi : (P.info? T).map (·.size) = some 2)
    {fn : Func} {p : Tmp} (h : fn.results = #[.cell p T]) {tmps : Array Value} {w : World} {g : Nat} {t : TypeId} {n v : Int} (hg : TgT t w g n v) (hp : tmps.getD p undef = .pointer (some ⟨g, 0, none⟩)) :
    (results fn tmps).run P w = .ok (tgV n v) w :=
  results_cell_row h tmps w g t #[.int .i64 n, .int .i64 v] (0, 0) d hp hg hu hd hi
theorem ret_tg {n v n' v' : Int} (h : n = n') (h' : v = v') : Ending.returned (tgV n v) = .returned (tgV n' v') := by rw [h, h']
/-- Two tags compared. -/
theorem tg_eql (a b c d : Int) (w : World) : (binOp .eql 64 (tgV a b) (tgV c d)).run Try.prog w = .ok (.bool (decide (a = c) && decide (b = d))) w := by
  have h1 : Try.prog.stoodInHeld 64 = false := by kernel_rfl
  have h2 : Try.prog.underlying 64 = some (.struct (Try.prog.fieldsOf 64)) := by kernel_rfl
  have p0 : ∀ x y : Int, (part 3 #[.int .i64 x, .int .i64 y] 0).run Try.prog w = .ok (.int .i64 x) w := fun x y => by simp [part, go_sem]
  have p1 : ∀ x y : Int, (part 3 #[.int .i64 x, .int .i64 y] 1).run Try.prog w = .ok (.int .i64 y) w := fun x y => by simp [part, go_sem]
  rw [run_eql_struct, show (10000 : Nat) = 9999 + 1 from rfl, run_equalIn_struct w 9999 _ _ _ h2 h1]
  have q0 := run_equalIn_int (P := Try.prog) w 9998 3 .i64 .i64 a c Try.underlying3
  have q1 := run_equalIn_int (P := Try.prog) w 9998 3 .i64 .i64 b d Try.underlying3
  simp [Program.fieldsOf, Try.underlying64, Op.eqFields, Sem.run_bind, p0, p1, Result.andThen_ok, q0, q1, -beq_iff_eq]
  by_cases e1 : a = c
  · by_cases e2 : b = d
    · subst e1 e2; simp
    · simp [e1, e2]
  · simp [e1]
theorem tg_guard : Try.prog.eqGuardType Try.prog.depth 64 = false := by kernel_rfl

set_option maxRecDepth 10000 in
theorem may_way (n v : Int) (w : World) (x y : Bool) (p1 : decide (1 ≤ n) = x) (p2 : decide (n ≤ 536870911) = y) (hv : v = 0 ∨ v = 1 ∨ v = 2 ∨ v = 5) :
    Calls Try.prog 30 #[tgV n v] w fun e w' => e = .returned (.bool (x && y)) ∧ Below w.heap.size w w' := by
  cases x <;> cases y <;> rcases hv with rfl | rfl | rfl | rfl <;>
    (go_enter Try.func30, Try.ntmps30
     go_wp2
     go_ret
     exact ⟨rfl, by go_grown⟩)
theorem may_none (n v : Int) (w : World) (h0 : ¬ v = 0) (h1 : ¬ v = 1) (h2 : ¬ v = 2) (h5 : ¬ v = 5) :
    Calls Try.prog 30 #[tgV n v] w fun e w' => e = .returned (.bool false) ∧ Below w.heap.size w w' := by
  have p0 : (v == 0) = false := beq_eq_false_iff_ne.mpr h0
  have p1 : (v == 1) = false := beq_eq_false_iff_ne.mpr h1
  have p2 : (v == 2) = false := beq_eq_false_iff_ne.mpr h2
  have p5 : (v == 5) = false := beq_eq_false_iff_ne.mpr h5
  clear h0 h1 h2 h5
  go_enter Try.func30, Try.ntmps30
  go_wp2
  go_ret
  exact ⟨rfl, by go_grown⟩
theorem may_any (n v : Int) (w : World) :
    Calls Try.prog 30 #[tgV n v] w fun e w' => e = .returned (.bool (tagB n v)) ∧ Below w.heap.size w w' := by
  by_cases hv : v = 0 ∨ v = 1 ∨ v = 2 ∨ v = 5
  · have e : tagB n v = (decide (1 ≤ n) && decide (n ≤ 536870911)) := by unfold tagB; simp [hv]
    rw [e]; exact may_way n v w _ _ rfl rfl hv
  · have e : tagB n v = false := by unfold tagB; simp [hv]
    rw [e]; exact may_none n v w (fun h => hv (.inl h)) (fun h => hv (.inr (.inl h))) (fun h => hv (.inr (.inr (.inl h)))) (fun h => hv (.inr (.inr (.inr h))))

theorem whole_any (n v : Int) (w : World) (h : tagB n v = true) :
    Calls Try.prog 58 #[tgV n v] w fun e w' => e = .returned (.int .u64 (tagU n v : Nat)) ∧ Below w.heap.size w w' := by
  have h1 := tag_yes h
  have e1 : IntKind.u64.wrap n = n := IntWalk.u64_in _ (by omega)
  have e2 : IntKind.u64.wrap (n * 8) = n * 8 := IntWalk.u64_in _ (by omega)
  have e3 : IntKind.u64.wrap v = v := IntWalk.u64_in _ (by omega)
  have e4 : IntKind.u64.wrap (n * 8 + v) = n * 8 + v := IntWalk.u64_in _ (by omega)
  have HR := Lib.hid (show n * 8 + v = ((tagU n v : Nat) : Int) by unfold tagU; omega)
  clear h h1
  go_enter Try.func58, Try.ntmps58
  go_wp2
  go_ret
  exact ⟨ret_i HR.out, by go_grown⟩

theorem tsize_any (n v : Int) (w : World) :
    Calls Try.prog 55 #[tgV n v] w fun e w' => e = .returned (.int .i64 ((tagL n v).length : Nat)) ∧ Below w.heap.size w w' := by
  rcases Bool.eq_false_or_eq_true (tagB n v) with h | h
  · have HM := Lib.hid (fun w => may_any n v w)
    rw [h] at HM
    have HW := Lib.hid (fun w => whole_any n v w h)
    have HS := Lib.hid (fun w => vsize_any (tagU n v) w (by have := tagU_lt h; omega))
    have HR := Lib.hid (show (tagL n v).length = (vB (tagU n v)).length by unfold tagL; rw [if_pos h])
    clear h
    go_enter Try.func55, Try.ntmps55
    go_wp2_with fail
    with_reducible refine (HM.out _).mono ?_
    rintro e w1 ⟨rfl, b1⟩
    have k1 := Lib.hid (below_on (tg_grow 64 w n v) b1 (by simp))
    have A1 := (tg_alloc 64 w n v).below b1 (by simp)
    have c0 := A1.c0; have c1 := A1.c1
    clear b1 A1
    go_wp2_with fail
    with_reducible refine (HW.out _).mono ?_
    rintro e w2 ⟨rfl, b2⟩
    have k2 := Lib.hid (grown_then k1.out b2)
    clear b2 c0 c1
    go_wp2_with fail
    with_reducible refine (HS.out _).mono ?_
    rintro e w3 ⟨rfl, rfl⟩
    go_wp2
    go_ret
    exact ⟨ret_i (by rw [HR.out]), k2.out⟩
  · have HM := Lib.hid (fun w => may_any n v w)
    rw [h] at HM
    have HR := Lib.hid (show (tagL n v).length = 0 by unfold tagL; simp [h])
    clear h
    go_enter Try.func55, Try.ntmps55
    go_wp2_with fail
    with_reducible refine (HM.out _).mono ?_
    rintro e w1 ⟨rfl, b1⟩
    have k1 := Lib.hid (below_on (tg_grow 64 w n v) b1 (by simp))
    clear b1
    go_wp2
    go_ret
    exact ⟨by rw [HR.out]; rfl, k1.out⟩
end Go.Proofs.Ytjpppnfkpnfhoaa
