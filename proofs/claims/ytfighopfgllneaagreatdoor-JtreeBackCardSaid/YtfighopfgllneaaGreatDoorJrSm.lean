/- Law 13's Back; the document's Same (package truchmanref13). -/
import Derived.Test.YtfighopfgllneaaGreatDoorZM
import Derived.Laws.StructEq
import Derived.OrdersHeld
import Derived.BigQuiet
import Derived.Deep.QuietTactic
namespace Go.Proofs.YtfighopfgllneaaGreatDoor
open Go Go.RowKit
set_option linter.unusedVariables false

theorem nback_nil (a : Option Addr) (cap : Nat) (w : World) :
    Calls Tryz.prog 8 #[.slice a 0 cap] w fun e w' => ∃ v, e = .returned v ∧ NRow 56 w' w.heap.size v [] ∧ Below w.heap.size w w' := by
  go_enter Tryz.func8, Tryz.ntmps8
  go_wp2_with fail
  refine wp_loop_once ?_
  go_wp2
  go_ret
  exact ⟨_, rfl, nrow_nil _ _ _, Below.refl _ _⟩
theorem nd_cell {w : World} {g : Nat} {l : List ND} (hin : NIn w (some ⟨g, 0, none⟩) l) : ∀ j (h : j < l.length), w.cell? ⟨g, j * 4, none⟩ = some (.int .u8 (l[j].1.toNat : Int)) ∧ w.cell? ⟨g, j * 4 + 1, none⟩ = some (.string (bA l[j].2.1)) ∧ w.cell? ⟨g, j * 4 + 2, none⟩ = some (.string (bA l[j].2.2.1)) ∧ w.cell? ⟨g, j * 4 + 3, none⟩ = some (.int .i64 (l[j].2.2.2 : Nat)) := fun j h => by
  obtain ⟨g', e, _, hc⟩ := hin j h
  obtain rfl : g = g' := by simpa using e
  exact hc
def NBkRel (W : World) (l : List ND) (v i : Value) (wr : World) : Prop := ∃ j : Nat, j ≤ l.length ∧ i = .int .i64 (j : Nat) ∧ NRow 56 wr W.heap.size v (l.take j) ∧ Below W.heap.size W wr
set_option maxRecDepth 20000 in
set_option maxHeartbeats 1000000 in
theorem nback_any (a : Option Addr) (cap : Nat) (l : List ND) (w : World) (hl : l.length ≤ 1099511627775) (hin : NIn w a l) :
    Calls Tryz.prog 8 #[.slice a l.length cap] w fun e w' => ∃ v, e = .returned v ∧ NRow 56 w' w.heap.size v l ∧ Below w.heap.size w w' := by
  by_cases h0 : l = []
  · subst h0; exact nback_nil a cap w
  · obtain ⟨g, rfl, hg, -⟩ := hin 0 (Nat.pos_of_ne_zero (fun e => h0 (List.eq_nil_of_length_eq_zero e)))
    have HC := Lib.hid (nd_cell hin)
    clear hin
    go_enter Tryz.func8, Tryz.ntmps8
    go_wp2_with fail
    go_loopw [3, 4] (fun v i wr => NBkRel w l v i wr) (fun _ i _ => l.length - (intOf i).toNat)
    case atStart => exact ⟨0, Nat.zero_le _, rfl, nrow_nil _ _ _, Below.refl _ _⟩
    case round =>
      obtain ⟨j, hj, rfl, hrow, hbel⟩ := hrel
      by_cases hlt : j < l.length
      · have p1 : decide ((j : Int) < (l.length : Int)) = true := decide_eq_true (by omega)
        have p2 : (j : Int) < (l.length : Int) := by omega
        have hc0 := (hbel.cell (p := ⟨g, j * 4, none⟩) hg).trans (HC.out j hlt).1
        have hc1 := (hbel.cell (p := ⟨g, j * 4 + 1, none⟩) hg).trans (HC.out j hlt).2.1
        have hc2 := (hbel.cell (p := ⟨g, j * 4 + 2, none⟩) hg).trans (HC.out j hlt).2.2.1
        have hc3 := (hbel.cell (p := ⟨g, j * 4 + 3, none⟩) hg).trans (HC.out j hlt).2.2.2
        have HQ := Lib.hid (show (l.take (j + 1)) = l.take j ++ [l[j]] from List.take_succ_eq_append_getElem hlt)
        have hsz := hbel.size
        have hpl : (l.take j).length + 1 ≤ 1099511627776 := by rw [List.length_take]; omega
        have HC2 := Lib.hid HC.out
        clear HC
        generalize l[j] = y at *
        have hN := Lib.hid (heap_alloc_new wr (.cells (ndC y).toArray 56))
        have bN := Lib.hid (alloc_below wr (.cells (ndC y).toArray 56))
        have RN := Lib.hid (nrow_one hN.out)
        have RW := Lib.hid (hrow.below bN.out (Nat.le_refl _))
        have hszN : w.heap.size ≤ (wr.alloc (.cells (ndC y).toArray 56)).heap.size := Nat.le_trans hsz bN.out.size
        go_wp2_with (at_builtin; go_loud (refine wpList_append_nds rfl (.tmp 11) (.tmp 16) 23 rfl 56 Tryz.underlying23 infoM _ w.heap.size (l.take j) RW.out hszN rfl _ _ [y] RN.out rfl hpl ?_; intro v5 w5 hv5 hb5))
        have hbel5 := (hbel.trans (bN.out.mono hsz)).trans hb5
        go_roundw
        case rel => exact ⟨j + 1, by omega, by go_num, by rw [HQ.out]; exact hv5, hbel5⟩
        case measure => simp [intOf]; omega
      · have p1 : decide ((j : Int) < (l.length : Int)) = false := decide_eq_false (by omega)
        have HR := Lib.hid (show l.take j = l from List.take_of_length_le (by omega))
        have HW := Lib.hid (And.intro hrow hbel)
        clear hrow hbel
        go_wp2
        go_ret
        exact ⟨_, rfl, by have := HW.out.1; rw [HR.out] at this; exact this, HW.out.2⟩


theorem bA_ne {s t : List UInt8} (h : ¬ s = t) : ¬ (bA s).toList = (bA t).toList := fun e => h (by
  rw [ByteArray.toList_eq, ByteArray.toList_eq] at e
  exact e)
/-- Two nodes compared. -/
theorem nd_neq (x y : ND) (w : World) : (binOp .neq 56 (ndV x) (ndV y)).run Tryz.prog w = .ok (.bool (!decide (x = y))) w := by
  have h1 : Tryz.prog.stoodInHeld 56 = false := by kernel_rfl
  have h2 : Tryz.prog.underlying 56 = some (.struct (Tryz.prog.fieldsOf 56)) := by kernel_rfl
  have p0 : ∀ z : ND, (part 5 #[.int .u8 (z.1.toNat : Int), .string (bA z.2.1), .string (bA z.2.2.1), .int .i64 (z.2.2.2 : Nat)] 0).run Tryz.prog w = .ok (.int .u8 (z.1.toNat : Int)) w := fun z => by simp [part, go_sem]
  have p1 : ∀ z : ND, (part 9 #[.int .u8 (z.1.toNat : Int), .string (bA z.2.1), .string (bA z.2.2.1), .int .i64 (z.2.2.2 : Nat)] 1).run Tryz.prog w = .ok (.string (bA z.2.1)) w := fun z => by simp [part, go_sem]
  have p2 : ∀ z : ND, (part 9 #[.int .u8 (z.1.toNat : Int), .string (bA z.2.1), .string (bA z.2.2.1), .int .i64 (z.2.2.2 : Nat)] 2).run Tryz.prog w = .ok (.string (bA z.2.2.1)) w := fun z => by simp [part, go_sem]
  have p3 : ∀ z : ND, (part 3 #[.int .u8 (z.1.toNat : Int), .string (bA z.2.1), .string (bA z.2.2.1), .int .i64 (z.2.2.2 : Nat)] 3).run Tryz.prog w = .ok (.int .i64 (z.2.2.2 : Nat)) w := fun z => by simp [part, go_sem]
  unfold ndV
  rw [run_neq_struct, show (10000 : Nat) = 9999 + 1 from rfl, run_equalIn_struct w 9999 _ _ _ h2 h1]
  have q0 := run_equalIn_int (P := Tryz.prog) w 9998 5 .u8 .u8 (x.1.toNat : Int) (y.1.toNat : Int) Tryz.underlying5
  have q1 := run_equalIn_string (P := Tryz.prog) w 9998 9 (bA x.2.1) (bA y.2.1) Tryz.underlying9
  have q2 := run_equalIn_string (P := Tryz.prog) w 9998 9 (bA x.2.2.1) (bA y.2.2.1) Tryz.underlying9
  have q3 := run_equalIn_int (P := Tryz.prog) w 9998 3 .i64 .i64 (x.2.2.2 : Nat) (y.2.2.2 : Nat) Tryz.underlying3
  simp [Program.fieldsOf, Tryz.underlying56, Op.eqFields, Sem.run_bind, p0, p1, p2, p3, Result.andThen_ok, q0, q1, q2, q3, -beq_iff_eq]
  obtain ⟨k, s, t, n⟩ := x
  obtain ⟨k2, s2, t2, n2⟩ := y
  by_cases e1 : k = k2
  · by_cases e2 : s = s2
    · by_cases e3 : t = t2
      · by_cases e4 : n = n2
        · subst e1 e2 e3 e4; simp
        · subst e1 e2 e3; simp [e4]; omega
      · subst e1 e2; simp [e3, bA_ne e3]
    · subst e1; simp [e2, bA_ne e2]
  · have n1 : ¬ ((k.toNat : Nat) : Int) = ((k2.toNat : Nat) : Int) := fun e => e1 (UInt8.toNat_inj.mp (by omega))
    simp only [if_neg n1]
    simp [e1]
section
variable {P : Program} {T : TypeId} {dst : Option Tmp} {ty yT : TypeId} {pos : String} {after : Array Edge} {g : Option (Nat × Bool)} {x y : Operand} {a : Act} {w : World} {C : World → Prop} {Q : Act → Prop} {ops : Array Oper} {rest : List Oper} {o : Oper}
theorem wqn {v : Value} (hw : Region.wanted o (yielded ops a.tmps) = true) (hv : ∀ w, C w → (execOp a.eval o).run P w = .ok (.value v) w) (h : wpQuiet P ops C Q rest (a.put o.dst v)) : wpQuiet P ops C Q (o :: rest) a :=
  wpQuiet_step fun K hK => by
    rw [if_pos hw]
    exact ⟨v, fun w hC => by unfold Oper.quietAt; rw [hv w hC]; exact ⟨rfl, rfl⟩, hK _ h⟩
end
theorem nd_guard : Tryz.prog.eqGuardType Tryz.prog.depth 56 = false := by kernel_rfl
theorem wq_ndneq {dst : Option Tmp} {ty yT : TypeId} {pos : String} {after : Array Edge} {g : Option (Nat × Bool)} {x y : Operand} {a : Act} {C : World → Prop} {Q : Act → Prop} {ops : Array Oper} {rest : List Oper} {u v : ND}
    (hw : Region.wanted ⟨dst, .binOp .neq 56 x y yT, ty, pos, after, g⟩ (yielded ops a.tmps) = true) (hx : a.eval x = ndV u) (hy : a.eval y = ndV v) (h : wpQuiet Tryz.prog ops C Q rest (a.put dst (.bool (!decide (u = v))))) :
    wpQuiet Tryz.prog ops C Q (⟨dst, .binOp .neq 56 x y yT, ty, pos, after, g⟩ :: rest) a :=
  wqn hw (fun w hC => by
    have hn := nd_neq u v w
    simp only [execOp, hx, hy, Sem.run_bind, show ndV u = .agg #[.int .u8 (u.1.toNat : Int), .string (bA u.2.1), .string (bA u.2.2.1), .int .i64 (u.2.2.2 : Nat)] from rfl, show ndV v = .agg #[.int .u8 (v.1.toNat : Int), .string (bA v.2.1), .string (bA v.2.2.1), .int .i64 (v.2.2.2 : Nat)] from rfl, run_eqGuard_agg w .neq 56 x y _ _ nd_guard, Result.andThen_ok]
    unfold ndV at hn
    rw [hn]; rfl) h
def NSmRel (w : World) (l m : List ND) (i : Value) (wr : World) : Prop := ∃ j : Nat, j ≤ l.length ∧ i = .int .i64 (j : Nat) ∧ Hid (l.take j = m.take j) ∧ Below w.heap.size w wr
theorem nsame_ne (a b : Option Addr) (n m c1 c2 : Nat) (h : ¬ n = m) (w : World) :
    Calls Tryz.prog 7 #[.slice a n c1, .slice b m c2] w fun e w' => e = .returned (.bool false) ∧ Below w.heap.size w w' := by
  have p1 : ((n : Int) != (m : Int)) = true := bne_iff_ne.mpr (by omega)
  have p2 : (n != m) = true := bne_iff_ne.mpr h
  go_enter Tryz.func7, Tryz.ntmps7
  go_wp2
  go_ret
  exact ⟨rfl, Below.refl _ _⟩
theorem nsame_nil (a b : Option Addr) (c1 c2 : Nat) (w : World) :
    Calls Tryz.prog 7 #[.slice a 0 c1, .slice b 0 c2] w fun e w' => e = .returned (.bool true) ∧ Below w.heap.size w w' := by
  go_enter Tryz.func7, Tryz.ntmps7
  go_wp2_with fail
  refine wp_loop_once ?_
  go_wp2
  go_ret
  exact ⟨rfl, Below.refl _ _⟩
set_option maxRecDepth 20000 in
set_option maxHeartbeats 1000000 in
theorem nsame_eq (a b : Option Addr) (c1 c2 : Nat) (l m : List ND) (w : World) (hlm : l.length = m.length) (hl : l.length ≤ 1099511627776) (hin : NIn w a l) (hin2 : NIn w b m) :
    Calls Tryz.prog 7 #[.slice a l.length c1, .slice b l.length c2] w fun e w' => e = .returned (.bool (decide (l = m))) ∧ Below w.heap.size w w' := by
  by_cases h0 : l = []
  · subst h0
    have : m = [] := List.eq_nil_of_length_eq_zero hlm.symm
    subst this
    exact nsame_nil a b c1 c2 w
  · have hpos := Nat.pos_of_ne_zero (fun e => h0 (List.eq_nil_of_length_eq_zero e))
    obtain ⟨g, rfl, hg, -⟩ := hin 0 hpos
    obtain ⟨d, rfl, hd, -⟩ := hin2 0 (by omega)
    have HC := Lib.hid (nd_cell hin)
    have HD := Lib.hid (nd_cell hin2)
    have HLM := Lib.hid hlm
    clear hin hin2 h0 hlm
    go_enter Tryz.func7, Tryz.ntmps7
    go_wp2_with fail
    go_loopw [4, 5] (fun _ i wr => NSmRel w l m i wr) (fun _ i _ => l.length - (intOf i).toNat)
    case atStart => exact ⟨0, Nat.zero_le _, rfl, Lib.hid rfl, Below.refl _ _⟩
    case round =>
      obtain ⟨j, hj, rfl, hpre, hbel⟩ := hrel
      by_cases hlt : j < l.length
      · have p1 : decide ((j : Int) < (l.length : Int)) = true := decide_eq_true (by omega)
        have p2 : (j : Int) < (l.length : Int) := by omega
        have hmt : j < m.length := by rw [← HLM.out]; exact hlt
        have hc0 := (hbel.cell (p := ⟨g, j * 4, none⟩) hg).trans (HC.out j hlt).1
        have hc1 := (hbel.cell (p := ⟨g, j * 4 + 1, none⟩) hg).trans (HC.out j hlt).2.1
        have hc2 := (hbel.cell (p := ⟨g, j * 4 + 2, none⟩) hg).trans (HC.out j hlt).2.2.1
        have hc3 := (hbel.cell (p := ⟨g, j * 4 + 3, none⟩) hg).trans (HC.out j hlt).2.2.2
        have hd0 := (hbel.cell (p := ⟨d, j * 4, none⟩) hd).trans (HD.out j hmt).1
        have hd1 := (hbel.cell (p := ⟨d, j * 4 + 1, none⟩) hd).trans (HD.out j hmt).2.1
        have hd2 := (hbel.cell (p := ⟨d, j * 4 + 2, none⟩) hd).trans (HD.out j hmt).2.2.1
        have hd3 := (hbel.cell (p := ⟨d, j * 4 + 3, none⟩) hd).trans (HD.out j hmt).2.2.2
        have HQ := Lib.hid (show (l.take (j + 1)) = l.take j ++ [l[j]] from List.take_succ_eq_append_getElem hlt)
        have HQ2 := Lib.hid (show (m.take (j + 1)) = m.take j ++ [m[j]] from List.take_succ_eq_append_getElem hmt)
        generalize l[j] = y at *
        generalize m[j] = z at *
        by_cases he : y = z
        · have HT := Lib.hid (show l.take (j + 1) = m.take (j + 1) by rw [HQ.out, HQ2.out, hpre.out, he])
          have d1 : (!decide (y = z)) = false := by simp [he]
          clear he
          go_wp2_with fail
          refine wp_region_quiet_lit (by kernel_rfl) (by kernel_rfl) ?_
          repeat (quiet_step (fail))
          refine wq_ndneq (u := y) (v := z) (by rfl) (by rfl) (by rfl) ?_
          simp only [Act.put, List.setIfInBounds_toArray, List.set_cons_zero, List.set_cons_succ, d1]
          refine wpQuiet_nil ?_
          intro _ hw'
          obtain ⟨nq, hw''⟩ := hw'
          subst hw''
          clear d1
          go_wp2
          go_roundw
          case rel => exact ⟨j + 1, by omega, by go_num, HT, Below.drewN hbel nq⟩
          case measure => simp [intOf]; omega
        · have HT := Lib.hid (show decide (l = m) = false from decide_eq_false (fun e => by
            have h1 := HQ.out
            have h2 := HQ2.out
            rw [← e] at h2
            rw [h2] at h1
            exact he (List.cons.inj (List.append_cancel_left h1)).1.symm))
          have d1 : (!decide (y = z)) = true := by simp [he]
          clear he
          go_wp2_with fail
          refine wp_region_quiet_lit (by kernel_rfl) (by kernel_rfl) ?_
          repeat (quiet_step (fail))
          refine wq_ndneq (u := y) (v := z) (by rfl) (by rfl) (by rfl) ?_
          simp only [Act.put, List.setIfInBounds_toArray, List.set_cons_zero, List.set_cons_succ, d1]
          refine wpQuiet_nil ?_
          intro _ hw'
          obtain ⟨nq, hw''⟩ := hw'
          subst hw''
          clear d1
          go_wp2
          go_ret
          exact ⟨ret_b HT.out.symm, Below.drewN hbel nq⟩
      · have p1 : decide ((j : Int) < (l.length : Int)) = false := decide_eq_false (by omega)
        have HT := Lib.hid (show decide (l = m) = true from decide_eq_true (by
          have h1 := hpre.out
          rw [List.take_of_length_le (by omega), List.take_of_length_le (by have := HLM.out; omega)] at h1
          exact h1))
        go_wp2
        go_ret
        exact ⟨ret_b HT.out.symm, hbel⟩
theorem nodes_same (a b : Option Addr) (c1 c2 : Nat) (l m : List ND) (w : World) (hl : l.length ≤ 1099511627776) (hin : NIn w a l) (hin2 : NIn w b m) :
    Calls Tryz.prog 7 #[.slice a l.length c1, .slice b m.length c2] w fun e w' => e = .returned (.bool (decide (l = m))) ∧ Below w.heap.size w w' := by
  by_cases h : l.length = m.length
  · have := nsame_eq a b c1 c2 l m w h hl hin hin2
    rw [← h]; exact this
  · rw [decide_eq_false (fun e => h (congrArg List.length e))]
    exact nsame_ne a b _ _ c1 c2 h w
end Go.Proofs.YtfighopfgllneaaGreatDoor
