/- Law 12's Back; the document's Same, All (package truchmanref12). -/
import Derived.Test.YticlijjkeeejpaaDoorJtH
import Derived.Laws.StructEq
import Derived.OrdersHeld
import Derived.Deep.QuietTactic
namespace Go.Proofs.YticlijjkeeejpaaDoor
open Go Go.RowKit
set_option linter.unusedVariables false

theorem back_nil (a : Option Addr) (cap : Nat) (w : World) :
    Calls Tryd.prog 16 #[.slice a 0 cap] w fun e w' => ∃ v, e = .returned v ∧ TRow 37 w' w.heap.size v [] ∧ Below w.heap.size w w' := by
  go_enter Tryd.func16, Tryd.ntmps16
  go_wp2_with fail
  refine wp_loop_once ?_
  go_wp2
  go_ret
  exact ⟨_, rfl, trow_nil _ _ _, Below.refl _ _⟩
def BkRel (W : World) (l : List TK) (v i : Value) (wr : World) : Prop := ∃ j : Nat, j ≤ l.length ∧ i = .int .i64 (j : Nat) ∧ TRow 37 wr W.heap.size v (l.take j) ∧ Below W.heap.size W wr
set_option maxRecDepth 20000 in
set_option maxHeartbeats 1000000 in
theorem back_any (a : Option Addr) (cap : Nat) (l : List TK) (w : World) (hl : l.length ≤ 1099511627776) (hin : TIn w a l) :
    Calls Tryd.prog 16 #[.slice a l.length cap] w fun e w' => ∃ v, e = .returned v ∧ TRow 37 w' w.heap.size v l ∧ Below w.heap.size w w' := by
  by_cases h0 : l = []
  · subst h0; exact back_nil a cap w
  · obtain ⟨g, rfl, hg, -⟩ := hin 0 (Nat.pos_of_ne_zero (fun e => h0 (List.eq_nil_of_length_eq_zero e)))
    have HC := Lib.hid (show ∀ j (h : j < l.length), w.cell? ⟨g, j * 2, none⟩ = some (.int .u8 (l[j].1.toNat : Int)) ∧ w.cell? ⟨g, j * 2 + 1, none⟩ = some (.string (bA l[j].2)) from fun j h => by
      obtain ⟨g', e, _, hc⟩ := hin j h
      obtain rfl : g = g' := by simpa using e
      exact hc)
    clear hin
    go_enter Tryd.func16, Tryd.ntmps16
    go_wp2_with fail
    go_loopw [3, 4] (fun v i wr => BkRel w l v i wr) (fun _ i _ => l.length - (intOf i).toNat)
    case atStart => exact ⟨0, Nat.zero_le _, rfl, trow_nil _ _ _, Below.refl _ _⟩
    case round =>
      obtain ⟨j, hj, rfl, hrow, hbel⟩ := hrel
      by_cases hlt : j < l.length
      · have p1 : decide ((j : Int) < (l.length : Int)) = true := decide_eq_true (by omega)
        have p2 : (j : Int) < (l.length : Int) := by omega
        have hc0 := (hbel.cell (p := ⟨g, j * 2, none⟩) hg).trans (HC.out j hlt).1
        have hc1 := (hbel.cell (p := ⟨g, j * 2 + 1, none⟩) hg).trans (HC.out j hlt).2
        have HQ := Lib.hid (show (l.take (j + 1)) = l.take j ++ [l[j]] from List.take_succ_eq_append_getElem hlt)
        have hsz := hbel.size
        have hpl : (l.take j).length ≤ 1099511627776 := by rw [List.length_take]; omega
        have HC2 := Lib.hid HC.out
        clear HC
        generalize l[j] = y at *
        go_wp2_with (at_builtin; go_loud (refine wpList_append_tok rfl (.tmp 11) (.tmp 16) 27 rfl 37 Tryd.underlying27 infoR _ wr w.heap.size (l.take j) hrow hsz rfl _ _ y rfl rfl rfl hpl ?_; intro v5 w5 hv5 hb5))
        have hbel5 := hbel.trans hb5
        go_roundw
        case rel => exact ⟨j + 1, by omega, by go_num, by rw [HQ.out]; exact hv5, hbel5⟩
        case measure => simp [intOf]; omega
      · have p1 : decide ((j : Int) < (l.length : Int)) = false := decide_eq_false (by omega)
        have HR := Lib.hid (show l.take j = l from List.take_of_length_le (by omega))
        have HW := Lib.hid (And.intro hrow hbel)
        clear hrow hbel
        go_wp2
        go_ret
        exact ⟨_, rfl, by have := HW.out.1; rw [HR.out] at this; exact this, HW.out.2⟩
/-- Two tokens compared. -/
theorem tk_neq (x y : TK) (w : World) : (binOp .neq 37 (tkV x) (tkV y)).run Tryd.prog w = .ok (.bool (!decide (x = y))) w := by
  have h1 : Tryd.prog.stoodInHeld 37 = false := by kernel_rfl
  have h2 : Tryd.prog.underlying 37 = some (.struct (Tryd.prog.fieldsOf 37)) := by kernel_rfl
  have p0 : ∀ z : TK, (part 5 #[.int .u8 (z.1.toNat : Int), .string (bA z.2)] 0).run Tryd.prog w = .ok (.int .u8 (z.1.toNat : Int)) w := fun z => by simp [part, go_sem]
  have p1 : ∀ z : TK, (part 9 #[.int .u8 (z.1.toNat : Int), .string (bA z.2)] 1).run Tryd.prog w = .ok (.string (bA z.2)) w := fun z => by simp [part, go_sem]
  unfold tkV
  rw [run_neq_struct, show (10000 : Nat) = 9999 + 1 from rfl, run_equalIn_struct w 9999 _ _ _ h2 h1]
  have q0 := run_equalIn_int (P := Tryd.prog) w 9998 5 .u8 .u8 (x.1.toNat : Int) (y.1.toNat : Int) Tryd.underlying5
  have q1 := run_equalIn_string (P := Tryd.prog) w 9998 9 (bA x.2) (bA y.2) Tryd.underlying9
  simp [Program.fieldsOf, Tryd.underlying37, Op.eqFields, Sem.run_bind, p0, p1, Result.andThen_ok, q0, q1, -beq_iff_eq]
  obtain ⟨k, s⟩ := x
  obtain ⟨l, t⟩ := y
  by_cases e1 : k = l
  · by_cases e2 : s = t
    · subst e1 e2; simp
    · have n2 : ¬ (bA s).toList = (bA t).toList := fun e => e2 (by
        rw [ByteArray.toList_eq, ByteArray.toList_eq] at e
        exact e)
      simp [e1, e2, n2]
  · have n1 : ¬ ((k.toNat : Nat) : Int) = ((l.toNat : Nat) : Int) := fun e => e1 (UInt8.toNat_inj.mp (by omega))
    simp only [if_neg n1]
    simp [e1]
section
variable {P : Program} {T : TypeId} {dst : Option Tmp} {ty yT : TypeId} {pos : String} {after : Array Edge} {g : Option (Nat × Bool)} {x y : Operand} {a : Act} {w : World} {C : World → Prop} {Q : Act → Prop} {ops : Array Oper} {rest : List Oper} {o : Oper}
theorem wqv {v : Value} (hw : Region.wanted o (yielded ops a.tmps) = true) (hv : ∀ w, C w → (execOp a.eval o).run P w = .ok (.value v) w) (h : wpQuiet P ops C Q rest (a.put o.dst v)) : wpQuiet P ops C Q (o :: rest) a :=
  wpQuiet_step fun K hK => by
    rw [if_pos hw]
    exact ⟨v, fun w hC => by unfold Oper.quietAt; rw [hv w hC]; exact ⟨rfl, rfl⟩, hK _ h⟩
end
theorem tk_guard : Tryd.prog.eqGuardType Tryd.prog.depth 37 = false := by kernel_rfl
theorem wq_tkneq {dst : Option Tmp} {ty yT : TypeId} {pos : String} {after : Array Edge} {g : Option (Nat × Bool)} {x y : Operand} {a : Act} {C : World → Prop} {Q : Act → Prop} {ops : Array Oper} {rest : List Oper} {u v : TK}
    (hw : Region.wanted ⟨dst, .binOp .neq 37 x y yT, ty, pos, after, g⟩ (yielded ops a.tmps) = true) (hx : a.eval x = tkV u) (hy : a.eval y = tkV v) (h : wpQuiet Tryd.prog ops C Q rest (a.put dst (.bool (!decide (u = v))))) :
    wpQuiet Tryd.prog ops C Q (⟨dst, .binOp .neq 37 x y yT, ty, pos, after, g⟩ :: rest) a :=
  wqv hw (fun w hC => by
    have hn := tk_neq u v w
    simp only [execOp, hx, hy, Sem.run_bind, show tkV u = .agg #[.int .u8 (u.1.toNat : Int), .string (bA u.2)] from rfl, show tkV v = .agg #[.int .u8 (v.1.toNat : Int), .string (bA v.2)] from rfl, run_eqGuard_agg w .neq 37 x y _ _ tk_guard, Result.andThen_ok]
    unfold tkV at hn
    rw [hn]; rfl) h
def SmRel (w : World) (l m : List TK) (i : Value) (wr : World) : Prop := ∃ j : Nat, j ≤ l.length ∧ i = .int .i64 (j : Nat) ∧ Hid (l.take j = m.take j) ∧ Below w.heap.size w wr
theorem same_ne (a b : Option Addr) (n m c1 c2 : Nat) (h : ¬ n = m) (w : World) :
    Calls Tryd.prog 15 #[.slice a n c1, .slice b m c2] w fun e w' => e = .returned (.bool false) ∧ Below w.heap.size w w' := by
  have p1 : ((n : Int) != (m : Int)) = true := bne_iff_ne.mpr (by omega)
  have p2 : (n != m) = true := bne_iff_ne.mpr h
  go_enter Tryd.func15, Tryd.ntmps15
  go_wp2
  go_ret
  exact ⟨rfl, Below.refl _ _⟩
theorem same_nil (a b : Option Addr) (c1 c2 : Nat) (w : World) :
    Calls Tryd.prog 15 #[.slice a 0 c1, .slice b 0 c2] w fun e w' => e = .returned (.bool true) ∧ Below w.heap.size w w' := by
  go_enter Tryd.func15, Tryd.ntmps15
  go_wp2_with fail
  refine wp_loop_once ?_
  go_wp2
  go_ret
  exact ⟨rfl, Below.refl _ _⟩
set_option maxRecDepth 20000 in
set_option maxHeartbeats 1000000 in
theorem same_eq (a b : Option Addr) (c1 c2 : Nat) (l m : List TK) (w : World) (hlm : l.length = m.length) (hl : l.length ≤ 1099511627776) (hin : TIn w a l) (hin2 : TIn w b m) :
    Calls Tryd.prog 15 #[.slice a l.length c1, .slice b l.length c2] w fun e w' => e = .returned (.bool (decide (l = m))) ∧ Below w.heap.size w w' := by
  by_cases h0 : l = []
  · subst h0
    have : m = [] := List.eq_nil_of_length_eq_zero hlm.symm
    subst this
    exact same_nil a b c1 c2 w
  · have hpos := Nat.pos_of_ne_zero (fun e => h0 (List.eq_nil_of_length_eq_zero e))
    obtain ⟨g, rfl, hg, -⟩ := hin 0 hpos
    obtain ⟨d, rfl, hd, -⟩ := hin2 0 (by omega)
    have HC := Lib.hid (show ∀ j (h : j < l.length), w.cell? ⟨g, j * 2, none⟩ = some (.int .u8 (l[j].1.toNat : Int)) ∧ w.cell? ⟨g, j * 2 + 1, none⟩ = some (.string (bA l[j].2)) from fun j h => by
      obtain ⟨g', e, _, hc⟩ := hin j h
      obtain rfl : g = g' := by simpa using e
      exact hc)
    have HD := Lib.hid (show ∀ j (h : j < m.length), w.cell? ⟨d, j * 2, none⟩ = some (.int .u8 (m[j].1.toNat : Int)) ∧ w.cell? ⟨d, j * 2 + 1, none⟩ = some (.string (bA m[j].2)) from fun j h => by
      obtain ⟨g', e, _, hc⟩ := hin2 j h
      obtain rfl : d = g' := by simpa using e
      exact hc)
    have HLM := Lib.hid hlm
    clear hin hin2 h0 hlm
    go_enter Tryd.func15, Tryd.ntmps15
    go_wp2_with fail
    go_loopw [4, 5] (fun _ i wr => SmRel w l m i wr) (fun _ i _ => l.length - (intOf i).toNat)
    case atStart => exact ⟨0, Nat.zero_le _, rfl, Lib.hid rfl, Below.refl _ _⟩
    case round =>
      obtain ⟨j, hj, rfl, hpre, hbel⟩ := hrel
      by_cases hlt : j < l.length
      · have p1 : decide ((j : Int) < (l.length : Int)) = true := decide_eq_true (by omega)
        have p2 : (j : Int) < (l.length : Int) := by omega
        have hmt : j < m.length := by rw [← HLM.out]; exact hlt
        have hc0 := (hbel.cell (p := ⟨g, j * 2, none⟩) hg).trans (HC.out j hlt).1
        have hc1 := (hbel.cell (p := ⟨g, j * 2 + 1, none⟩) hg).trans (HC.out j hlt).2
        have hd0 := (hbel.cell (p := ⟨d, j * 2, none⟩) hd).trans (HD.out j hmt).1
        have hd1 := (hbel.cell (p := ⟨d, j * 2 + 1, none⟩) hd).trans (HD.out j hmt).2
        have HQ := Lib.hid (show (l.take (j + 1)) = l.take j ++ [l[j]] from List.take_succ_eq_append_getElem hlt)
        have HQ2 := Lib.hid (show (m.take (j + 1)) = m.take j ++ [m[j]] from List.take_succ_eq_append_getElem hmt)
        generalize l[j] = y at *
        generalize m[j] = z at *
        by_cases he : y = z
        · have HT := Lib.hid (show l.take (j + 1) = m.take (j + 1) by rw [HQ.out, HQ2.out, hpre.out, he])
          have d1 : (!decide (y = z)) = false := by simp [he]
          clear he
          go_wp2_with fail
          refine wp_region_quiet_lit (by kernel_rfl) (by kernel_rfl) ?_
          repeat (quiet_step (fail))
          refine wq_tkneq (u := y) (v := z) (by rfl) (by rfl) (by rfl) ?_
          simp only [Act.put, List.setIfInBounds_toArray, List.set_cons_zero, List.set_cons_succ, d1]
          refine wpQuiet_nil ?_
          intro _ hw'
          obtain ⟨nq, hw''⟩ := hw'
          subst hw''
          clear d1
          go_wp2
          go_roundw
          case rel => exact ⟨j + 1, by omega, by go_num, HT, Below.drewN hbel nq⟩
          case measure => simp [intOf]; omega
        · have HT := Lib.hid (show decide (l = m) = false from decide_eq_false (fun e => by
            have h1 := HQ.out
            have h2 := HQ2.out
            rw [← e] at h2
            rw [h2] at h1
            exact he (List.cons.inj (List.append_cancel_left h1)).1.symm))
          have d1 : (!decide (y = z)) = true := by simp [he]
          clear he
          go_wp2_with fail
          refine wp_region_quiet_lit (by kernel_rfl) (by kernel_rfl) ?_
          repeat (quiet_step (fail))
          refine wq_tkneq (u := y) (v := z) (by rfl) (by rfl) (by rfl) ?_
          simp only [Act.put, List.setIfInBounds_toArray, List.set_cons_zero, List.set_cons_succ, d1]
          refine wpQuiet_nil ?_
          intro _ hw'
          obtain ⟨nq, hw''⟩ := hw'
          subst hw''
          clear d1
          go_wp2
          go_ret
          exact ⟨ret_b HT.out.symm, Below.drewN hbel nq⟩
      · have p1 : decide ((j : Int) < (l.length : Int)) = false := decide_eq_false (by omega)
        have HT := Lib.hid (show decide (l = m) = true from decide_eq_true (by
          have h1 := hpre.out
          rw [List.take_of_length_le (by omega), List.take_of_length_le (by have := HLM.out; omega)] at h1
          exact h1))
        go_wp2
        go_ret
        exact ⟨ret_b HT.out.symm, hbel⟩
theorem same_any (a b : Option Addr) (c1 c2 : Nat) (l m : List TK) (w : World) (hl : l.length ≤ 1099511627776) (hin : TIn w a l) (hin2 : TIn w b m) :
    Calls Tryd.prog 15 #[.slice a l.length c1, .slice b m.length c2] w fun e w' => e = .returned (.bool (decide (l = m))) ∧ Below w.heap.size w w' := by
  by_cases h : l.length = m.length
  · have := same_eq a b c1 c2 l m w h hl hin hin2
    rw [← h]; exact this
  · rw [decide_eq_false (fun e => h (congrArg List.length e))]
    exact same_ne a b _ _ c1 c2 h w
end Go.Proofs.YticlijjkeeejpaaDoor
