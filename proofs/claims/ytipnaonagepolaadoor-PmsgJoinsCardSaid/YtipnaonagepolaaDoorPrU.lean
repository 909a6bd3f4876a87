/- The document's own fields (package truchmanref17): Text, Same; law 17's Back. -/
import Derived.Test.YtipnaonagepolaaDoorZJ
import Derived.Test.YtipnaonagepolaaDoorPrR
namespace Go.Proofs.YtipnaonagepolaaDoor
open Go Go.RowKit
set_option linter.unusedVariables false

/-- The worlds within Text: the field's block, nothing else turned. -/
structure ZT (w wx : World) (n v : Int) (u : Nat) (s : ByteArray) : Prop where
  fld : PfT 45 wx w.heap.size (n, v, u, s)
  b : Below w.heap.size w wx
theorem ZT.next {w wx w' : World} {n v : Int} {u : Nat} {s : ByteArray} (h : ZT w wx n v u s) (hb : Below wx.heap.size wx w') : ZT w w' n v u s := ⟨h.fld.below hb h.fld.lt, grown_then h.b hb⟩
theorem ZT.drew {w wx : World} {n v : Int} {u : Nat} {s : ByteArray} (h : ZT w wx n v u s) : ZT w wx.drew n v u s := ⟨h.fld, h.b.drew⟩
theorem zt_begin (w : World) (n v : Int) (u : Nat) (s : ByteArray) : ZT w (w.alloc (.cells #[.int .i64 n, .int .i64 v, .int .u64 (u : Nat), .string s] 45)) n v u s := ⟨fd_alloc w (n, v, u, s) _, fd_grow w (n, v, u, s) _⟩
@[reducible] def CZT (w : World) (n v : Int) (u : Nat) (s : ByteArray) (wx : World) : Prop := wx.cell? ⟨w.heap.size, 3, none⟩ = some (.string s) ∧ ZT w wx n v u s
theorem czt_next {w wx w' : World} {n v : Int} {u : Nat} {s : ByteArray} (hb : Below wx.heap.size wx w') (h : CZT w n v u s wx) : CZT w n v u s w' := ⟨(h.2.next hb).fld.c3, h.2.next hb⟩
theorem CZT.z {w wx : World} {n v : Int} {u : Nat} {s : ByteArray} (h : CZT w n v u s wx) : ZT w wx n v u s := h.2
theorem empty_is (l : List UInt8) : (bA l).toList.isEmpty = decide (l = []) := by
  rw [ByteArray.toList_eq, show (bA l).data.toList = l by simp [bA]]
  cases l <;> simp
theorem bA_nil : bA [] = ⟨#[]⟩ := rfl






theorem pback_nil (a : Option Addr) (cap : Nat) (w : World) :
    Calls Tryd.prog 25 #[.slice a 0 cap] w fun e w' => ∃ v, e = .returned v ∧ FRow 45 w' w.heap.size v [] ∧ Below w.heap.size w w' := by
  go_enter Tryd.func25, Tryd.ntmps25
  go_wp2_with fail
  refine wp_loop_once ?_
  go_wp2
  go_ret
  exact ⟨_, rfl, frow_nil _ _ _, Below.refl _ _⟩
def PbRel (W : World) (l : List FD) (v i : Value) (wr : World) : Prop := ∃ j : Nat, j ≤ l.length ∧ i = .int .i64 (j : Nat) ∧ FRow 45 wr W.heap.size v (l.take j) ∧ Below W.heap.size W wr
set_option maxRecDepth 20000 in
set_option maxHeartbeats 1000000 in
theorem pfback_any (a : Option Addr) (cap : Nat) (l : List FD) (w : World) (hl : l.length ≤ 1099511627776) (hin : FIn w a l) :
    Calls Tryd.prog 25 #[.slice a l.length cap] w fun e w' => ∃ v, e = .returned v ∧ FRow 45 w' w.heap.size v l ∧ Below w.heap.size w w' := by
  by_cases h0 : l = []
  · subst h0; exact pback_nil a cap w
  · obtain ⟨g, rfl, hg, hc⟩ := hin.block h0
    have HC := Lib.hid hc
    clear hin hc
    go_enter Tryd.func25, Tryd.ntmps25
    go_wp2_with fail
    go_loopw [3, 4] (fun v i wr => PbRel w l v i wr) (fun _ i _ => l.length - (intOf i).toNat)
    case atStart => exact ⟨0, Nat.zero_le _, rfl, frow_nil _ _ _, Below.refl _ _⟩
    case round =>
      obtain ⟨j, hj, rfl, hrow, hbel⟩ := hrel
      by_cases hlt : j < l.length
      · have p1 : decide ((j : Int) < (l.length : Int)) = true := decide_eq_true (by omega)
        have p2 : (j : Int) < (l.length : Int) := by omega
        obtain ⟨k0, k1, k2, k3⟩ := (HC.out j hlt).below hbel hg
        have HQ := Lib.hid (show (l.take (j + 1)) = l.take j ++ [l[j]] from List.take_succ_eq_append_getElem hlt)
        have hsz := hbel.size
        have hpl : (l.take j).length ≤ 1099511627776 := by rw [List.length_take]; omega
        have HC2 := Lib.hid HC.out
        clear HC
        generalize l[j] = y at *
        go_wp2_with (at_builtin; go_loud (refine wpList_append_fd rfl (.tmp 11) (.tmp 16) 27 rfl 45 Tryd.underlying27 infoRf _ wr w.heap.size (l.take j) hrow hsz rfl _ _ _ _ y rfl rfl rfl rfl rfl hpl ?_; intro v5 w5 hv5 hb5))
        have hbel5 := hbel.trans hb5
        go_roundw
        case rel => exact ⟨j + 1, by omega, by go_num, by rw [HQ.out]; exact hv5, hbel5⟩
        case measure => simp [intOf]; omega
      · have p1 : decide ((j : Int) < (l.length : Int)) = false := decide_eq_false (by omega)
        have HR := Lib.hid (show l.take j = l from List.take_of_length_le (by omega))
        have HW := Lib.hid (And.intro hrow hbel)
        clear hrow hbel
        go_wp2
        go_ret
        exact ⟨_, rfl, by have := HW.out.1; rw [HR.out] at this; exact this, HW.out.2⟩
section
variable {P : Program} {a : Act} {C : World → Prop} {Q : Act → Prop} {ops : Array Oper} {rest : List Oper} {o : Oper}
theorem wqv17 {v : Value} (hw : Region.wanted o (yielded ops a.tmps) = true) (hv : ∀ w, C w → (execOp a.eval o).run P w = .ok (.value v) w) (h : wpQuiet P ops C Q rest (a.put o.dst v)) : wpQuiet P ops C Q (o :: rest) a :=
  wpQuiet_step fun K hK => by
    rw [if_pos hw]
    exact ⟨v, fun w hC => by unfold Oper.quietAt; rw [hv w hC]; exact ⟨rfl, rfl⟩, hK _ h⟩
end
theorem wq_fdneq {dst : Option Tmp} {ty yT : TypeId} {pos : String} {after : Array Edge} {g : Option (Nat × Bool)} {x y : Operand} {a : Act} {C : World → Prop} {Q : Act → Prop} {ops : Array Oper} {rest : List Oper} {u v : FD}
    (hw : Region.wanted ⟨dst, .binOp .neq 45 x y yT, ty, pos, after, g⟩ (yielded ops a.tmps) = true) (hx : a.eval x = pfV u) (hy : a.eval y = pfV v) (h : wpQuiet Tryd.prog ops C Q rest (a.put dst (.bool (!decide (u = v))))) :
    wpQuiet Tryd.prog ops C Q (⟨dst, .binOp .neq 45 x y yT, ty, pos, after, g⟩ :: rest) a :=
  wqv17 hw (fun w hC => by
    have hn := neqRf u v w
    simp only [execOp, hx, hy, Sem.run_bind, show pfV u = .agg #[.int .i64 u.1, .int .i64 u.2.1, .int .u64 (u.2.2.1 : Nat), .string u.2.2.2] from rfl, show pfV v = .agg #[.int .i64 v.1, .int .i64 v.2.1, .int .u64 (v.2.2.1 : Nat), .string v.2.2.2] from rfl, run_eqGuard_agg w .neq 45 x y _ _ guardRf, Result.andThen_ok]
    unfold pfV at hn
    rw [hn]; rfl) h
def PsRel (w : World) (l m : List FD) (i : Value) (wr : World) : Prop := ∃ j : Nat, j ≤ l.length ∧ i = .int .i64 (j : Nat) ∧ Hid (l.take j = m.take j) ∧ Below w.heap.size w wr
theorem psame_ne (a b : Option Addr) (n m c1 c2 : Nat) (h : ¬ n = m) (w : World) :
    Calls Tryd.prog 24 #[.slice a n c1, .slice b m c2] w fun e w' => e = .returned (.bool false) ∧ Below w.heap.size w w' := by
  have p1 : ((n : Int) != (m : Int)) = true := bne_iff_ne.mpr (by omega)
  have p2 : (n != m) = true := bne_iff_ne.mpr h
  go_enter Tryd.func24, Tryd.ntmps24
  go_wp2
  go_ret
  exact ⟨rfl, Below.refl _ _⟩
theorem psame_nil (a b : Option Addr) (c1 c2 : Nat) (w : World) :
    Calls Tryd.prog 24 #[.slice a 0 c1, .slice b 0 c2] w fun e w' => e = .returned (.bool true) ∧ Below w.heap.size w w' := by
  go_enter Tryd.func24, Tryd.ntmps24
  go_wp2_with fail
  refine wp_loop_once ?_
  go_wp2
  go_ret
  exact ⟨rfl, Below.refl _ _⟩
set_option maxRecDepth 20000 in
set_option maxHeartbeats 1000000 in
theorem psame_eq (a b : Option Addr) (c1 c2 : Nat) (l m : List FD) (w : World) (hlm : l.length = m.length) (hl : l.length ≤ 1099511627776) (hin : FIn w a l) (hin2 : FIn w b m) :
    Calls Tryd.prog 24 #[.slice a l.length c1, .slice b l.length c2] w fun e w' => e = .returned (.bool (decide (l = m))) ∧ Below w.heap.size w w' := by
  by_cases h0 : l = []
  · subst h0
    have : m = [] := List.eq_nil_of_length_eq_zero hlm.symm
    subst this
    exact psame_nil a b c1 c2 w
  · have h0' : m ≠ [] := fun e => h0 (List.eq_nil_of_length_eq_zero (by rw [hlm, e]; rfl))
    obtain ⟨g, rfl, hg, hc⟩ := hin.block h0
    obtain ⟨d, rfl, hd, hc2⟩ := hin2.block h0'
    have HC := Lib.hid hc
    have HD := Lib.hid hc2
    have HLM := Lib.hid hlm
    clear hin hin2 h0 h0' hlm hc hc2
    go_enter Tryd.func24, Tryd.ntmps24
    go_wp2_with fail
    go_loopw [4, 5] (fun _ i wr => PsRel w l m i wr) (fun _ i _ => l.length - (intOf i).toNat)
    case atStart => exact ⟨0, Nat.zero_le _, rfl, Lib.hid rfl, Below.refl _ _⟩
    case round =>
      obtain ⟨j, hj, rfl, hpre, hbel⟩ := hrel
      by_cases hlt : j < l.length
      · have p1 : decide ((j : Int) < (l.length : Int)) = true := decide_eq_true (by omega)
        have p2 : (j : Int) < (l.length : Int) := by omega
        have hmt : j < m.length := by rw [← HLM.out]; exact hlt
        obtain ⟨k0, k1, k2, k3⟩ := (HC.out j hlt).below hbel hg
        obtain ⟨d0, d1, d2, d3⟩ := (HD.out j hmt).below hbel hd
        have HQ := Lib.hid (show (l.take (j + 1)) = l.take j ++ [l[j]] from List.take_succ_eq_append_getElem hlt)
        have HQ2 := Lib.hid (show (m.take (j + 1)) = m.take j ++ [m[j]] from List.take_succ_eq_append_getElem hmt)
        generalize l[j] = y at *
        generalize m[j] = z at *
        by_cases he : y = z
        · have HT := Lib.hid (show l.take (j + 1) = m.take (j + 1) by rw [HQ.out, HQ2.out, hpre.out, he])
          have e1 : (!decide (y = z)) = false := by simp [he]
          clear he
          go_wp2_with fail
          refine wp_region_quiet_lit (by kernel_rfl) (by kernel_rfl) ?_
          repeat (quiet_step (fail))
          refine wq_fdneq (u := y) (v := z) (by rfl) (by rfl) (by rfl) ?_
          simp only [Act.put, List.setIfInBounds_toArray, List.set_cons_zero, List.set_cons_succ, e1]
          refine wpQuiet_nil ?_
          intro _ hw'
          obtain ⟨nq, hw''⟩ := hw'
          subst hw''
          clear e1
          go_wp2
          go_roundw
          case rel => exact ⟨j + 1, by omega, by go_num, HT, Below.drewN hbel nq⟩
          case measure => simp [intOf]; omega
        · have HT := Lib.hid (show decide (l = m) = false from decide_eq_false (fun e => by
            have h1 := HQ.out
            have h2 := HQ2.out
            rw [← e] at h2
            rw [h2] at h1
            exact he (List.cons.inj (List.append_cancel_left h1)).1.symm))
          have e1 : (!decide (y = z)) = true := by simp [he]
          clear he
          go_wp2_with fail
          refine wp_region_quiet_lit (by kernel_rfl) (by kernel_rfl) ?_
          repeat (quiet_step (fail))
          refine wq_fdneq (u := y) (v := z) (by rfl) (by rfl) (by rfl) ?_
          simp only [Act.put, List.setIfInBounds_toArray, List.set_cons_zero, List.set_cons_succ, e1]
          refine wpQuiet_nil ?_
          intro _ hw'
          obtain ⟨nq, hw''⟩ := hw'
          subst hw''
          clear e1
          go_wp2
          go_ret
          exact ⟨ret_b HT.out.symm, Below.drewN hbel nq⟩
      · have p1 : decide ((j : Int) < (l.length : Int)) = false := decide_eq_false (by omega)
        have HT := Lib.hid (show decide (l = m) = true from decide_eq_true (by
          have h1 := hpre.out
          rw [List.take_of_length_le (by omega), List.take_of_length_le (by have := HLM.out; omega)] at h1
          exact h1))
        go_wp2
        go_ret
        exact ⟨ret_b HT.out.symm, hbel⟩
theorem psame_any (a b : Option Addr) (c1 c2 : Nat) (l m : List FD) (w : World) (hl : l.length ≤ 1099511627776) (hin : FIn w a l) (hin2 : FIn w b m) :
    Calls Tryd.prog 24 #[.slice a l.length c1, .slice b m.length c2] w fun e w' => e = .returned (.bool (decide (l = m))) ∧ Below w.heap.size w w' := by
  by_cases h : l.length = m.length
  · have := psame_eq a b c1 c2 l m w h hl hin hin2
    rw [← h]; exact this
  · rw [decide_eq_false (fun e => h (congrArg List.length e))]
    exact psame_ne a b _ _ c1 c2 h w
end Go.Proofs.YtipnaonagepolaaDoor
