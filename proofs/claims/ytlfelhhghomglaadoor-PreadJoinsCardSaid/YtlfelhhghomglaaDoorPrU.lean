/- The document's own fields (package truchmanref17): Text, Same; law 17's Back. -/
import Derived.Test.YtlfelhhghomglaaDoorPrC
import Derived.Test.YtlfelhhghomglaaDoorPrR
namespace Go.Proofs.YtlfelhhghomglaaDoor
open Go Go.RowKit
set_option linter.unusedVariables false

/-- The worlds within Text: the field's block, nothing else turned. -/
structure ZT (w wx : World) (n v : Int) (u : Nat) (s : ByteArray) : Prop where
  fld : PfT 39 wx w.heap.size (n, v, u, s)
  b : Below w.heap.size w wx
theorem ZT.next {w wx w' : World} {n v : Int} {u : Nat} {s : ByteArray} (h : ZT w wx n v u s) (hb : Below wx.heap.size wx w') : ZT w w' n v u s := ⟨h.fld.below hb h.fld.lt, grown_then h.b hb⟩
theorem ZT.drew {w wx : World} {n v : Int} {u : Nat} {s : ByteArray} (h : ZT w wx n v u s) : ZT w wx.drew n v u s := ⟨h.fld, h.b.drew⟩
theorem zt_begin (w : World) (n v : Int) (u : Nat) (s : ByteArray) : ZT w (w.alloc (.cells #[.int .i64 n, .int .i64 v, .int .u64 (u : Nat), .string s] 39)) n v u s := ⟨fd_alloc w (n, v, u, s) _, fd_grow w (n, v, u, s) _⟩
@[reducible] def CZT (w : World) (n v : Int) (u : Nat) (s : ByteArray) (wx : World) : Prop := wx.cell? ⟨w.heap.size, 3, none⟩ = some (.string s) ∧ ZT w wx n v u s
theorem czt_next {w wx w' : World} {n v : Int} {u : Nat} {s : ByteArray} (hb : Below wx.heap.size wx w') (h : CZT w n v u s wx) : CZT w n v u s w' := ⟨(h.2.next hb).fld.c3, h.2.next hb⟩
theorem CZT.z {w wx : World} {n v : Int} {u : Nat} {s : ByteArray} (h : CZT w n v u s wx) : ZT w wx n v u s := h.2
theorem rvput (u : Nat) (w : World) (hu : u < 18446744073709551616) : Calls Tryd.prog 35 #[.int .u64 u] w fun e w' => e = .returned (.string (bA (vB u))) ∧ Below w.heap.size w w' :=
  rput_any 10 u w (Nat.lt_trans hu (by decide)) hu
theorem empty_is (l : List UInt8) : (bA l).toList.isEmpty = decide (l = []) := by
  rw [ByteArray.toList_eq, show (bA l).data.toList = l by simp [bA]]
  cases l <;> simp
theorem bA_nil : bA [] = ⟨#[]⟩ := rfl

set_option maxRecDepth 10000 in
set_option maxHeartbeats 1000000 in
theorem rft_no (n v : Int) (u : Nat) (s : ByteArray) (w : World) (hu : u < 18446744073709551616) (hs : s.size ≤ 140737488351232) (h : tagB n v = false) :
    Calls Tryd.prog 18 #[.agg #[.int .i64 n, .int .i64 v, .int .u64 (u : Nat), .string s]] w fun e w' => e = .returned (.string (bA (fB n v u s))) ∧ Below w.heap.size w w' := by
  have HT := Lib.hid (fun w => rtext_any n v w)
  have HR := Lib.hid (show tagL n v = [] ∧ fB n v u s = [] by unfold tagL fB; rw [h]; exact ⟨rfl, rfl⟩)
  rw [HR.out.1] at HT
  have p1 : (bA []).toList.isEmpty = true := by rw [empty_is]; rfl
  have p2 : ((bA []).toList == []) = true := by rw [bA_is]; rfl
  clear h
  go_enter Tryd.func18, Tryd.ntmps18
  have Z0 := Lib.hid (zt_begin w n v u s)
  have c0 := Z0.out.fld.c0; have c1 := Z0.out.fld.c1
  go_upto_region 1 with fail
  generalize w.alloc (.cells #[.int .i64 n, .int .i64 v, .int .u64 (u : Nat), .string s] 39) = w0 at *
  go_wp2_with fail
  with_reducible refine (HT.out _).mono ?_
  rintro e w1 ⟨rfl, k1⟩
  have Z1 := Lib.hid (Z0.out.next k1)
  clear k1 c0 c1
  have c0 := Z1.out.fld.c0; have c1 := Z1.out.fld.c1; have c2 := Z1.out.fld.c2; have c3 := Z1.out.fld.c3
  go_wp2
  go_ret
  exact ⟨by rw [HR.out.2]; rfl, Z1.out.b⟩

set_option maxRecDepth 10000 in
set_option maxHeartbeats 1000000 in
theorem rft_0 (n : Int) (u : Nat) (s : ByteArray) (w : World) (hu : u < 18446744073709551616) (hs : s.size ≤ 140737488351232) (h : tagB n 0 = true) :
    Calls Tryd.prog 18 #[.agg #[.int .i64 n, .int .i64 0, .int .u64 (u : Nat), .string s]] w fun e w' => e = .returned (.string (bA (fB n 0 u s))) ∧ Below w.heap.size w w' := by
  have HT := Lib.hid (fun w => rtext_any n 0 w)
  have HC := Lib.hid (fun w => rvput u w hu)
  have HR := Lib.hid (show bA (fB n 0 u s) = bA (tagL n 0) ++ bA (vB u) by unfold fB; rw [if_pos h, bA_append]; rfl)
  have p1 : (bA (tagL n 0)).toList.isEmpty = false := by rw [empty_is]; exact decide_eq_false (tagL_ne h)
  have p2 : ((bA (tagL n 0)).toList == []) = false := by rw [bA_is]; exact decide_eq_false (tagL_ne h)
  have l0 : (bA (tagL n 0)).size ≤ 10 := by rw [bA_size]; exact tagL_le10 n 0
  have l1 : (bA (vB u)).size ≤ 10 := by rw [bA_size]; exact vB_le10 hu
  generalize bA (tagL n 0) = A at *
  generalize bA (vB u) = P at *
  have l2 : ¬ 9223372036854775807 < A.size + P.size := by omega
  clear h
  go_enter Tryd.func18, Tryd.ntmps18
  have Z0 := Lib.hid (zt_begin w n 0 u s)
  have c0 := Z0.out.fld.c0; have c1 := Z0.out.fld.c1
  go_upto_region 1 with fail
  generalize w.alloc (.cells #[.int .i64 n, .int .i64 0, .int .u64 (u : Nat), .string s] 39) = w0 at *
  go_wp2_with fail
  with_reducible refine (HT.out _).mono ?_
  rintro e w1 ⟨rfl, k1⟩
  have Z1 := Lib.hid (Z0.out.next k1)
  clear k1 c0 c1
  have c0 := Z1.out.fld.c0; have c1 := Z1.out.fld.c1; have c2 := Z1.out.fld.c2; have c3 := Z1.out.fld.c3
  go_wp2_with fail
  with_reducible refine (HC.out _).mono ?_
  rintro e w2 ⟨rfl, k2⟩
  have Z2 := Lib.hid (Z1.out.next k2)
  clear k2 c0 c1 c2 c3
  go_wp2
  go_ret
  exact ⟨by rw [HR.out]; rfl, Z2.out.b⟩

set_option maxRecDepth 10000 in
set_option maxHeartbeats 1000000 in
theorem rft_1 (n : Int) (u : Nat) (s : ByteArray) (w : World) (hu : u < 18446744073709551616) (hs : s.size ≤ 140737488351232) (h : tagB n 1 = true) :
    Calls Tryd.prog 18 #[.agg #[.int .i64 n, .int .i64 1, .int .u64 (u : Nat), .string s]] w fun e w' => e = .returned (.string (bA (fB n 1 u s))) ∧ Below w.heap.size w w' := by
  have HT := Lib.hid (fun w => rtext_any n 1 w)
  have HC := Lib.hid (show ∀ w, Calls Tryd.prog 36 #[.int .u64 u, .int .i64 8] w fun e w' => e = .returned (.string (bA (lowL u 8))) ∧ Below w.heap.size w w' from fun w => rlow_any u 8 w hu (by omega))
  have HR := Lib.hid (show bA (fB n 1 u s) = bA (tagL n 1) ++ bA (lowL u 8) by unfold fB; rw [if_pos h, bA_append]; rfl)
  have p1 : (bA (tagL n 1)).toList.isEmpty = false := by rw [empty_is]; exact decide_eq_false (tagL_ne h)
  have p2 : ((bA (tagL n 1)).toList == []) = false := by rw [bA_is]; exact decide_eq_false (tagL_ne h)
  have l0 : (bA (tagL n 1)).size ≤ 10 := by rw [bA_size]; exact tagL_le10 n 1
  have l1 : (bA (lowL u 8)).size ≤ 10 := by rw [bA_size]; rw [lowL_length]; omega
  generalize bA (tagL n 1) = A at *
  generalize bA (lowL u 8) = P at *
  have l2 : ¬ 9223372036854775807 < A.size + P.size := by omega
  clear h
  go_enter Tryd.func18, Tryd.ntmps18
  have Z0 := Lib.hid (zt_begin w n 1 u s)
  have c0 := Z0.out.fld.c0; have c1 := Z0.out.fld.c1
  go_upto_region 1 with fail
  generalize w.alloc (.cells #[.int .i64 n, .int .i64 1, .int .u64 (u : Nat), .string s] 39) = w0 at *
  go_wp2_with fail
  with_reducible refine (HT.out _).mono ?_
  rintro e w1 ⟨rfl, k1⟩
  have Z1 := Lib.hid (Z0.out.next k1)
  clear k1 c0 c1
  have c0 := Z1.out.fld.c0; have c1 := Z1.out.fld.c1; have c2 := Z1.out.fld.c2; have c3 := Z1.out.fld.c3
  go_wp2_with fail
  with_reducible refine (HC.out _).mono ?_
  rintro e w2 ⟨rfl, k2⟩
  have Z2 := Lib.hid (Z1.out.next k2)
  clear k2 c0 c1 c2 c3
  go_wp2
  go_ret
  exact ⟨by rw [HR.out]; rfl, Z2.out.b⟩

set_option maxRecDepth 10000 in
set_option maxHeartbeats 1000000 in
theorem rft_5 (n : Int) (u : Nat) (s : ByteArray) (w : World) (hu : u < 18446744073709551616) (hs : s.size ≤ 140737488351232) (h : tagB n 5 = true) :
    Calls Tryd.prog 18 #[.agg #[.int .i64 n, .int .i64 5, .int .u64 (u : Nat), .string s]] w fun e w' => e = .returned (.string (bA (fB n 5 u s))) ∧ Below w.heap.size w w' := by
  have HT := Lib.hid (fun w => rtext_any n 5 w)
  have HC := Lib.hid (show ∀ w, Calls Tryd.prog 36 #[.int .u64 u, .int .i64 4] w fun e w' => e = .returned (.string (bA (lowL u 4))) ∧ Below w.heap.size w w' from fun w => rlow_any u 4 w hu (by omega))
  have HR := Lib.hid (show bA (fB n 5 u s) = bA (tagL n 5) ++ bA (lowL u 4) by unfold fB; rw [if_pos h, bA_append]; rfl)
  have p1 : (bA (tagL n 5)).toList.isEmpty = false := by rw [empty_is]; exact decide_eq_false (tagL_ne h)
  have p2 : ((bA (tagL n 5)).toList == []) = false := by rw [bA_is]; exact decide_eq_false (tagL_ne h)
  have l0 : (bA (tagL n 5)).size ≤ 10 := by rw [bA_size]; exact tagL_le10 n 5
  have l1 : (bA (lowL u 4)).size ≤ 10 := by rw [bA_size]; rw [lowL_length]; omega
  generalize bA (tagL n 5) = A at *
  generalize bA (lowL u 4) = P at *
  have l2 : ¬ 9223372036854775807 < A.size + P.size := by omega
  clear h
  go_enter Tryd.func18, Tryd.ntmps18
  have Z0 := Lib.hid (zt_begin w n 5 u s)
  have c0 := Z0.out.fld.c0; have c1 := Z0.out.fld.c1
  go_upto_region 1 with fail
  generalize w.alloc (.cells #[.int .i64 n, .int .i64 5, .int .u64 (u : Nat), .string s] 39) = w0 at *
  go_wp2_with fail
  with_reducible refine (HT.out _).mono ?_
  rintro e w1 ⟨rfl, k1⟩
  have Z1 := Lib.hid (Z0.out.next k1)
  clear k1 c0 c1
  have c0 := Z1.out.fld.c0; have c1 := Z1.out.fld.c1; have c2 := Z1.out.fld.c2; have c3 := Z1.out.fld.c3
  go_wp2_with fail
  with_reducible refine (HC.out _).mono ?_
  rintro e w2 ⟨rfl, k2⟩
  have Z2 := Lib.hid (Z1.out.next k2)
  clear k2 c0 c1 c2 c3
  go_wp2
  go_ret
  exact ⟨by rw [HR.out]; rfl, Z2.out.b⟩

set_option maxRecDepth 10000 in
set_option maxHeartbeats 1000000 in
theorem rft_2 (n : Int) (u : Nat) (s : ByteArray) (w : World) (hu : u < 18446744073709551616) (hs : s.size ≤ 140737488351232) (h : tagB n 2 = true) :
    Calls Tryd.prog 18 #[.agg #[.int .i64 n, .int .i64 2, .int .u64 (u : Nat), .string s]] w fun e w' => e = .returned (.string (bA (fB n 2 u s))) ∧ Below w.heap.size w w' := by
  have HT := Lib.hid (fun w => rtext_any n 2 w)
  have HC := Lib.hid (fun w => rvput s.size w (by omega))
  have HR := Lib.hid (show bA (fB n 2 u s) = bA (tagL n 2) ++ bA (vB s.size) ++ s by
    unfold fB; rw [if_pos h, ← bA_append]
    show bA (tagL n 2) ++ bA (vB s.size ++ s.data.toList) = _
    rw [← bA_append, bA_of, ByteArray.append_assoc])
  have p1 : (bA (tagL n 2)).toList.isEmpty = false := by rw [empty_is]; exact decide_eq_false (tagL_ne h)
  have p2 : ((bA (tagL n 2)).toList == []) = false := by rw [bA_is]; exact decide_eq_false (tagL_ne h)
  have l0 : (bA (tagL n 2)).size ≤ 10 := by rw [bA_size]; exact tagL_le10 n 2
  have l1 : (bA (vB s.size)).size ≤ 10 := by rw [bA_size]; exact vB_le10 (by omega)
  generalize bA (tagL n 2) = A at *
  generalize bA (vB s.size) = P at *
  have l2 : ¬ 9223372036854775807 < A.size + P.size := by omega
  have l3 : ¬ 9223372036854775807 < A.size + P.size + s.size := by omega
  have es : IntKind.u64.wrap (s.size : Int) = (s.size : Int) := IntWalk.u64_in _ (by omega)
  clear h
  go_enter Tryd.func18, Tryd.ntmps18
  have Z0 := Lib.hid (zt_begin w n 2 u s)
  have c0 := Z0.out.fld.c0; have c1 := Z0.out.fld.c1
  go_upto_region 1 with fail
  generalize w.alloc (.cells #[.int .i64 n, .int .i64 2, .int .u64 (u : Nat), .string s] 39) = w0 at *
  go_wp2_with fail
  with_reducible refine (HT.out _).mono ?_
  rintro e w1 ⟨rfl, k1⟩
  have Z1 := Lib.hid (Z0.out.next k1)
  clear k1 c0 c1
  have c0 := Z1.out.fld.c0; have c1 := Z1.out.fld.c1; have c2 := Z1.out.fld.c2; have c3 := Z1.out.fld.c3
  have Z1d := Lib.hid (show CZT w n 2 u s w1.drew from ⟨Z1.out.drew.fld.c3, Z1.out.drew⟩)
  go_wp2_with fail
  clear c0 c1 c2
  go_region_held3 (fun wx => CZT w n 2 u s wx)
    (first | with_reducible exact Z1d.out | with_reducible exact czt_next (by assumption) (by assumption))
    (first
    | (go_at_call 35; go_loud (with_reducible refine (HC.out _).mono ?_; rintro r w4 ⟨rfl, b4⟩)))
  all_goals go_wp2
  all_goals go_ret
  all_goals exact ⟨by rw [HR.out]; rfl, (CZT.z (by assumption)).b⟩
theorem rftext_any (n v : Int) (u : Nat) (s : ByteArray) (w : World) (hu : u < 18446744073709551616) (hs : s.size ≤ 140737488351232) :
    Calls Tryd.prog 18 #[.agg #[.int .i64 n, .int .i64 v, .int .u64 (u : Nat), .string s]] w fun e w' => e = .returned (.string (bA (fB n v u s))) ∧ Below w.heap.size w w' := by
  rcases Bool.eq_false_or_eq_true (tagB n v) with h | h
  · rcases (tag_yes h).2.2 with hv | hv | hv | hv
    · subst hv; exact rft_0 n u s w hu hs h
    · subst hv; exact rft_1 n u s w hu hs h
    · subst hv; exact rft_2 n u s w hu hs h
    · subst hv; exact rft_5 n u s w hu hs h
  · exact rft_no n v u s w hu hs h

theorem pback_nil (a : Option Addr) (cap : Nat) (w : World) :
    Calls Tryd.prog 14 #[.slice a 0 cap] w fun e w' => ∃ v, e = .returned v ∧ FRow 39 w' w.heap.size v [] ∧ Below w.heap.size w w' := by
  go_enter Tryd.func14, Tryd.ntmps14
  go_wp2_with fail
  refine wp_loop_once ?_
  go_wp2
  go_ret
  exact ⟨_, rfl, frow_nil _ _ _, Below.refl _ _⟩
def PbRel (W : World) (l : List FD) (v i : Value) (wr : World) : Prop := ∃ j : Nat, j ≤ l.length ∧ i = .int .i64 (j : Nat) ∧ FRow 39 wr W.heap.size v (l.take j) ∧ Below W.heap.size W wr
set_option maxRecDepth 20000 in
set_option maxHeartbeats 1000000 in
theorem pfback_any (a : Option Addr) (cap : Nat) (l : List FD) (w : World) (hl : l.length ≤ 1099511627776) (hin : FIn w a l) :
    Calls Tryd.prog 14 #[.slice a l.length cap] w fun e w' => ∃ v, e = .returned v ∧ FRow 39 w' w.heap.size v l ∧ Below w.heap.size w w' := by
  by_cases h0 : l = []
  · subst h0; exact pback_nil a cap w
  · obtain ⟨g, rfl, hg, hc⟩ := hin.block h0
    have HC := Lib.hid hc
    clear hin hc
    go_enter Tryd.func14, Tryd.ntmps14
    go_wp2_with fail
    go_loopw [3, 4] (fun v i wr => PbRel w l v i wr) (fun _ i _ => l.length - (intOf i).toNat)
    case atStart => exact ⟨0, Nat.zero_le _, rfl, frow_nil _ _ _, Below.refl _ _⟩
    case round =>
      obtain ⟨j, hj, rfl, hrow, hbel⟩ := hrel
      by_cases hlt : j < l.length
      · have p1 : decide ((j : Int) < (l.length : Int)) = true := decide_eq_true (by omega)
        have p2 : (j : Int) < (l.length : Int) := by omega
        obtain ⟨k0, k1, k2, k3⟩ := (HC.out j hlt).below hbel hg
        have HQ := Lib.hid (show (l.take (j + 1)) = l.take j ++ [l[j]] from List.take_succ_eq_append_getElem hlt)
        have hsz := hbel.size
        have hpl : (l.take j).length ≤ 1099511627776 := by rw [List.length_take]; omega
        have HC2 := Lib.hid HC.out
        clear HC
        generalize l[j] = y at *
        go_wp2_with (at_builtin; go_loud (refine wpList_append_fd rfl (.tmp 11) (.tmp 16) 27 rfl 39 Tryd.underlying27 infoRf _ wr w.heap.size (l.take j) hrow hsz rfl _ _ _ _ y rfl rfl rfl rfl rfl hpl ?_; intro v5 w5 hv5 hb5))
        have hbel5 := hbel.trans hb5
        go_roundw
        case rel => exact ⟨j + 1, by omega, by go_num, by rw [HQ.out]; exact hv5, hbel5⟩
        case measure => simp [intOf]; omega
      · have p1 : decide ((j : Int) < (l.length : Int)) = false := decide_eq_false (by omega)
        have HR := Lib.hid (show l.take j = l from List.take_of_length_le (by omega))
        have HW := Lib.hid (And.intro hrow hbel)
        clear hrow hbel
        go_wp2
        go_ret
        exact ⟨_, rfl, by have := HW.out.1; rw [HR.out] at this; exact this, HW.out.2⟩
section
variable {P : Program} {a : Act} {C : World → Prop} {Q : Act → Prop} {ops : Array Oper} {rest : List Oper} {o : Oper}
theorem wqv17 {v : Value} (hw : Region.wanted o (yielded ops a.tmps) = true) (hv : ∀ w, C w → (execOp a.eval o).run P w = .ok (.value v) w) (h : wpQuiet P ops C Q rest (a.put o.dst v)) : wpQuiet P ops C Q (o :: rest) a :=
  wpQuiet_step fun K hK => by
    rw [if_pos hw]
    exact ⟨v, fun w hC => by unfold Oper.quietAt; rw [hv w hC]; exact ⟨rfl, rfl⟩, hK _ h⟩
end
theorem wq_fdneq {dst : Option Tmp} {ty yT : TypeId} {pos : String} {after : Array Edge} {g : Option (Nat × Bool)} {x y : Operand} {a : Act} {C : World → Prop} {Q : Act → Prop} {ops : Array Oper} {rest : List Oper} {u v : FD}
    (hw : Region.wanted ⟨dst, .binOp .neq 39 x y yT, ty, pos, after, g⟩ (yielded ops a.tmps) = true) (hx : a.eval x = pfV u) (hy : a.eval y = pfV v) (h : wpQuiet Tryd.prog ops C Q rest (a.put dst (.bool (!decide (u = v))))) :
    wpQuiet Tryd.prog ops C Q (⟨dst, .binOp .neq 39 x y yT, ty, pos, after, g⟩ :: rest) a :=
  wqv17 hw (fun w hC => by
    have hn := neqRf u v w
    simp only [execOp, hx, hy, Sem.run_bind, show pfV u = .agg #[.int .i64 u.1, .int .i64 u.2.1, .int .u64 (u.2.2.1 : Nat), .string u.2.2.2] from rfl, show pfV v = .agg #[.int .i64 v.1, .int .i64 v.2.1, .int .u64 (v.2.2.1 : Nat), .string v.2.2.2] from rfl, run_eqGuard_agg w .neq 39 x y _ _ guardRf, Result.andThen_ok]
    unfold pfV at hn
    rw [hn]; rfl) h
def PsRel (w : World) (l m : List FD) (i : Value) (wr : World) : Prop := ∃ j : Nat, j ≤ l.length ∧ i = .int .i64 (j : Nat) ∧ Hid (l.take j = m.take j) ∧ Below w.heap.size w wr
theorem psame_ne (a b : Option Addr) (n m c1 c2 : Nat) (h : ¬ n = m) (w : World) :
    Calls Tryd.prog 13 #[.slice a n c1, .slice b m c2] w fun e w' => e = .returned (.bool false) ∧ Below w.heap.size w w' := by
  have p1 : ((n : Int) != (m : Int)) = true := bne_iff_ne.mpr (by omega)
  have p2 : (n != m) = true := bne_iff_ne.mpr h
  go_enter Tryd.func13, Tryd.ntmps13
  go_wp2
  go_ret
  exact ⟨rfl, Below.refl _ _⟩
theorem psame_nil (a b : Option Addr) (c1 c2 : Nat) (w : World) :
    Calls Tryd.prog 13 #[.slice a 0 c1, .slice b 0 c2] w fun e w' => e = .returned (.bool true) ∧ Below w.heap.size w w' := by
  go_enter Tryd.func13, Tryd.ntmps13
  go_wp2_with fail
  refine wp_loop_once ?_
  go_wp2
  go_ret
  exact ⟨rfl, Below.refl _ _⟩
set_option maxRecDepth 20000 in
set_option maxHeartbeats 1000000 in
theorem psame_eq (a b : Option Addr) (c1 c2 : Nat) (l m : List FD) (w : World) (hlm : l.length = m.length) (hl : l.length ≤ 1099511627776) (hin : FIn w a l) (hin2 : FIn w b m) :
    Calls Tryd.prog 13 #[.slice a l.length c1, .slice b l.length c2] w fun e w' => e = .returned (.bool (decide (l = m))) ∧ Below w.heap.size w w' := by
  by_cases h0 : l = []
  · subst h0
    have : m = [] := List.eq_nil_of_length_eq_zero hlm.symm
    subst this
    exact psame_nil a b c1 c2 w
  · have h0' : m ≠ [] := fun e => h0 (List.eq_nil_of_length_eq_zero (by rw [hlm, e]; rfl))
    obtain ⟨g, rfl, hg, hc⟩ := hin.block h0
    obtain ⟨d, rfl, hd, hc2⟩ := hin2.block h0'
    have HC := Lib.hid hc
    have HD := Lib.hid hc2
    have HLM := Lib.hid hlm
    clear hin hin2 h0 h0' hlm hc hc2
    go_enter Tryd.func13, Tryd.ntmps13
    go_wp2_with fail
    go_loopw [4, 5] (fun _ i wr => PsRel w l m i wr) (fun _ i _ => l.length - (intOf i).toNat)
    case atStart => exact ⟨0, Nat.zero_le _, rfl, Lib.hid rfl, Below.refl _ _⟩
    case round =>
      obtain ⟨j, hj, rfl, hpre, hbel⟩ := hrel
      by_cases hlt : j < l.length
      · have p1 : decide ((j : Int) < (l.length : Int)) = true := decide_eq_true (by omega)
        have p2 : (j : Int) < (l.length : Int) := by omega
        have hmt : j < m.length := by rw [← HLM.out]; exact hlt
        obtain ⟨k0, k1, k2, k3⟩ := (HC.out j hlt).below hbel hg
        obtain ⟨d0, d1, d2, d3⟩ := (HD.out j hmt).below hbel hd
        have HQ := Lib.hid (show (l.take (j + 1)) = l.take j ++ [l[j]] from List.take_succ_eq_append_getElem hlt)
        have HQ2 := Lib.hid (show (m.take (j + 1)) = m.take j ++ [m[j]] from List.take_succ_eq_append_getElem hmt)
        generalize l[j] = y at *
        generalize m[j] = z at *
        by_cases he : y = z
        · have HT := Lib.hid (show l.take (j + 1) = m.take (j + 1) by rw [HQ.out, HQ2.out, hpre.out, he])
          have e1 : (!decide (y = z)) = false := by simp [he]
          clear he
          go_wp2_with fail
          refine wp_region_quiet_lit (by kernel_rfl) (by kernel_rfl) ?_
          repeat (quiet_step (fail))
          refine wq_fdneq (u := y) (v := z) (by rfl) (by rfl) (by rfl) ?_
          simp only [Act.put, List.setIfInBounds_toArray, List.set_cons_zero, List.set_cons_succ, e1]
          refine wpQuiet_nil ?_
          intro _ hw'
          obtain ⟨nq, hw''⟩ := hw'
          subst hw''
          clear e1
          go_wp2
          go_roundw
          case rel => exact ⟨j + 1, by omega, by go_num, HT, Below.drewN hbel nq⟩
          case measure => simp [intOf]; omega
        · have HT := Lib.hid (show decide (l = m) = false from decide_eq_false (fun e => by
            have h1 := HQ.out
            have h2 := HQ2.out
            rw [← e] at h2
            rw [h2] at h1
            exact he (List.cons.inj (List.append_cancel_left h1)).1.symm))
          have e1 : (!decide (y = z)) = true := by simp [he]
          clear he
          go_wp2_with fail
          refine wp_region_quiet_lit (by kernel_rfl) (by kernel_rfl) ?_
          repeat (quiet_step (fail))
          refine wq_fdneq (u := y) (v := z) (by rfl) (by rfl) (by rfl) ?_
          simp only [Act.put, List.setIfInBounds_toArray, List.set_cons_zero, List.set_cons_succ, e1]
          refine wpQuiet_nil ?_
          intro _ hw'
          obtain ⟨nq, hw''⟩ := hw'
          subst hw''
          clear e1
          go_wp2
          go_ret
          exact ⟨ret_b HT.out.symm, Below.drewN hbel nq⟩
      · have p1 : decide ((j : Int) < (l.length : Int)) = false := decide_eq_false (by omega)
        have HT := Lib.hid (show decide (l = m) = true from decide_eq_true (by
          have h1 := hpre.out
          rw [List.take_of_length_le (by omega), List.take_of_length_le (by have := HLM.out; omega)] at h1
          exact h1))
        go_wp2
        go_ret
        exact ⟨ret_b HT.out.symm, hbel⟩
theorem psame_any (a b : Option Addr) (c1 c2 : Nat) (l m : List FD) (w : World) (hl : l.length ≤ 1099511627776) (hin : FIn w a l) (hin2 : FIn w b m) :
    Calls Tryd.prog 13 #[.slice a l.length c1, .slice b m.length c2] w fun e w' => e = .returned (.bool (decide (l = m))) ∧ Below w.heap.size w w' := by
  by_cases h : l.length = m.length
  · have := psame_eq a b c1 c2 l m w h hl hin hin2
    rw [← h]; exact this
  · rw [decide_eq_false (fun e => h (congrArg List.length e))]
    exact psame_ne a b _ _ c1 c2 h w
end Go.Proofs.YtlfelhhghomglaaDoor
