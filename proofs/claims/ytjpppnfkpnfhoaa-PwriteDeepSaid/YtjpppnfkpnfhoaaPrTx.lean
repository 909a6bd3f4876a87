/- The document's own fields (package truchmanref17): Text. -/
import Derived.Test.YtjpppnfkpnfhoaaPrC
import Derived.Test.YtjpppnfkpnfhoaaPtRt
namespace Go.Proofs.Ytjpppnfkpnfhoaa
open Go Go.RowKit
set_option linter.unusedVariables false

/-- The worlds within Text: the field's block, nothing else turned. -/
structure ZT (w wx : World) (n v : Int) (u : Nat) (s : ByteArray) : Prop where
  fld : PfT 46 wx w.heap.size (n, v, u, s)
  b : Below w.heap.size w wx
theorem ZT.next {w wx w' : World} {n v : Int} {u : Nat} {s : ByteArray} (h : ZT w wx n v u s) (hb : Below wx.heap.size wx w') : ZT w w' n v u s := ⟨h.fld.below hb h.fld.lt, grown_then h.b hb⟩
theorem ZT.drew {w wx : World} {n v : Int} {u : Nat} {s : ByteArray} (h : ZT w wx n v u s) : ZT w wx.drew n v u s := ⟨h.fld, h.b.drew⟩
theorem zt_begin (w : World) (n v : Int) (u : Nat) (s : ByteArray) : ZT w (w.alloc (.cells #[.int .i64 n, .int .i64 v, .int .u64 (u : Nat), .string s] 46)) n v u s := ⟨fd_alloc w (n, v, u, s) _, fd_grow w (n, v, u, s) _⟩
@[reducible] def CZT (w : World) (n v : Int) (u : Nat) (s : ByteArray) (wx : World) : Prop := wx.cell? ⟨w.heap.size, 3, none⟩ = some (.string s) ∧ ZT w wx n v u s
theorem czt_next {w wx w' : World} {n v : Int} {u : Nat} {s : ByteArray} (hb : Below wx.heap.size wx w') (h : CZT w n v u s wx) : CZT w n v u s w' := ⟨(h.2.next hb).fld.c3, h.2.next hb⟩
theorem CZT.z {w wx : World} {n v : Int} {u : Nat} {s : ByteArray} (h : CZT w n v u s wx) : ZT w wx n v u s := h.2
theorem rvput (u : Nat) (w : World) (hu : u < 18446744073709551616) : Calls Try.prog 26 #[.int .u64 u] w fun e w' => e = .returned (.string (bA (vB u))) ∧ Below w.heap.size w w' :=
  rput_any 10 u w (Nat.lt_trans hu (by decide)) hu
theorem empty_is (l : List UInt8) : (bA l).toList.isEmpty = decide (l = []) := by
  rw [ByteArray.toList_eq, show (bA l).data.toList = l by simp [bA]]
  cases l <;> simp
theorem bA_nil : bA [] = ⟨#[]⟩ := rfl

set_option maxRecDepth 10000 in
set_option maxHeartbeats 1000000 in
theorem rft_no (n v : Int) (u : Nat) (s : ByteArray) (w : World) (hu : u < 18446744073709551616) (hs : s.size ≤ 140737488351232) (h : tagB n v = false) :
    Calls Try.prog 20 #[.agg #[.int .i64 n, .int .i64 v, .int .u64 (u : Nat), .string s]] w fun e w' => e = .returned (.string (bA (fB n v u s))) ∧ Below w.heap.size w w' := by
  have HT := Lib.hid (fun w => rtext_any n v w)
  have HR := Lib.hid (show tagL n v = [] ∧ fB n v u s = [] by unfold tagL fB; rw [h]; exact ⟨rfl, rfl⟩)
  rw [HR.out.1] at HT
  have p1 : (bA []).toList.isEmpty = true := by rw [empty_is]; rfl
  have p2 : ((bA []).toList == []) = true := by rw [bA_is]; rfl
  clear h
  go_enter Try.func20, Try.ntmps20
  have Z0 := Lib.hid (zt_begin w n v u s)
  have c0 := Z0.out.fld.c0; have c1 := Z0.out.fld.c1
  go_upto_region 1 with fail
  generalize w.alloc (.cells #[.int .i64 n, .int .i64 v, .int .u64 (u : Nat), .string s] 46) = w0 at *
  go_wp2_with fail
  with_reducible refine (HT.out _).mono ?_
  rintro e w1 ⟨rfl, k1⟩
  have Z1 := Lib.hid (Z0.out.next k1)
  clear k1 c0 c1
  have c0 := Z1.out.fld.c0; have c1 := Z1.out.fld.c1; have c2 := Z1.out.fld.c2; have c3 := Z1.out.fld.c3
  go_wp2
  go_ret
  exact ⟨by rw [HR.out.2]; rfl, Z1.out.b⟩

set_option maxRecDepth 10000 in
set_option maxHeartbeats 1000000 in
theorem rft_0 (n : Int) (u : Nat) (s : ByteArray) (w : World) (hu : u < 18446744073709551616) (hs : s.size ≤ 140737488351232) (h : tagB n 0 = true) :
    Calls Try.prog 20 #[.agg #[.int .i64 n, .int .i64 0, .int .u64 (u : Nat), .string s]] w fun e w' => e = .returned (.string (bA (fB n 0 u s))) ∧ Below w.heap.size w w' := by
  have HT := Lib.hid (fun w => rtext_any n 0 w)
  have HC := Lib.hid (fun w => rvput u w hu)
  have HR := Lib.hid (show bA (fB n 0 u s) = bA (tagL n 0) ++ bA (vB u) by unfold fB; rw [if_pos h, bA_append]; rfl)
  have p1 : (bA (tagL n 0)).toList.isEmpty = false := by rw [empty_is]; exact decide_eq_false (tagL_ne h)
  have p2 : ((bA (tagL n 0)).toList == []) = false := by rw [bA_is]; exact decide_eq_false (tagL_ne h)
  have l0 : (bA (tagL n 0)).size ≤ 10 := by rw [bA_size]; exact tagL_le10 n 0
  have l1 : (bA (vB u)).size ≤ 10 := by rw [bA_size]; exact vB_le10 hu
  generalize bA (tagL n 0) = A at *
  generalize bA (vB u) = P at *
  have l2 : ¬ 9223372036854775807 < A.size + P.size := by omega
  clear h
  go_enter Try.func20, Try.ntmps20
  have Z0 := Lib.hid (zt_begin w n 0 u s)
  have c0 := Z0.out.fld.c0; have c1 := Z0.out.fld.c1
  go_upto_region 1 with fail
  generalize w.alloc (.cells #[.int .i64 n, .int .i64 0, .int .u64 (u : Nat), .string s] 46) = w0 at *
  go_wp2_with fail
  with_reducible refine (HT.out _).mono ?_
  rintro e w1 ⟨rfl, k1⟩
  have Z1 := Lib.hid (Z0.out.next k1)
  clear k1 c0 c1
  have c0 := Z1.out.fld.c0; have c1 := Z1.out.fld.c1; have c2 := Z1.out.fld.c2; have c3 := Z1.out.fld.c3
  go_wp2_with fail
  with_reducible refine (HC.out _).mono ?_
  rintro e w2 ⟨rfl, k2⟩
  have Z2 := Lib.hid (Z1.out.next k2)
  clear k2 c0 c1 c2 c3
  go_wp2
  go_ret
  exact ⟨by rw [HR.out]; rfl, Z2.out.b⟩

set_option maxRecDepth 10000 in
set_option maxHeartbeats 1000000 in
theorem rft_1 (n : Int) (u : Nat) (s : ByteArray) (w : World) (hu : u < 18446744073709551616) (hs : s.size ≤ 140737488351232) (h : tagB n 1 = true) :
    Calls Try.prog 20 #[.agg #[.int .i64 n, .int .i64 1, .int .u64 (u : Nat), .string s]] w fun e w' => e = .returned (.string (bA (fB n 1 u s))) ∧ Below w.heap.size w w' := by
  have HT := Lib.hid (fun w => rtext_any n 1 w)
  have HC := Lib.hid (show ∀ w, Calls Try.prog 27 #[.int .u64 u, .int .i64 8] w fun e w' => e = .returned (.string (bA (lowL u 8))) ∧ Below w.heap.size w w' from fun w => rlow_any u 8 w hu (by omega))
  have HR := Lib.hid (show bA (fB n 1 u s) = bA (tagL n 1) ++ bA (lowL u 8) by unfold fB; rw [if_pos h, bA_append]; rfl)
  have p1 : (bA (tagL n 1)).toList.isEmpty = false := by rw [empty_is]; exact decide_eq_false (tagL_ne h)
  have p2 : ((bA (tagL n 1)).toList == []) = false := by rw [bA_is]; exact decide_eq_false (tagL_ne h)
  have l0 : (bA (tagL n 1)).size ≤ 10 := by rw [bA_size]; exact tagL_le10 n 1
  have l1 : (bA (lowL u 8)).size ≤ 10 := by rw [bA_size]; rw [lowL_length]; omega
  generalize bA (tagL n 1) = A at *
  generalize bA (lowL u 8) = P at *
  have l2 : ¬ 9223372036854775807 < A.size + P.size := by omega
  clear h
  go_enter Try.func20, Try.ntmps20
  have Z0 := Lib.hid (zt_begin w n 1 u s)
  have c0 := Z0.out.fld.c0; have c1 := Z0.out.fld.c1
  go_upto_region 1 with fail
  generalize w.alloc (.cells #[.int .i64 n, .int .i64 1, .int .u64 (u : Nat), .string s] 46) = w0 at *
  go_wp2_with fail
  with_reducible refine (HT.out _).mono ?_
  rintro e w1 ⟨rfl, k1⟩
  have Z1 := Lib.hid (Z0.out.next k1)
  clear k1 c0 c1
  have c0 := Z1.out.fld.c0; have c1 := Z1.out.fld.c1; have c2 := Z1.out.fld.c2; have c3 := Z1.out.fld.c3
  go_wp2_with fail
  with_reducible refine (HC.out _).mono ?_
  rintro e w2 ⟨rfl, k2⟩
  have Z2 := Lib.hid (Z1.out.next k2)
  clear k2 c0 c1 c2 c3
  go_wp2
  go_ret
  exact ⟨by rw [HR.out]; rfl, Z2.out.b⟩

set_option maxRecDepth 10000 in
set_option maxHeartbeats 1000000 in
theorem rft_5 (n : Int) (u : Nat) (s : ByteArray) (w : World) (hu : u < 18446744073709551616) (hs : s.size ≤ 140737488351232) (h : tagB n 5 = true) :
    Calls Try.prog 20 #[.agg #[.int .i64 n, .int .i64 5, .int .u64 (u : Nat), .string s]] w fun e w' => e = .returned (.string (bA (fB n 5 u s))) ∧ Below w.heap.size w w' := by
  have HT := Lib.hid (fun w => rtext_any n 5 w)
  have HC := Lib.hid (show ∀ w, Calls Try.prog 27 #[.int .u64 u, .int .i64 4] w fun e w' => e = .returned (.string (bA (lowL u 4))) ∧ Below w.heap.size w w' from fun w => rlow_any u 4 w hu (by omega))
  have HR := Lib.hid (show bA (fB n 5 u s) = bA (tagL n 5) ++ bA (lowL u 4) by unfold fB; rw [if_pos h, bA_append]; rfl)
  have p1 : (bA (tagL n 5)).toList.isEmpty = false := by rw [empty_is]; exact decide_eq_false (tagL_ne h)
  have p2 : ((bA (tagL n 5)).toList == []) = false := by rw [bA_is]; exact decide_eq_false (tagL_ne h)
  have l0 : (bA (tagL n 5)).size ≤ 10 := by rw [bA_size]; exact tagL_le10 n 5
  have l1 : (bA (lowL u 4)).size ≤ 10 := by rw [bA_size]; rw [lowL_length]; omega
  generalize bA (tagL n 5) = A at *
  generalize bA (lowL u 4) = P at *
  have l2 : ¬ 9223372036854775807 < A.size + P.size := by omega
  clear h
  go_enter Try.func20, Try.ntmps20
  have Z0 := Lib.hid (zt_begin w n 5 u s)
  have c0 := Z0.out.fld.c0; have c1 := Z0.out.fld.c1
  go_upto_region 1 with fail
  generalize w.alloc (.cells #[.int .i64 n, .int .i64 5, .int .u64 (u : Nat), .string s] 46) = w0 at *
  go_wp2_with fail
  with_reducible refine (HT.out _).mono ?_
  rintro e w1 ⟨rfl, k1⟩
  have Z1 := Lib.hid (Z0.out.next k1)
  clear k1 c0 c1
  have c0 := Z1.out.fld.c0; have c1 := Z1.out.fld.c1; have c2 := Z1.out.fld.c2; have c3 := Z1.out.fld.c3
  go_wp2_with fail
  with_reducible refine (HC.out _).mono ?_
  rintro e w2 ⟨rfl, k2⟩
  have Z2 := Lib.hid (Z1.out.next k2)
  clear k2 c0 c1 c2 c3
  go_wp2
  go_ret
  exact ⟨by rw [HR.out]; rfl, Z2.out.b⟩

set_option maxRecDepth 10000 in
set_option maxHeartbeats 1000000 in
theorem rft_2 (n : Int) (u : Nat) (s : ByteArray) (w : World) (hu : u < 18446744073709551616) (hs : s.size ≤ 140737488351232) (h : tagB n 2 = true) :
    Calls Try.prog 20 #[.agg #[.int .i64 n, .int .i64 2, .int .u64 (u : Nat), .string s]] w fun e w' => e = .returned (.string (bA (fB n 2 u s))) ∧ Below w.heap.size w w' := by
  have HT := Lib.hid (fun w => rtext_any n 2 w)
  have HC := Lib.hid (fun w => rvput s.size w (by omega))
  have HR := Lib.hid (show bA (fB n 2 u s) = bA (tagL n 2) ++ bA (vB s.size) ++ s by
    unfold fB; rw [if_pos h, ← bA_append]
    show bA (tagL n 2) ++ bA (vB s.size ++ s.data.toList) = _
    rw [← bA_append, bA_of, ByteArray.append_assoc])
  have p1 : (bA (tagL n 2)).toList.isEmpty = false := by rw [empty_is]; exact decide_eq_false (tagL_ne h)
  have p2 : ((bA (tagL n 2)).toList == []) = false := by rw [bA_is]; exact decide_eq_false (tagL_ne h)
  have l0 : (bA (tagL n 2)).size ≤ 10 := by rw [bA_size]; exact tagL_le10 n 2
  have l1 : (bA (vB s.size)).size ≤ 10 := by rw [bA_size]; exact vB_le10 (by omega)
  generalize bA (tagL n 2) = A at *
  generalize bA (vB s.size) = P at *
  have l2 : ¬ 9223372036854775807 < A.size + P.size := by omega
  have l3 : ¬ 9223372036854775807 < A.size + P.size + s.size := by omega
  have es : IntKind.u64.wrap (s.size : Int) = (s.size : Int) := IntWalk.u64_in _ (by omega)
  clear h
  go_enter Try.func20, Try.ntmps20
  have Z0 := Lib.hid (zt_begin w n 2 u s)
  have c0 := Z0.out.fld.c0; have c1 := Z0.out.fld.c1
  go_upto_region 1 with fail
  generalize w.alloc (.cells #[.int .i64 n, .int .i64 2, .int .u64 (u : Nat), .string s] 46) = w0 at *
  go_wp2_with fail
  with_reducible refine (HT.out _).mono ?_
  rintro e w1 ⟨rfl, k1⟩
  have Z1 := Lib.hid (Z0.out.next k1)
  clear k1 c0 c1
  have c0 := Z1.out.fld.c0; have c1 := Z1.out.fld.c1; have c2 := Z1.out.fld.c2; have c3 := Z1.out.fld.c3
  have Z1d := Lib.hid (show CZT w n 2 u s w1.drew from ⟨Z1.out.drew.fld.c3, Z1.out.drew⟩)
  go_wp2_with fail
  clear c0 c1 c2
  go_region_held3 (fun wx => CZT w n 2 u s wx)
    (first | with_reducible exact Z1d.out | with_reducible exact czt_next (by assumption) (by assumption))
    (first
    | (go_at_call 26; go_loud (with_reducible refine (HC.out _).mono ?_; rintro r w4 ⟨rfl, b4⟩)))
  all_goals go_wp2
  all_goals go_ret
  all_goals exact ⟨by rw [HR.out]; rfl, (CZT.z (by assumption)).b⟩
theorem rftext_any (n v : Int) (u : Nat) (s : ByteArray) (w : World) (hu : u < 18446744073709551616) (hs : s.size ≤ 140737488351232) :
    Calls Try.prog 20 #[.agg #[.int .i64 n, .int .i64 v, .int .u64 (u : Nat), .string s]] w fun e w' => e = .returned (.string (bA (fB n v u s))) ∧ Below w.heap.size w w' := by
  rcases Bool.eq_false_or_eq_true (tagB n v) with h | h
  · rcases (tag_yes h).2.2 with hv | hv | hv | hv
    · subst hv; exact rft_0 n u s w hu hs h
    · subst hv; exact rft_1 n u s w hu hs h
    · subst hv; exact rft_2 n u s w hu hs h
    · subst hv; exact rft_5 n u s w hu hs h
  · exact rft_no n v u s w hu hs h
end Go.Proofs.Ytjpppnfkpnfhoaa
