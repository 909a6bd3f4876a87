/- A field's bytes; package pread: behind, Size. -/
import Derived.Test.YtjpppnfkpnfhoaaPrA
import Derived.Test.YtjpppnfkpnfhoaaLayC
import Derived.Test.YtjpppnfkpnfhoaaRoom
import Derived.Deep.RegionHeld3
namespace Go.Proofs.Ytjpppnfkpnfhoaa
open Go Go.RowKit
set_option linter.unusedVariables false

/-- What stands behind a tag of wire type v. -/
def bB (v : Int) (u : Nat) (s : ByteArray) : List UInt8 := if v = 0 then vB u else if v = 1 then lowL u 8 else if v = 5 then lowL u 4 else vB s.size ++ s.data.toList
/-- A field's bytes. -/
def fB (n v : Int) (u : Nat) (s : ByteArray) : List UInt8 := if tagB n v then tagL n v ++ bB v u s else []
theorem bB_le (v : Int) (u : Nat) (s : ByteArray) (hu : u < 18446744073709551616) (hs : s.size ≤ 140737488351232) : (bB v u s).length ≤ s.size + 10 := by
  have h1 := vB_le10 hu
  have h2 : (vB s.size).length ≤ 10 := vB_le10 (by omega)
  unfold bB
  split
  · omega
  · split
    · rw [lowL_length]; omega
    · split
      · rw [lowL_length]; omega
      · rw [List.length_append, toList_size]; omega
theorem tagL_le10 (n v : Int) : (tagL n v).length ≤ 10 := by
  unfold tagL; split
  · rename_i h; exact vB_le10 (Nat.lt_trans (tagU_lt h) (by decide))
  · simp
theorem tagL_ne {n v : Int} (h : tagB n v = true) : tagL n v ≠ [] := by
  unfold tagL; rw [if_pos h]
  have := vB_pos (tagU n v)
  exact fun e => by rw [e] at this; simp at this
theorem fB_le (n v : Int) (u : Nat) (s : ByteArray) (hu : u < 18446744073709551616) (hs : s.size ≤ 140737488351232) : (fB n v u s).length ≤ s.size + 20 := by
  have h1 := bB_le v u s hu hs
  have h2 := tagL_le10 n v
  unfold fB; split
  · rw [List.length_append]; omega
  · simp

set_option maxRecDepth 10000 in
theorem behind_0 (n : Int) (u : Nat) (s : ByteArray) (w : World) (hu : u < 18446744073709551616) :
    Calls Try.prog 68 #[.agg #[.int .i64 n, .int .i64 0, .int .u64 (u : Nat), .string s]] w fun e w' => e = .returned (.int .i64 ((bB 0 u s).length : Nat)) ∧ Below w.heap.size w w' := by
  have HS := Lib.hid (fun w => vsize_any u w hu)
  have HR := Lib.hid (show (bB 0 u s).length = (vB u).length from rfl)
  go_enter Try.func68, Try.ntmps68
  go_wp2_with fail
  with_reducible refine (HS.out _).mono ?_
  rintro e w1 ⟨rfl, rfl⟩
  go_wp2
  go_ret
  exact ⟨by rw [HR.out]; rfl, by go_grown⟩
set_option maxRecDepth 10000 in
theorem behind_1 (n : Int) (u : Nat) (s : ByteArray) (w : World) :
    Calls Try.prog 68 #[.agg #[.int .i64 n, .int .i64 1, .int .u64 (u : Nat), .string s]] w fun e w' => e = .returned (.int .i64 ((bB 1 u s).length : Nat)) ∧ Below w.heap.size w w' := by
  have HR := Lib.hid (show (bB 1 u s).length = 8 from lowL_length 8 u)
  go_enter Try.func68, Try.ntmps68
  go_wp2
  go_ret
  exact ⟨by rw [HR.out]; rfl, by go_grown⟩
set_option maxRecDepth 10000 in
theorem behind_5 (n : Int) (u : Nat) (s : ByteArray) (w : World) :
    Calls Try.prog 68 #[.agg #[.int .i64 n, .int .i64 5, .int .u64 (u : Nat), .string s]] w fun e w' => e = .returned (.int .i64 ((bB 5 u s).length : Nat)) ∧ Below w.heap.size w w' := by
  have HR := Lib.hid (show (bB 5 u s).length = 4 from lowL_length 4 u)
  go_enter Try.func68, Try.ntmps68
  go_wp2
  go_ret
  exact ⟨by rw [HR.out]; rfl, by go_grown⟩
set_option maxRecDepth 10000 in
theorem behind_2 (n v : Int) (u : Nat) (s : ByteArray) (w : World) (hs : s.size ≤ 140737488351232) (h0 : ¬ v = 0) (h1 : ¬ v = 1) (h5 : ¬ v = 5) :
    Calls Try.prog 68 #[.agg #[.int .i64 n, .int .i64 v, .int .u64 (u : Nat), .string s]] w fun e w' => e = .returned (.int .i64 ((bB v u s).length : Nat)) ∧ Below w.heap.size w w' := by
  have HS := Lib.hid (fun w => vsize_any s.size w (by omega))
  have hV : (vB s.size).length ≤ 10 := vB_le10 (by omega)
  have HR := Lib.hid (show (bB v u s).length = (vB s.size).length + s.size by unfold bB; rw [if_neg h0, if_neg h1, if_neg h5, List.length_append, toList_size])
  have p0 : (v == 0) = false := beq_eq_false_iff_ne.mpr h0
  have p1 : (v == 1) = false := beq_eq_false_iff_ne.mpr h1
  have p5 : (v == 5) = false := beq_eq_false_iff_ne.mpr h5
  generalize (vB s.size).length = V at *
  have e1 : IntKind.u64.wrap (s.size : Int) = (s.size : Int) := IntWalk.u64_in _ (by omega)
  have e2 : IntKind.i64.wrap ((V : Int) + (s.size : Int)) = (V : Int) + (s.size : Int) := IntWalk.i64_in _ (by omega)
  obtain ⟨w1, hw1⟩ : ∃ w1, w1 = w.alloc (.cells #[.int .i64 n, .int .i64 v, .int .u64 (u : Nat), .string s] 94) := ⟨_, rfl⟩
  have F0 := fd_alloc w (n, v, u, s) 94
  have B0 := fd_grow w (n, v, u, s) 94
  rw [← hw1] at F0 B0
  have B0 := Lib.hid B0
  have f1 := F0.c1; have f3 := F0.c3
  clear h0 h1 h5 F0
  go_enter Try.func68, Try.ntmps68
  go_upto_region 1 with fail
  rw [← hw1]
  clear hw1
  go_wp2
  go_quiet (first | (go_at_call 56; exact Calls.quiet_of_same (HS.out _)))
  go_wp2
  go_ret
  exact ⟨ret_i (by rw [HR.out]; omega), Below.drewN B0.out nq⟩
theorem behind_any (n v : Int) (u : Nat) (s : ByteArray) (w : World) (hu : u < 18446744073709551616) (hs : s.size ≤ 140737488351232) :
    Calls Try.prog 68 #[.agg #[.int .i64 n, .int .i64 v, .int .u64 (u : Nat), .string s]] w fun e w' => e = .returned (.int .i64 ((bB v u s).length : Nat)) ∧ Below w.heap.size w w' := by
  by_cases h0 : v = 0
  · subst h0; exact behind_0 n u s w hu
  · by_cases h1 : v = 1
    · subst h1; exact behind_1 n u s w
    · by_cases h5 : v = 5
      · subst h5; exact behind_5 n u s w
      · exact behind_2 n v u s w hs h0 h1 h5

/-- The worlds within Size: the field's block, nothing else turned. -/
structure ZS (w wx : World) (f : Nat) (n v : Int) (u : Nat) (s : ByteArray) : Prop where
  fld : PfT 94 wx f (n, v, u, s)
  b : Below w.heap.size w wx
theorem ZS.next {w wx w' : World} {f : Nat} {n v : Int} {u : Nat} {s : ByteArray} (h : ZS w wx f n v u s) (hb : Below wx.heap.size wx w') : ZS w w' f n v u s := ⟨h.fld.below hb h.fld.lt, grown_then h.b hb⟩
theorem ZS.drew {w wx : World} {f : Nat} {n v : Int} {u : Nat} {s : ByteArray} (h : ZS w wx f n v u s) : ZS w wx.drew f n v u s := ⟨h.fld, h.b.drew⟩
@[reducible] def CZS (w : World) (f : Nat) (n v : Int) (u : Nat) (s : ByteArray) (wx : World) : Prop :=
  wx.cell? ⟨f, 0, none⟩ = some (.int .i64 n) ∧ wx.cell? ⟨f, 1, none⟩ = some (.int .i64 v) ∧ wx.cell? ⟨f, 2, none⟩ = some (.int .u64 (u : Nat)) ∧ wx.cell? ⟨f, 3, none⟩ = some (.string s) ∧ ZS w wx f n v u s
theorem ZS.cells {w wx : World} {f : Nat} {n v : Int} {u : Nat} {s : ByteArray} (h : ZS w wx f n v u s) : CZS w f n v u s wx := ⟨h.fld.c0, h.fld.c1, h.fld.c2, h.fld.c3, h⟩
theorem CZS.z {w wx : World} {f : Nat} {n v : Int} {u : Nat} {s : ByteArray} (h : CZS w f n v u s wx) : ZS w wx f n v u s := h.2.2.2.2
theorem czs_next {w wx w' : World} {f : Nat} {n v : Int} {u : Nat} {s : ByteArray} (hb : Below wx.heap.size wx w') (h : CZS w f n v u s wx) : CZS w f n v u s w' := (h.z.next hb).cells
theorem size_yes (n v : Int) (u : Nat) (s : ByteArray) (w : World) (hu : u < 18446744073709551616) (hs : s.size ≤ 140737488351232) (h : tagB n v = true) :
    Calls Try.prog 64 #[.agg #[.int .i64 n, .int .i64 v, .int .u64 (u : Nat), .string s]] w fun e w' => e = .returned (.int .i64 ((fB n v u s).length : Nat)) ∧ Below w.heap.size w w' := by
  have HT := Lib.hid (fun w => tag_any n v u s w)
  have HM := Lib.hid (fun w => may_any n v w)
  rw [h] at HM
  have HS := Lib.hid (fun w => tsize_any n v w)
  have HB := Lib.hid (fun w => behind_any n v u s w hu hs)
  have hR : (fB n v u s).length = (tagL n v).length + (bB v u s).length := by unfold fB; rw [if_pos h, List.length_append]
  have HR := Lib.hid hR
  have l1 := tagL_le10 n v
  have l2 := bB_le v u s hu hs
  generalize (tagL n v).length = T at *
  generalize (bB v u s).length = V at *
  have e2 : IntKind.i64.wrap ((T : Int) + (V : Int)) = (T : Int) + (V : Int) := IntWalk.i64_in _ (by omega)
  obtain ⟨w1, hw1⟩ : ∃ w1, w1 = w.alloc (.cells #[.int .i64 n, .int .i64 v, .int .u64 (u : Nat), .string s] 94) := ⟨_, rfl⟩
  have Z1 : ZS w w1 w.heap.size n v u s := by rw [hw1]; exact ⟨fd_alloc w (n, v, u, s) 94, fd_grow w (n, v, u, s) 94⟩
  obtain ⟨f, hf⟩ : ∃ f, f = w.heap.size := ⟨_, rfl⟩
  obtain ⟨c0, c1, c2, c3, Z1⟩ := Z1.cells
  have HZ := Lib.hid Z1
  clear h hR Z1 hf f
  go_enter Try.func64, Try.ntmps64
  go_upto_region 1 with fail
  rw [← hw1]
  clear hw1
  go_wp2_with fail
  with_reducible refine (HT.out _).mono ?_
  rintro e w2 ⟨rfl, b2⟩
  have Z2 := Lib.hid (HZ.out.next b2)
  clear b2 c0 c1 c2 c3
  go_wp2_with fail
  with_reducible refine (HM.out _).mono ?_
  rintro e w3 ⟨rfl, b3⟩
  have Z3 := Lib.hid (Z2.out.next b3)
  have Z3d := Lib.hid Z3.out.drew.cells
  clear b3
  go_wp2_with fail
  go_cut [2] from 3 (fun q2 wx => q2 = .int .i64 ((T : Int) + (V : Int)) ∧ Below w.heap.size w wx)
  case first =>
    go_region_held3 (fun wx => CZS w w.heap.size n v u s wx)
      (first | with_reducible exact Z3d.out | with_reducible exact czs_next (by assumption) (by assumption))
      (first
      | (go_at_call 65; go_loud (with_reducible refine (HT.out _).mono ?_; rintro r w4 ⟨rfl, b4⟩))
      | (go_at_call 55; go_loud (with_reducible refine (HS.out _).mono ?_; rintro r w5 ⟨rfl, b5⟩))
      | (go_at_call 68; go_loud (with_reducible refine (HB.out _).mono ?_; rintro r w6 ⟨rfl, b6⟩)))
    all_goals go_wp2_with fail
    all_goals go_meet
    all_goals (case rel => exact ⟨rfl, (CZS.z (by assumption)).b⟩)
  case rest =>
    obtain ⟨rfl, hb⟩ := hcut
    go_wp2
    go_ret
    exact ⟨ret_i (by rw [HR.out]; omega), hb⟩
theorem size_no (n v : Int) (u : Nat) (s : ByteArray) (w : World) (h : tagB n v = false) :
    Calls Try.prog 64 #[.agg #[.int .i64 n, .int .i64 v, .int .u64 (u : Nat), .string s]] w fun e w' => e = .returned (.int .i64 ((fB n v u s).length : Nat)) ∧ Below w.heap.size w w' := by
  have HT := Lib.hid (fun w => tag_any n v u s w)
  have HM := Lib.hid (fun w => may_any n v w)
  rw [h] at HM
  have HR := Lib.hid (show (fB n v u s).length = 0 by unfold fB; rw [h]; rfl)
  obtain ⟨w1, hw1⟩ : ∃ w1, w1 = w.alloc (.cells #[.int .i64 n, .int .i64 v, .int .u64 (u : Nat), .string s] 94) := ⟨_, rfl⟩
  have Z1 : ZS w w1 w.heap.size n v u s := by rw [hw1]; exact ⟨fd_alloc w (n, v, u, s) 94, fd_grow w (n, v, u, s) 94⟩
  obtain ⟨c0, c1, c2, c3, Z1⟩ := Z1.cells
  have HZ := Lib.hid Z1
  clear h Z1
  go_enter Try.func64, Try.ntmps64
  go_upto_region 1 with fail
  rw [← hw1]
  clear hw1
  go_wp2_with fail
  with_reducible refine (HT.out _).mono ?_
  rintro e w2 ⟨rfl, b2⟩
  have Z2 := Lib.hid (HZ.out.next b2)
  clear b2 c0 c1 c2 c3
  go_wp2_with fail
  with_reducible refine (HM.out _).mono ?_
  rintro e w3 ⟨rfl, b3⟩
  have Z3 := Lib.hid (Z2.out.next b3)
  clear b3
  go_wp2
  go_ret
  exact ⟨by rw [HR.out]; rfl, Z3.out.b⟩
theorem fsize_any (n v : Int) (u : Nat) (s : ByteArray) (w : World) (hu : u < 18446744073709551616) (hs : s.size ≤ 140737488351232) :
    Calls Try.prog 64 #[.agg #[.int .i64 n, .int .i64 v, .int .u64 (u : Nat), .string s]] w fun e w' => e = .returned (.int .i64 ((fB n v u s).length : Nat)) ∧ Below w.heap.size w w' := by
  rcases Bool.eq_false_or_eq_true (tagB n v) with h | h
  · exact size_yes n v u s w hu hs h
  · exact size_no n v u s w h
end Go.Proofs.Ytjpppnfkpnfhoaa
