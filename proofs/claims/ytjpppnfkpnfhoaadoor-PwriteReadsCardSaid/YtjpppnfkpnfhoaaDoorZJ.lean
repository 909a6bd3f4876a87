/- Several texts in one (Room, PrC, PrD): each begins with its own words. -/
import Derived.Test.YtjpppnfkpnfhoaaDoorZA
import Derived.Lib.AppendStr
import Derived.Test.YtjpppnfkpnfhoaaDoorPrA
import Derived.Test.YtjpppnfkpnfhoaaDoorZE
import Derived.Deep.RegionHeld3
/- A list of bytes that the call itself made, with room behind it: 'append' of a list, or of a text, that fits. Of no package. -/
namespace Go.Proofs.YtjpppnfkpnfhoaaDoor
open Go Go.RowKit
set_option linter.unusedVariables false

/-- Block g, of room cap, holds the bytes l from its head on. -/
def BtR (t : TypeId) (w : World) (B g cap : Nat) (l : List UInt8) : Prop := w.ownsRow B t 1 (.slice (some ⟨g, 0, none⟩) l.length cap) l.length (bV l)
theorem BtR.bts {t : TypeId} {w : World} {B g cap : Nat} {l : List UInt8} (h : BtR t w B g cap l) : Bts t w B (.slice (some ⟨g, 0, none⟩) l.length cap) l := h
theorem BtR.lt {t : TypeId} {w : World} {B g cap : Nat} {l : List UInt8} (h : BtR t w B g cap l) : B ≤ g ∧ g < w.heap.size := World.ownsRow.lt h g rfl
theorem BtR.below {t : TypeId} {w w' : World} {B N g cap : Nat} {l : List UInt8} (h : BtR t w B g cap l) (hb : Below N w w') (hN : w.heap.size ≤ N) : BtR t w' B g cap l := Bts.below h hb hN
theorem BtR.base {t : TypeId} {w : World} {B N g cap : Nat} {l : List UInt8} (h : BtR t w N g cap l) (hB : B ≤ N) : BtR t w B g cap l := Bts.base h hB
theorem wpList_room_bytes {P : Program} {ops : Array Oper} {rest : List Oper} {o : Oper} {a : Act} {Q : Exit → Act → World → Prop} (hgd : o.guard = none) (s x : Operand) (t : TypeId)
    (ho : o.op = .call { callee := .builtin .append, args := #[s, x], argTypes := #[t, t] })
    (e : TypeId) (i : TypeInfo) (ht : P.underlying t = some (.slice e)) (hi : P.info? e = some i) (hsize : i.size = 1)
    (v2 : Value) (w : World) (B B2 g cap n : Nat) (l m l' : List UInt8) (hl' : l' = l ++ m) (hn : l.length = n) (hb : BtR e w B g cap l) (hb2 : Bts e w B2 v2 m) (hm : m ≠ []) (hs : a.eval s = .slice (some ⟨g, 0, none⟩) n cap) (hx : a.eval x = v2) (hroom : l.length + m.length ≤ cap)
    (h : ∀ w', BtR e w' B g cap l' → Only g w w' → wpList P ops Q rest (a.put o.dst (.slice (some ⟨g, 0, none⟩) l'.length cap)) w') :
    wpList P ops Q (o :: rest) a w := by
  subst hn hl'
  rcases hb2.2 with ⟨_, hn⟩ | ⟨g2, cap2, cur2, rfl, _, hg2, _⟩
  · exact absurd (List.eq_nil_of_length_eq_zero hn) hm
  · refine wpList_plain hgd fun K hK => ?_
    obtain ⟨w', hr, hown, hgr⟩ := run_append_fits (P := P) w B t o.type e i 1 ht hi hsize g l.length cap (bV l) hb ⟨g2, 0, none⟩ m.length cap2 (bV m) (by rw [bV_length, Nat.mul_one]) (fun j u hj => by
      have hjl : j < m.length := by
        have := (List.getElem?_eq_some_iff.1 hj).1
        rwa [bV_length] at this
      have e1 : (Addr.mk g2 0 none).add j = ⟨g2, j, none⟩ := by unfold Addr.add; split <;> simp_all
      rw [e1, World.ownsRow.cellAt hb2 j (by omega)]
      exact hj) (bV_one m) hroom
    unfold Oper.wp execOp
    simp only [ho, resolve, invoke, builtin, Sem.run_bind, Sem.run_pure, Result.andThen_ok, List.map_toArray, List.map_cons, List.map_nil, hs, hx, hr]
    refine hK _ _ ?_
    have hlen : (l ++ m).length = l.length + m.length := List.length_append
    rw [← hlen] at hown ⊢
    refine h w' ?_ ⟨hgr.os, hgr.tape, hgr.output, hgr.size, fun k hk hkg => hgr.block k hk (fun e => hkg (by simpa using e))⟩
    unfold BtR
    rw [bV_append]
    exact hown
theorem wpList_room_text {P : Program} {ops : Array Oper} {rest : List Oper} {o : Oper} {a : Act} {Q : Exit → Act → World → Prop} (hgd : o.guard = none) (sl x : Operand) (t u : TypeId)
    (ho : o.op = .call { callee := .builtin .append, args := #[sl, x], argTypes := #[t, u] })
    (e : TypeId) (i : TypeInfo) (ht : P.underlying t = some (.slice e)) (hu : P.underlying u = some .string) (hi : P.info? e = some i) (hsize : i.size = 1)
    (w : World) (B g cap n : Nat) (l l' : List UInt8) (s : ByteArray) (hl' : l' = l ++ s.data.toList) (hn : l.length = n) (hb : BtR e w B g cap l) (hs : a.eval sl = .slice (some ⟨g, 0, none⟩) n cap) (hx : a.eval x = .string s) (hroom : l.length + s.size ≤ cap)
    (h : ∀ w', BtR e w' B g cap l' → Only g w w' → wpList P ops Q rest (a.put o.dst (.slice (some ⟨g, 0, none⟩) l'.length cap)) w') :
    wpList P ops Q (o :: rest) a w := by
  subst hn hl'
  rcases hb.2 with ⟨hb', _⟩ | ⟨g', cap', cur, hb', hbg, hg, hnc, hcm, hcs, htake⟩
  · simp at hb'
  · simp only [Value.slice.injEq, Option.some.injEq, Addr.mk.injEq, and_true, true_and] at hb'
    obtain ⟨rfl, rfl⟩ := hb'
    rw [Nat.mul_one] at hcs htake
    refine wpList_plain hgd fun K hK => ?_
    have hr := Lib.run_append_room_string (P := P) w t u o.type e i ht hu hi hsize g l.length cap cur hg s hroom (by omega)
    unfold Oper.wp execOp
    simp only [ho, resolve, invoke, builtin, Sem.run_bind, Sem.run_pure, Result.andThen_ok, List.map_toArray, List.map_cons, List.map_nil, hs, hx, hr]
    refine hK _ _ ?_
    have hlen : (l ++ s.data.toList).length = l.length + s.size := by rw [List.length_append, toList_size]
    have hsc : (Lib.strCells s).length = s.size := Lib.strCells_length s
    have hbv : bV s.data.toList = Lib.strCells s := by
      unfold bV Lib.strCells
      simp
    rw [← hlen]
    refine h _ ?_ ⟨rfl, rfl, rfl, by simp, fun k _ hk => setRow_other w g k _ hk⟩
    refine ⟨by rw [bV_length, Nat.mul_one], .inr ⟨g, cap, _, rfl, hbg, setRow_heap w g cur _ e _ hg, by rw [hlen]; exact hroom, hcm, ?_, ?_⟩⟩
    · simp only [List.size_toArray, List.length_append, List.length_take, List.length_drop, Array.length_toList, hsc]
      have hss : s.data.size = s.size := rfl
      omega
    · have ht' : cur.toList.take l.length = bV l := by simpa using htake
      rw [ht', hlen, Nat.mul_one, bV_append, hbv]
      exact List.take_left' (by rw [List.length_append, bV_length, hsc])
/-- 'make([]byte, n, n+more)' of any size that there is. -/
theorem make_room (n more : Nat) (w : World) (hl : n + more ≤ 281474976710656) :
    (Instr.makeSlice 35 (.int .i64 (n : Int)) (.int .i64 ((n : Int) + more))).run Tryd.prog w = .ok (.slice (some ⟨w.heap.size, 0, none⟩) n (n + more)) (w.alloc (.cells (Array.replicate (n + more) (.int .u8 0)) 5)) := by
  obtain ⟨i0, hi, hz0, hz1, hz2⟩ := info_parts info8
  have := run_make (P := Tryd.prog) w 35 5 i0 (.int .u8 0) Tryd.underlying35 hi hz0 .i64 .i64 (n : Int) ((n : Int) + more) (by omega) (by omega) (by rw [hz2]; omega) (by omega)
  have hn : ((n : Int) + more).toNat = n + more := by omega
  have hma : madeCells (Value.int .u8 0).cells (n + more) = Array.replicate (n + more) (.int .u8 0) := by
    apply Array.toList_inj.mp
    show (madeCells #[.int .u8 0] _).toList = _
    rw [toList_madeCells_one, Array.toList_replicate]
  rw [this, hn, hz1, Nat.mul_one, hma]
  rfl
end Go.Proofs.YtjpppnfkpnfhoaaDoor
/- A field's bytes; package pread: behind, Size. -/
namespace Go.Proofs.YtjpppnfkpnfhoaaDoor
open Go Go.RowKit
set_option linter.unusedVariables false

/-- What stands behind a tag of wire type v. -/
def bB (v : Int) (u : Nat) (s : ByteArray) : List UInt8 := if v = 0 then vB u else if v = 1 then lowL u 8 else if v = 5 then lowL u 4 else vB s.size ++ s.data.toList
/-- A field's bytes. -/
def fB (n v : Int) (u : Nat) (s : ByteArray) : List UInt8 := if tagB n v then tagL n v ++ bB v u s else []
theorem bB_le (v : Int) (u : Nat) (s : ByteArray) (hu : u < 18446744073709551616) (hs : s.size ≤ 140737488351232) : (bB v u s).length ≤ s.size + 10 := by
  have h1 := vB_le10 hu
  have h2 : (vB s.size).length ≤ 10 := vB_le10 (by omega)
  unfold bB
  split
  · omega
  · split
    · rw [lowL_length]; omega
    · split
      · rw [lowL_length]; omega
      · rw [List.length_append, toList_size]; omega
theorem tagL_le10 (n v : Int) : (tagL n v).length ≤ 10 := by
  unfold tagL; split
  · rename_i h; exact vB_le10 (Nat.lt_trans (tagU_lt h) (by decide))
  · simp
theorem tagL_ne {n v : Int} (h : tagB n v = true) : tagL n v ≠ [] := by
  unfold tagL; rw [if_pos h]
  have := vB_pos (tagU n v)
  exact fun e => by rw [e] at this; simp at this
theorem fB_le (n v : Int) (u : Nat) (s : ByteArray) (hu : u < 18446744073709551616) (hs : s.size ≤ 140737488351232) : (fB n v u s).length ≤ s.size + 20 := by
  have h1 := bB_le v u s hu hs
  have h2 := tagL_le10 n v
  unfold fB; split
  · rw [List.length_append]; omega
  · simp

set_option maxRecDepth 10000 in
theorem behind_0 (n : Int) (u : Nat) (s : ByteArray) (w : World) (hu : u < 18446744073709551616) :
    Calls Tryd.prog 38 #[.agg #[.int .i64 n, .int .i64 0, .int .u64 (u : Nat), .string s]] w fun e w' => e = .returned (.int .i64 ((bB 0 u s).length : Nat)) ∧ Below w.heap.size w w' := by
  have HS := Lib.hid (fun w => vsize_any u w hu)
  have HR := Lib.hid (show (bB 0 u s).length = (vB u).length from rfl)
  go_enter Tryd.func38, Tryd.ntmps38
  go_wp2_with fail
  with_reducible refine (HS.out _).mono ?_
  rintro e w1 ⟨rfl, rfl⟩
  go_wp2
  go_ret
  exact ⟨by rw [HR.out]; rfl, by go_grown⟩
set_option maxRecDepth 10000 in
theorem behind_1 (n : Int) (u : Nat) (s : ByteArray) (w : World) :
    Calls Tryd.prog 38 #[.agg #[.int .i64 n, .int .i64 1, .int .u64 (u : Nat), .string s]] w fun e w' => e = .returned (.int .i64 ((bB 1 u s).length : Nat)) ∧ Below w.heap.size w w' := by
  have HR := Lib.hid (show (bB 1 u s).length = 8 from lowL_length 8 u)
  go_enter Tryd.func38, Tryd.ntmps38
  go_wp2
  go_ret
  exact ⟨by rw [HR.out]; rfl, by go_grown⟩
set_option maxRecDepth 10000 in
theorem behind_5 (n : Int) (u : Nat) (s : ByteArray) (w : World) :
    Calls Tryd.prog 38 #[.agg #[.int .i64 n, .int .i64 5, .int .u64 (u : Nat), .string s]] w fun e w' => e = .returned (.int .i64 ((bB 5 u s).length : Nat)) ∧ Below w.heap.size w w' := by
  have HR := Lib.hid (show (bB 5 u s).length = 4 from lowL_length 4 u)
  go_enter Tryd.func38, Tryd.ntmps38
  go_wp2
  go_ret
  exact ⟨by rw [HR.out]; rfl, by go_grown⟩
set_option maxRecDepth 10000 in
theorem behind_2 (n v : Int) (u : Nat) (s : ByteArray) (w : World) (hs : s.size ≤ 140737488351232) (h0 : ¬ v = 0) (h1 : ¬ v = 1) (h5 : ¬ v = 5) :
    Calls Tryd.prog 38 #[.agg #[.int .i64 n, .int .i64 v, .int .u64 (u : Nat), .string s]] w fun e w' => e = .returned (.int .i64 ((bB v u s).length : Nat)) ∧ Below w.heap.size w w' := by
  have HS := Lib.hid (fun w => vsize_any s.size w (by omega))
  have hV : (vB s.size).length ≤ 10 := vB_le10 (by omega)
  have HR := Lib.hid (show (bB v u s).length = (vB s.size).length + s.size by unfold bB; rw [if_neg h0, if_neg h1, if_neg h5, List.length_append, toList_size])
  have p0 : (v == 0) = false := beq_eq_false_iff_ne.mpr h0
  have p1 : (v == 1) = false := beq_eq_false_iff_ne.mpr h1
  have p5 : (v == 5) = false := beq_eq_false_iff_ne.mpr h5
  generalize (vB s.size).length = V at *
  have e1 : IntKind.u64.wrap (s.size : Int) = (s.size : Int) := IntWalk.u64_in _ (by omega)
  have e2 : IntKind.i64.wrap ((V : Int) + (s.size : Int)) = (V : Int) + (s.size : Int) := IntWalk.i64_in _ (by omega)
  obtain ⟨w1, hw1⟩ : ∃ w1, w1 = w.alloc (.cells #[.int .i64 n, .int .i64 v, .int .u64 (u : Nat), .string s] 38) := ⟨_, rfl⟩
  have F0 := fd_alloc w (n, v, u, s) 38
  have B0 := fd_grow w (n, v, u, s) 38
  rw [← hw1] at F0 B0
  have B0 := Lib.hid B0
  have f1 := F0.c1; have f3 := F0.c3
  clear h0 h1 h5 F0
  go_enter Tryd.func38, Tryd.ntmps38
  go_upto_region 1 with fail
  rw [← hw1]
  clear hw1
  go_wp2
  go_quiet (first | (go_at_call 41; exact Calls.quiet_of_same (HS.out _)))
  go_wp2
  go_ret
  exact ⟨ret_i (by rw [HR.out]; omega), Below.drewN B0.out nq⟩
theorem behind_any (n v : Int) (u : Nat) (s : ByteArray) (w : World) (hu : u < 18446744073709551616) (hs : s.size ≤ 140737488351232) :
    Calls Tryd.prog 38 #[.agg #[.int .i64 n, .int .i64 v, .int .u64 (u : Nat), .string s]] w fun e w' => e = .returned (.int .i64 ((bB v u s).length : Nat)) ∧ Below w.heap.size w w' := by
  by_cases h0 : v = 0
  · subst h0; exact behind_0 n u s w hu
  · by_cases h1 : v = 1
    · subst h1; exact behind_1 n u s w
    · by_cases h5 : v = 5
      · subst h5; exact behind_5 n u s w
      · exact behind_2 n v u s w hs h0 h1 h5

/-- The worlds within Size: the field's block, nothing else turned. -/
structure ZS (w wx : World) (f : Nat) (n v : Int) (u : Nat) (s : ByteArray) : Prop where
  fld : PfT 38 wx f (n, v, u, s)
  b : Below w.heap.size w wx
theorem ZS.next {w wx w' : World} {f : Nat} {n v : Int} {u : Nat} {s : ByteArray} (h : ZS w wx f n v u s) (hb : Below wx.heap.size wx w') : ZS w w' f n v u s := ⟨h.fld.below hb h.fld.lt, grown_then h.b hb⟩
theorem ZS.drew {w wx : World} {f : Nat} {n v : Int} {u : Nat} {s : ByteArray} (h : ZS w wx f n v u s) : ZS w wx.drew f n v u s := ⟨h.fld, h.b.drew⟩
@[reducible] def CZS (w : World) (f : Nat) (n v : Int) (u : Nat) (s : ByteArray) (wx : World) : Prop :=
  wx.cell? ⟨f, 0, none⟩ = some (.int .i64 n) ∧ wx.cell? ⟨f, 1, none⟩ = some (.int .i64 v) ∧ wx.cell? ⟨f, 2, none⟩ = some (.int .u64 (u : Nat)) ∧ wx.cell? ⟨f, 3, none⟩ = some (.string s) ∧ ZS w wx f n v u s
theorem ZS.cells {w wx : World} {f : Nat} {n v : Int} {u : Nat} {s : ByteArray} (h : ZS w wx f n v u s) : CZS w f n v u s wx := ⟨h.fld.c0, h.fld.c1, h.fld.c2, h.fld.c3, h⟩
theorem CZS.z {w wx : World} {f : Nat} {n v : Int} {u : Nat} {s : ByteArray} (h : CZS w f n v u s wx) : ZS w wx f n v u s := h.2.2.2.2
theorem czs_next {w wx w' : World} {f : Nat} {n v : Int} {u : Nat} {s : ByteArray} (hb : Below wx.heap.size wx w') (h : CZS w f n v u s wx) : CZS w f n v u s w' := (h.z.next hb).cells
theorem size_yes (n v : Int) (u : Nat) (s : ByteArray) (w : World) (hu : u < 18446744073709551616) (hs : s.size ≤ 140737488351232) (h : tagB n v = true) :
    Calls Tryd.prog 22 #[.agg #[.int .i64 n, .int .i64 v, .int .u64 (u : Nat), .string s]] w fun e w' => e = .returned (.int .i64 ((fB n v u s).length : Nat)) ∧ Below w.heap.size w w' := by
  have HT := Lib.hid (fun w => tag_any n v u s w)
  have HM := Lib.hid (fun w => may_any n v w)
  rw [h] at HM
  have HS := Lib.hid (fun w => tsize_any n v w)
  have HB := Lib.hid (fun w => behind_any n v u s w hu hs)
  have hR : (fB n v u s).length = (tagL n v).length + (bB v u s).length := by unfold fB; rw [if_pos h, List.length_append]
  have HR := Lib.hid hR
  have l1 := tagL_le10 n v
  have l2 := bB_le v u s hu hs
  generalize (tagL n v).length = T at *
  generalize (bB v u s).length = V at *
  have e2 : IntKind.i64.wrap ((T : Int) + (V : Int)) = (T : Int) + (V : Int) := IntWalk.i64_in _ (by omega)
  obtain ⟨w1, hw1⟩ : ∃ w1, w1 = w.alloc (.cells #[.int .i64 n, .int .i64 v, .int .u64 (u : Nat), .string s] 38) := ⟨_, rfl⟩
  have Z1 : ZS w w1 w.heap.size n v u s := by rw [hw1]; exact ⟨fd_alloc w (n, v, u, s) 38, fd_grow w (n, v, u, s) 38⟩
  obtain ⟨f, hf⟩ : ∃ f, f = w.heap.size := ⟨_, rfl⟩
  obtain ⟨c0, c1, c2, c3, Z1⟩ := Z1.cells
  have HZ := Lib.hid Z1
  clear h hR Z1 hf f
  go_enter Tryd.func22, Tryd.ntmps22
  go_upto_region 1 with fail
  rw [← hw1]
  clear hw1
  go_wp2_with fail
  with_reducible refine (HT.out _).mono ?_
  rintro e w2 ⟨rfl, b2⟩
  have Z2 := Lib.hid (HZ.out.next b2)
  clear b2 c0 c1 c2 c3
  go_wp2_with fail
  with_reducible refine (HM.out _).mono ?_
  rintro e w3 ⟨rfl, b3⟩
  have Z3 := Lib.hid (Z2.out.next b3)
  have Z3d := Lib.hid Z3.out.drew.cells
  clear b3
  go_wp2_with fail
  go_cut [2] from 3 (fun q2 wx => q2 = .int .i64 ((T : Int) + (V : Int)) ∧ Below w.heap.size w wx)
  case first =>
    go_region_held3 (fun wx => CZS w w.heap.size n v u s wx)
      (first | with_reducible exact Z3d.out | with_reducible exact czs_next (by assumption) (by assumption))
      (first
      | (go_at_call 23; go_loud (with_reducible refine (HT.out _).mono ?_; rintro r w4 ⟨rfl, b4⟩))
      | (go_at_call 37; go_loud (with_reducible refine (HS.out _).mono ?_; rintro r w5 ⟨rfl, b5⟩))
      | (go_at_call 38; go_loud (with_reducible refine (HB.out _).mono ?_; rintro r w6 ⟨rfl, b6⟩)))
    all_goals go_wp2_with fail
    all_goals go_meet
    all_goals (case rel => exact ⟨rfl, (CZS.z (by assumption)).b⟩)
  case rest =>
    obtain ⟨rfl, hb⟩ := hcut
    go_wp2
    go_ret
    exact ⟨ret_i (by rw [HR.out]; omega), hb⟩
theorem size_no (n v : Int) (u : Nat) (s : ByteArray) (w : World) (h : tagB n v = false) :
    Calls Tryd.prog 22 #[.agg #[.int .i64 n, .int .i64 v, .int .u64 (u : Nat), .string s]] w fun e w' => e = .returned (.int .i64 ((fB n v u s).length : Nat)) ∧ Below w.heap.size w w' := by
  have HT := Lib.hid (fun w => tag_any n v u s w)
  have HM := Lib.hid (fun w => may_any n v w)
  rw [h] at HM
  have HR := Lib.hid (show (fB n v u s).length = 0 by unfold fB; rw [h]; rfl)
  obtain ⟨w1, hw1⟩ : ∃ w1, w1 = w.alloc (.cells #[.int .i64 n, .int .i64 v, .int .u64 (u : Nat), .string s] 38) := ⟨_, rfl⟩
  have Z1 : ZS w w1 w.heap.size n v u s := by rw [hw1]; exact ⟨fd_alloc w (n, v, u, s) 38, fd_grow w (n, v, u, s) 38⟩
  obtain ⟨c0, c1, c2, c3, Z1⟩ := Z1.cells
  have HZ := Lib.hid Z1
  clear h Z1
  go_enter Tryd.func22, Tryd.ntmps22
  go_upto_region 1 with fail
  rw [← hw1]
  clear hw1
  go_wp2_with fail
  with_reducible refine (HT.out _).mono ?_
  rintro e w2 ⟨rfl, b2⟩
  have Z2 := Lib.hid (HZ.out.next b2)
  clear b2 c0 c1 c2 c3
  go_wp2_with fail
  with_reducible refine (HM.out _).mono ?_
  rintro e w3 ⟨rfl, b3⟩
  have Z3 := Lib.hid (Z2.out.next b3)
  clear b3
  go_wp2
  go_ret
  exact ⟨by rw [HR.out]; rfl, Z3.out.b⟩
theorem fsize_any (n v : Int) (u : Nat) (s : ByteArray) (w : World) (hu : u < 18446744073709551616) (hs : s.size ≤ 140737488351232) :
    Calls Tryd.prog 22 #[.agg #[.int .i64 n, .int .i64 v, .int .u64 (u : Nat), .string s]] w fun e w' => e = .returned (.int .i64 ((fB n v u s).length : Nat)) ∧ Below w.heap.size w w' := by
  rcases Bool.eq_false_or_eq_true (tagB n v) with h | h
  · exact size_yes n v u s w hu hs h
  · exact size_no n v u s w h
end Go.Proofs.YtjpppnfkpnfhoaaDoor
/- Package pread: Put. -/
namespace Go.Proofs.YtjpppnfkpnfhoaaDoor
open Go Go.RowKit
set_option linter.unusedVariables false

theorem bin_nil (w : World) : BIn w none [] := fun j hj => by simp at hj
theorem tput_nil (n v : Int) (w : World) :
    Calls Tryd.prog 25 #[.slice none 0 0, tgV n v] w fun e w' => ∃ x, e = .returned x ∧ Bts 5 w' w.heap.size x (tagL n v) ∧ Below w.heap.size w w' := tput_any none 0 [] n v w (by simp) (bin_nil w)
theorem vput_nil (u : Nat) (w : World) (hu : u < 18446744073709551616) :
    Calls Tryd.prog 26 #[.slice none 0 0, .int .u64 u] w fun e w' => ∃ x, e = .returned x ∧ Bts 5 w' w.heap.size x (vB u) ∧ Below w.heap.size w w' := vput_any none 0 [] u w (by simp) hu (bin_nil w)
theorem low64_nil (u : Nat) (w : World) (hu : u < 18446744073709551616) (ht : Tab w) :
    Calls Tryd.prog 27 #[.slice none 0 0, .int .u64 u] w fun e w' => ∃ x, e = .returned x ∧ Bts 5 w' w.heap.size x (lowL u 8) ∧ Below w.heap.size w w' := low64_any none 0 [] u w (by simp) hu (bin_nil w) ht
theorem low32_nil (u : Nat) (w : World) (hu : u < 4294967296) (ht : Tab w) :
    Calls Tryd.prog 28 #[.slice none 0 0, .int .u32 u] w fun e w' => ∃ x, e = .returned x ∧ Bts 5 w' w.heap.size x (lowL u 4) ∧ Below w.heap.size w w' := low32_any none 0 [] u w (by simp) hu (bin_nil w) ht
theorem lowL_mod : ∀ (n u : Nat), lowL (u % 256 ^ n) n = lowL u n
  | 0, _ => rfl
  | n + 1, u => by
    have h1 : u % 256 ^ (n + 1) % 256 = u % 256 := by rw [Nat.pow_succ, Nat.mul_comm, Nat.mod_mul_right_mod]
    have h2 : u % 256 ^ (n + 1) / 256 = u / 256 % 256 ^ n := by rw [Nat.pow_succ, Nat.mul_comm, Nat.mod_mul_right_div_self]
    show UInt8.ofNat (u % 256 ^ (n + 1) % 256) :: lowL (u % 256 ^ (n + 1) / 256) n = UInt8.ofNat (u % 256) :: lowL (u / 256) n
    rw [h1, h2, lowL_mod n]
theorem vB_ne (u : Nat) : vB u ≠ [] := by
  have := vB_pos u
  exact fun e => by rw [e] at this; simp at this
/-- What Put holds while it runs: the field, its list. -/
structure PtS (w W : World) (f g cap : Nat) (n v : Int) (u : Nat) (s : ByteArray) (l : List UInt8) : Prop where
  fld : PfT 38 W f (n, v, u, s)
  row : BtR 5 W w.heap.size g cap l
  bel : Below w.heap.size w W
  ne : f ≠ g
theorem PtS.next {w W W' : World} {f g cap : Nat} {n v : Int} {u : Nat} {s : ByteArray} {l : List UInt8} (h : PtS w W f g cap n v u s l) (hb : Below W.heap.size W W') : PtS w W' f g cap n v u s l :=
  ⟨h.fld.below hb h.fld.lt, h.row.below hb (Nat.le_refl _), grown_then h.bel hb, h.ne⟩
theorem PtS.put {w W W' : World} {f g cap : Nat} {n v : Int} {u : Nat} {s : ByteArray} {l l' : List UInt8} (h : PtS w W f g cap n v u s l) (hr : BtR 5 W' w.heap.size g cap l') (ho : Only g W W') : PtS w W' f g cap n v u s l' :=
  ⟨h.fld.only ho h.ne, hr, h.bel.trans (ho.below h.row.lt.1 h.bel.size), h.ne⟩
theorem pt_begin {w w1 w2 : World} {cap : Nat} {n v : Int} {u : Nat} {s : ByteArray} {l : List UInt8} (b1 : Below (w.alloc (.cells #[.int .i64 n, .int .i64 v, .int .u64 (u : Nat), .string s] 38)).heap.size (w.alloc (.cells #[.int .i64 n, .int .i64 v, .int .u64 (u : Nat), .string s] 38)) w1)
    (hbt : Bts 5 w2 w1.heap.size (.slice (some ⟨w1.heap.size, 0, none⟩) l.length cap) l) (b2 : Below w1.heap.size w1 w2) : PtS w w2 w.heap.size w1.heap.size cap n v u s l := by
  have F0 := fd_alloc w (n, v, u, s) 38
  have s1 := b1.size
  rw [World.size_alloc] at s1
  have F1 := F0.below b1 F0.lt
  exact ⟨F1.below b2 F1.lt, BtR.base (N := w1.heap.size) hbt (by omega), below_on (below_on (fd_grow w (n, v, u, s) 38) b1 (by simp)) b2 (by omega), by omega⟩

set_option maxRecDepth 10000 in
set_option maxHeartbeats 1000000 in
theorem put_no (a : Option Addr) (cap : Nat) (l : List UInt8) (n v : Int) (u : Nat) (s : ByteArray) (w : World) (hl : l.length ≤ 140737488351232) (hs : s.size ≤ 140737488351232) (hu : u < 18446744073709551616) (hin : BIn w a l) (h : tagB n v = false) :
    Calls Tryd.prog 9 #[.slice a l.length cap, .agg #[.int .i64 n, .int .i64 v, .int .u64 (u : Nat), .string s]] w fun e w' => ∃ x, e = .returned x ∧ Bts 5 w' w.heap.size x (l ++ fB n v u s) ∧ Below w.heap.size w w' := by
  have HI := Lib.hid hin
  have hZ := fB_le n v u s hu hs
  have HS := Lib.hid (fun w => fsize_any n v u s w hu hs)
  have HT := Lib.hid (fun w => tag_any n v u s w)
  have HM := Lib.hid (fun w => may_any n v w)
  rw [h] at HM
  obtain ⟨i0, hi, hz0, hz1, hz2⟩ := info_parts info8
  have HR := Lib.hid (show l ++ fB n v u s = l by unfold fB; rw [h]; simp)
  clear h hin
  obtain ⟨K, hK⟩ : ∃ K, K = (fB n v u s).length := ⟨_, rfl⟩
  rw [← hK] at HS hZ
  clear hK
  have hw : IntKind.i64.wrap ((l.length : Int) + K) = (l.length : Int) + K := IntWalk.i64_in _ (by omega)
  go_enter Tryd.func9, Tryd.ntmps9
  have c0 := (fd_alloc w (n, v, u, s) 38).c0; have c1 := (fd_alloc w (n, v, u, s) 38).c1
  have c2 := (fd_alloc w (n, v, u, s) 38).c2; have c3 := (fd_alloc w (n, v, u, s) 38).c3
  go_wp2_with fail
  with_reducible refine (HS.out _).mono ?_
  rintro e w1 ⟨rfl, b1⟩
  have hmk := Lib.hid (make_room l.length K w1 (by omega))
  obtain ⟨w2, hcp0, hbt, hb2⟩ := copy_fact Tryd.prog 35 5 3 i0 Tryd.underlying35 size8 w1 a cap K l (HI.out.below (below_on (fd_grow w (n, v, u, s) 38) b1 (by simp))) (by unfold maxLen; omega)
  have hcp := Lib.hid hcp0
  have P2 := Lib.hid (pt_begin b1 hbt hb2)
  clear b1 hcp0 hbt hb2 c0 c1 c2 c3
  go_wp2_with fail
  rw [hmk.out]
  go_wp2_with fail
  rw [hcp.out]
  have c0 := P2.out.fld.c0; have c1 := P2.out.fld.c1; have c2 := P2.out.fld.c2; have c3 := P2.out.fld.c3
  clear hmk hcp
  obtain ⟨G, hG⟩ : ∃ G, G = w1.heap.size := ⟨_, rfl⟩
  rw [← hG] at P2 ⊢
  clear hG
  go_wp2_with fail
  with_reducible refine (HT.out _).mono ?_
  rintro e w3 ⟨rfl, b3⟩
  have P3 := Lib.hid (P2.out.next b3)
  clear b3 c0 c1 c2 c3 P2
  go_wp2_with fail
  with_reducible refine (HM.out _).mono ?_
  rintro e w4 ⟨rfl, b4⟩
  have P4 := Lib.hid (P3.out.next b4)
  clear b4 P3
  have c0 := P4.out.fld.c0; have c1 := P4.out.fld.c1; have c2 := P4.out.fld.c2; have c3 := P4.out.fld.c3
  go_wp2
  go_ret
  exact ⟨_, rfl, by rw [HR.out]; exact P4.out.row.bts, P4.out.bel⟩

set_option maxRecDepth 10000 in
set_option maxHeartbeats 2000000 in
theorem put_0 (a : Option Addr) (cap : Nat) (l : List UInt8) (n : Int) (u : Nat) (s : ByteArray) (w : World) (hl : l.length ≤ 140737488351232) (hs : s.size ≤ 140737488351232) (hu : u < 18446744073709551616) (hin : BIn w a l) (h : tagB n 0 = true) :
    Calls Tryd.prog 9 #[.slice a l.length cap, .agg #[.int .i64 n, .int .i64 0, .int .u64 (u : Nat), .string s]] w fun e w' => ∃ x, e = .returned x ∧ Bts 5 w' w.heap.size x (l ++ fB n 0 u s) ∧ Below w.heap.size w w' := by
  have HI := Lib.hid hin
  have hZ := fB_le n 0 u s hu hs
  have HS := Lib.hid (fun w => fsize_any n 0 u s w hu hs)
  have HT := Lib.hid (fun w => tag_any n 0 u s w)
  have HM := Lib.hid (fun w => may_any n 0 w)
  rw [h] at HM
  have HP := Lib.hid (fun w => tput_nil n 0 w)
  have hTne := Lib.hid (tagL_ne h)
  have HC := Lib.hid (fun w => vput_nil u w hu)
  have hBne := Lib.hid (vB_ne u)
  obtain ⟨i0, hi, hz0, hz1, hz2⟩ := info_parts info8
  have HR := Lib.hid (show fB n 0 u s = tagL n 0 ++ vB u by unfold fB; rw [if_pos h]; rfl)
  have hK0 : (fB n 0 u s).length = (tagL n 0).length + (vB u).length := by rw [HR.out, List.length_append]
  obtain ⟨K, hK⟩ : ∃ K, K = (fB n 0 u s).length := ⟨_, rfl⟩
  rw [← hK] at HS hZ hK0
  have HK := Lib.hid hK0
  clear h hin hK hK0
  have hw : IntKind.i64.wrap ((l.length : Int) + K) = (l.length : Int) + K := IntWalk.i64_in _ (by omega)
  go_enter Tryd.func9, Tryd.ntmps9
  have c0 := (fd_alloc w (n, 0, u, s) 38).c0; have c1 := (fd_alloc w (n, 0, u, s) 38).c1
  have c2 := (fd_alloc w (n, 0, u, s) 38).c2; have c3 := (fd_alloc w (n, 0, u, s) 38).c3
  go_wp2_with fail
  with_reducible refine (HS.out _).mono ?_
  rintro e w1 ⟨rfl, b1⟩
  have hmk := Lib.hid (make_room l.length K w1 (by omega))
  obtain ⟨w2, hcp0, hbt, hb2⟩ := copy_fact Tryd.prog 35 5 3 i0 Tryd.underlying35 size8 w1 a cap K l (HI.out.below (below_on (fd_grow w (n, 0, u, s) 38) b1 (by simp))) (by unfold maxLen; omega)
  have hcp := Lib.hid hcp0
  have P2 := Lib.hid (pt_begin b1 hbt hb2)
  clear b1 hcp0 hbt hb2 c0 c1 c2 c3
  go_wp2_with fail
  rw [hmk.out]
  go_wp2_with fail
  rw [hcp.out]
  have c0 := P2.out.fld.c0; have c1 := P2.out.fld.c1; have c2 := P2.out.fld.c2; have c3 := P2.out.fld.c3
  clear hmk hcp
  obtain ⟨G, hG⟩ : ∃ G, G = w1.heap.size := ⟨_, rfl⟩
  rw [← hG] at P2 ⊢
  clear hG
  go_wp2_with fail
  with_reducible refine (HT.out _).mono ?_
  rintro e w3 ⟨rfl, b3⟩
  have P3 := Lib.hid (P2.out.next b3)
  clear b3 c0 c1 c2 c3 P2
  go_wp2_with fail
  with_reducible refine (HM.out _).mono ?_
  rintro e w4 ⟨rfl, b4⟩
  have P4 := Lib.hid (P3.out.next b4)
  clear b4 P3
  have c0 := P4.out.fld.c0; have c1 := P4.out.fld.c1; have c2 := P4.out.fld.c2; have c3 := P4.out.fld.c3
  go_wp2_with fail
  with_reducible refine (HT.out _).mono ?_
  rintro e w5 ⟨rfl, b5⟩
  have P5 := Lib.hid (P4.out.next b5)
  clear b5 c0 c1 c2 c3 P4
  go_wp2_with fail
  with_reducible refine (HP.out _).mono ?_
  rintro e w6 ⟨x6, rfl, hb6, b6⟩
  have P6 := Lib.hid (P5.out.next b6)
  have X6 := Lib.hid hb6
  clear b6 P5 hb6
  obtain ⟨l1, hl1⟩ : ∃ l1, Hid (l1 = l ++ tagL n 0) := ⟨_, Lib.hid rfl⟩
  have hn1 := Lib.hid (show l1.length = l.length + (tagL n 0).length by rw [hl1.out, List.length_append])
  go_wp2_with (at_builtin; go_loud (refine wpList_room_bytes rfl (.tmp 22) (.tmp 25) 35 rfl 5 i0 Tryd.underlying35 hi hz1 x6 w6 w.heap.size _ G (l.length + K) l.length l (tagL n 0) l1 hl1.out rfl P6.out.row X6.out hTne.out rfl rfl (by have := HK.out; omega) ?_; intro w7 hr7 ho7; have P7 := Lib.hid (P6.out.put hr7 ho7); clear hr7 ho7; have c0 := P7.out.fld.c0; have c1 := P7.out.fld.c1; have c2 := P7.out.fld.c2; have c3 := P7.out.fld.c3))
  clear X6 P6 c0
  with_reducible refine (HC.out w7).mono ?_
  rintro e w8 ⟨x8, rfl, hb8, b8⟩
  have P8 := Lib.hid (P7.out.next b8)
  have X8 := Lib.hid hb8
  clear b8 P7 hb8 c1 c2 c3
  obtain ⟨l2, hl2⟩ : ∃ l2, Hid (l2 = l1 ++ vB u) := ⟨_, Lib.hid rfl⟩
  go_wp2_with (at_builtin; go_loud (refine wpList_room_bytes rfl (.tmp 31) (.tmp 34) 35 rfl 5 i0 Tryd.underlying35 hi hz1 x8 w8 w.heap.size _ G (l.length + K) l1.length l1 (vB u) l2 hl2.out rfl P8.out.row X8.out hBne.out rfl rfl (by have := HK.out; have := hn1.out; omega) ?_; intro w9 hr9 ho9; have P9 := Lib.hid (P8.out.put hr9 ho9); clear hr9 ho9))
  go_ret
  exact ⟨_, rfl, by have := P9.out.row.bts; rw [hl2.out, hl1.out, List.append_assoc] at this; rw [HR.out]; rw [hl2.out, hl1.out, List.append_assoc]; exact this, P9.out.bel⟩

set_option maxRecDepth 10000 in
set_option maxHeartbeats 2000000 in
theorem put_1 (a : Option Addr) (cap : Nat) (l : List UInt8) (n : Int) (u : Nat) (s : ByteArray) (w : World) (hl : l.length ≤ 140737488351232) (hs : s.size ≤ 140737488351232) (hu : u < 18446744073709551616) (hin : BIn w a l) (ht : Tab w) (h : tagB n 1 = true) :
    Calls Tryd.prog 9 #[.slice a l.length cap, .agg #[.int .i64 n, .int .i64 1, .int .u64 (u : Nat), .string s]] w fun e w' => ∃ x, e = .returned x ∧ Bts 5 w' w.heap.size x (l ++ fB n 1 u s) ∧ Below w.heap.size w w' := by
  have HI := Lib.hid hin
  have hZ := fB_le n 1 u s hu hs
  have HS := Lib.hid (fun w => fsize_any n 1 u s w hu hs)
  have HT := Lib.hid (fun w => tag_any n 1 u s w)
  have HM := Lib.hid (fun w => may_any n 1 w)
  rw [h] at HM
  have hTb := Lib.hid (show ∀ W, Below w.heap.size w W → Tab W from fun W hb => ht.below hb ht.lt)
  clear ht
  have HP := Lib.hid (fun w => tput_nil n 1 w)
  have hTne := Lib.hid (tagL_ne h)
  have HC := Lib.hid (fun w (ht : Tab w) => low64_nil u w hu ht)
  have hBne := Lib.hid (show lowL u 8 ≠ [] from fun e => by have := lowL_length 8 u; rw [e] at this; simp at this)
  obtain ⟨i0, hi, hz0, hz1, hz2⟩ := info_parts info8
  have HR := Lib.hid (show fB n 1 u s = tagL n 1 ++ lowL u 8 by unfold fB; rw [if_pos h]; rfl)
  have hK0 : (fB n 1 u s).length = (tagL n 1).length + (lowL u 8).length := by rw [HR.out, List.length_append]
  obtain ⟨K, hK⟩ : ∃ K, K = (fB n 1 u s).length := ⟨_, rfl⟩
  rw [← hK] at HS hZ hK0
  have HK := Lib.hid hK0
  clear h hin hK hK0
  have hw : IntKind.i64.wrap ((l.length : Int) + K) = (l.length : Int) + K := IntWalk.i64_in _ (by omega)
  go_enter Tryd.func9, Tryd.ntmps9
  have c0 := (fd_alloc w (n, 1, u, s) 38).c0; have c1 := (fd_alloc w (n, 1, u, s) 38).c1
  have c2 := (fd_alloc w (n, 1, u, s) 38).c2; have c3 := (fd_alloc w (n, 1, u, s) 38).c3
  go_wp2_with fail
  with_reducible refine (HS.out _).mono ?_
  rintro e w1 ⟨rfl, b1⟩
  have hmk := Lib.hid (make_room l.length K w1 (by omega))
  obtain ⟨w2, hcp0, hbt, hb2⟩ := copy_fact Tryd.prog 35 5 3 i0 Tryd.underlying35 size8 w1 a cap K l (HI.out.below (below_on (fd_grow w (n, 1, u, s) 38) b1 (by simp))) (by unfold maxLen; omega)
  have hcp := Lib.hid hcp0
  have P2 := Lib.hid (pt_begin b1 hbt hb2)
  clear b1 hcp0 hbt hb2 c0 c1 c2 c3
  go_wp2_with fail
  rw [hmk.out]
  go_wp2_with fail
  rw [hcp.out]
  have c0 := P2.out.fld.c0; have c1 := P2.out.fld.c1; have c2 := P2.out.fld.c2; have c3 := P2.out.fld.c3
  clear hmk hcp
  obtain ⟨G, hG⟩ : ∃ G, G = w1.heap.size := ⟨_, rfl⟩
  rw [← hG] at P2 ⊢
  clear hG
  go_wp2_with fail
  with_reducible refine (HT.out _).mono ?_
  rintro e w3 ⟨rfl, b3⟩
  have P3 := Lib.hid (P2.out.next b3)
  clear b3 c0 c1 c2 c3 P2
  go_wp2_with fail
  with_reducible refine (HM.out _).mono ?_
  rintro e w4 ⟨rfl, b4⟩
  have P4 := Lib.hid (P3.out.next b4)
  clear b4 P3
  have c0 := P4.out.fld.c0; have c1 := P4.out.fld.c1; have c2 := P4.out.fld.c2; have c3 := P4.out.fld.c3
  go_wp2_with fail
  with_reducible refine (HT.out _).mono ?_
  rintro e w5 ⟨rfl, b5⟩
  have P5 := Lib.hid (P4.out.next b5)
  clear b5 c0 c1 c2 c3 P4
  go_wp2_with fail
  with_reducible refine (HP.out _).mono ?_
  rintro e w6 ⟨x6, rfl, hb6, b6⟩
  have P6 := Lib.hid (P5.out.next b6)
  have X6 := Lib.hid hb6
  clear b6 P5 hb6
  obtain ⟨l1, hl1⟩ : ∃ l1, Hid (l1 = l ++ tagL n 1) := ⟨_, Lib.hid rfl⟩
  have hn1 := Lib.hid (show l1.length = l.length + (tagL n 1).length by rw [hl1.out, List.length_append])
  go_wp2_with (at_builtin; go_loud (refine wpList_room_bytes rfl (.tmp 22) (.tmp 25) 35 rfl 5 i0 Tryd.underlying35 hi hz1 x6 w6 w.heap.size _ G (l.length + K) l.length l (tagL n 1) l1 hl1.out rfl P6.out.row X6.out hTne.out rfl rfl (by have := HK.out; omega) ?_; intro w7 hr7 ho7; have P7 := Lib.hid (P6.out.put hr7 ho7); clear hr7 ho7; have c0 := P7.out.fld.c0; have c1 := P7.out.fld.c1; have c2 := P7.out.fld.c2; have c3 := P7.out.fld.c3))
  clear X6 P6 c0
  with_reducible refine (HC.out w7 (hTb.out _ P7.out.bel)).mono ?_
  rintro e w8 ⟨x8, rfl, hb8, b8⟩
  have P8 := Lib.hid (P7.out.next b8)
  have X8 := Lib.hid hb8
  clear b8 P7 hb8 c1 c2 c3
  obtain ⟨l2, hl2⟩ : ∃ l2, Hid (l2 = l1 ++ lowL u 8) := ⟨_, Lib.hid rfl⟩
  go_wp2_with (at_builtin; go_loud (refine wpList_room_bytes rfl (.tmp 38) (.tmp 41) 35 rfl 5 i0 Tryd.underlying35 hi hz1 x8 w8 w.heap.size _ G (l.length + K) l1.length l1 (lowL u 8) l2 hl2.out rfl P8.out.row X8.out hBne.out rfl rfl (by have := HK.out; have := hn1.out; omega) ?_; intro w9 hr9 ho9; have P9 := Lib.hid (P8.out.put hr9 ho9); clear hr9 ho9))
  go_ret
  exact ⟨_, rfl, by have := P9.out.row.bts; rw [hl2.out, hl1.out, List.append_assoc] at this; rw [HR.out]; rw [hl2.out, hl1.out, List.append_assoc]; exact this, P9.out.bel⟩

set_option maxRecDepth 10000 in
set_option maxHeartbeats 2000000 in
theorem put_5 (a : Option Addr) (cap : Nat) (l : List UInt8) (n : Int) (u : Nat) (s : ByteArray) (w : World) (hl : l.length ≤ 140737488351232) (hs : s.size ≤ 140737488351232) (hu : u < 18446744073709551616) (hin : BIn w a l) (ht : Tab w) (h : tagB n 5 = true) :
    Calls Tryd.prog 9 #[.slice a l.length cap, .agg #[.int .i64 n, .int .i64 5, .int .u64 (u : Nat), .string s]] w fun e w' => ∃ x, e = .returned x ∧ Bts 5 w' w.heap.size x (l ++ fB n 5 u s) ∧ Below w.heap.size w w' := by
  have HI := Lib.hid hin
  have hZ := fB_le n 5 u s hu hs
  have HS := Lib.hid (fun w => fsize_any n 5 u s w hu hs)
  have HT := Lib.hid (fun w => tag_any n 5 u s w)
  have HM := Lib.hid (fun w => may_any n 5 w)
  rw [h] at HM
  have hTb := Lib.hid (show ∀ W, Below w.heap.size w W → Tab W from fun W hb => ht.below hb ht.lt)
  clear ht
  have HP := Lib.hid (fun w => tput_nil n 5 w)
  have hTne := Lib.hid (tagL_ne h)
  obtain ⟨q, hq⟩ : ∃ q, q = u % 4294967296 := ⟨_, rfl⟩
  have hqu : q < 4294967296 := by omega
  have e32 : IntKind.u32.wrap (u : Int) = (q : Int) := by rw [IntKind.wrap_u32]; omega
  have HC := Lib.hid (show ∀ w, Tab w → Calls Tryd.prog 28 #[.slice none 0 0, .int .u32 q] w fun e w' => ∃ x, e = .returned x ∧ Bts 5 w' w.heap.size x (lowL u 4) ∧ Below w.heap.size w w' from fun w ht => by have := low32_nil q w hqu ht; rw [hq, show (4294967296 : Nat) = 256 ^ 4 from rfl, lowL_mod 4 u] at this; rw [hq]; exact this)
  have hBne := Lib.hid (show lowL u 4 ≠ [] from fun e => by have := lowL_length 4 u; rw [e] at this; simp at this)
  clear hq
  obtain ⟨i0, hi, hz0, hz1, hz2⟩ := info_parts info8
  have HR := Lib.hid (show fB n 5 u s = tagL n 5 ++ lowL u 4 by unfold fB; rw [if_pos h]; rfl)
  have hK0 : (fB n 5 u s).length = (tagL n 5).length + (lowL u 4).length := by rw [HR.out, List.length_append]
  obtain ⟨K, hK⟩ : ∃ K, K = (fB n 5 u s).length := ⟨_, rfl⟩
  rw [← hK] at HS hZ hK0
  have HK := Lib.hid hK0
  clear h hin hK hK0
  have hw : IntKind.i64.wrap ((l.length : Int) + K) = (l.length : Int) + K := IntWalk.i64_in _ (by omega)
  go_enter Tryd.func9, Tryd.ntmps9
  have c0 := (fd_alloc w (n, 5, u, s) 38).c0; have c1 := (fd_alloc w (n, 5, u, s) 38).c1
  have c2 := (fd_alloc w (n, 5, u, s) 38).c2; have c3 := (fd_alloc w (n, 5, u, s) 38).c3
  go_wp2_with fail
  with_reducible refine (HS.out _).mono ?_
  rintro e w1 ⟨rfl, b1⟩
  have hmk := Lib.hid (make_room l.length K w1 (by omega))
  obtain ⟨w2, hcp0, hbt, hb2⟩ := copy_fact Tryd.prog 35 5 3 i0 Tryd.underlying35 size8 w1 a cap K l (HI.out.below (below_on (fd_grow w (n, 5, u, s) 38) b1 (by simp))) (by unfold maxLen; omega)
  have hcp := Lib.hid hcp0
  have P2 := Lib.hid (pt_begin b1 hbt hb2)
  clear b1 hcp0 hbt hb2 c0 c1 c2 c3
  go_wp2_with fail
  rw [hmk.out]
  go_wp2_with fail
  rw [hcp.out]
  have c0 := P2.out.fld.c0; have c1 := P2.out.fld.c1; have c2 := P2.out.fld.c2; have c3 := P2.out.fld.c3
  clear hmk hcp
  obtain ⟨G, hG⟩ : ∃ G, G = w1.heap.size := ⟨_, rfl⟩
  rw [← hG] at P2 ⊢
  clear hG
  go_wp2_with fail
  with_reducible refine (HT.out _).mono ?_
  rintro e w3 ⟨rfl, b3⟩
  have P3 := Lib.hid (P2.out.next b3)
  clear b3 c0 c1 c2 c3 P2
  go_wp2_with fail
  with_reducible refine (HM.out _).mono ?_
  rintro e w4 ⟨rfl, b4⟩
  have P4 := Lib.hid (P3.out.next b4)
  clear b4 P3
  have c0 := P4.out.fld.c0; have c1 := P4.out.fld.c1; have c2 := P4.out.fld.c2; have c3 := P4.out.fld.c3
  go_wp2_with fail
  with_reducible refine (HT.out _).mono ?_
  rintro e w5 ⟨rfl, b5⟩
  have P5 := Lib.hid (P4.out.next b5)
  clear b5 c0 c1 c2 c3 P4
  go_wp2_with fail
  with_reducible refine (HP.out _).mono ?_
  rintro e w6 ⟨x6, rfl, hb6, b6⟩
  have P6 := Lib.hid (P5.out.next b6)
  have X6 := Lib.hid hb6
  clear b6 P5 hb6
  obtain ⟨l1, hl1⟩ : ∃ l1, Hid (l1 = l ++ tagL n 5) := ⟨_, Lib.hid rfl⟩
  have hn1 := Lib.hid (show l1.length = l.length + (tagL n 5).length by rw [hl1.out, List.length_append])
  go_wp2_with (at_builtin; go_loud (refine wpList_room_bytes rfl (.tmp 22) (.tmp 25) 35 rfl 5 i0 Tryd.underlying35 hi hz1 x6 w6 w.heap.size _ G (l.length + K) l.length l (tagL n 5) l1 hl1.out rfl P6.out.row X6.out hTne.out rfl rfl (by have := HK.out; omega) ?_; intro w7 hr7 ho7; have P7 := Lib.hid (P6.out.put hr7 ho7); clear hr7 ho7; have c0 := P7.out.fld.c0; have c1 := P7.out.fld.c1; have c2 := P7.out.fld.c2; have c3 := P7.out.fld.c3))
  clear X6 P6 c0
  with_reducible refine (HC.out w7 (hTb.out _ P7.out.bel)).mono ?_
  rintro e w8 ⟨x8, rfl, hb8, b8⟩
  have P8 := Lib.hid (P7.out.next b8)
  have X8 := Lib.hid hb8
  clear b8 P7 hb8 c1 c2 c3
  obtain ⟨l2, hl2⟩ : ∃ l2, Hid (l2 = l1 ++ lowL u 4) := ⟨_, Lib.hid rfl⟩
  go_wp2_with (at_builtin; go_loud (refine wpList_room_bytes rfl (.tmp 45) (.tmp 49) 35 rfl 5 i0 Tryd.underlying35 hi hz1 x8 w8 w.heap.size _ G (l.length + K) l1.length l1 (lowL u 4) l2 hl2.out rfl P8.out.row X8.out hBne.out rfl rfl (by have := HK.out; have := hn1.out; omega) ?_; intro w9 hr9 ho9; have P9 := Lib.hid (P8.out.put hr9 ho9); clear hr9 ho9))
  go_ret
  exact ⟨_, rfl, by have := P9.out.row.bts; rw [hl2.out, hl1.out, List.append_assoc] at this; rw [HR.out]; rw [hl2.out, hl1.out, List.append_assoc]; exact this, P9.out.bel⟩

set_option maxRecDepth 10000 in
set_option maxHeartbeats 2000000 in
theorem put_2 (a : Option Addr) (cap : Nat) (l : List UInt8) (n : Int) (u : Nat) (s : ByteArray) (w : World) (hl : l.length ≤ 140737488351232) (hs : s.size ≤ 140737488351232) (hu : u < 18446744073709551616) (hin : BIn w a l) (h : tagB n 2 = true) :
    Calls Tryd.prog 9 #[.slice a l.length cap, .agg #[.int .i64 n, .int .i64 2, .int .u64 (u : Nat), .string s]] w fun e w' => ∃ x, e = .returned x ∧ Bts 5 w' w.heap.size x (l ++ fB n 2 u s) ∧ Below w.heap.size w w' := by
  have HI := Lib.hid hin
  have hZ := fB_le n 2 u s hu hs
  have HS := Lib.hid (fun w => fsize_any n 2 u s w hu hs)
  have HT := Lib.hid (fun w => tag_any n 2 u s w)
  have HM := Lib.hid (fun w => may_any n 2 w)
  rw [h] at HM
  have HP := Lib.hid (fun w => tput_nil n 2 w)
  have hTne := Lib.hid (tagL_ne h)
  have HC := Lib.hid (fun w => vput_nil s.size w (by omega))
  have hBne := Lib.hid (vB_ne s.size)
  have es : IntKind.u64.wrap (s.size : Int) = (s.size : Int) := IntWalk.u64_in _ (by omega)
  obtain ⟨i0, hi, hz0, hz1, hz2⟩ := info_parts info8
  have HR := Lib.hid (show fB n 2 u s = tagL n 2 ++ (vB s.size ++ s.data.toList) by unfold fB; rw [if_pos h]; rfl)
  have hK0 : (fB n 2 u s).length = (tagL n 2).length + ((vB s.size ++ s.data.toList)).length := by rw [HR.out, List.length_append]
  obtain ⟨K, hK⟩ : ∃ K, K = (fB n 2 u s).length := ⟨_, rfl⟩
  rw [← hK] at HS hZ hK0
  have HK := Lib.hid hK0
  clear h hin hK hK0
  have hw : IntKind.i64.wrap ((l.length : Int) + K) = (l.length : Int) + K := IntWalk.i64_in _ (by omega)
  go_enter Tryd.func9, Tryd.ntmps9
  have c0 := (fd_alloc w (n, 2, u, s) 38).c0; have c1 := (fd_alloc w (n, 2, u, s) 38).c1
  have c2 := (fd_alloc w (n, 2, u, s) 38).c2; have c3 := (fd_alloc w (n, 2, u, s) 38).c3
  go_wp2_with fail
  with_reducible refine (HS.out _).mono ?_
  rintro e w1 ⟨rfl, b1⟩
  have hmk := Lib.hid (make_room l.length K w1 (by omega))
  obtain ⟨w2, hcp0, hbt, hb2⟩ := copy_fact Tryd.prog 35 5 3 i0 Tryd.underlying35 size8 w1 a cap K l (HI.out.below (below_on (fd_grow w (n, 2, u, s) 38) b1 (by simp))) (by unfold maxLen; omega)
  have hcp := Lib.hid hcp0
  have P2 := Lib.hid (pt_begin b1 hbt hb2)
  clear b1 hcp0 hbt hb2 c0 c1 c2 c3
  go_wp2_with fail
  rw [hmk.out]
  go_wp2_with fail
  rw [hcp.out]
  have c0 := P2.out.fld.c0; have c1 := P2.out.fld.c1; have c2 := P2.out.fld.c2; have c3 := P2.out.fld.c3
  clear hmk hcp
  obtain ⟨G, hG⟩ : ∃ G, G = w1.heap.size := ⟨_, rfl⟩
  rw [← hG] at P2 ⊢
  clear hG
  go_wp2_with fail
  with_reducible refine (HT.out _).mono ?_
  rintro e w3 ⟨rfl, b3⟩
  have P3 := Lib.hid (P2.out.next b3)
  clear b3 c0 c1 c2 c3 P2
  go_wp2_with fail
  with_reducible refine (HM.out _).mono ?_
  rintro e w4 ⟨rfl, b4⟩
  have P4 := Lib.hid (P3.out.next b4)
  clear b4 P3
  have c0 := P4.out.fld.c0; have c1 := P4.out.fld.c1; have c2 := P4.out.fld.c2; have c3 := P4.out.fld.c3
  go_wp2_with fail
  with_reducible refine (HT.out _).mono ?_
  rintro e w5 ⟨rfl, b5⟩
  have P5 := Lib.hid (P4.out.next b5)
  clear b5 c0 c1 c2 c3 P4
  go_wp2_with fail
  with_reducible refine (HP.out _).mono ?_
  rintro e w6 ⟨x6, rfl, hb6, b6⟩
  have P6 := Lib.hid (P5.out.next b6)
  have X6 := Lib.hid hb6
  clear b6 P5 hb6
  obtain ⟨l1, hl1⟩ : ∃ l1, Hid (l1 = l ++ tagL n 2) := ⟨_, Lib.hid rfl⟩
  have hn1 := Lib.hid (show l1.length = l.length + (tagL n 2).length by rw [hl1.out, List.length_append])
  go_wp2_with (at_builtin; go_loud (refine wpList_room_bytes rfl (.tmp 22) (.tmp 25) 35 rfl 5 i0 Tryd.underlying35 hi hz1 x6 w6 w.heap.size _ G (l.length + K) l.length l (tagL n 2) l1 hl1.out rfl P6.out.row X6.out hTne.out rfl rfl (by have := HK.out; omega) ?_; intro w7 hr7 ho7; have P7 := Lib.hid (P6.out.put hr7 ho7); clear hr7 ho7; have c0 := P7.out.fld.c0; have c1 := P7.out.fld.c1; have c2 := P7.out.fld.c2; have c3 := P7.out.fld.c3))
  clear X6 P6 c0
  with_reducible refine (HC.out w7).mono ?_
  rintro e w8 ⟨x8, rfl, hb8, b8⟩
  have P8 := Lib.hid (P7.out.next b8)
  have X8 := Lib.hid hb8
  clear b8 P7 hb8 c1 c2 c3
  obtain ⟨l2, hl2⟩ : ∃ l2, Hid (l2 = l1 ++ vB s.size) := ⟨_, Lib.hid rfl⟩
  have hn2 := Lib.hid (show l2.length = l1.length + (vB s.size).length by rw [hl2.out, List.length_append])
  have HKs := Lib.hid (show (vB s.size ++ s.data.toList).length = (vB s.size).length + s.size by rw [List.length_append, toList_size])
  obtain ⟨l3, hl3⟩ : ∃ l3, Hid (l3 = l2 ++ s.data.toList) := ⟨_, Lib.hid rfl⟩
  go_wp2_with (first | (at_builtin; (refine wpList_room_bytes rfl (.tmp 53) (.tmp 58) 35 rfl 5 i0 Tryd.underlying35 hi hz1 x8 w8 w.heap.size _ G (l.length + K) l1.length l1 (vB s.size) l2 hl2.out rfl P8.out.row X8.out hBne.out rfl rfl (by have := HK.out; have := hn1.out; have := HKs.out; omega) ?_; intro w9 hr9 ho9; have P9 := Lib.hid (P8.out.put hr9 ho9); clear hr9 ho9; have c3 := P9.out.fld.c3)) | (at_builtin; go_loud (refine wpList_room_text rfl (.tmp 60) (.tmp 62) 35 9 rfl 5 i0 Tryd.underlying35 Tryd.underlying9 hi hz1 w9 w.heap.size G (l.length + K) l2.length l2 l3 s hl3.out rfl P9.out.row rfl rfl (by have := HK.out; have := hn1.out; have := hn2.out; have := HKs.out; omega) ?_; intro w10 hr10 ho10; have P10 := Lib.hid (P9.out.put hr10 ho10); clear hr10 ho10)))
  go_ret
  exact ⟨_, rfl, by have := P10.out.row.bts; rw [hl3.out, hl2.out, hl1.out, List.append_assoc, List.append_assoc] at this; rw [HR.out]; rw [hl3.out, hl2.out, hl1.out, List.append_assoc, List.append_assoc]; exact this, P10.out.bel⟩

theorem fput_any (a : Option Addr) (cap : Nat) (l : List UInt8) (n v : Int) (u : Nat) (s : ByteArray) (w : World) (hl : l.length ≤ 140737488351232) (hs : s.size ≤ 140737488351232) (hu : u < 18446744073709551616) (hin : BIn w a l) (ht : Tab w) :
    Calls Tryd.prog 9 #[.slice a l.length cap, .agg #[.int .i64 n, .int .i64 v, .int .u64 (u : Nat), .string s]] w fun e w' => ∃ x, e = .returned x ∧ Bts 5 w' w.heap.size x (l ++ fB n v u s) ∧ Below w.heap.size w w' := by
  rcases Bool.eq_false_or_eq_true (tagB n v) with h | h
  · rcases (tag_yes h).2.2 with hv | hv | hv | hv
    · subst hv; exact put_0 a cap l n u s w hl hs hu hin h
    · subst hv; exact put_1 a cap l n u s w hl hs hu hin ht h
    · subst hv; exact put_2 a cap l n u s w hl hs hu hin h
    · subst hv; exact put_5 a cap l n u s w hl hs hu hin ht h
  · exact put_no a cap l n v u s w hl hs hu hin h
end Go.Proofs.YtjpppnfkpnfhoaaDoor
