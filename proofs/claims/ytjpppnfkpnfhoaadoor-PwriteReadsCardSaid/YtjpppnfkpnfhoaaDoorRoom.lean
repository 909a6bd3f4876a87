/- A list of bytes that the call itself made, with room behind it: 'append' of a list, or of a text, that fits. Of no package. -/
import Derived.Test.YtjpppnfkpnfhoaaDoorBts
import Derived.Lib.AppendStr
namespace Go.Proofs.YtjpppnfkpnfhoaaDoor
open Go Go.RowKit
set_option linter.unusedVariables false

/-- Block g, of room cap, holds the bytes l from its head on. -/
def BtR (t : TypeId) (w : World) (B g cap : Nat) (l : List UInt8) : Prop := w.ownsRow B t 1 (.slice (some ⟨g, 0, none⟩) l.length cap) l.length (bV l)
theorem BtR.bts {t : TypeId} {w : World} {B g cap : Nat} {l : List UInt8} (h : BtR t w B g cap l) : Bts t w B (.slice (some ⟨g, 0, none⟩) l.length cap) l := h
theorem BtR.lt {t : TypeId} {w : World} {B g cap : Nat} {l : List UInt8} (h : BtR t w B g cap l) : B ≤ g ∧ g < w.heap.size := World.ownsRow.lt h g rfl
theorem BtR.below {t : TypeId} {w w' : World} {B N g cap : Nat} {l : List UInt8} (h : BtR t w B g cap l) (hb : Below N w w') (hN : w.heap.size ≤ N) : BtR t w' B g cap l := Bts.below h hb hN
theorem BtR.base {t : TypeId} {w : World} {B N g cap : Nat} {l : List UInt8} (h : BtR t w N g cap l) (hB : B ≤ N) : BtR t w B g cap l := Bts.base h hB
theorem wpList_room_bytes {P : Program} {ops : Array Oper} {rest : List Oper} {o : Oper} {a : Act} {Q : Exit → Act → World → Prop} (hgd : o.guard = none) (s x : Operand) (t : TypeId)
    (ho : o.op = .call { callee := .builtin .append, args := #[s, x], argTypes := #[t, t] })
    (e : TypeId) (i : TypeInfo) (ht : P.underlying t = some (.slice e)) (hi : P.info? e = some i) (hsize : i.size = 1)
    (v2 : Value) (w : World) (B B2 g cap n : Nat) (l m l' : List UInt8) (hl' : l' = l ++ m) (hn : l.length = n) (hb : BtR e w B g cap l) (hb2 : Bts e w B2 v2 m) (hm : m ≠ []) (hs : a.eval s = .slice (some ⟨g, 0, none⟩) n cap) (hx : a.eval x = v2) (hroom : l.length + m.length ≤ cap)
    (h : ∀ w', BtR e w' B g cap l' → Only g w w' → wpList P ops Q rest (a.put o.dst (.slice (some ⟨g, 0, none⟩) l'.length cap)) w') :
    wpList P ops Q (o :: rest) a w := by
  subst hn hl'
  rcases hb2.2 with ⟨_, hn⟩ | ⟨g2, cap2, cur2, rfl, _, hg2, _⟩
  · exact absurd (List.eq_nil_of_length_eq_zero hn) hm
  · refine wpList_plain hgd fun K hK => ?_
    obtain ⟨w', hr, hown, hgr⟩ := run_append_fits (P := P) w B t o.type e i 1 ht hi hsize g l.length cap (bV l) hb ⟨g2, 0, none⟩ m.length cap2 (bV m) (by rw [bV_length, Nat.mul_one]) (fun j u hj => by
      have hjl : j < m.length := by
        have := (List.getElem?_eq_some_iff.1 hj).1
        rwa [bV_length] at this
      have e1 : (Addr.mk g2 0 none).add j = ⟨g2, j, none⟩ := by unfold Addr.add; split <;> simp_all
      rw [e1, World.ownsRow.cellAt hb2 j (by omega)]
      exact hj) (bV_one m) hroom
    unfold Oper.wp execOp
    simp only [ho, resolve, invoke, builtin, Sem.run_bind, Sem.run_pure, Result.andThen_ok, List.map_toArray, List.map_cons, List.map_nil, hs, hx, hr]
    refine hK _ _ ?_
    have hlen : (l ++ m).length = l.length + m.length := List.length_append
    rw [← hlen] at hown ⊢
    refine h w' ?_ ⟨hgr.os, hgr.tape, hgr.output, hgr.size, fun k hk hkg => hgr.block k hk (fun e => hkg (by simpa using e))⟩
    unfold BtR
    rw [bV_append]
    exact hown
theorem wpList_room_text {P : Program} {ops : Array Oper} {rest : List Oper} {o : Oper} {a : Act} {Q : Exit → Act → World → Prop} (hgd : o.guard = none) (sl x : Operand) (t u : TypeId)
    (ho : o.op = .call { callee := .builtin .append, args := #[sl, x], argTypes := #[t, u] })
    (e : TypeId) (i : TypeInfo) (ht : P.underlying t = some (.slice e)) (hu : P.underlying u = some .string) (hi : P.info? e = some i) (hsize : i.size = 1)
    (w : World) (B g cap n : Nat) (l l' : List UInt8) (s : ByteArray) (hl' : l' = l ++ s.data.toList) (hn : l.length = n) (hb : BtR e w B g cap l) (hs : a.eval sl = .slice (some ⟨g, 0, none⟩) n cap) (hx : a.eval x = .string s) (hroom : l.length + s.size ≤ cap)
    (h : ∀ w', BtR e w' B g cap l' → Only g w w' → wpList P ops Q rest (a.put o.dst (.slice (some ⟨g, 0, none⟩) l'.length cap)) w') :
    wpList P ops Q (o :: rest) a w := by
  subst hn hl'
  rcases hb.2 with ⟨hb', _⟩ | ⟨g', cap', cur, hb', hbg, hg, hnc, hcm, hcs, htake⟩
  · simp at hb'
  · simp only [Value.slice.injEq, Option.some.injEq, Addr.mk.injEq, and_true, true_and] at hb'
    obtain ⟨rfl, rfl⟩ := hb'
    rw [Nat.mul_one] at hcs htake
    refine wpList_plain hgd fun K hK => ?_
    have hr := Lib.run_append_room_string (P := P) w t u o.type e i ht hu hi hsize g l.length cap cur hg s hroom (by omega)
    unfold Oper.wp execOp
    simp only [ho, resolve, invoke, builtin, Sem.run_bind, Sem.run_pure, Result.andThen_ok, List.map_toArray, List.map_cons, List.map_nil, hs, hx, hr]
    refine hK _ _ ?_
    have hlen : (l ++ s.data.toList).length = l.length + s.size := by rw [List.length_append, toList_size]
    have hsc : (Lib.strCells s).length = s.size := Lib.strCells_length s
    have hbv : bV s.data.toList = Lib.strCells s := by
      unfold bV Lib.strCells
      simp
    rw [← hlen]
    refine h _ ?_ ⟨rfl, rfl, rfl, by simp, fun k _ hk => setRow_other w g k _ hk⟩
    refine ⟨by rw [bV_length, Nat.mul_one], .inr ⟨g, cap, _, rfl, hbg, setRow_heap w g cur _ e _ hg, by rw [hlen]; exact hroom, hcm, ?_, ?_⟩⟩
    · simp only [List.size_toArray, List.length_append, List.length_take, List.length_drop, Array.length_toList, hsc]
      have hss : s.data.size = s.size := rfl
      omega
    · have ht' : cur.toList.take l.length = bV l := by simpa using htake
      rw [ht', hlen, Nat.mul_one, bV_append, hbv]
      exact List.take_left' (by rw [List.length_append, bV_length, hsc])
/-- 'make([]byte, n, n+more)' of any size that there is. -/
theorem make_room (n more : Nat) (w : World) (hl : n + more ≤ 281474976710656) :
    (Instr.makeSlice 35 (.int .i64 (n : Int)) (.int .i64 ((n : Int) + more))).run Tryd.prog w = .ok (.slice (some ⟨w.heap.size, 0, none⟩) n (n + more)) (w.alloc (.cells (Array.replicate (n + more) (.int .u8 0)) 5)) := by
  obtain ⟨i0, hi, hz0, hz1, hz2⟩ := info_parts info8
  have := run_make (P := Tryd.prog) w 35 5 i0 (.int .u8 0) Tryd.underlying35 hi hz0 .i64 .i64 (n : Int) ((n : Int) + more) (by omega) (by omega) (by rw [hz2]; omega) (by omega)
  have hn : ((n : Int) + more).toNat = n + more := by omega
  have hma : madeCells (Value.int .u8 0).cells (n + more) = Array.replicate (n + more) (.int .u8 0) := by
    apply Array.toList_inj.mp
    show (madeCells #[.int .u8 0] _).toList = _
    rw [toList_madeCells_one, Array.toList_replicate]
  rw [this, hn, hz1, Nat.mul_one, hma]
  rfl
end Go.Proofs.YtjpppnfkpnfhoaaDoor
