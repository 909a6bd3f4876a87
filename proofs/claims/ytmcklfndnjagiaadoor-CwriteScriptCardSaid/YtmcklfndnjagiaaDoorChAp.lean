/- Package chead's small calls that the writers need: isNear, isCount, join; slices.Clip, put. -/
import Derived.Test.YtmcklfndnjagiaaDoorChA
import Derived.Test.YtmcklfndnjagiaaDoorVarPut
import Derived.Test.YtmcklfndnjagiaaDoorClone
import Derived.ArgAppend
namespace Go.Proofs.YtmcklfndnjagiaaDoor
open Go Go.RowKit
set_option linter.unusedVariables false

theorem ch_count (i : Int) (w : World) :
    Calls Tryd.prog 74 #[.int .i64 i] w fun e w' => e = .returned (.bool (cntB i)) ∧ w' = w := by
  unfold cntB
  rcases Bool.eq_false_or_eq_true (decide (0 ≤ i)) with h1 | h1 <;> rcases Bool.eq_false_or_eq_true (decide (i ≤ 2147483647)) with h2 | h2 <;>
    (rw [h1, h2]
     go_enter Tryd.func74, Tryd.ntmps74
     go_wp2
     go_ret
     exact ⟨rfl, rfl⟩)
theorem is_near (l i : Int) (w : World) (hi : numB i = true) :
    Calls Tryd.prog 86 #[.int .i64 l, .int .i64 i] w fun e w' => e = .returned (.bool (nearB l i)) ∧ w' = w := by
  have hn := numB_yes hi
  clear hi
  by_cases h1 : -32768 ≤ l
  · have p1 : decide (-32768 ≤ l) = true := decide_eq_true h1
    by_cases h2 : l < i
    · have p2 : decide (l < i) = true := decide_eq_true h2
      have e1 : IntKind.i64.wrap (i - l) = i - l := IntWalk.i64_in _ (by omega)
      have HR := Lib.hid (show nearB l i = decide (i - l ≤ 15) by unfold nearB; rw [p1, p2]; rfl)
      clear h1 h2 hn
      generalize hx : i - l = x at e1 HR
      go_enter Tryd.func86, Tryd.ntmps86
      go_wp2
      go_ret
      exact ⟨ret_b (by rw [HR.out]), rfl⟩
    · have p2 : decide (l < i) = false := decide_eq_false h2
      have HR := Lib.hid (show nearB l i = false by unfold nearB; rw [p1, p2]; rfl)
      clear h1 h2 hn
      go_enter Tryd.func86, Tryd.ntmps86
      go_wp2
      go_ret
      exact ⟨ret_b HR.out.symm, rfl⟩
  · have p1 : decide (-32768 ≤ l) = false := decide_eq_false h1
    have HR := Lib.hid (show nearB l i = false by unfold nearB; rw [p1]; rfl)
    clear h1 hn
    go_enter Tryd.func86, Tryd.ntmps86
    go_wp2
    go_ret
    exact ⟨ret_b HR.out.symm, rfl⟩
theorem join_any (a b : Nat) (w : World) (h : 16 * a + b < 256) :
    Calls Tryd.prog 77 #[.int .u8 (a : Nat), .int .u8 (b : Nat)] w fun e w' => e = .returned (.int .u8 ((16 * a + b : Nat) : Int)) ∧ w' = w := by
  have e1 : IntKind.u8.wrap ((a : Int) * 16) = (a : Int) * 16 := IntWalk.u8_in _ (by omega)
  have e2 : IntKind.u8.wrap ((a : Int) * 16 + (b : Int)) = (a : Int) * 16 + (b : Int) := IntWalk.u8_in _ (by omega)
  have HR := Lib.hid (show (a : Int) * 16 + (b : Int) = ((16 * a + b : Nat) : Int) by omega)
  clear h
  go_enter Tryd.func77, Tryd.ntmps77
  go_wp2
  go_ret
  exact ⟨ret_i HR.out, rfl⟩
/-- A list of bytes, wherever it lies: its own length, and room for as many. -/
def SlB (w : World) (v : Value) (l : List UInt8) : Prop := ∃ (a : Option Addr) (cap : Nat), v = .slice a l.length cap ∧ l.length ≤ cap ∧ BIn w a l
theorem SlB.below {w w' : World} {v : Value} {l : List UInt8} (h : SlB w v l) (hb : Below w.heap.size w w') : SlB w' v l := by
  obtain ⟨a, cap, h1, h2, h3⟩ := h
  exact ⟨a, cap, h1, h2, h3.below hb⟩
theorem Bts.slB {t : TypeId} {w : World} {B : Nat} {v : Value} {l : List UInt8} (h : Bts t w B v l) : SlB w v l := by
  have h0 := h
  rcases h.2 with ⟨h1, h2⟩ | ⟨g, cap, cur, h3, h4, h5, h6, h7, h8, h9⟩
  · have hz : l = [] := List.eq_nil_of_length_eq_zero h2
    subst hz
    exact ⟨none, 0, h1, Nat.le_refl _, fun j hj => absurd hj (by simp)⟩
  · refine ⟨some ⟨g, 0, none⟩, cap, h3, h6, fun j hj => ⟨g, 0, rfl, lt_of_block h5, ?_⟩⟩
    rw [h3] at h0
    have := World.ownsRow.cellAt h0 j (by omega)
    rw [Nat.zero_add, this, ← bV_get l j hj]

theorem clip_any (a : Option Addr) (cap n : Nat) (w : World) (hc : n ≤ cap) (ha : a = none → n = 0) :
    Calls Tryd.prog 89 #[.slice a n cap] w fun e w' => e = .returned (.slice a n n) ∧ w' = w := by
  match a with
  | none =>
    obtain rfl := ha rfl
    clear ha
    go_enter Tryd.func89, Tryd.ntmps89
    go_wp2
    go_ret
    exact ⟨rfl, rfl⟩
  | some A =>
    clear ha
    go_enter Tryd.func89, Tryd.ntmps89
    go_wp2
    go_ret
    exact ⟨rfl, rfl⟩

/-- 'append(slices.Clip(list), b)': a new list, of one byte more. -/
theorem wpList_append_full {P : Program} {ops : Array Oper} {rest : List Oper} {o : Oper} {a : Act} {Q : Exit → Act → World → Prop} (hgd : o.guard = none) (s x : Operand) (t : TypeId)
    (ho : o.op = .call { callee := .builtin .append, args := #[s, x], argTypes := #[t, t] })
    (e : TypeId) (i : TypeInfo) (ht : P.underlying t = some (.slice e)) (hi : P.info? e = some i) (hz : i.zero = some (.int .u8 0)) (hsize : i.size = 1) (hby : i.bytes = 1)
    (wr : World) (ao : Option Addr) (l : List UInt8) (hin : BIn wr ao l) (hs : a.eval s = .slice ao l.length l.length)
    (z : Int) (b : UInt8) (hzb : z = (b.toNat : Int)) (hx : a.eval x = .slice (some ⟨wr.heap.size, 0, none⟩) 1 1) (hlen : l.length + 1 ≤ 140737488355000)
    (h : ∀ v' w', Bts e w' wr.heap.size v' (l ++ [b]) → Below wr.heap.size wr w' → wpList P ops Q rest (a.put o.dst v') w') :
    wpList P ops Q (o :: rest) a (wr.alloc (.cells #[.int .u8 z] e)) := by
  subst hzb
  have hold : ∀ A, ao = some A → ∀ j u, (bV l)[j]? = some u → (wr.alloc (.cells #[.int .u8 (b.toNat : Int)] e)).cell? (A.add j) = some u := by
    intro A hA j u hj
    have hjl : j < l.length := by
      have := (List.getElem?_eq_some_iff.1 hj).1
      rwa [bV_length] at this
    obtain ⟨g, off, e1, _, hc⟩ := hin j hjl
    rw [hA] at e1
    obtain rfl : A = ⟨g, off, none⟩ := by simpa using e1
    rw [add_at]
    refine Lib.cell?_alloc_some _ ?_
    rw [hc, ← bV_get l j hjl]; exact hj
  have hno : ao = none → l.length = 0 ∧ l.length = 0 := by
    intro hn
    cases l with
    | nil => exact ⟨rfl, rfl⟩
    | cons y t => obtain ⟨g, off, e1, _⟩ := hin 0 (by simp); rw [hn] at e1; cases e1
  refine wpList_append_grows _ hgd s x t ho e i (.int .u8 0) 1 1 ht hi hz hsize hby rfl (by decide) ao l.length l.length (bV l) hs hno (by rw [bV_length, Nat.mul_one]) hold ⟨wr.heap.size, 0, none⟩ 1 1 [.int .u8 (b.toNat : Int)] hx rfl ?_ ?_ (by omega) (by unfold maxLen; omega) (by omega) ?_
  · intro j u hj
    match j, hj with
    | 0, hj =>
      simp at hj
      subst hj
      have h1 := heap_alloc_new wr (.cells #[.int .u8 (b.toNat : Int)] e)
      show World.cell? _ ⟨wr.heap.size, 0 + 0, none⟩ = _
      simp only [World.cell?]
      rw [h1]; rfl
  · intro u hu; simp at hu; subst hu; rfl
  · intro v' w' hown hgr
    refine h v' w' ?_ ?_
    · have hb : Bts e w' (wr.alloc (.cells #[.int .u8 (b.toNat : Int)] e)).heap.size v' (l ++ [b]) := by
        unfold Bts
        rw [bV_append, List.length_append]
        exact hown
      exact hb.base (by simp)
    · refine ⟨hgr.os, hgr.tape, hgr.output, by have := hgr.size; simp at this; omega, fun k hk => ?_⟩
      rw [hgr.block k (by simp; omega) (by simp)]
      exact Below.heap_alloc _ _ _ (by omega)
theorem hput_any {l : List UInt8} {v : Value} {w : World} (h : SlB w v l) (x : Nat) (hx : x < 256) (hl : l.length ≤ 140737488354000) :
    Calls Tryd.prog 76 #[v, .int .u8 (x : Nat)] w fun e w' => ∃ v', e = .returned v' ∧ Bts 5 w' w.heap.size v' (l ++ [UInt8.ofNat x]) ∧ Below w.heap.size w w' := by
  obtain ⟨i0, hi, hz0, hz1, hz2⟩ := info_parts info8
  obtain ⟨a, cap, rfl, hc, hin⟩ := h
  have hz := Lib.hid (show (x : Int) = ((UInt8.ofNat x).toNat : Int) by rw [toNat_ofNat8 hx])
  have HC := Lib.hid (fun w => clip_any a cap l.length w hc (fun hn => by
    cases l with
    | nil => rfl
    | cons y t => obtain ⟨g, off, e1, _⟩ := hin 0 (by simp); rw [hn] at e1; cases e1))
  clear hc hx
  go_enter Tryd.func76, Tryd.ntmps76
  go_wp2_with fail
  with_reducible refine (HC.out _).mono ?_
  rintro e w1 ⟨rfl, rfl⟩
  go_wp2_with (at_builtin; refine wpList_append_full rfl _ _ 52 rfl 5 i0 Tryd.underlying52 hi hz0 hz1 hz2 _ a l hin rfl _ _ hz.out rfl (by omega) ?_; intro v2 w2 hb2 hbe2)
  go_ret
  exact ⟨_, rfl, hb2, hbe2⟩
end Go.Proofs.YtmcklfndnjagiaaDoor
