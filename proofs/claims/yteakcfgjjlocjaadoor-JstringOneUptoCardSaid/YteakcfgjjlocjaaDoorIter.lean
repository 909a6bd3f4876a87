/- A range over a string beside a list that the call itself made (of no package): the iterator is a block of its own; an append keeps it, a step of it keeps the list. -/
import Derived.Test.YteakcfgjjlocjaaDoorBts
import Derived.Lib.OthersKept
namespace Go.Proofs.YteakcfgjjlocjaaDoor
open Go Go.RowKit
set_option linter.unusedVariables false

theorem byte_ofNat {b : Nat} (h : b < 256) : (b : Int) = ((UInt8.ofNat b).toNat : Int) := by
  have : (UInt8.ofNat b).toNat = b := by rw [UInt8.toNat_ofNat']; omega
  rw [this]
/-- Block k is the iterator of s, and stands at p. -/
def ItAt (w : World) (k : Nat) (s : ByteArray) (p : Nat) : Prop := w.heap[k]? = some (.stringIter s p)
theorem ItAt.pos {w : World} {k : Nat} {s : ByteArray} {p : Nat} (h : ItAt w k s p) : w.iterPos k = p := by unfold ItAt at h; simp [World.iterPos, h]
theorem ItAt.lt {w : World} {k : Nat} {s : ByteArray} {p : Nat} (h : ItAt w k s p) : k < w.heap.size := lt_of_block h
theorem ItAt.step {w : World} {k : Nat} {s : ByteArray} {p : Nat} (h : ItAt w k s p) (p' : Nat) : ItAt (w.iterAt k s p') k s p' := Lib.iterAt_heap w k s p p' h
theorem ItAt.made {w : World} {k : Nat} {s : ByteArray} (h : w.heap.size = k) : ItAt (w.iter s 0) k s 0 := by subst h; exact World.iter_heap w s 0
theorem Bts.alloc {t : TypeId} {w : World} {B : Nat} {v : Value} {l : List UInt8} (h : Bts t w B v l) (o : Obj) : Bts t (w.alloc o) B v l := World.ownsRow.alloc h o
theorem Bts.step {t : TypeId} {w : World} {B k p : Nat} {v : Value} {l : List UInt8} {s : ByteArray} (h : Bts t w B v l) (hk : ItAt w k s p) (p' : Nat) : Bts t (w.iterAt k s p') B v l := by
  obtain ⟨h1, h2⟩ := h
  refine ⟨h1, ?_⟩
  rcases h2 with h2 | ⟨g, cap, cur, a, b, c, d⟩
  · exact .inl h2
  · have hg : g ≠ k := fun e => by
      unfold ItAt at hk
      rw [← e, c] at hk
      cases hk
    exact .inr ⟨g, cap, cur, a, b, by rw [Lib.iterAt_other _ _ _ _ _ hg]; exact c, d⟩
/-- 'next' where a character of one byte stands. -/
theorem next_ascii {P : Program} {w : World} {k : Nat} {s : ByteArray} {p : Nat} (hk : ItAt w k s p) (h : p < s.size) (ha : (s[p]'h).toNat < 128) (ty : TypeId) :
    (Instr.next (.pointer (some ⟨k, 0, none⟩)) true ty).run P w = .ok (.tuple #[.bool true, .int .i64 p, .int .i32 (s[p]'h).toNat]) (w.iterAt k s (p + 1)) := Lib.run_next_ascii_at w k s p ty hk h ha
theorem next_any {P : Program} {w : World} {k : Nat} {s : ByteArray} {p : Nat} (hk : ItAt w k s p) (h : p < s.size) (ty : TypeId) :
    (Instr.next (.pointer (some ⟨k, 0, none⟩)) true ty).run P w = .ok (.tuple #[.bool true, .int .i64 p, .int .i32 (Utf8.decode s p).1]) (w.iterAt k s (p + (Utf8.decode s p).2)) := Lib.run_next_any_at w k s p ty hk h
theorem next_end {P : Program} {w : World} {k : Nat} {s : ByteArray} {p : Nat} (hk : ItAt w k s p) (h : ¬ p < s.size) (ty : TypeId) :
    (Instr.next (.pointer (some ⟨k, 0, none⟩)) true ty).run P w = .ok (.tuple #[.bool false]) w := Lib.run_next_end_at w k s p ty hk h
/-- 'append(list, b)' on a list that the call itself made, an iterator beside it. -/
theorem wpList_append_byte_it {P : Program} {ops : Array Oper} {rest : List Oper} {o : Oper} {a : Act} {Q : Exit → Act → World → Prop} (hgd : o.guard = none) (s x : Operand) (t : TypeId)
    (ho : o.op = .call { callee := .builtin .append, args := #[s, x], argTypes := #[t, t] })
    (e : TypeId) (i : TypeInfo) (ht : P.underlying t = some (.slice e)) (hi : P.info? e = some i) (hz : i.zero = some (.int .u8 0)) (hsize : i.size = 1) (hby : i.bytes = 1)
    (v : Value) (W wr : World) (B : Nat) (l : List UInt8) (hb : Bts e wr B v l) (hbel : Below B W wr) (hB : B ≤ wr.heap.size) (hs : a.eval s = v)
    (z : Int) (b : UInt8) (hzb : z = (b.toNat : Int)) (hx : a.eval x = .slice (some ⟨wr.heap.size, 0, none⟩) 1 1) (hlen : l.length + 1 ≤ 140737488355328)
    (k : Nat) (str : ByteArray) (p : Nat) (hk : ItAt wr k str p)
    (h : ∀ v' w', Bts e w' B v' (l ++ [b]) → Below B W w' → ItAt w' k str p → wpList P ops Q rest (a.put o.dst v') w') :
    wpList P ops Q (o :: rest) a (wr.alloc (.cells #[.int .u8 z] e)) := by
  subst hzb
  refine wpList_append_own _ hgd s x t ho B e i (.int .u8 0) 1 1 ht hi hz hsize hby rfl (by decide) v l.length (bV l) hs (World.ownsRow.alloc hb _) ⟨wr.heap.size, 0, none⟩ 1 1 [.int .u8 (b.toNat : Int)] hx rfl ?_ ?_ (by unfold maxLen; omega) (by omega) (by simp; omega) ?_
  · intro j u hj
    match j, hj with
    | 0, hj =>
      simp at hj
      subst hj
      have h1 := heap_alloc_new wr (.cells #[.int .u8 (b.toNat : Int)] e)
      show World.cell? _ ⟨wr.heap.size, 0 + 0, none⟩ = _
      simp only [World.cell?]
      rw [h1]; rfl
  · intro u hu; simp at hu; subst hu; rfl
  · intro v' w' hown hgr _
    refine h v' w' ?_ ?_ ?_
    · unfold Bts
      rw [bV_append, List.length_append]
      exact hown
    · refine hbel.trans ⟨hgr.os, hgr.tape, hgr.output, by have := hgr.size; simp at this; omega, fun k hk => ?_⟩
      have hne : some k ≠ v.ownBlock := fun hk' => by
        have := (World.ownsRow.lt hb k hk'.symm).1
        omega
      rw [hgr.block k (by simp; omega) hne]
      exact Below.heap_alloc _ _ _ (by omega)
    · have hlt := hk.lt
      unfold ItAt
      rw [hgr.block k (by simp; omega) ?_]
      · exact (Below.heap_alloc _ _ _ hlt).trans hk
      · intro e1
        rcases hb.2 with ⟨rfl, _⟩ | ⟨g, cap, cur, rfl, _, hg, _⟩
        · simp [Value.ownBlock] at e1
        · simp [Value.ownBlock] at e1
          subst e1
          unfold ItAt at hk
          rw [hg] at hk
          cases hk
end Go.Proofs.YteakcfgjjlocjaaDoor
