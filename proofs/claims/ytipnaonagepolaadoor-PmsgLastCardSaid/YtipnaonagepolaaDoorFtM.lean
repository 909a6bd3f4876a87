/- Lists of texts in memory, of no package: one that the call itself made ('SBts'), one that was there ('SIn'), 'append' of a text, of a list. -/
import Derived.Test.YtipnaonagepolaaDoorZA
import Derived.Laws.AppendOwnNone
namespace Go.Proofs.YtipnaonagepolaaDoor
open Go Go.RowKit
set_option linter.unusedVariables false

def sV (l : List ByteArray) : List Value := l.map .string
theorem sV_length (l : List ByteArray) : (sV l).length = l.length := List.length_map _
theorem sV_append (l m : List ByteArray) : sV (l ++ m) = sV l ++ sV m := List.map_append
theorem sV_one (l : List ByteArray) : ∀ v ∈ sV l, v.oneCell' = true := by
  intro v hv
  obtain ⟨b, _, rfl⟩ := List.mem_map.mp hv
  rfl
theorem sV_get (l : List ByteArray) (k : Nat) (h : k < l.length) : (sV l)[k]? = some (.string l[k]) := by
  simp [sV, List.getElem?_eq_getElem h]
/-- The slice v, that the call itself made, holds the texts l. -/
def SBts (w : World) (B : Nat) (v : Value) (l : List ByteArray) : Prop := w.ownsRow B 9 1 v l.length (sV l)
/-- The slice at a, of so many texts, that was there, holds l. -/
def SIn (w : World) (a : Option Addr) (l : List ByteArray) : Prop :=
  ∀ j (h : j < l.length), ∃ b off, a = some ⟨b, off, none⟩ ∧ b < w.heap.size ∧ w.cell? ⟨b, off + j, none⟩ = some (.string l[j])
theorem SIn.below {w w' : World} {a : Option Addr} {l : List ByteArray} (h : SIn w a l) (hb : Below w.heap.size w w') : SIn w' a l := fun j hj => by
  obtain ⟨b, off, e, hlt, hc⟩ := h j hj
  exact ⟨b, off, e, Nat.lt_of_lt_of_le hlt hb.size, (hb.cell (p := ⟨b, off + j, none⟩) hlt).trans hc⟩
theorem sbts_nil (w : World) (B : Nat) : SBts w B (.slice none 0 0) [] := ⟨rfl, .inl ⟨rfl, rfl⟩⟩
theorem SBts.below {w w' : World} {B N : Nat} {v : Value} {l : List ByteArray} (h : SBts w B v l) (hb : Below N w w') (hN : w.heap.size ≤ N) : SBts w' B v l := by
  refine World.ownsRow.kept (row := none) h ⟨hb.os, hb.tape, hb.output, hb.size, fun k hk _ => hb.block k (by omega)⟩ ?_
  cases v.ownBlock <;> simp
theorem SBts.only {w w' : World} {B b : Nat} {v : Value} {l : List ByteArray} (h : SBts w B v l) (ho : Only b w w') (hb : b < B) : SBts w' B v l := by
  obtain ⟨hl, h⟩ := h
  refine ⟨hl, ?_⟩
  rcases h with h | ⟨g, cap, cur, h1, h2, h3, h4⟩
  · exact .inl h
  · exact .inr ⟨g, cap, cur, h1, h2, (ho.block g (lt_of_block h3) (by omega)).trans h3, h4⟩
theorem SBts.base {w : World} {B N : Nat} {v : Value} {l : List ByteArray} (h : SBts w N v l) (hB : B ≤ N) : SBts w B v l := by
  obtain ⟨hl, h⟩ := h
  refine ⟨hl, ?_⟩
  rcases h with h | ⟨g, cap, cur, h1, h2, h3, h4⟩
  · exact .inl h
  · exact .inr ⟨g, cap, cur, h1, by omega, h3, h4⟩
theorem SBts.inn {w : World} {B : Nat} {v : Value} {l : List ByteArray} (h : SBts w B v l) : ∃ a cap, v = .slice a l.length cap ∧ SIn w a l := by
  rcases h.2 with ⟨rfl, hn⟩ | ⟨g, cap, cur, rfl, _, hg, _⟩
  · have h0 : l = [] := List.eq_nil_of_length_eq_zero hn
    subst h0
    exact ⟨none, 0, rfl, fun j hj => by simp at hj⟩
  · refine ⟨_, cap, rfl, fun j hj => ⟨g, 0, rfl, lt_of_block hg, ?_⟩⟩
    rw [Nat.zero_add, World.ownsRow.cellAt h j (by omega), sV_get l j hj]
theorem infoS : (Tryd.prog.info? 9).map (fun i => (i.zero, i.size, i.bytes)) = some (some (.string ⟨#[]⟩), 1, 16) := by kernel_rfl
/-- 'append(list, s)' on a list that the call itself made. -/
theorem wpList_append_str {ops : Array Oper} {rest : List Oper} {o : Oper} {a : Act} {Q : Exit → Act → World → Prop} (hgd : o.guard = none) (sl x : Operand)
    (ho : o.op = .call { callee := .builtin .append, args := #[sl, x], argTypes := #[38, 38] })
    (v : Value) (wr : World) (B : Nat) (l : List ByteArray) (hb : SBts wr B v l) (hB : B ≤ wr.heap.size) (hs : a.eval sl = v)
    (s : ByteArray) (hx : a.eval x = .slice (some ⟨wr.heap.size, 0, none⟩) 1 1) (hlen : l.length ≤ 1000000)
    (h : ∀ v' w', SBts w' B v' (l ++ [s]) → Below B wr w' → wpList Tryd.prog ops Q rest (a.put o.dst v') w') :
    wpList Tryd.prog ops Q (o :: rest) a (wr.alloc (.cells #[.string s] 9)) := by
  obtain ⟨i0, hi, hz, hz1, hz2⟩ := info_parts infoS
  refine wpList_append_own _ hgd sl x 38 ho B 9 i0 (.string ⟨#[]⟩) 1 16 Tryd.underlying38 hi hz hz1 hz2 rfl (by decide) v l.length (sV l) hs (World.ownsRow.alloc hb _) ⟨wr.heap.size, 0, none⟩ 1 1 [.string s] hx rfl ?_ ?_ (by unfold maxLen; omega) (by omega) (by simp; omega) ?_
  · intro j u hj
    match j, hj with
    | 0, hj =>
      simp at hj
      subst hj
      have h1 := heap_alloc_new wr (.cells #[.string s] 9)
      show World.cell? _ ⟨wr.heap.size, 0 + 0, none⟩ = _
      simp only [World.cell?]
      rw [h1]; rfl
  · intro u hu; simp at hu; subst hu; rfl
  · intro v' w' hown hgr _
    refine h v' w' ?_ ?_
    · unfold SBts
      rw [sV_append, List.length_append]
      exact hown
    · refine ⟨hgr.os, hgr.tape, hgr.output, by have := hgr.size; simp at this; omega, fun k hk => ?_⟩
      have hne : some k ≠ v.ownBlock := fun hk' => by
        have := (World.ownsRow.lt hb k hk'.symm).1
        omega
      rw [hgr.block k (by simp; omega) hne]
      exact Below.heap_alloc _ _ _ (by omega)
/-- 'append(list, more...)' of a list that was there, on a list that the call itself made. -/
theorem wpList_append_strs {ops : Array Oper} {rest : List Oper} {o : Oper} {a : Act} {Q : Exit → Act → World → Prop} (hgd : o.guard = none) (sl x : Operand)
    (ho : o.op = .call { callee := .builtin .append, args := #[sl, x], argTypes := #[38, 38] })
    (v : Value) (wr : World) (B : Nat) (l : List ByteArray) (hb : SBts wr B v l) (hB : B ≤ wr.heap.size) (hs : a.eval sl = v)
    (ad : Addr) (cap : Nat) (m : List ByteArray) (hx : a.eval x = .slice (some ad) m.length cap) (hm : SIn wr (some ad) m) (hlen : l.length + m.length ≤ 1000000)
    (h : ∀ v' w', SBts w' B v' (l ++ m) → Below B wr w' → wpList Tryd.prog ops Q rest (a.put o.dst v') w') :
    wpList Tryd.prog ops Q (o :: rest) a wr := by
  obtain ⟨i0, hi, hz, hz1, hz2⟩ := info_parts infoS
  refine wpList_append_own _ hgd sl x 38 ho B 9 i0 (.string ⟨#[]⟩) 1 16 Tryd.underlying38 hi hz hz1 hz2 rfl (by decide) v l.length (sV l) hs hb ad m.length cap (sV m) hx (by rw [sV_length, Nat.mul_one]) ?_ (sV_one m) (by unfold maxLen; omega) (by omega) hB ?_
  · intro j u hj
    have hjm : j < m.length := by
      have := (List.getElem?_eq_some_iff.1 hj).1
      rwa [sV_length] at this
    obtain ⟨b, off, e, _, hc⟩ := hm j hjm
    obtain rfl : ad = ⟨b, off, none⟩ := Option.some.inj e
    rw [sV_get m j hjm] at hj
    have e1 : (Addr.mk b off none).add j = ⟨b, off + j, none⟩ := by unfold Addr.add; split <;> simp_all
    rw [e1, hc]; exact hj
  · intro v' w' hown hgr _
    refine h v' w' ?_ ?_
    · unfold SBts
      rw [sV_append, List.length_append]
      exact hown
    · refine ⟨hgr.os, hgr.tape, hgr.output, hgr.size, fun k hk => ?_⟩
      have hne : some k ≠ v.ownBlock := fun hk' => by
        have := (World.ownsRow.lt hb k hk'.symm).1
        omega
      exact hgr.block k (by omega) hne
/-- The same, of a list that may be nil. -/
theorem wpList_append_in {ops : Array Oper} {rest : List Oper} {o : Oper} {a : Act} {Q : Exit → Act → World → Prop} (hgd : o.guard = none) (sl x : Operand)
    (ho : o.op = .call { callee := .builtin .append, args := #[sl, x], argTypes := #[38, 38] })
    (v : Value) (wr : World) (B : Nat) (l : List ByteArray) (hb : SBts wr B v l) (hB : B ≤ wr.heap.size) (hs : a.eval sl = v)
    (ad : Option Addr) (cap : Nat) (m : List ByteArray) (hx : a.eval x = .slice ad m.length cap) (hz : ad = none → cap = 0) (hm : SIn wr ad m) (hlen : l.length + m.length ≤ 1000000)
    (h : ∀ v' w', SBts w' B v' (l ++ m) → Below B wr w' → wpList Tryd.prog ops Q rest (a.put o.dst v') w') :
    wpList Tryd.prog ops Q (o :: rest) a wr := by
  cases ad with
  | none =>
    obtain ⟨i0, hi, _⟩ := info_parts infoS
    have hm0 : m = [] := by
      cases m with
      | nil => rfl
      | cons s r => obtain ⟨b, off, e, _⟩ := hm 0 (by simp); cases e
    subst hm0
    rw [hz rfl] at hx
    refine wpList_append_own_none hgd sl x 38 ho B 9 i0 1 Tryd.underlying38 hi v l.length (sV l) hs hb hx ?_
    exact h v wr (by rw [List.append_nil]; exact hb) (Below.refl _ _)
  | some ad => exact wpList_append_strs hgd sl x ho v wr B l hb hB hs ad cap m hx hm hlen h
end Go.Proofs.YtipnaonagepolaaDoor
