/- The two closures that keep what package jstring's tell tells. -/
import Derived.Test.YtnbhhnkcfbfdcaaGreatDoorJsTxt
import Derived.Test.YtnbhhnkcfbfdcaaGreatDoorJsPl
import Derived.Test.YtnbhhnkcfbfdcaaGreatDoorZE
namespace Go.Proofs.YtnbhhnkcfbfdcaaGreatDoor
open Go Go.RowKit
set_option linter.unusedVariables false

/-- 'append(list, s...)' of a text, on a list that the call itself made, beside a block of another type, that stays. -/
theorem wpList_append_text_beside {P : Program} {ops : Array Oper} {rest : List Oper} {o : Oper} {a : Act} {Q : Exit → Act → World → Prop} (hgd : o.guard = none) (sl x : Operand) (t u : TypeId)
    (ho : o.op = .call { callee := .builtin .append, args := #[sl, x], argTypes := #[t, u] })
    (e : TypeId) (i : TypeInfo) (ht : P.underlying t = some (.slice e)) (hu : P.underlying u = some .string) (hi : P.info? e = some i) (hz : i.zero = some (.int .u8 0)) (hsize : i.size = 1) (hby : i.bytes = 1)
    (v : Value) (w : World) (B g : Nat) (cs : Array Value) (tg : TypeId) (l : List UInt8) (s : ByteArray) (hb : Bts e w B v l) (hg : w.heap[g]? = some (.cells cs tg (0, 0))) (hne : tg ≠ e) (hB : B ≤ w.heap.size) (hs : a.eval sl = v) (hx : a.eval x = .string s) (hlen : l.length + s.size ≤ 140737488355328)
    (h : ∀ (ad : Option Addr) (n c : Nat) w', Bts e w' B (.slice ad n c) (l ++ s.data.toList) → Below B w w' → w'.heap[g]? = some (.cells cs tg (0, 0)) → wpList P ops Q rest (a.put o.dst (.slice ad n c)) w') :
    wpList P ops Q (o :: rest) a w := by
  refine Lib.wpList_append_own_string w hgd sl x t u ho B e i ht hu hi hz hsize hby v l.length (bV l) hs hb s hx (by unfold maxLen; omega) hlen hB ?_
  intro v' w' hown hgr _
  obtain ⟨ad, n, c, rfl⟩ : ∃ ad n c, v' = .slice ad n c := by
    rcases hown.2 with ⟨rfl, _⟩ | ⟨G, cap, cur, rfl, _⟩
    · exact ⟨_, _, _, rfl⟩
    · exact ⟨_, _, _, rfl⟩
  refine h ad n c w' ?_ ?_ ?_
  · unfold Bts
    rw [bV_append, List.length_append, toList_size]
    exact hown
  · refine ⟨hgr.os, hgr.tape, hgr.output, hgr.size, fun k hk => ?_⟩
    have hne : some k ≠ v.ownBlock := fun hk' => by
      have := (World.ownsRow.lt hb k hk'.symm).1
      omega
    exact hgr.block k (by omega) hne
  · rw [hgr.block g (lt_of_block hg) ?_]
    · exact hg
    · intro e1
      rcases hb.2 with ⟨rfl, _⟩ | ⟨G, cap, cur, rfl, _, hG, _⟩
      · simp [Value.ownBlock] at e1
      · simp [Value.ownBlock] at e1
        subst e1
        rw [hg] at hG
        simp only [Option.some.injEq, Obj.cells.injEq] at hG
        exact hne hG.2.1
theorem Bts.setOther {t tg : TypeId} {w : World} {B g o : Nat} {v : Value} {l : List UInt8} {cs : Array Value} (h : Bts t w B v l) (hg : w.heap[g]? = some (.cells cs tg (0, 0))) (hne : tg ≠ t) (u : Value) : Bts t (w.setCell ⟨g, o, none⟩ u) B v l := by
  refine ownsRow_setCell_other h ?_ u
  intro e1
  rcases h.2 with ⟨rfl, _⟩ | ⟨G, cap, cur, rfl, _, hG, _⟩
  · simp [Value.ownBlock] at e1
  · simp [Value.ownBlock] at e1
    subst e1
    rw [hg] at hG
    simp only [Option.some.injEq, Obj.cells.injEq] at hG
    exact hne hG.2.1

/-- What is kept of what was told so far: how many bytes. -/
def SizeSt (g : Nat) (W w : World) (L : List UInt8) : Prop := w.heap[g]? = some (.cells #[.int .i64 (L.length : Nat)] 3 (0, 0)) ∧ Below g W w
/-- .. or the bytes, behind those of l, in a list. -/
def PutSt (N B g : Nat) (l : List UInt8) (W w : World) (L : List UInt8) : Prop := (∃ v, w.heap[g]? = some (.cells #[v] 43 (0, 0)) ∧ Bts 5 w B v (l ++ L)) ∧ Below N W w ∧ N ≤ B ∧ B ≤ g
theorem SizeSt.below {g : Nat} {W w w' : World} {L : List UInt8} (h : SizeSt g W w L) (hb : Below w.heap.size w w') : SizeSt g W w' L :=
  ⟨(hb.block g (lt_of_block h.1)).trans h.1, h.2.trans (hb.mono (Nat.le_of_lt (lt_of_block h.1)))⟩
theorem PutSt.below {N B g : Nat} {l : List UInt8} {W w w' : World} {L : List UInt8} (h : PutSt N B g l W w L) (hb : Below w.heap.size w w') : PutSt N B g l W w' L := by
  obtain ⟨⟨v, h1, h2⟩, h3, h4, h5⟩ := h
  have hlt := lt_of_block h1
  exact ⟨⟨v, (hb.block g hlt).trans h1, h2.below hb (Nat.le_refl _)⟩, h3.trans (hb.mono (by omega)), h4, h5⟩

theorem jsize1_any (g : Nat) (W w : World) (p : ByteArray) (L : List UInt8) (h : SizeSt g W w L) (hn : L.length + p.size ≤ 1125899906842624) :
    Calls Tryz.prog 69 #[.string p, .pointer (some ⟨g, 0, none⟩)] w fun e w' => e = .returned (.tuple #[]) ∧ SizeSt g W w' (L ++ p.data.toList) := by
  obtain ⟨h1, h2⟩ := h
  have c1 := cell_of_one h1
  have f1 := free_of_one h1
  have zw : IntKind.i64.wrap ((L.length : Int) + (p.size : Int)) = (L.length : Int) + (p.size : Int) := i64_small (by omega) (by omega)
  have H1 := Lib.hid h1
  clear h1
  go_enter Tryz.func69, Tryz.ntmps69
  go_wp2
  go_end0
  refine ⟨rfl, ?_, h2.setCell (Nat.le_refl _) _⟩
  have := one_setCell H1.out (u := .int .i64 ((L.length : Int) + (p.size : Int)))
  rw [List.length_append, toList_size]
  exact this
theorem jput1_any (N B g : Nat) (l : List UInt8) (W w : World) (p : ByteArray) (L : List UInt8) (h : PutSt N B g l W w L) (hn : l.length + L.length + p.size ≤ 140737488355328) :
    Calls Tryz.prog 50 #[.string p, .pointer (some ⟨g, 0, none⟩)] w fun e w' => e = .returned (.tuple #[]) ∧ PutSt N B g l W w' (L ++ p.data.toList) := by
  obtain ⟨i0, hi, hz0, hz1, hz2⟩ := info_parts info8
  obtain ⟨⟨v, h1, h2⟩, h3, h4, h5⟩ := h
  have hlt := lt_of_block h1
  have c1 := cell_of_one h1
  have hl : (l ++ L).length + p.size ≤ 140737488355328 := by rw [List.length_append]; omega
  have H1 := Lib.hid h1
  clear h1
  go_enter Tryz.func50, Tryz.ntmps50
  go_wp2_with (at_builtin; go_loud (refine wpList_append_text_beside rfl (.tmp 3) (.tmp 4) 43 9 rfl 5 i0 Tryz.underlying43 Tryz.underlying9 hi hz0 hz1 hz2 v w B g #[v] 43 (l ++ L) p h2 H1.out (by decide) (by omega) rfl rfl hl ?_; intro ad2 n2 cp2 w2 hb2 hbe2 hg2; have c2 := cell_of_one hg2; have f2 := free_of_one hg2; have HG2 := Lib.hid hg2; clear hg2))
  go_end0
  refine ⟨rfl, ⟨.slice ad2 n2 cp2, one_setCell HG2.out, ?_⟩, ?_, h4, h5⟩
  · have := hb2.setOther (o := 0) HG2.out (by decide) (.slice ad2 n2 cp2)
    rw [List.append_assoc] at this; exact this
  · exact (h3.trans (hbe2.mono h4)).setCell (by show N ≤ g; omega) _
end Go.Proofs.YtnbhhnkcfbfdcaaGreatDoor
