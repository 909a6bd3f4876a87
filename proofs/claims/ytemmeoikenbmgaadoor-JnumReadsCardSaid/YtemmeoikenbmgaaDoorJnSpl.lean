/- The document's own Split: the parts of a number. -/
import Derived.Test.YtemmeoikenbmgaaDoorJnRefA
import Derived.OneCell
import Derived.Deep.Cut
namespace Go.Proofs.YtemmeoikenbmgaaDoor
open Go Go.RowKit
set_option linter.unusedVariables false

/-- Block g holds the parts of a number. -/
def PB (w : World) (g : Nat) (W B P : ByteArray) (E C : Int) : Prop := w.heap[g]? = some (.cells #[.string W, .string B, .string P, .int .i64 E, .int .i64 C] 43 (0, 0))
def pV (W B P : ByteArray) (E C : Int) : Value := .agg #[.string W, .string B, .string P, .int .i64 E, .int .i64 C]
section
variable {w : World} {g : Nat} {W B P : ByteArray} {E C : Int}
theorem PB.lt (h : PB w g W B P E C) : g < w.heap.size := lt_of_block h
theorem PB.c0 (h : PB w g W B P E C) : w.cell? ⟨g, 0, none⟩ = some (.string W) := by unfold PB at h; simp [World.cell?, h]
theorem PB.c1 (h : PB w g W B P E C) : w.cell? ⟨g, 1, none⟩ = some (.string B) := by unfold PB at h; simp [World.cell?, h]
theorem PB.c2 (h : PB w g W B P E C) : w.cell? ⟨g, 2, none⟩ = some (.string P) := by unfold PB at h; simp [World.cell?, h]
theorem PB.c3 (h : PB w g W B P E C) : w.cell? ⟨g, 3, none⟩ = some (.int .i64 E) := by unfold PB at h; simp [World.cell?, h]
theorem PB.c4 (h : PB w g W B P E C) : w.cell? ⟨g, 4, none⟩ = some (.int .i64 C) := by unfold PB at h; simp [World.cell?, h]
theorem PB.fr (h : PB w g W B P E C) (o : Nat) : w.frozen? ⟨g, o, none⟩ = false := by unfold PB at h; simp [World.frozen?, h]
theorem PB.set0 (h : PB w g W B P E C) (x : ByteArray) : PB (w.setCell ⟨g, 0, none⟩ (.string x)) g x B P E C := heap_setCell_block h _
theorem PB.set1 (h : PB w g W B P E C) (x : ByteArray) : PB (w.setCell ⟨g, 1, none⟩ (.string x)) g W x P E C := heap_setCell_block h _
theorem PB.set2 (h : PB w g W B P E C) (x : ByteArray) : PB (w.setCell ⟨g, 2, none⟩ (.string x)) g W B x E C := heap_setCell_block h _
theorem PB.set3 (h : PB w g W B P E C) (x : Int) : PB (w.setCell ⟨g, 3, none⟩ (.int .i64 x)) g W B P x C := heap_setCell_block h _
theorem PB.set4 (h : PB w g W B P E C) (x : Int) : PB (w.setCell ⟨g, 4, none⟩ (.int .i64 x)) g W B P E x := heap_setCell_block h _
theorem PB.other (h : PB w g W B P E C) {k o : Nat} (hk : g ≠ k) (u : Value) : PB (w.setCell ⟨k, o, none⟩ u) g W B P E C := (Below.heap_setCell _ _ _ _ hk).trans h
theorem PB.below (h : PB w g W B P E C) {w' : World} {N : Nat} (hb : Below N w w') (hN : g < N) : PB w' g W B P E C := (hb.block g hN).trans h
theorem PB.drewN (h : PB w g W B P E C) (n : Nat) : PB (w.drewN n) g W B P E C := h
end
/-- While the parts are read: block g holds those read so far, block k the empty answer. -/
structure SpR (w : World) (g k : Nat) (W B P : ByteArray) (E C : Int) (wx : World) : Prop where
  pg : PB wx g W B P E C
  pk : PB wx k ⟨#[]⟩ ⟨#[]⟩ ⟨#[]⟩ 0 0
  bel : Below w.heap.size w wx
  hg : w.heap.size ≤ g
  hk : w.heap.size ≤ k
  ne : g ≠ k
theorem below_put {N b o : Nat} {w W : World} {v : Value} (h : Below N w W) (hb : N ≤ b) : Below N w (W.setCell ⟨b, o, none⟩ v) :=
  h.trans ⟨rfl, rfl, rfl, by simp [World.setCell], fun k hk => Below.heap_setCell _ _ _ _ (by show k ≠ b; exact Nat.ne_of_lt (Nat.lt_of_lt_of_le hk hb))⟩
section
variable {w wx : World} {g k : Nat} {W B P : ByteArray} {E C : Int}
theorem SpR.set0 (h : SpR w g k W B P E C wx) (x : ByteArray) : SpR w g k x B P E C (wx.setCell ⟨g, 0, none⟩ (.string x)) := ⟨h.pg.set0 x, h.pk.other h.ne.symm _, below_put h.bel h.hg, h.hg, h.hk, h.ne⟩
theorem SpR.set1 (h : SpR w g k W B P E C wx) (x : ByteArray) : SpR w g k W x P E C (wx.setCell ⟨g, 1, none⟩ (.string x)) := ⟨h.pg.set1 x, h.pk.other h.ne.symm _, below_put h.bel h.hg, h.hg, h.hk, h.ne⟩
theorem SpR.set2 (h : SpR w g k W B P E C wx) (x : ByteArray) : SpR w g k W B x E C (wx.setCell ⟨g, 2, none⟩ (.string x)) := ⟨h.pg.set2 x, h.pk.other h.ne.symm _, below_put h.bel h.hg, h.hg, h.hk, h.ne⟩
theorem SpR.set3 (h : SpR w g k W B P E C wx) (x : Int) : SpR w g k W B P x C (wx.setCell ⟨g, 3, none⟩ (.int .i64 x)) := ⟨h.pg.set3 x, h.pk.other h.ne.symm _, below_put h.bel h.hg, h.hg, h.hk, h.ne⟩
theorem SpR.set4 (h : SpR w g k W B P E C wx) (x : Int) : SpR w g k W B P E x (wx.setCell ⟨g, 4, none⟩ (.int .i64 x)) := ⟨h.pg.set4 x, h.pk.other h.ne.symm _, below_put h.bel h.hg, h.hg, h.hk, h.ne⟩
end
theorem part_result {fn : Func} {p : Tmp} (h : fn.results = #[.cell p 43]) {tmps : Array Value} {w : World} {g : Nat} {W B P : ByteArray} {E C : Int} (hg : PB w g W B P E C) (hp : tmps.getD p undef = .pointer (some ⟨g, 0, none⟩)) :
    (results fn tmps).run Tryd.prog w = .ok (pV W B P E C) w :=
  results_cell_row h tmps w g 43 #[.string W, .string B, .string P, .int .i64 E, .int .i64 C] (0, 0) _ hp hg Tryd.underlying43 rfl (by kernel_rfl)

theorem sp_drop (s : ByteArray) (a k : Nat) : s.data.toList.drop (a + k) = (s.data.toList.drop a).drop k := (List.drop_drop ..).symm
theorem sp_text (s : ByteArray) (a i j : Nat) : s.extract (a + i) (a + j) = bA (((s.data.toList.drop a).drop i).take (j - i)) := by
  apply ByteArray.ext
  apply Array.toList_inj.mp
  rw [ext_toList, sp_drop, show a + j - (a + i) = j - i by omega]; rfl
theorem eC_zero {l : List UInt8} (h : eC l = 0) : eB l = 0 ∧ fE (l.drop (nB l)) = 0 := by
  unfold eC at h
  by_cases h1 : eB l = 0
  · rw [if_pos h1] at h; exact ⟨h1, h⟩
  · rw [if_neg h1] at h; exact absurd h h1
/-- What the document's Split tells. -/
def SplT (s : ByteArray) (a : Nat) (W B P : ByteArray) (E : Nat) : Prop :=
  (nCode (s.data.toList.drop a) = 0 → W = bA (wW (s.data.toList.drop a)) ∧ B = bA (wB (s.data.toList.drop a)) ∧ P = bA (wP (s.data.toList.drop a)) ∧ E = a + nE (s.data.toList.drop a)) ∧ W.size ≤ s.size ∧ B.size ≤ s.size ∧ P.size ≤ s.size ∧ E ≤ s.size
theorem ext_size (s : ByteArray) (i j : Nat) : (s.extract i j).size ≤ s.size := by
  rw [← toList_size, ← toList_size, ext_toList, List.length_take, List.length_drop]; omega
theorem wrap_next {a b : Nat} (h : b = a + 1) (hb : b ≤ 1125899906842625) : IntKind.i64.wrap ((a : Int) + 1) = ((b : Nat) : Int) := by
  rw [i64_small (by omega) (by omega)]; omega
end Go.Proofs.YtemmeoikenbmgaaDoor
