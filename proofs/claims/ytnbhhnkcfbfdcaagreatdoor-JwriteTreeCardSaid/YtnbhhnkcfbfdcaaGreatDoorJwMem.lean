/- A writer in memory: its list and its signs lie in blocks of their own; what appends to either, and stores, make of it. Of no package but the types' facts. -/
import Derived.Test.YtnbhhnkcfbfdcaaGreatDoorZD
import Derived.Test.YtnbhhnkcfbfdcaaGreatDoorApp
import Derived.Deep.AppendLies
namespace Go.Proofs.YtnbhhnkcfbfdcaaGreatDoor
open Go Go.RowKit
set_option linter.unusedVariables false

theorem new_blw (w : World) (o : Obj) : Below w.heap.size w (w.alloc o) := (Below.refl _ _).alloc (Nat.le_refl _) _
/-- Block b is the writer s: its list is vl, its signs are ve; Z: blocks that are none of its. -/
structure Wr (Z : Nat → Prop) (B b : Nat) (w : World) (vl ve : Value) (s : WS) : Prop where
  blk : w.heap[b]? = some (.cells #[.func (.func 24) #[] #[], .int .i64 s.c, vl, ve, .bool s.sm, .bool s.kd] 57 (0, 0))
  l : Bts 5 w B vl s.out
  e : Bts 5 w B ve s.en
  hb : B ≤ b
  nb : ¬ Z b
  zl : ∀ k, Z k → k < w.heap.size
  nl : ∀ g, vl.ownBlock = some g → g ≠ b ∧ ¬ Z g
  ne : ∀ g, ve.ownBlock = some g → g ≠ b ∧ ¬ Z g
  nn : ∀ g, vl.ownBlock = some g → ve.ownBlock ≠ some g
/-- A writer, wherever its lists lie. -/
def WrX (Z : Nat → Prop) (B b : Nat) (w : World) (s : WS) : Prop := ∃ vl ve, Wr Z B b w vl ve s
/-- What lay below B, and in Z, stays. -/
structure Kz (Z : Nat → Prop) (B : Nat) (w w' : World) : Prop where
  os : w'.os = w.os
  tape : w'.tape = w.tape
  output : w'.output = w.output
  size : w.heap.size ≤ w'.heap.size
  block : ∀ k, k < w.heap.size → k < B ∨ Z k → w'.heap[k]? = w.heap[k]?
section
variable {Z : Nat → Prop} {B b : Nat} {w w1 w2 : World} {vl ve v' : Value} {s : WS}
theorem Kz.refl (w : World) : Kz Z B w w := ⟨rfl, rfl, rfl, Nat.le_refl _, fun _ _ _ => rfl⟩
theorem Kz.trans (h : Kz Z B w w1) (h2 : Kz Z B w1 w2) : Kz Z B w w2 :=
  ⟨h2.os.trans h.os, h2.tape.trans h.tape, h2.output.trans h.output, Nat.le_trans h.size h2.size, fun k hk hz => (h2.block k (Nat.lt_of_lt_of_le hk h.size) hz).trans (h.block k hk hz)⟩
theorem Kz.of_below (h : Below w.heap.size w w1) : Kz Z B w w1 := ⟨h.os, h.tape, h.output, h.size, fun k hk _ => h.block k hk⟩
theorem Kz.below (h : Kz Z B w w1) (hB : B ≤ w.heap.size) : Below B w w1 := ⟨h.os, h.tape, h.output, h.size, fun k hk => h.block k (by omega) (.inl hk)⟩
theorem Kz.drewN (h : Kz Z B w w1) (n : Nat) : Kz Z B w (w1.drewN n) := ⟨h.os, h.tape, h.output, h.size, h.block⟩
theorem Kz.drew (h : Kz Z B w w1) : Kz Z B w w1.drew := ⟨h.os, h.tape, h.output, h.size, h.block⟩
theorem Kz.set (h : Kz Z B w w1) (hb : B ≤ b) (hn : ¬ Z b) (o : Nat) (x : Value) : Kz Z B w (w1.setCell ⟨b, o, none⟩ x) :=
  ⟨h.os, h.tape, h.output, by simp; exact h.size, fun k hk hz => (RowKit.Below.heap_setCell _ _ _ _ (show k ≠ b from fun e => by subst e; rcases hz with hz | hz; omega; exact hn hz)).trans (h.block k hk hz)⟩
theorem Bts.own {t : TypeId} {w : World} {B : Nat} {v : Value} {l : List UInt8} (h : Bts t w B v l) {g : Nat} (hg : v.ownBlock = some g) : B ≤ g ∧ g < w.heap.size := by
  rcases h.2 with ⟨rfl, _⟩ | ⟨g', cap, cur, rfl, h2, h3, _⟩
  · cases hg
  · simp [Value.ownBlock] at hg
    subst hg
    exact ⟨h2, lt_of_block h3⟩
theorem Bts.keep {t : TypeId} {w w' : World} {B : Nat} {v : Value} {l : List UInt8} (h : Bts t w B v l) (hk : ∀ g, v.ownBlock = some g → w'.heap[g]? = w.heap[g]?) : Bts t w' B v l := by
  obtain ⟨hl, h⟩ := h
  refine ⟨hl, ?_⟩
  rcases h with h | ⟨g, cap, cur, h1, h2, h3, h4⟩
  · exact .inl h
  · exact .inr ⟨g, cap, cur, h1, h2, (hk g (by rw [h1]; rfl)).trans h3, h4⟩
theorem bts_nil (t : TypeId) (w : World) (B : Nat) : Bts t w B (.slice none 0 0) [] := ⟨rfl, .inl ⟨rfl, rfl⟩⟩
/-- The form of a list, and how its last byte is read. -/
theorem Bts.form {t : TypeId} {w : World} {B : Nat} {v : Value} {l : List UInt8} (h : Bts t w B v l) : ∃ a cap, v = .slice a l.length cap ∧ BIn w a l ∧ l.length ≤ cap := by
  rcases h.2 with ⟨rfl, hn⟩ | ⟨g, cap, cur, rfl, _, hg, hc, _⟩
  · have h0 : l = [] := List.eq_nil_of_length_eq_zero hn
    subst h0
    exact ⟨none, 0, rfl, fun j hj => by simp at hj, Nat.le_refl _⟩
  · refine ⟨_, cap, rfl, fun j hj => ⟨g, 0, rfl, lt_of_block hg, ?_⟩, hc⟩
    rw [Nat.zero_add, World.ownsRow.cellAt h j (by omega), bV_get l j hj]
theorem Bts.back {t : TypeId} {w : World} {B n cap : Nat} {a : Option Addr} {l : List UInt8} (h : Bts t w B (.slice a n cap) l) (hl : l ≠ []) : Bts t w B (.slice a (n - 1) cap) l.dropLast ∧ (Value.slice a (n - 1) cap).ownBlock = (Value.slice a n cap).ownBlock := by
  have hpos : 0 < l.length := List.length_pos_iff.mpr hl
  refine ⟨⟨by rw [bV_length, Nat.mul_one], ?_⟩, by cases a <;> rfl⟩
  rcases h.2 with ⟨_, hn⟩ | ⟨g, c, cur, e, h2, h3, h4, h5, h6, h7⟩
  · omega
  · simp only [Value.slice.injEq] at e
    obtain ⟨rfl, rfl, rfl⟩ := e
    refine .inr ⟨g, cap, cur, by rw [List.length_dropLast], h2, h3, by rw [List.length_dropLast]; omega, h5, h6, ?_⟩
    rw [Nat.mul_one] at h7 ⊢
    rw [List.length_dropLast, List.dropLast_eq_take]
    have e2 : cur.toList.take (l.length - 1) = (cur.toList.take l.length).take (l.length - 1) := by rw [List.take_take, Nat.min_eq_left (by omega)]
    rw [e2, h7]
    simp [bV, List.map_take]
theorem Wr.lt (h : Wr Z B b w vl ve s) : b < w.heap.size := lt_of_block h.blk
theorem Wr.hB (h : Wr Z B b w vl ve s) : B ≤ w.heap.size := Nat.le_of_lt (Nat.lt_of_le_of_lt h.hb h.lt)
theorem Wr.c0 (h : Wr Z B b w vl ve s) : w.cell? ⟨b, 0, none⟩ = some (.func (.func 24) #[] #[]) := by rw [cell_of_row w b 0 _ _ _ h.blk]; rfl
theorem Wr.c1 (h : Wr Z B b w vl ve s) : w.cell? ⟨b, 1, none⟩ = some (.int .i64 s.c) := by rw [cell_of_row w b 1 _ _ _ h.blk]; rfl
theorem Wr.c2 (h : Wr Z B b w vl ve s) : w.cell? ⟨b, 2, none⟩ = some vl := by rw [cell_of_row w b 2 _ _ _ h.blk]; rfl
theorem Wr.c3 (h : Wr Z B b w vl ve s) : w.cell? ⟨b, 3, none⟩ = some ve := by rw [cell_of_row w b 3 _ _ _ h.blk]; rfl
theorem Wr.c4 (h : Wr Z B b w vl ve s) : w.cell? ⟨b, 4, none⟩ = some (.bool s.sm) := by rw [cell_of_row w b 4 _ _ _ h.blk]; rfl
theorem Wr.c5 (h : Wr Z B b w vl ve s) : w.cell? ⟨b, 5, none⟩ = some (.bool s.kd) := by rw [cell_of_row w b 5 _ _ _ h.blk]; rfl
theorem Wr.fr (h : Wr Z B b w vl ve s) (o : Nat) : w.frozen? ⟨b, o, none⟩ = false := by have := h.blk; simp [World.frozen?, this]
theorem Wr.next (h : Wr Z B b w vl ve s) (hb : Below w.heap.size w w1) : Wr Z B b w1 vl ve s :=
  ⟨(hb.block b h.lt).trans h.blk, h.l.below hb (Nat.le_refl _), h.e.below hb (Nat.le_refl _), h.hb, h.nb, fun k hk => Nat.lt_of_lt_of_le (h.zl k hk) hb.size, h.nl, h.ne, h.nn⟩
theorem Wr.drew (h : Wr Z B b w vl ve s) : Wr Z B b w.drew vl ve s := h.next (Below.drewN (Below.refl _ _) 1)
theorem WrX.next (h : WrX Z B b w s) (hb : Below w.heap.size w w1) : WrX Z B b w1 s := by
  obtain ⟨vl, ve, h⟩ := h
  exact ⟨vl, ve, h.next hb⟩
theorem WrX.kz (h : WrX Z B b w s) : B ≤ w.heap.size := by obtain ⟨vl, ve, h⟩ := h; exact h.hB
/-- New blocks are none of a writer's. -/
theorem WrX.more (h : WrX Z B b w s) {g : Nat} (hg : g < w.heap.size) (hn : g < B) : WrX (fun k => Z k ∨ k = g) B b w s := by
  obtain ⟨vl, ve, h⟩ := h
  refine ⟨vl, ve, h.blk, h.l, h.e, h.hb, fun e => e.elim h.nb (fun e => by have := h.hb; omega), fun k hk => hk.elim (h.zl k) (fun e => by omega), fun k hk => ⟨(h.nl k hk).1, fun e => e.elim (h.nl k hk).2 (fun e => by have := (h.l.own hk).1; omega)⟩, fun k hk => ⟨(h.ne k hk).1, fun e => e.elim (h.ne k hk).2 (fun e => by have := (h.e.own hk).1; omega)⟩, h.nn⟩
theorem WrX.alloc (h : WrX Z B b w s) (o : Obj) : WrX (fun k => Z k ∨ k = w.heap.size) B b (w.alloc o) s := by
  obtain ⟨vl, ve, h⟩ := h
  have h2 := h.next (new_blw w o)
  refine ⟨vl, ve, h2.blk, h2.l, h2.e, h.hb, fun e => e.elim h.nb (fun e => by have := h.lt; omega), fun k hk => hk.elim (h2.zl k) (fun e => by simp; omega), fun k hk => ⟨(h.nl k hk).1, fun e => e.elim (h.nl k hk).2 (fun e => by have := (h.l.own hk).2; omega)⟩, fun k hk => ⟨(h.ne k hk).1, fun e => e.elim (h.ne k hk).2 (fun e => by have := (h.e.own hk).2; omega)⟩, h.nn⟩
/-- What an append to the list v leaves: its own block apart, all that was there; the new list lies there, or is new. -/
structure Ap (w w1 : World) (v v' : Value) : Prop where
  gr : w.grownBy w1 v.ownBlock
  at_ : ∀ g, v'.ownBlock = some g → v.ownBlock = some g ∨ w.heap.size ≤ g
theorem Ap.before (h : Ap w1 w2 vl v') (hb : Below w.heap.size w w1) : Ap w w2 vl v' :=
  ⟨⟨h.gr.os.trans hb.os, h.gr.tape.trans hb.tape, h.gr.output.trans hb.output, Nat.le_trans hb.size h.gr.size, fun k hk hn => (h.gr.block k (Nat.lt_of_lt_of_le hk hb.size) hn).trans (hb.block k hk)⟩, fun g hg => (h.at_ g hg).imp id (fun e => Nat.le_trans hb.size e)⟩
theorem Wr.apL (h : Wr Z B b w vl ve s) (ha : Ap w w1 vl v') : w1.heap[b]? = w.heap[b]? := ha.gr.block b h.lt (fun e => (h.nl b e.symm).1 rfl)
theorem Wr.apE (h : Wr Z B b w vl ve s) (ha : Ap w w1 ve v') : w1.heap[b]? = w.heap[b]? := ha.gr.block b h.lt (fun e => (h.ne b e.symm).1 rfl)
theorem Wr.cellL (h : Wr Z B b w vl ve s) (ha : Ap w w1 vl v') (o : Nat) : w1.cell? ⟨b, o, none⟩ = w.cell? ⟨b, o, none⟩ ∧ w1.frozen? ⟨b, o, none⟩ = false := by
  have := h.apL ha
  exact ⟨World.cell?_of_block this, by rw [← h.fr o]; simp [World.frozen?, this]⟩
theorem Wr.cellE (h : Wr Z B b w vl ve s) (ha : Ap w w1 ve v') (o : Nat) : w1.cell? ⟨b, o, none⟩ = w.cell? ⟨b, o, none⟩ ∧ w1.frozen? ⟨b, o, none⟩ = false := by
  have := h.apE ha
  exact ⟨World.cell?_of_block this, by rw [← h.fr o]; simp [World.frozen?, this]⟩
/-- The list, longer, stored. -/
theorem Wr.stL {l' : List UInt8} (h : Wr Z B b w vl ve s) (ha : Ap w w1 vl v') (hl : Bts 5 w1 B v' l') : Wr Z B b (w1.setCell ⟨b, 2, none⟩ v') v' ve ⟨s.c, l', s.en, s.sm, s.kd⟩ ∧ Kz Z B w (w1.setCell ⟨b, 2, none⟩ v') := by
  have hblk := (h.apL ha).trans h.blk
  have hne : ∀ g, v'.ownBlock = some g → g ≠ b := fun g hg => (ha.at_ g hg).elim (fun e => (h.nl g e).1) (fun e => by have := h.lt; omega)
  have hsz := ha.gr.size
  refine ⟨⟨heap_setCell_block hblk _, hl.keep fun g hg => RowKit.Below.heap_setCell _ _ _ _ (hne g hg), ?_, h.hb, h.nb, fun k hk => by have := h.zl k hk; simp; omega, fun g hg => ⟨hne g hg, (ha.at_ g hg).elim (fun e => (h.nl g e).2) (fun e hz => by have := h.zl g hz; omega)⟩, h.ne, fun g hg => (ha.at_ g hg).elim (h.nn g) (fun e hz => by have := (h.e.own hz).2; omega)⟩, ?_⟩
  · exact h.e.keep fun g hg => (RowKit.Below.heap_setCell _ _ _ _ (h.ne g hg).1).trans (ha.gr.block g (h.e.own hg).2 (fun e => h.nn g e.symm hg))
  · refine Kz.set (b := b) ⟨ha.gr.os, ha.gr.tape, ha.gr.output, hsz, fun k hk hz => ha.gr.block k hk (fun e => ?_)⟩ h.hb h.nb 2 v'
    rcases hz with hz | hz
    · have := (h.l.own e.symm).1; omega
    · exact (h.nl k e.symm).2 hz
/-- The signs, more of them, stored. -/
theorem Wr.stE {l' : List UInt8} (h : Wr Z B b w vl ve s) (ha : Ap w w1 ve v') (hl : Bts 5 w1 B v' l') : Wr Z B b (w1.setCell ⟨b, 3, none⟩ v') vl v' ⟨s.c, s.out, l', s.sm, s.kd⟩ ∧ Kz Z B w (w1.setCell ⟨b, 3, none⟩ v') := by
  have hblk := (h.apE ha).trans h.blk
  have hne : ∀ g, v'.ownBlock = some g → g ≠ b := fun g hg => (ha.at_ g hg).elim (fun e => (h.ne g e).1) (fun e => by have := h.lt; omega)
  have hsz := ha.gr.size
  refine ⟨⟨heap_setCell_block hblk _, ?_, hl.keep fun g hg => RowKit.Below.heap_setCell _ _ _ _ (hne g hg), h.hb, h.nb, fun k hk => by have := h.zl k hk; simp; omega, h.nl, fun g hg => ⟨hne g hg, (ha.at_ g hg).elim (fun e => (h.ne g e).2) (fun e hz => by have := h.zl g hz; omega)⟩, fun g hg hz => (ha.at_ g hz).elim (h.nn g hg) (fun e => by have := (h.l.own hg).2; omega)⟩, ?_⟩
  · exact h.l.keep fun g hg => (RowKit.Below.heap_setCell _ _ _ _ (h.nl g hg).1).trans (ha.gr.block g (h.l.own hg).2 (fun e => h.nn g hg e.symm))
  · refine Kz.set (b := b) ⟨ha.gr.os, ha.gr.tape, ha.gr.output, hsz, fun k hk hz => ha.gr.block k hk (fun e => ?_)⟩ h.hb h.nb 3 v'
    rcases hz with hz | hz
    · have := (h.e.own e.symm).1; omega
    · exact (h.ne k e.symm).2 hz
/-- The signs without the last one. -/
theorem Wr.pop {a : Option Addr} {n cap : Nat} (h : Wr Z B b w vl (.slice a n cap) s) (hn : s.en ≠ []) : Wr Z B b (w.setCell ⟨b, 3, none⟩ (.slice a (n - 1) cap)) vl (.slice a (n - 1) cap) ⟨s.c, s.out, s.en.dropLast, s.sm, s.kd⟩ ∧ Kz Z B w (w.setCell ⟨b, 3, none⟩ (.slice a (n - 1) cap)) := by
  obtain ⟨h1, h2⟩ := h.e.back hn
  have hk : ∀ g, g ≠ b → (w.setCell ⟨b, 3, none⟩ (.slice a (n - 1) cap)).heap[g]? = w.heap[g]? := fun g hg => RowKit.Below.heap_setCell _ _ _ _ hg
  refine ⟨⟨heap_setCell_block h.blk _, h.l.keep fun g hg => hk g (h.nl g hg).1, h1.keep fun g hg => hk g (h.ne g (h2 ▸ hg)).1, h.hb, h.nb, fun k hk => by have := h.zl k hk; simp; exact this, h.nl, fun g hg => h.ne g (h2 ▸ hg), fun g hg => by rw [h2]; exact h.nn g hg⟩, Kz.set (b := b) (Kz.refl w) h.hb h.nb 3 _⟩
theorem Wr.setS (h : Wr Z B b w vl ve s) (x : Bool) : Wr Z B b (w.setCell ⟨b, 4, none⟩ (.bool x)) vl ve ⟨s.c, s.out, s.en, x, s.kd⟩ ∧ Kz Z B w (w.setCell ⟨b, 4, none⟩ (.bool x)) := by
  have hk : ∀ g, g ≠ b → (w.setCell ⟨b, 4, none⟩ (.bool x)).heap[g]? = w.heap[g]? := fun g hg => RowKit.Below.heap_setCell _ _ _ _ hg
  exact ⟨⟨heap_setCell_block h.blk _, h.l.keep fun g hg => hk g (h.nl g hg).1, h.e.keep fun g hg => hk g (h.ne g hg).1, h.hb, h.nb, fun k hk => by have := h.zl k hk; simp; exact this, h.nl, h.ne, h.nn⟩, Kz.set (b := b) (Kz.refl w) h.hb h.nb 4 _⟩
theorem Wr.setK (h : Wr Z B b w vl ve s) (x : Bool) : Wr Z B b (w.setCell ⟨b, 5, none⟩ (.bool x)) vl ve ⟨s.c, s.out, s.en, s.sm, x⟩ ∧ Kz Z B w (w.setCell ⟨b, 5, none⟩ (.bool x)) := by
  have hk : ∀ g, g ≠ b → (w.setCell ⟨b, 5, none⟩ (.bool x)).heap[g]? = w.heap[g]? := fun g hg => RowKit.Below.heap_setCell _ _ _ _ hg
  exact ⟨⟨heap_setCell_block h.blk _, h.l.keep fun g hg => hk g (h.nl g hg).1, h.e.keep fun g hg => hk g (h.ne g hg).1, h.hb, h.nb, fun k hk => by have := h.zl k hk; simp; exact this, h.nl, h.ne, h.nn⟩, Kz.set (b := b) (Kz.refl w) h.hb h.nb 5 _⟩
/-- An error, stored over all. -/
theorem Wr.setB (h : Wr Z B b w vl ve s) (c : Int) :
    Wr Z B b ((((((w.setCell ⟨b, 0, none⟩ (.func (.func 24) #[] #[])).setCell ⟨b, 1, none⟩ (.int .i64 c)).setCell ⟨b, 2, none⟩ (.slice none 0 0)).setCell ⟨b, 3, none⟩ (.slice none 0 0)).setCell ⟨b, 4, none⟩ (.bool false)).setCell ⟨b, 5, none⟩ (.bool false)) (.slice none 0 0) (.slice none 0 0) (s.bad c) ∧
    Kz Z B w ((((((w.setCell ⟨b, 0, none⟩ (.func (.func 24) #[] #[])).setCell ⟨b, 1, none⟩ (.int .i64 c)).setCell ⟨b, 2, none⟩ (.slice none 0 0)).setCell ⟨b, 3, none⟩ (.slice none 0 0)).setCell ⟨b, 4, none⟩ (.bool false)).setCell ⟨b, 5, none⟩ (.bool false)) :=
  ⟨⟨heap_setCell_block (heap_setCell_block (heap_setCell_block (heap_setCell_block (heap_setCell_block (heap_setCell_block h.blk _) _) _) _) _) _, bts_nil _ _ _, bts_nil _ _ _, h.hb, h.nb, fun k hk => by have := h.zl k hk; simp; exact this, fun g hg => by simp [Value.ownBlock] at hg, fun g hg => by simp [Value.ownBlock] at hg, fun g hg => by simp [Value.ownBlock] at hg⟩,
    ((((((Kz.refl w).set h.hb h.nb 0 _).set h.hb h.nb 1 _).set h.hb h.nb 2 _).set h.hb h.nb 3 _).set h.hb h.nb 4 _).set h.hb h.nb 5 _⟩
end
/-- 'append(list, b)': the new list, and where it lies. -/
theorem wpList_append_byteA {P : Program} {ops : Array Oper} {rest : List Oper} {o : Oper} {a : Act} {Q : Exit → Act → World → Prop} (hgd : o.guard = none) (s x : Operand) (t : TypeId)
    (ho : o.op = .call { callee := .builtin .append, args := #[s, x], argTypes := #[t, t] })
    (e : TypeId) (i : TypeInfo) (ht : P.underlying t = some (.slice e)) (hi : P.info? e = some i) (hz : i.zero = some (.int .u8 0)) (hsize : i.size = 1) (hby : i.bytes = 1)
    (v : Value) (wr : World) (B : Nat) (l : List UInt8) (hb : Bts e wr B v l) (hB : B ≤ wr.heap.size) (hs : a.eval s = v)
    (z : Int) (b : UInt8) (hzb : z = (b.toNat : Int)) (G : Nat) (hG : wr.heap.size = G) (hx : a.eval x = .slice (some ⟨G, 0, none⟩) 1 1) (hlen : l.length + 1 ≤ 140737488355328)
    (h : ∀ g n cap w', Bts e w' B (.slice (some ⟨g, 0, none⟩) n cap) (l ++ [b]) → Ap wr w' v (.slice (some ⟨g, 0, none⟩) n cap) → wpList P ops Q rest (a.put o.dst (.slice (some ⟨g, 0, none⟩) n cap)) w') :
    wpList P ops Q (o :: rest) a (wr.alloc (.cells #[.int .u8 z] e)) := by
  subst hzb hG
  refine wpList_append_lies _ hgd s x t ho B e i (.int .u8 0) 1 1 ht hi hz hsize hby rfl (by decide) v l.length (bV l) hs (World.ownsRow.alloc hb _) ⟨wr.heap.size, 0, none⟩ 1 1 [.int .u8 (b.toNat : Int)] hx rfl ?_ ?_ (by decide) (by unfold maxLen; omega) (by omega) (by simp; omega) _ rfl ?_
  · intro j u hj
    match j, hj with
    | 0, hj =>
      simp at hj
      subst hj
      have h1 := heap_alloc_new wr (.cells #[.int .u8 (b.toNat : Int)] e)
      show World.cell? _ ⟨wr.heap.size, 0 + 0, none⟩ = _
      simp only [World.cell?]
      rw [h1]; rfl
  · intro u hu; simp at hu; subst hu; rfl
  · intro g cap w' hown hgr hat _
    refine h g (l.length + 1) cap w' ?_ (Ap.before ⟨hgr, fun k hk => ?_⟩ (new_blw wr _))
    · unfold Bts
      rw [bV_append, List.length_append]
      exact hown
    · have hk2 : g = k := by simpa [Value.ownBlock] using hk
      subst hk2
      rcases hat with e | e
      · exact .inl e
      · exact .inr (by rw [e]; exact Nat.le_refl _)
/-- .. of another list's bytes, at a step of a region that draws. -/
theorem step_append_bytesA {P : Program} {ops : Array Oper} {o : Oper} {a : Act} {w : World} {K : Act → World → Prop} {Q : Exit → Act → World → Prop} {E : Prop} (hgd : o.guard = none) (sl x : Operand) (t : TypeId)
    (ho : o.op = .call { callee := .builtin .append, args := #[sl, x], argTypes := #[t, t] })
    (e : TypeId) (i : TypeInfo) (ht : P.underlying t = some (.slice e)) (hi : P.info? e = some i) (hz : i.zero = some (.int .u8 0)) (hsize : i.size = 1) (hby : i.bytes = 1)
    (v : Value) (B : Nat) (l : List UInt8) (hb : Bts e w B v l) (hB : B ≤ w.heap.size) (hs : a.eval sl = v)
    (g2 n2 c2 : Nat) (C : Nat) (m : List UInt8) (hm : Bts e w C (.slice (some ⟨g2, 0, none⟩) n2 c2) m) (hx : a.eval x = .slice (some ⟨g2, 0, none⟩) n2 c2) (hne : 0 < m.length) (hlen : l.length + m.length ≤ 140737488355328)
    (h : ∀ g n cap w', Bts e w' B (.slice (some ⟨g, 0, none⟩) n cap) (l ++ m) → Ap w w' v (.slice (some ⟨g, 0, none⟩) n cap) → K (a.put o.dst (.slice (some ⟨g, 0, none⟩) n cap)) w') :
    if Region.wanted o (yielded ops a.tmps) = true then Oper.wp P o a w K Q else E := by
  have hn2 : n2 = m.length := by
    rcases hm.2 with ⟨e1, _⟩ | ⟨g, cap, cur, e1, _⟩
    · cases e1
    · simp only [Value.slice.injEq] at e1; exact e1.2.1
  subst hn2
  refine step_append_lies w hgd sl x t ho B e i (.int .u8 0) 1 1 ht hi hz hsize hby rfl (by decide) v l.length (bV l) hs hb ⟨g2, 0, none⟩ m.length c2 (bV m) hx (by rw [bV_length, Nat.mul_one]) (World.ownsRow.cells hm rfl) (bV_one m) hne (by unfold maxLen; omega) (by omega) hB _ rfl ?_
  intro g cap w' hown hgr hat _
  refine h g (l.length + m.length) cap w' ?_ ⟨hgr, fun k hk => ?_⟩
  · unfold Bts
    rw [bV_append, List.length_append]
    exact hown
  · have hk2 : g = k := by simpa [Value.ownBlock] using hk
    subst hk2
    rcases hat with e | e
    · exact .inl e
    · exact .inr (by rw [e]; exact Nat.le_refl _)
/-- .. of one byte, at such a step. -/
theorem step_append_byteA {P : Program} {ops : Array Oper} {o : Oper} {a : Act} {w : World} {K : Act → World → Prop} {Q : Exit → Act → World → Prop} {E : Prop} (hgd : o.guard = none) (sl x : Operand) (t : TypeId)
    (ho : o.op = .call { callee := .builtin .append, args := #[sl, x], argTypes := #[t, t] })
    (e : TypeId) (i : TypeInfo) (ht : P.underlying t = some (.slice e)) (hi : P.info? e = some i) (hz : i.zero = some (.int .u8 0)) (hsize : i.size = 1) (hby : i.bytes = 1)
    (v : Value) (B : Nat) (l : List UInt8) (hb : Bts e w B v l) (hB : B ≤ w.heap.size) (hs : a.eval sl = v)
    (g2 : Nat) (b : UInt8) (hm : w.heap[g2]? = some (.cells #[.int .u8 (b.toNat : Int)] e (0, 0))) (hx : a.eval x = .slice (some ⟨g2, 0, none⟩) 1 1) (hlen : l.length + 1 ≤ 140737488355328)
    (h : ∀ g n cap w', Bts e w' B (.slice (some ⟨g, 0, none⟩) n cap) (l ++ [b]) → Ap w w' v (.slice (some ⟨g, 0, none⟩) n cap) → K (a.put o.dst (.slice (some ⟨g, 0, none⟩) n cap)) w') :
    if Region.wanted o (yielded ops a.tmps) = true then Oper.wp P o a w K Q else E :=
  step_append_bytesA hgd sl x t ho e i ht hi hz hsize hby v B l hb hB hs g2 1 1 0 [b] ⟨rfl, .inr ⟨g2, 1, _, rfl, Nat.zero_le _, hm, Nat.le_refl _, by decide, rfl, rfl⟩⟩ hx (Nat.one_pos) hlen h
/-- 'append(list, s...)' of a text: the new list, and where it lies. -/
theorem run_append_textA {P : Program} (w : World) (base : Nat) (t u ty e : TypeId) (i : TypeInfo) (ht : P.underlying t = some (.slice e)) (hu : P.underlying u = some .string) (hi : P.info? e = some i) (hz : i.zero = some (.int .u8 0))
    (hsize : i.size = 1) (hby : i.bytes = 1) (v : Value) (n : Nat) (xs : List Value) (hown : w.ownsRow base e 1 v n xs) (s : ByteArray)
    (h63 : n + s.size ≤ maxLen) (hbytes : n + s.size ≤ 140737488355328) (hbase : base ≤ w.heap.size) :
    ∃ v' w', (Builtin.append_ #[t, u] ty #[v, .string s]).run P w = .ok v' w' ∧ w'.ownsRow base e 1 v' (n + s.size) (xs ++ Lib.strCells s) ∧ Ap w w' v v' := by
  obtain ⟨v', w', hr, h2, h3, _⟩ := Lib.run_append_own_string (P := P) w base t u ty e i ht hu hi hz hsize hby v n xs hown s h63 hbytes hbase
  refine ⟨v', w', hr, h2, h3, fun g hg => ?_⟩
  rcases hown.2 with ⟨rfl, rfl⟩ | ⟨g0, cap, cur, rfl, hbg, hg0, hnc, hcm, hcs, htake⟩
  · have hx : xs = [] := List.eq_nil_of_length_eq_zero (by simpa using hown.1)
    subst hx
    obtain ⟨v2, w2, hr2, h4, _⟩ := Lib.run_append_own_string (P := P) w w.heap.size t u ty e i ht hu hi hz hsize hby (.slice none 0 0) 0 [] (World.ownsRow_nil _ _ _ _) s h63 hbytes (Nat.le_refl _)
    rw [hr] at hr2
    simp only [Result.ok.injEq] at hr2
    obtain ⟨rfl, rfl⟩ := hr2
    rcases h4.2 with ⟨rfl, _⟩ | ⟨g', c', cu', rfl, h5, _⟩
    · cases hg
    · simp [Value.ownBlock] at hg
      subst hg
      exact .inr h5
  · have hxl : xs.length = n := by simpa using hown.1
    by_cases hroom : n + s.size ≤ cap
    · have hr2 := Lib.run_append_room_string (P := P) w t u ty e i ht hu hi hsize g0 n cap cur hg0 s hroom (by rw [hcs, Nat.mul_one]; omega)
      rw [hr] at hr2
      simp only [Result.ok.injEq] at hr2
      obtain ⟨rfl, rfl⟩ := hr2
      exact .inl hg
    · have holds : ∀ j u, xs[j]? = some u → w.cell? ((⟨g0, 0, none⟩ : Addr).add j) = some u := hown.cells (g := g0) rfl
      have hr2 := Lib.run_append_grow_string (P := P) w t u ty e i (.int .u8 0) ht hu hi hz ⟨g0, 0, none⟩ n cap xs (by rw [hsize]; simpa using hxl) holds s (by omega) (by simp only [maxLen] at h63; omega) (by rw [hby]; exact growslice_fits (by omega) (by omega))
      rw [hr] at hr2
      simp only [Result.ok.injEq] at hr2
      obtain ⟨rfl, rfl⟩ := hr2
      simp [Value.ownBlock] at hg
      exact .inr (by omega)
theorem wpList_append_textA {P : Program} {ops : Array Oper} {rest : List Oper} {o : Oper} {a : Act} {w : World} {Q : Exit → Act → World → Prop} (hgd : o.guard = none) (sl x : Operand) (t u : TypeId)
    (ho : o.op = .call { callee := .builtin .append, args := #[sl, x], argTypes := #[t, u] })
    (e : TypeId) (i : TypeInfo) (ht : P.underlying t = some (.slice e)) (hu : P.underlying u = some .string) (hi : P.info? e = some i) (hz : i.zero = some (.int .u8 0)) (hsize : i.size = 1) (hby : i.bytes = 1)
    (v : Value) (B : Nat) (l : List UInt8) (hb : Bts e w B v l) (hB : B ≤ w.heap.size) (hs : a.eval sl = v)
    (s : ByteArray) (hx : a.eval x = .string s) (hlen : l.length + s.size ≤ 140737488355328)
    (h : ∀ ad n cap w', Bts e w' B (.slice ad n cap) (l ++ s.data.toList) → Ap w w' v (.slice ad n cap) → wpList P ops Q rest (a.put o.dst (.slice ad n cap)) w') :
    wpList P ops Q (o :: rest) a w := by
  refine wpList_plain hgd fun K hK => ?_
  obtain ⟨v', w', hr, h2, h3⟩ := run_append_textA (P := P) w B t u o.type e i ht hu hi hz hsize hby v l.length (bV l) hb s (by unfold maxLen; omega) hlen hB
  unfold Oper.wp execOp
  simp only [ho, resolve, invoke, builtin, Sem.run_bind, Sem.run_pure, Result.andThen_ok, List.map_toArray, List.map_cons, List.map_nil, hs, hx, hr]
  obtain ⟨ad, n, c, rfl⟩ : ∃ ad n c, v' = .slice ad n c := by
    rcases h2.2 with ⟨rfl, _⟩ | ⟨G, cap, cur, rfl, _⟩
    · exact ⟨_, _, _, rfl⟩
    · exact ⟨_, _, _, rfl⟩
  refine hK _ _ (h ad n c w' ?_ h3)
  unfold Bts
  rw [bV_append, List.length_append, toList_size]
  exact h2
end Go.Proofs.YtnbhhnkcfbfdcaaGreatDoor
