/- Package utf's lay. -/
import Derived.Test.YteakcfgjjlocjaaDoorUWalk
namespace Go.Proofs.YteakcfgjjlocjaaDoor
open Go Go.RowKit
set_option linter.unusedVariables false

/-- Block g is just the bytes L. -/
def Blk (t : TypeId) (w : World) (g : Nat) (L : List UInt8) : Prop := w.heap[g]? = some (.cells (bV L).toArray t (0, 0))
theorem Blk.lt {t : TypeId} {w : World} {g : Nat} {L : List UInt8} (h : Blk t w g L) : g < w.heap.size := lt_of_block h
theorem Blk.c {t : TypeId} {w : World} {g : Nat} {L : List UInt8} (h : Blk t w g L) (j : Nat) (hj : j < L.length) : w.cell? ⟨g, j, none⟩ = some (.int .u8 (L[j].toNat : Int)) := by
  unfold Blk at h
  simp only [World.cell?, h]
  show (bV L).toArray[j]? = _
  rw [List.getElem?_toArray, bV_get L j hj]
theorem Blk.fr {t : TypeId} {w : World} {g : Nat} {L : List UInt8} (h : Blk t w g L) (o : Nat) : w.frozen? ⟨g, o, none⟩ = false := by unfold Blk at h; simp [World.frozen?, h]
theorem Blk.set {t : TypeId} {w : World} {g : Nat} {L : List UInt8} (h : Blk t w g L) (j : Nat) {z : Int} {b : UInt8} (hz : z = (b.toNat : Int)) : Blk t (w.setCell ⟨g, j, none⟩ (.int .u8 z)) g (L.set j b) := by
  subst hz
  unfold Blk
  rw [heap_setCell_block h]
  congr 2
  apply Array.toList_inj.mp
  simp only [Array.toList_setIfInBounds, bV, List.map_set]
theorem Blk.drewN {t : TypeId} {w : World} {g : Nat} {L : List UInt8} (h : Blk t w g L) (n : Nat) : Blk t (w.drewN n) g L := h
theorem Hds.only {w w' : World} {g : Nat} (h : Hds w) (ho : Only g w w') (hg : 0 ≠ g) : Hds w' := fun k hk => by
  rw [World.cell?_of_block (w := w) (ho.block _ h.lt hg)]; exact h k hk

set_option maxRecDepth 20000 in
theorem ulay_none (a : Option Addr) (cap : Nat) (r : Int) (w : World) :
    Calls Tryd.prog 34 #[.slice a 0 cap, .int .i32 r] w fun e w' => e = .returned (.tuple #[]) ∧ w' = w := by
  go_enter Tryd.func34, Tryd.ntmps34
  go_wp2
  go_end0
  exact ⟨rfl, rfl⟩

theorem set_behind (l X : List UInt8) (p j : Nat) (b : UInt8) (hp : l.length = p) : (l ++ X).set (p + j) b = l ++ X.set j b := by
  subst hp
  rw [List.set_append_right _ _ (by omega)]
  congr 2
  omega
theorem set_behind0 (l X : List UInt8) (p : Nat) (b : UInt8) (hp : l.length = p) : (l ++ X).set p b = l ++ X.set 0 b := set_behind l X p 0 b hp
theorem ofb {z : Int} {n : Nat} (h : n < 256) (hz : z = n) : z = ((b8 n).toNat : Int) := by rw [b8_toNat h]; exact hz
set_option maxRecDepth 20000 in
theorem ulay_four (g p : Nat) (cap : Nat) (l X : List UInt8) (r : Nat) (w : World) (hp : l.length = p) (hX : X.length = 4) (hr : r ≤ 1114111) (hr2 : 65536 ≤ r) (hb : Blk 5 w g (l ++ X)) (ht : Hds w) (hg : 0 ≠ g) :
    Calls Tryd.prog 34 #[.slice (some ⟨g, p, none⟩) 4 cap, .int .i32 (r : Nat)] w fun e w' => e = .returned (.tuple #[]) ∧ Blk 5 w' g (l ++ uB r) ∧ Only g w w' := by
  have hlen : (l ++ X).length = p + 4 := by rw [List.length_append, hp, hX]
  have c3 : ∃ v, w.cell? ⟨g, p + 3, none⟩ = some v := ⟨_, hb.c (p + 3) (by omega)⟩
  obtain ⟨v3, c3⟩ := c3
  have f3 := hb.fr (p + 3)
  have c2 : ∃ v, w.cell? ⟨g, p + 2, none⟩ = some v := ⟨_, hb.c (p + 2) (by omega)⟩
  obtain ⟨v2, c2⟩ := c2
  have f2 := hb.fr (p + 2)
  have c1 : ∃ v, w.cell? ⟨g, p + 1, none⟩ = some v := ⟨_, hb.c (p + 1) (by omega)⟩
  obtain ⟨v1, c1⟩ := c1
  have f1 := hb.fr (p + 1)
  have c0 : ∃ v, w.cell? ⟨g, p, none⟩ = some v := ⟨_, hb.c (p) (by omega)⟩
  obtain ⟨v0, c0⟩ := c0
  have f0 := hb.fr (p)
  have hh : w.cell? ⟨0, 4, none⟩ = some (.int .u8 240) := ht 4 (by omega)
  have HB := Lib.hid hb
  have HL := Lib.hid (And.intro hp hX)
  clear hb ht hX hp hlen
  go_enter Tryd.func34, Tryd.ntmps34
  go_wp2
  go_end0
  have e1 : r / 64 / 64 = r / 4096 := Nat.div_div_eq_div_mul r 64 64
  have e2 : r / 4096 / 64 = r / 262144 := Nat.div_div_eq_div_mul r 4096 64
  have H := ((((HB.out.set (p + 3) (z := 128 + (r : Int) % 64) (ofb (n := 128 + r % 64) (by omega) (by omega))).set (p + 2) (z := 128 + (r : Int) / 64 % 64) (ofb (n := 128 + r / 64 % 64) (by omega) (by omega))).set (p + 1) (z := 128 + (r : Int) / 64 / 64 % 64) (ofb (n := 128 + r / 4096 % 64) (by omega) (by omega))).set p (z := 240 + (r : Int) / 64 / 64 / 64) (ofb (n := 240 + r / 262144) (by omega) (by omega)))
  have HE : (((((l ++ X).set (p + 3) (b8 (128 + r % 64))).set (p + 2) (b8 (128 + r / 64 % 64))).set (p + 1) (b8 (128 + r / 4096 % 64))).set p (b8 (240 + r / 262144))) = l ++ uB r := by
    have hp := HL.out.1
    have hX := HL.out.2
    match X, hX with
    | [x0, x1, x2, x3], _ =>
      rw [set_behind _ _ _ 3 _ hp, set_behind _ _ _ 2 _ hp, set_behind _ _ _ 1 _ hp, set_behind0 _ _ _ _ hp]
      simp only [List.set_cons_succ, List.set_cons_zero]
      unfold uB
      rw [if_neg (by omega), if_neg (by omega), if_neg (by omega)]
  rw [HE] at H
  exact ⟨rfl, H, (((((Only.refl g w).setCell _ _).setCell _ _).setCell _ _).setCell _ _)⟩
set_option maxRecDepth 20000 in
theorem ulay_three (g p : Nat) (cap : Nat) (l X : List UInt8) (r : Nat) (w : World) (hp : l.length = p) (hX : X.length = 3) (hr : r < 65536) (hr2 : 2048 ≤ r) (hb : Blk 5 w g (l ++ X)) (ht : Hds w) (hg : 0 ≠ g) :
    Calls Tryd.prog 34 #[.slice (some ⟨g, p, none⟩) 3 cap, .int .i32 (r : Nat)] w fun e w' => e = .returned (.tuple #[]) ∧ Blk 5 w' g (l ++ uB r) ∧ Only g w w' := by
  have hlen : (l ++ X).length = p + 3 := by rw [List.length_append, hp, hX]
  have c2 : ∃ v, w.cell? ⟨g, p + 2, none⟩ = some v := ⟨_, hb.c (p + 2) (by omega)⟩
  obtain ⟨v2, c2⟩ := c2
  have f2 := hb.fr (p + 2)
  have c1 : ∃ v, w.cell? ⟨g, p + 1, none⟩ = some v := ⟨_, hb.c (p + 1) (by omega)⟩
  obtain ⟨v1, c1⟩ := c1
  have f1 := hb.fr (p + 1)
  have c0 : ∃ v, w.cell? ⟨g, p, none⟩ = some v := ⟨_, hb.c (p) (by omega)⟩
  obtain ⟨v0, c0⟩ := c0
  have f0 := hb.fr (p)
  have hh : w.cell? ⟨0, 3, none⟩ = some (.int .u8 224) := ht 3 (by omega)
  have HB := Lib.hid hb
  have HL := Lib.hid (And.intro hp hX)
  clear hb ht hX hp hlen
  go_enter Tryd.func34, Tryd.ntmps34
  go_wp2
  go_end0
  have e1 : r / 64 / 64 = r / 4096 := Nat.div_div_eq_div_mul r 64 64
  have e2 : r / 4096 / 64 = r / 262144 := Nat.div_div_eq_div_mul r 4096 64
  have H := (((HB.out.set (p + 2) (z := 128 + (r : Int) % 64) (ofb (n := 128 + r % 64) (by omega) (by omega))).set (p + 1) (z := 128 + (r : Int) / 64 % 64) (ofb (n := 128 + r / 64 % 64) (by omega) (by omega))).set p (z := 224 + (r : Int) / 64 / 64) (ofb (n := 224 + r / 4096) (by omega) (by omega)))
  have HE : ((((l ++ X).set (p + 2) (b8 (128 + r % 64))).set (p + 1) (b8 (128 + r / 64 % 64))).set p (b8 (224 + r / 4096))) = l ++ uB r := by
    have hp := HL.out.1
    have hX := HL.out.2
    match X, hX with
    | [x0, x1, x2], _ =>
      rw [set_behind _ _ _ 2 _ hp, set_behind _ _ _ 1 _ hp, set_behind0 _ _ _ _ hp]
      simp only [List.set_cons_succ, List.set_cons_zero]
      unfold uB
      rw [if_neg (by omega), if_neg (by omega), if_pos (by omega)]
  rw [HE] at H
  exact ⟨rfl, H, ((((Only.refl g w).setCell _ _).setCell _ _).setCell _ _)⟩
set_option maxRecDepth 20000 in
theorem ulay_two (g p : Nat) (cap : Nat) (l X : List UInt8) (r : Nat) (w : World) (hp : l.length = p) (hX : X.length = 2) (hr : r < 2048) (hr2 : 128 ≤ r) (hb : Blk 5 w g (l ++ X)) (ht : Hds w) (hg : 0 ≠ g) :
    Calls Tryd.prog 34 #[.slice (some ⟨g, p, none⟩) 2 cap, .int .i32 (r : Nat)] w fun e w' => e = .returned (.tuple #[]) ∧ Blk 5 w' g (l ++ uB r) ∧ Only g w w' := by
  have hlen : (l ++ X).length = p + 2 := by rw [List.length_append, hp, hX]
  have c1 : ∃ v, w.cell? ⟨g, p + 1, none⟩ = some v := ⟨_, hb.c (p + 1) (by omega)⟩
  obtain ⟨v1, c1⟩ := c1
  have f1 := hb.fr (p + 1)
  have c0 : ∃ v, w.cell? ⟨g, p, none⟩ = some v := ⟨_, hb.c (p) (by omega)⟩
  obtain ⟨v0, c0⟩ := c0
  have f0 := hb.fr (p)
  have hh : w.cell? ⟨0, 2, none⟩ = some (.int .u8 192) := ht 2 (by omega)
  have HB := Lib.hid hb
  have HL := Lib.hid (And.intro hp hX)
  clear hb ht hX hp hlen
  go_enter Tryd.func34, Tryd.ntmps34
  go_wp2
  go_end0
  have e1 : r / 64 / 64 = r / 4096 := Nat.div_div_eq_div_mul r 64 64
  have e2 : r / 4096 / 64 = r / 262144 := Nat.div_div_eq_div_mul r 4096 64
  have H := ((HB.out.set (p + 1) (z := 128 + (r : Int) % 64) (ofb (n := 128 + r % 64) (by omega) (by omega))).set p (z := 192 + (r : Int) / 64) (ofb (n := 192 + r / 64) (by omega) (by omega)))
  have HE : (((l ++ X).set (p + 1) (b8 (128 + r % 64))).set p (b8 (192 + r / 64))) = l ++ uB r := by
    have hp := HL.out.1
    have hX := HL.out.2
    match X, hX with
    | [x0, x1], _ =>
      rw [set_behind _ _ _ 1 _ hp, set_behind0 _ _ _ _ hp]
      simp only [List.set_cons_succ, List.set_cons_zero]
      unfold uB
      rw [if_neg (by omega), if_pos (by omega)]
  rw [HE] at H
  exact ⟨rfl, H, (((Only.refl g w).setCell _ _).setCell _ _)⟩
set_option maxRecDepth 20000 in
theorem ulay_one (g p : Nat) (cap : Nat) (l X : List UInt8) (r : Nat) (w : World) (hp : l.length = p) (hX : X.length = 1) (hr : r < 128) (hr2 : 0 ≤ r) (hb : Blk 5 w g (l ++ X)) (ht : Hds w) (hg : 0 ≠ g) :
    Calls Tryd.prog 34 #[.slice (some ⟨g, p, none⟩) 1 cap, .int .i32 (r : Nat)] w fun e w' => e = .returned (.tuple #[]) ∧ Blk 5 w' g (l ++ uB r) ∧ Only g w w' := by
  have hlen : (l ++ X).length = p + 1 := by rw [List.length_append, hp, hX]
  have c0 : ∃ v, w.cell? ⟨g, p, none⟩ = some v := ⟨_, hb.c (p) (by omega)⟩
  obtain ⟨v0, c0⟩ := c0
  have f0 := hb.fr (p)
  have hh : w.cell? ⟨0, 1, none⟩ = some (.int .u8 0) := ht 1 (by omega)
  have HB := Lib.hid hb
  have HL := Lib.hid (And.intro hp hX)
  clear hb ht hX hp hlen
  go_enter Tryd.func34, Tryd.ntmps34
  go_wp2
  go_end0
  have e1 : r / 64 / 64 = r / 4096 := Nat.div_div_eq_div_mul r 64 64
  have e2 : r / 4096 / 64 = r / 262144 := Nat.div_div_eq_div_mul r 4096 64
  have H := (HB.out.set p (z := (r : Int)) (ofb (n := r) (by omega) (by omega)))
  have HE : ((l ++ X).set p (b8 (r))) = l ++ uB r := by
    have hp := HL.out.1
    have hX := HL.out.2
    match X, hX with
    | [x0], _ =>
      rw [set_behind0 _ _ _ _ hp]
      simp only [List.set_cons_zero]
      unfold uB
      rw [if_pos (by omega)]
  rw [HE] at H
  exact ⟨rfl, H, ((Only.refl g w).setCell _ _)⟩
end Go.Proofs.YteakcfgjjlocjaaDoor
