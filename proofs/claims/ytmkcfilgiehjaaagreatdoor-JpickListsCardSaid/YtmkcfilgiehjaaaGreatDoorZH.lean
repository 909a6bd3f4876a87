/- Several texts in one (UWalk, ULay, UPut, URefA): each begins with its own words. -/
import Derived.Test.YtmkcfilgiehjaaaGreatDoorZG
/- Package utf's walk, Check, Count, Cut. -/
namespace Go.Proofs.YtmkcfilgiehjaaaGreatDoor
open Go Go.RowKit
set_option linter.unusedVariables false

def UWalkRel (s : ByteArray) (n : Int) (W : World) (e c : Value) (wr : World) : Prop :=
  ∃ E C m : Nat, e = .int .i64 (E : Nat) ∧ c = .int .i64 (C : Nat) ∧ WPre s n E C ∧ wr = W.drewN m
set_option maxRecDepth 20000 in
theorem uwalk_any (s : ByteArray) (n : Int) (w : World) (hs : s.size ≤ 1125899906842624) (ht : Hds w) :
    Calls Tryz.prog 163 #[.string s, .int .i64 n] w fun e w' => e = .returned (.tuple #[.int .i64 ((wk s n).1 : Nat), .int .i64 ((wk s n).2 : Nat)]) ∧ ∃ m, w' = w.drewN m := by
  have HR := Lib.hid (fun (a : Nat) (w : World) (h : a ≤ 1125899906842624) (ht : Hds w) => urune_any s a w hs (by omega) (by omega) ht)
  have HT := Lib.hid ht
  clear ht
  go_enter Tryz.func163, Tryz.ntmps163
  go_wp2_with fail
  go_loopw [4, 5] (fun e c wr => UWalkRel s n w e c wr) (fun e _ _ => s.size + 1 - (intOf e).toNat)
  case atStart => exact ⟨0, 0, 0, rfl, rfl, WPre.zero s n, rfl⟩
  case round =>
    obtain ⟨E, C, m, rfl, rfl, hp, rfl⟩ := hrel
    have hE := hp.le
    have hC := hp.count
    have HRE := Lib.hid (HR.out E (w.drewN m) (by omega) (HT.out.drewN m))
    rw [uR_at] at HRE
    have hst := Lib.hid (fun h => wk_of hp (n := n) h)
    have hnx := Lib.hid (fun h => hp.step (n := n) h)
    have hle := dAt_le (s := s) (e := E)
    unfold WStop at hst hnx
    generalize (dAt s E).1 = R at *
    obtain ⟨z, hz⟩ : ∃ z, z = (dAt s E).2 := ⟨_, rfl⟩
    rw [← hz] at HRE hst hnx hle
    clear hz
    have z1 : IntKind.i64.wrap ((E : Int) + (z : Int)) = (E : Int) + (z : Int) := IntWalk.i64_in _ (by omega)
    have z2 : IntKind.i64.wrap ((C : Int) + 1) = (C : Int) + 1 := IntWalk.i64_in _ (by omega)
    by_cases h0 : z = 0
    · have p1 : ((z : Int) == 0) = true := by rw [h0]; rfl
      have HK := Lib.hid (hst.out (.inl h0))
      clear hst hnx hle hp h0
      go_wp2_with fail
      with_reducible refine HRE.out.mono ?_
      rintro e w' ⟨rfl, m2, hw⟩
      rw [hw]; clear hw
      go_wp2
      go_ret2
      exact ⟨by rw [HK.out]; rfl, m + m2, rfl⟩
    · have p1 : ((z : Int) == 0) = false := beq_eq_false_iff_ne.mpr (by omega)
      by_cases h1 : n < (E : Int) + (z : Int)
      · have p2 : decide (n < (E : Int) + (z : Int)) = true := decide_eq_true h1
        have HK := Lib.hid (hst.out (.inr h1))
        clear hst hnx hle hp h0 h1
        go_wp2_with fail
        with_reducible refine HRE.out.mono ?_
        rintro e w' ⟨rfl, m2, hw⟩
        rw [hw]; clear hw
        go_wp2
        go_ret2
        exact ⟨by rw [HK.out]; rfl, m + m2, rfl⟩
      · have p2 : decide (n < (E : Int) + (z : Int)) = false := decide_eq_false h1
        have HP := Lib.hid (hnx.out (fun h => by rcases h with h | h <;> omega))
        have hle2 := hle (by omega)
        clear hst hnx hle hp h1
        go_wp2_with fail
        with_reducible refine HRE.out.mono ?_
        rintro e w' ⟨rfl, m2, hw⟩
        rw [hw]; clear hw
        go_wp2
        go_roundw
        case rel => exact ⟨E + z, C + 1, m + m2, by go_num, by go_num, HP.out, rfl⟩
        case measure => simp [intOf]; omega

theorem ucheck_any (s : ByteArray) (w : World) (hs : s.size ≤ 1125899906842624) (ht : Hds w) :
    Calls Tryz.prog 157 #[.string s] w fun e w' => e = .returned (.int .i64 (uCheck s)) ∧ ∃ m, w' = w.drewN m := by
  have HK := Lib.hid (uwalk_any s s.size w hs ht)
  have hle := wk_le s s.size
  by_cases h : (wk s s.size).1 = s.size
  · have hC := Lib.hid (show uCheck s = -1 by unfold uCheck; rw [if_pos h])
    rw [h] at HK
    generalize (wk s s.size).2 = C at *
    clear h hle ht
    go_enter Tryz.func157, Tryz.ntmps157
    go_wp2_with fail
    with_reducible refine HK.out.mono ?_
    rintro e w' ⟨rfl, m2, hw⟩
    rw [hw]; clear hw
    go_wp2
    go_ret
    exact ⟨by rw [hC.out]; rfl, _, rfl⟩
  · have hC := Lib.hid (show uCheck s = (wk s s.size).1 by unfold uCheck; rw [if_neg h])
    generalize (wk s s.size).2 = C at *
    generalize (wk s s.size).1 = E at *
    have p1 : ((E : Int) == (s.size : Int)) = false := beq_eq_false_iff_ne.mpr (by omega)
    clear h hle ht
    go_enter Tryz.func157, Tryz.ntmps157
    go_wp2_with fail
    with_reducible refine HK.out.mono ?_
    rintro e w' ⟨rfl, m2, hw⟩
    rw [hw]; clear hw
    go_wp2
    go_ret
    exact ⟨by rw [hC.out]; rfl, _, rfl⟩


end Go.Proofs.YtmkcfilgiehjaaaGreatDoor
/- Package utf's lay. -/
namespace Go.Proofs.YtmkcfilgiehjaaaGreatDoor
open Go Go.RowKit
set_option linter.unusedVariables false

/-- Block g is just the bytes L. -/
def Blk (t : TypeId) (w : World) (g : Nat) (L : List UInt8) : Prop := w.heap[g]? = some (.cells (bV L).toArray t (0, 0))
theorem Blk.lt {t : TypeId} {w : World} {g : Nat} {L : List UInt8} (h : Blk t w g L) : g < w.heap.size := lt_of_block h
theorem Blk.c {t : TypeId} {w : World} {g : Nat} {L : List UInt8} (h : Blk t w g L) (j : Nat) (hj : j < L.length) : w.cell? ⟨g, j, none⟩ = some (.int .u8 (L[j].toNat : Int)) := by
  unfold Blk at h
  simp only [World.cell?, h]
  show (bV L).toArray[j]? = _
  rw [List.getElem?_toArray, bV_get L j hj]
theorem Blk.fr {t : TypeId} {w : World} {g : Nat} {L : List UInt8} (h : Blk t w g L) (o : Nat) : w.frozen? ⟨g, o, none⟩ = false := by unfold Blk at h; simp [World.frozen?, h]
theorem Blk.set {t : TypeId} {w : World} {g : Nat} {L : List UInt8} (h : Blk t w g L) (j : Nat) {z : Int} {b : UInt8} (hz : z = (b.toNat : Int)) : Blk t (w.setCell ⟨g, j, none⟩ (.int .u8 z)) g (L.set j b) := by
  subst hz
  unfold Blk
  rw [heap_setCell_block h]
  congr 2
  apply Array.toList_inj.mp
  simp only [Array.toList_setIfInBounds, bV, List.map_set]
theorem Blk.drewN {t : TypeId} {w : World} {g : Nat} {L : List UInt8} (h : Blk t w g L) (n : Nat) : Blk t (w.drewN n) g L := h
theorem Hds.only {w w' : World} {g : Nat} (h : Hds w) (ho : Only g w w') (hg : 3 ≠ g) : Hds w' := fun k hk => by
  rw [World.cell?_of_block (w := w) (ho.block _ h.lt hg)]; exact h k hk

set_option maxRecDepth 20000 in
theorem ulay_none (a : Option Addr) (cap : Nat) (r : Int) (w : World) :
    Calls Tryz.prog 159 #[.slice a 0 cap, .int .i32 r] w fun e w' => e = .returned (.tuple #[]) ∧ w' = w := by
  go_enter Tryz.func159, Tryz.ntmps159
  go_wp2
  go_end0
  exact ⟨rfl, rfl⟩

theorem set_behind (l X : List UInt8) (p j : Nat) (b : UInt8) (hp : l.length = p) : (l ++ X).set (p + j) b = l ++ X.set j b := by
  subst hp
  rw [List.set_append_right _ _ (by omega)]
  congr 2
  omega
theorem set_behind0 (l X : List UInt8) (p : Nat) (b : UInt8) (hp : l.length = p) : (l ++ X).set p b = l ++ X.set 0 b := set_behind l X p 0 b hp
theorem ofb {z : Int} {n : Nat} (h : n < 256) (hz : z = n) : z = ((b8 n).toNat : Int) := by rw [b8_toNat h]; exact hz
set_option maxRecDepth 20000 in
theorem ulay_four (g p : Nat) (cap : Nat) (l X : List UInt8) (r : Nat) (w : World) (hp : l.length = p) (hX : X.length = 4) (hr : r ≤ 1114111) (hr2 : 65536 ≤ r) (hb : Blk 5 w g (l ++ X)) (ht : Hds w) (hg : 3 ≠ g) :
    Calls Tryz.prog 159 #[.slice (some ⟨g, p, none⟩) 4 cap, .int .i32 (r : Nat)] w fun e w' => e = .returned (.tuple #[]) ∧ Blk 5 w' g (l ++ uB r) ∧ Only g w w' := by
  have hlen : (l ++ X).length = p + 4 := by rw [List.length_append, hp, hX]
  have c3 : ∃ v, w.cell? ⟨g, p + 3, none⟩ = some v := ⟨_, hb.c (p + 3) (by omega)⟩
  obtain ⟨v3, c3⟩ := c3
  have f3 := hb.fr (p + 3)
  have c2 : ∃ v, w.cell? ⟨g, p + 2, none⟩ = some v := ⟨_, hb.c (p + 2) (by omega)⟩
  obtain ⟨v2, c2⟩ := c2
  have f2 := hb.fr (p + 2)
  have c1 : ∃ v, w.cell? ⟨g, p + 1, none⟩ = some v := ⟨_, hb.c (p + 1) (by omega)⟩
  obtain ⟨v1, c1⟩ := c1
  have f1 := hb.fr (p + 1)
  have c0 : ∃ v, w.cell? ⟨g, p, none⟩ = some v := ⟨_, hb.c (p) (by omega)⟩
  obtain ⟨v0, c0⟩ := c0
  have f0 := hb.fr (p)
  have hh : w.cell? ⟨3, 4, none⟩ = some (.int .u8 240) := ht 4 (by omega)
  have HB := Lib.hid hb
  have HL := Lib.hid (And.intro hp hX)
  clear hb ht hX hp hlen
  go_enter Tryz.func159, Tryz.ntmps159
  go_wp2
  go_end0
  have e1 : r / 64 / 64 = r / 4096 := Nat.div_div_eq_div_mul r 64 64
  have e2 : r / 4096 / 64 = r / 262144 := Nat.div_div_eq_div_mul r 4096 64
  have H := ((((HB.out.set (p + 3) (z := 128 + (r : Int) % 64) (ofb (n := 128 + r % 64) (by omega) (by omega))).set (p + 2) (z := 128 + (r : Int) / 64 % 64) (ofb (n := 128 + r / 64 % 64) (by omega) (by omega))).set (p + 1) (z := 128 + (r : Int) / 64 / 64 % 64) (ofb (n := 128 + r / 4096 % 64) (by omega) (by omega))).set p (z := 240 + (r : Int) / 64 / 64 / 64) (ofb (n := 240 + r / 262144) (by omega) (by omega)))
  have HE : (((((l ++ X).set (p + 3) (b8 (128 + r % 64))).set (p + 2) (b8 (128 + r / 64 % 64))).set (p + 1) (b8 (128 + r / 4096 % 64))).set p (b8 (240 + r / 262144))) = l ++ uB r := by
    have hp := HL.out.1
    have hX := HL.out.2
    match X, hX with
    | [x0, x1, x2, x3], _ =>
      rw [set_behind _ _ _ 3 _ hp, set_behind _ _ _ 2 _ hp, set_behind _ _ _ 1 _ hp, set_behind0 _ _ _ _ hp]
      simp only [List.set_cons_succ, List.set_cons_zero]
      unfold uB
      rw [if_neg (by omega), if_neg (by omega), if_neg (by omega)]
  rw [HE] at H
  exact ⟨rfl, H, (((((Only.refl g w).setCell _ _).setCell _ _).setCell _ _).setCell _ _)⟩
set_option maxRecDepth 20000 in
theorem ulay_three (g p : Nat) (cap : Nat) (l X : List UInt8) (r : Nat) (w : World) (hp : l.length = p) (hX : X.length = 3) (hr : r < 65536) (hr2 : 2048 ≤ r) (hb : Blk 5 w g (l ++ X)) (ht : Hds w) (hg : 3 ≠ g) :
    Calls Tryz.prog 159 #[.slice (some ⟨g, p, none⟩) 3 cap, .int .i32 (r : Nat)] w fun e w' => e = .returned (.tuple #[]) ∧ Blk 5 w' g (l ++ uB r) ∧ Only g w w' := by
  have hlen : (l ++ X).length = p + 3 := by rw [List.length_append, hp, hX]
  have c2 : ∃ v, w.cell? ⟨g, p + 2, none⟩ = some v := ⟨_, hb.c (p + 2) (by omega)⟩
  obtain ⟨v2, c2⟩ := c2
  have f2 := hb.fr (p + 2)
  have c1 : ∃ v, w.cell? ⟨g, p + 1, none⟩ = some v := ⟨_, hb.c (p + 1) (by omega)⟩
  obtain ⟨v1, c1⟩ := c1
  have f1 := hb.fr (p + 1)
  have c0 : ∃ v, w.cell? ⟨g, p, none⟩ = some v := ⟨_, hb.c (p) (by omega)⟩
  obtain ⟨v0, c0⟩ := c0
  have f0 := hb.fr (p)
  have hh : w.cell? ⟨3, 3, none⟩ = some (.int .u8 224) := ht 3 (by omega)
  have HB := Lib.hid hb
  have HL := Lib.hid (And.intro hp hX)
  clear hb ht hX hp hlen
  go_enter Tryz.func159, Tryz.ntmps159
  go_wp2
  go_end0
  have e1 : r / 64 / 64 = r / 4096 := Nat.div_div_eq_div_mul r 64 64
  have e2 : r / 4096 / 64 = r / 262144 := Nat.div_div_eq_div_mul r 4096 64
  have H := (((HB.out.set (p + 2) (z := 128 + (r : Int) % 64) (ofb (n := 128 + r % 64) (by omega) (by omega))).set (p + 1) (z := 128 + (r : Int) / 64 % 64) (ofb (n := 128 + r / 64 % 64) (by omega) (by omega))).set p (z := 224 + (r : Int) / 64 / 64) (ofb (n := 224 + r / 4096) (by omega) (by omega)))
  have HE : ((((l ++ X).set (p + 2) (b8 (128 + r % 64))).set (p + 1) (b8 (128 + r / 64 % 64))).set p (b8 (224 + r / 4096))) = l ++ uB r := by
    have hp := HL.out.1
    have hX := HL.out.2
    match X, hX with
    | [x0, x1, x2], _ =>
      rw [set_behind _ _ _ 2 _ hp, set_behind _ _ _ 1 _ hp, set_behind0 _ _ _ _ hp]
      simp only [List.set_cons_succ, List.set_cons_zero]
      unfold uB
      rw [if_neg (by omega), if_neg (by omega), if_pos (by omega)]
  rw [HE] at H
  exact ⟨rfl, H, ((((Only.refl g w).setCell _ _).setCell _ _).setCell _ _)⟩
set_option maxRecDepth 20000 in
theorem ulay_two (g p : Nat) (cap : Nat) (l X : List UInt8) (r : Nat) (w : World) (hp : l.length = p) (hX : X.length = 2) (hr : r < 2048) (hr2 : 128 ≤ r) (hb : Blk 5 w g (l ++ X)) (ht : Hds w) (hg : 3 ≠ g) :
    Calls Tryz.prog 159 #[.slice (some ⟨g, p, none⟩) 2 cap, .int .i32 (r : Nat)] w fun e w' => e = .returned (.tuple #[]) ∧ Blk 5 w' g (l ++ uB r) ∧ Only g w w' := by
  have hlen : (l ++ X).length = p + 2 := by rw [List.length_append, hp, hX]
  have c1 : ∃ v, w.cell? ⟨g, p + 1, none⟩ = some v := ⟨_, hb.c (p + 1) (by omega)⟩
  obtain ⟨v1, c1⟩ := c1
  have f1 := hb.fr (p + 1)
  have c0 : ∃ v, w.cell? ⟨g, p, none⟩ = some v := ⟨_, hb.c (p) (by omega)⟩
  obtain ⟨v0, c0⟩ := c0
  have f0 := hb.fr (p)
  have hh : w.cell? ⟨3, 2, none⟩ = some (.int .u8 192) := ht 2 (by omega)
  have HB := Lib.hid hb
  have HL := Lib.hid (And.intro hp hX)
  clear hb ht hX hp hlen
  go_enter Tryz.func159, Tryz.ntmps159
  go_wp2
  go_end0
  have e1 : r / 64 / 64 = r / 4096 := Nat.div_div_eq_div_mul r 64 64
  have e2 : r / 4096 / 64 = r / 262144 := Nat.div_div_eq_div_mul r 4096 64
  have H := ((HB.out.set (p + 1) (z := 128 + (r : Int) % 64) (ofb (n := 128 + r % 64) (by omega) (by omega))).set p (z := 192 + (r : Int) / 64) (ofb (n := 192 + r / 64) (by omega) (by omega)))
  have HE : (((l ++ X).set (p + 1) (b8 (128 + r % 64))).set p (b8 (192 + r / 64))) = l ++ uB r := by
    have hp := HL.out.1
    have hX := HL.out.2
    match X, hX with
    | [x0, x1], _ =>
      rw [set_behind _ _ _ 1 _ hp, set_behind0 _ _ _ _ hp]
      simp only [List.set_cons_succ, List.set_cons_zero]
      unfold uB
      rw [if_neg (by omega), if_pos (by omega)]
  rw [HE] at H
  exact ⟨rfl, H, (((Only.refl g w).setCell _ _).setCell _ _)⟩
set_option maxRecDepth 20000 in
theorem ulay_one (g p : Nat) (cap : Nat) (l X : List UInt8) (r : Nat) (w : World) (hp : l.length = p) (hX : X.length = 1) (hr : r < 128) (hr2 : 0 ≤ r) (hb : Blk 5 w g (l ++ X)) (ht : Hds w) (hg : 3 ≠ g) :
    Calls Tryz.prog 159 #[.slice (some ⟨g, p, none⟩) 1 cap, .int .i32 (r : Nat)] w fun e w' => e = .returned (.tuple #[]) ∧ Blk 5 w' g (l ++ uB r) ∧ Only g w w' := by
  have hlen : (l ++ X).length = p + 1 := by rw [List.length_append, hp, hX]
  have c0 : ∃ v, w.cell? ⟨g, p, none⟩ = some v := ⟨_, hb.c (p) (by omega)⟩
  obtain ⟨v0, c0⟩ := c0
  have f0 := hb.fr (p)
  have hh : w.cell? ⟨3, 1, none⟩ = some (.int .u8 0) := ht 1 (by omega)
  have HB := Lib.hid hb
  have HL := Lib.hid (And.intro hp hX)
  clear hb ht hX hp hlen
  go_enter Tryz.func159, Tryz.ntmps159
  go_wp2
  go_end0
  have e1 : r / 64 / 64 = r / 4096 := Nat.div_div_eq_div_mul r 64 64
  have e2 : r / 4096 / 64 = r / 262144 := Nat.div_div_eq_div_mul r 4096 64
  have H := (HB.out.set p (z := (r : Int)) (ofb (n := r) (by omega) (by omega)))
  have HE : ((l ++ X).set p (b8 (r))) = l ++ uB r := by
    have hp := HL.out.1
    have hX := HL.out.2
    match X, hX with
    | [x0], _ =>
      rw [set_behind0 _ _ _ _ hp]
      simp only [List.set_cons_zero]
      unfold uB
      rw [if_pos (by omega)]
  rw [HE] at H
  exact ⟨rfl, H, ((Only.refl g w).setCell _ _)⟩
end Go.Proofs.YtmkcfilgiehjaaaGreatDoor
/- Package utf's Put. -/
namespace Go.Proofs.YtmkcfilgiehjaaaGreatDoor
open Go Go.RowKit
set_option linter.unusedVariables false

/-- The bytes that are laid of any number. -/
def uBI (r : Int) : List UInt8 := if uIs r = true then uB r.toNat else []
theorem uBI_len (r : Int) : (uBI r).length = uW r := by
  unfold uBI
  by_cases h : uIs r = true
  · rw [if_pos h]
    obtain ⟨n, rfl⟩ := Int.eq_ofNat_of_zero_le (uIs_iff.mp h).1
    exact (uW_len h).symm
  · rw [if_neg h]; unfold uW; rw [if_neg h]; rfl
theorem uW_le (r : Int) : uW r ≤ 4 := by
  unfold uW
  split
  · split
    · omega
    · split
      · omega
      · split <;> omega
  · omega
theorem ulay_any (g p cap : Nat) (l X : List UInt8) (r : Int) (w : World) (hp : l.length = p) (hX : X.length = uW r) (a : Option Addr) (ha : uW r ≠ 0 → a = some ⟨g, p, none⟩) (hb : Blk 5 w g (l ++ X)) (ht : Hds w) (hg : 3 ≠ g) :
    Calls Tryz.prog 159 #[.slice a (uW r) cap, .int .i32 r] w fun e w' => e = .returned (.tuple #[]) ∧ Blk 5 w' g (l ++ uBI r) ∧ Only g w w' := by
  by_cases h : uIs r = true
  · obtain ⟨h1, h2, h3⟩ := uIs_iff.mp h
    obtain ⟨n, rfl⟩ := Int.eq_ofNat_of_zero_le h1
    have hU : uBI (n : Int) = uB n := by unfold uBI; rw [if_pos h, Int.toNat_natCast]
    rw [hU]
    have hW := uW_len h
    by_cases c1 : n < 128
    · have e : uW (n : Int) = 1 := by rw [hW]; unfold uB; rw [if_pos c1]; rfl
      rw [ha (by omega), e]
      exact ulay_one g p cap l X n w hp (by rw [hX, e]) c1 (Nat.zero_le _) hb ht hg
    · by_cases c2 : n < 2048
      · have e := uW2 (r := n) (by omega) c2
        rw [ha (by omega), e]
        exact ulay_two g p cap l X n w hp (by rw [hX, e]) c2 (by omega) hb ht hg
      · by_cases c3 : n < 65536
        · have e := uW3 (r := n) (by omega) c3 (by omega)
          rw [ha (by omega), e]
          exact ulay_three g p cap l X n w hp (by rw [hX, e]) c3 (by omega) hb ht hg
        · have e := uW4 (r := n) (by omega) (by omega)
          rw [ha (by omega), e]
          exact ulay_four g p cap l X n w hp (by rw [hX, e]) (by omega) (by omega) hb ht hg
  · have hU : uBI r = [] := by unfold uBI; rw [if_neg h]
    have e : uW r = 0 := by unfold uW; rw [if_neg h]
    have hX0 : X = [] := List.eq_nil_of_length_eq_zero (by rw [hX, e])
    subst hX0
    rw [hU, e]
    refine (ulay_none a cap r w).mono ?_
    rintro e w' ⟨rfl, rfl⟩
    exact ⟨rfl, hb, Only.refl _ _⟩
/-- 'make([]byte, n)'. -/
theorem make_all (n : Nat) (w : World) (hl : n ≤ 140737488355000) :
    (Instr.makeSlice 93 (.int .i64 (n : Int)) (.int .i64 (n : Int))).run Tryz.prog w = .ok (.slice (some ⟨w.heap.size, 0, none⟩) n n) (w.alloc (.cells (Array.replicate n (.int .u8 0)) 5)) := by
  have := make_bytes n 0 w (by omega)
  simpa using this
/-- What 'copy' of what came in makes of a longer list that has just been made. -/
theorem copy_all (P : Program) (t e ty : TypeId) (ht : P.underlying t = some (.slice e)) (hi : (P.info? e).map (·.size) = some 1)
    (W : World) (a : Option Addr) (cap more : Nat) (l : List UInt8) (hin : BIn W a l) :
    ∃ w2, (Builtin.copy_ #[t, t] ty #[.slice (some ⟨W.heap.size, 0, none⟩) (l.length + more) (l.length + more), .slice a l.length cap]).run P (W.alloc (.cells (Array.replicate (l.length + more) (.int .u8 0)) e)) = .ok (goInt l.length) w2 ∧
      Blk e w2 W.heap.size (l ++ List.replicate more 0) ∧ Below W.heap.size W w2 := by
  have hnew : (W.alloc (.cells (Array.replicate (l.length + more) (.int .u8 0)) e)).heap[W.heap.size]? = some (.cells (Array.replicate (l.length + more) (.int .u8 0)) e (0, 0)) := heap_alloc_new W _
  have hb1 : Below W.heap.size W (W.alloc (.cells (Array.replicate (l.length + more) (.int .u8 0)) e)) := (Below.refl _ _).alloc (Nat.le_refl _) _
  have hrep : bV (List.replicate more 0) = List.replicate more (.int .u8 0) := by simp [bV, List.map_replicate]
  by_cases h0 : l.length = 0
  · obtain rfl := List.eq_nil_of_length_eq_zero h0
    refine ⟨_, run_copy_none (P := P) _ t t ty e _ a _ _ 0 cap ht hi (Nat.zero_min _), ?_, hb1⟩
    unfold Blk
    rw [hnew, List.nil_append, hrep]
    simp
  · obtain ⟨b, off, rfl, hbl, _⟩ := hin 0 (by omega)
    have hr := run_copy_row (P := P) (W.alloc (.cells (Array.replicate (l.length + more) (.int .u8 0)) e)) t t ty e W.heap.size 0 (l.length + more) (l.length + more) ⟨b, off, none⟩ l.length cap _ e (bV l) ht hi hnew
      (by rw [bV_length]; exact (Nat.min_eq_left (Nat.le_add_right _ _)).symm) (fun j v hj => by
        have hjl : j < l.length := by
          have := (List.getElem?_eq_some_iff.1 hj).1
          rwa [bV_length] at this
        obtain ⟨b', off', he, hb', hc⟩ := hin j hjl
        obtain ⟨rfl, rfl⟩ : b = b' ∧ off = off' := by simpa using he
        rw [bV_get l j hjl] at hj
        have e1 : (Addr.mk b off none).add j = ⟨b, off + j, none⟩ := by unfold Addr.add; split <;> simp_all
        rw [e1, World.cell?_of_block (w := W) (hb1.block b hb'), hc]
        exact hj) (by simp [bV_length]) (bV_one l)
    rw [bV_length] at hr
    refine ⟨_, hr, ?_, hb1.trans ⟨rfl, rfl, rfl, by simp, fun k hk => setRow_other _ _ _ _ (by omega)⟩⟩
    unfold Blk
    rw [setRow_heap _ _ _ _ _ _ hnew, bV_append, hrep]
    simp
theorem Blk.bts {t : TypeId} {w : World} {g B n : Nat} {L : List UInt8} (h : Blk t w g L) (hn : L.length = n) (hB : B ≤ g) (hm : n ≤ maxLen) : Bts t w B (.slice (some ⟨g, 0, none⟩) n n) L := by
  subst hn
  exact ⟨by simp [bV_length], .inr ⟨_, _, _, rfl, hB, h, Nat.le_refl _, hm, by simp [bV_length], by simp [List.take_of_length_le, bV_length]⟩⟩

set_option maxRecDepth 20000 in
theorem uput_any (a : Option Addr) (cap : Nat) (l : List UInt8) (r : Int) (w : World) (hl : l.length ≤ 140737488351232) (hin : BIn w a l) (ht : Hds w) :
    Calls Tryz.prog 143 #[.slice a l.length cap, .int .i32 r] w fun e w' => ∃ v, e = .returned v ∧ Bts 5 w' w.heap.size v (l ++ uBI r) ∧ Below w.heap.size w w' := by
  have hW4 := uW_le r
  obtain ⟨N, hN⟩ : ∃ N, N = l.length + uW r := ⟨_, rfl⟩
  have hmk := Lib.hid (fun w => make_all N w (by omega))
  obtain ⟨w2, hcp0, hbt, hbel⟩ := copy_all Tryz.prog 93 5 3 Tryz.underlying93 size8 w a cap (uW r) l hin
  rw [← hN] at hcp0
  have hcp := Lib.hid hcp0
  have HWd := Lib.hid (fun w => uwidth_any r w)
  have hgl := ht.lt
  have HL := Lib.hid (fun a2 c2 ha => ulay_any w.heap.size l.length c2 l _ r w2 rfl (List.length_replicate) a2 ha hbt (ht.below hbel hgl) (by omega))
  have hU := Lib.hid (uBI_len r)
  have hmk2 := Lib.hid (show ∀ w, (Instr.makeSlice 93 (.int .i64 ((l.length : Int) + (uW r : Int))) (.int .i64 ((l.length : Int) + (uW r : Int)))).run Tryz.prog w = .ok (.slice (some ⟨w.heap.size, 0, none⟩) N N) (w.alloc (.cells (Array.replicate N (.int .u8 0)) 5)) from fun w => by
    rw [← hmk.out w, show (l.length : Int) + (uW r : Int) = (N : Int) by omega])
  have hwr : IntKind.i64.wrap ((l.length : Int) + (uW r : Int)) = (l.length : Int) + (uW r : Int) := IntWalk.i64_in _ (by omega)
  have hsl : (l.length : Int) ≤ (N : Int) := by omega
  have hN2 := Lib.hid hN
  clear hin hcp0 hbt ht hmk hN
  generalize uW r = V at *
  go_enter Tryz.func143, Tryz.ntmps143
  go_wp2_with fail
  with_reducible refine (HWd.out _).mono ?_
  rintro e w' ⟨rfl, hw⟩
  rw [hw]; clear hw
  go_wp2_with fail
  rw [hmk2.out]
  go_wp2_with fail
  rw [hcp.out]
  go_wp2_with fail
  case inl =>
    have hV0 : V = 0 := by have := hN2.out; omega
    subst hV0
    with_reducible refine (HL.out _ _ (fun h => absurd rfl h)).mono ?_
    rintro e w3 ⟨rfl, hb3, ho3⟩
    have hb4 := Lib.hid (hb3.bts (B := w.heap.size) (n := l.length) (by rw [List.length_append, hU.out]; rfl) (Nat.le_refl _) (by unfold maxLen; omega))
    have hbl := Lib.hid (hbel.trans (ho3.below (Nat.le_refl _) hbel.size))
    clear hb3 ho3 hbel
    go_wp2
    go_ret
    exact ⟨_, rfl, hb4.out, hbl.out⟩
  case inr =>
    have hNV : N - l.length = V := by have := hN2.out; omega
    rw [hNV]
    with_reducible refine (HL.out _ _ (fun h => rfl)).mono ?_
    rintro e w3 ⟨rfl, hb3, ho3⟩
    have hb4 := Lib.hid (hb3.bts (B := w.heap.size) (n := N) (by rw [List.length_append, hU.out]; exact hN2.out.symm) (Nat.le_refl _) (by have := hN2.out; unfold maxLen; omega))
    have hbl := Lib.hid (hbel.trans (ho3.below (Nat.le_refl _) hbel.size))
    clear hb3 ho3 hbel
    go_wp2
    go_ret
    exact ⟨_, rfl, hb4.out, hbl.out⟩
end Go.Proofs.YtmkcfilgiehjaaaGreatDoor
/- The document's own utf (package truchmanref05): Bytes, guess, Rune. -/
namespace Go.Proofs.YtmkcfilgiehjaaaGreatDoor
open Go Go.RowKit
set_option linter.unusedVariables false

/-- 'string([]byte{..})', just laid. -/
theorem text_new (P : Program) (t e d : TypeId) (w : World) (l : List UInt8) (n : Nat) (cs : Array Value) (hn : l.length = n) (hcs : cs = (bV l).toArray) (ht : P.underlying t = some (.slice e)) (he : P.underlying e = some (.int .u8)) (hd : P.underlying d = some .string) :
    (convert t d (.slice (some ⟨w.heap.size, 0, none⟩) n n)).run P (w.alloc (.cells cs e)) = .ok (.string (bA l)) (w.alloc (.cells cs e)) := by
  subst hn hcs
  refine run_convert_bytes_back _ t d e ⟨w.heap.size, 0, none⟩ l.length l ht he hd fun j hj => ?_
  have h1 := heap_alloc_new w (.cells (bV l).toArray e)
  have e1 : (Addr.mk w.heap.size 0 none).add j = ⟨w.heap.size, j, none⟩ := by unfold Addr.add; split <;> simp_all
  rw [e1]
  simp only [World.cell?]
  rw [h1]
  show (bV l).toArray[j]? = _
  rw [List.getElem?_toArray, bV_get l j hj]
theorem bV1 (a : UInt8) : (bV [a]).toArray = #[.int .u8 (a.toNat : Int)] := rfl
theorem bV2 (a b : UInt8) : (bV [a, b]).toArray = #[.int .u8 (a.toNat : Int), .int .u8 (b.toNat : Int)] := rfl
theorem bV3 (a b c : UInt8) : (bV [a, b, c]).toArray = #[.int .u8 (a.toNat : Int), .int .u8 (b.toNat : Int), .int .u8 (c.toNat : Int)] := rfl
theorem bV4 (a b c d : UInt8) : (bV [a, b, c, d]).toArray = #[.int .u8 (a.toNat : Int), .int .u8 (b.toNat : Int), .int .u8 (c.toNat : Int), .int .u8 (d.toNat : Int)] := rfl
set_option maxRecDepth 20000 in
theorem rbytes_any (r : Nat) (w : World) (hr : r ≤ 1114111) :
    Calls Tryz.prog 149 #[.int .i32 (r : Nat)] w fun e w' => e = .returned (.string (bA (uB r))) ∧ Below w.heap.size w w' := by
  have e1 : r / 64 / 64 = r / 4096 := Nat.div_div_eq_div_mul r 64 64
  by_cases h1 : r < 128
  · have p1 : decide ((r : Int) < 128) = true := decide_eq_true (by omega)
    have hu : uB r = [b8 r] := by unfold uB; rw [if_pos h1]
    have hone := Lib.hid (text_new Tryz.prog 93 5 9 w [b8 r] 1 #[.int .u8 (r : Int)] rfl (by rw [bV1, b8_toNat (by omega)]) Tryz.underlying93 Tryz.underlying5 Tryz.underlying9)
    rw [← hu] at hone
    clear hu e1
    go_enter Tryz.func149, Tryz.ntmps149
    go_wp2_with fail
    rw [hone.out]
    go_wp2
    go_ret
    exact ⟨rfl, (Below.refl _ _).alloc (Nat.le_refl _) _⟩
  · have p1 : decide ((r : Int) < 128) = false := decide_eq_false (by omega)
    by_cases h2 : r < 2048
    · have p2 : decide ((r : Int) < 2048) = true := decide_eq_true (by omega)
      have hu : uB r = [b8 (192 + r / 64), b8 (128 + r % 64)] := by unfold uB; rw [if_neg h1, if_pos h2]
      have hone := Lib.hid (text_new Tryz.prog 93 5 9 w [b8 (192 + r / 64), b8 (128 + r % 64)] 2 #[.int .u8 (192 + (r : Int) / 64), .int .u8 (128 + (r : Int) % 64)] rfl (by rw [bV2, b8_toNat (by omega), b8_toNat (by omega)]; simp) Tryz.underlying93 Tryz.underlying5 Tryz.underlying9)
      rw [← hu] at hone
      clear hu e1
      go_enter Tryz.func149, Tryz.ntmps149
      go_wp2_with fail
      rw [hone.out]
      go_wp2
      go_ret
      exact ⟨rfl, (Below.refl _ _).alloc (Nat.le_refl _) _⟩
    · have p2 : decide ((r : Int) < 2048) = false := decide_eq_false (by omega)
      by_cases h3 : r < 65536
      · have p3 : decide ((r : Int) < 65536) = true := decide_eq_true (by omega)
        have hu : uB r = [b8 (224 + r / 4096), b8 (128 + r / 64 % 64), b8 (128 + r % 64)] := by unfold uB; rw [if_neg h1, if_neg h2, if_pos h3]
        have hone := Lib.hid (text_new Tryz.prog 93 5 9 w [b8 (224 + r / 4096), b8 (128 + r / 64 % 64), b8 (128 + r % 64)] 3 #[.int .u8 (224 + (r : Int) / 4096), .int .u8 (128 + (r : Int) / 64 % 64), .int .u8 (128 + (r : Int) % 64)] rfl (by rw [bV3, b8_toNat (by omega), b8_toNat (by omega), b8_toNat (by omega)]; simp) Tryz.underlying93 Tryz.underlying5 Tryz.underlying9)
        rw [← hu] at hone
        clear hu e1
        go_enter Tryz.func149, Tryz.ntmps149
        go_wp2_with fail
        rw [hone.out]
        go_wp2
        go_ret
        exact ⟨rfl, (Below.refl _ _).alloc (Nat.le_refl _) _⟩
      · have p3 : decide ((r : Int) < 65536) = false := decide_eq_false (by omega)
        have hu : uB r = [b8 (240 + r / 262144), b8 (128 + r / 4096 % 64), b8 (128 + r / 64 % 64), b8 (128 + r % 64)] := by unfold uB; rw [if_neg h1, if_neg h2, if_neg h3]
        have hone := Lib.hid (text_new Tryz.prog 93 5 9 w [b8 (240 + r / 262144), b8 (128 + r / 4096 % 64), b8 (128 + r / 64 % 64), b8 (128 + r % 64)] 4 #[.int .u8 (240 + (r : Int) / 262144), .int .u8 (128 + (r : Int) / 4096 % 64), .int .u8 (128 + (r : Int) / 64 % 64), .int .u8 (128 + (r : Int) % 64)] rfl (by rw [bV4, b8_toNat (by omega), b8_toNat (by omega), b8_toNat (by omega), b8_toNat (by omega)]; simp) Tryz.underlying93 Tryz.underlying5 Tryz.underlying9)
        rw [← hu] at hone
        clear hu e1
        go_enter Tryz.func149, Tryz.ntmps149
        go_wp2_with fail
        rw [hone.out]
        go_wp2
        go_ret
        exact ⟨rfl, (Below.refl _ _).alloc (Nat.le_refl _) _⟩

theorem gFold_snoc (n : Int) (t : List UInt8) (b : UInt8) : gFold n (t ++ [b]) = 64 * gFold n t + (b.toNat : Int) - 128 := by
  unfold gFold; rw [List.foldl_append]; rfl
def RGuessRel (t : List UInt8) (k : Nat) (N0 : Int) (W : World) (z n i : Value) (wr : World) : Prop :=
  ∃ (j : Nat) (N : Int), z = .int .i64 0 ∧ j ≤ k ∧ j ≤ t.length ∧ i = .int .i64 ((1 + j : Nat) : Int) ∧ n = .int .i64 N ∧ Hid (N = gFold N0 (t.take j)) ∧ Hid (-256 * (64 : Int) ^ j + 3 ≤ N ∧ N ≤ 256 * (64 : Int) ^ j - 3) ∧ wr = W
theorem pow_three {j : Nat} (h : j ≤ 3) : (64 : Int) ^ j ≤ 262144 ∧ 0 < (64 : Int) ^ j := by
  match j, h with
  | 0, _ => decide
  | 1, _ => decide
  | 2, _ => decide
  | 3, _ => decide
theorem guess_bound {j : Nat} {N D : Int} (hj : j < 3) (h1 : -256 * (64 : Int) ^ j + 3 ≤ N ∧ N ≤ 256 * (64 : Int) ^ j - 3) (hD0 : 0 ≤ D) (hD : D < 256) :
    (-67108864 ≤ N ∧ N ≤ 67108864) ∧ (-256 * (64 : Int) ^ (j + 1) + 3 ≤ 64 * N + D - 128 ∧ 64 * N + D - 128 ≤ 256 * (64 : Int) ^ (j + 1) - 3) := by
  have hp := pow_three (j := j) (by omega)
  have hpow : (64 : Int) ^ (j + 1) = 64 * 64 ^ j := by rw [Int.pow_succ]; omega
  rw [hpow]
  generalize (64 : Int) ^ j = X at *
  omega
theorem guess_wraps {N D : Int} (h1 : -67108864 ≤ N) (h2 : N ≤ 67108864) (h3 : 0 ≤ D) (h4 : D < 256) : IntKind.i64.wrap (64 * N) = 64 * N ∧ IntKind.i64.wrap D = D ∧ IntKind.i64.wrap (64 * N + D) = 64 * N + D ∧ IntKind.i64.wrap (64 * N + D - 128) = 64 * N + D - 128 :=
  ⟨i64_small (by omega) (by omega), i64_small (by omega) (by omega), i64_small (by omega) (by omega), i64_small (by omega) (by omega)⟩

set_option maxRecDepth 20000 in
set_option maxHeartbeats 1000000 in
theorem rguess_3 (s : ByteArray) (w : World) (hs : s.size ≤ 1125899906842624) (h0 : 0 < s.size) (c : Nat) (hc : c = s[0].toNat) (hlo : 240 ≤ c) (hhi : c < 256) :
    Calls Tryz.prog 150 #[.string s] w fun e w' => e = .returned (.int .i64 (uGs s.data.toList)) ∧ w' = w := by
  have hci : (s[0].toNat : Int) = (c : Int) := by omega
  have hl : s.data.toList = s[0] :: s.data.toList.drop 1 := by
    have := drop_at s 0 h0
    rwa [List.drop_zero] at this
  have iz : (0 : Int) < (s.size : Int) := by omega
  have zc : IntKind.i64.wrap (c : Int) = (c : Int) := IntWalk.i64_in _ (by omega)
  have zc2 : wrap64 (c : Int) = (c : Int) := wrap64_in (by omega) (by omega)
  have p1 : decide ((c : Int) < 128) = false := decide_eq_false (by omega)
  have p2 : decide ((240 : Int) ≤ (c : Int)) = true := decide_eq_true (by omega)
  have HG := Lib.hid (show ∀ hl : ¬ (s.data.toList.drop 1).length < 3, uGs s.data.toList = gFold ((c : Int) - 240) ((s.data.toList.drop 1).take 3) from fun hlen => by
    have e := gsN s[0] (s.data.toList.drop 1) 3 240 (by omega) (by unfold gK; rw [if_pos (by omega)]) (by unfold gH; rw [if_pos (by omega)]) hlen
    rw [← hl, ← hc] at e; exact e)
  have HG2 := Lib.hid (show (s.data.toList.drop 1).length < 3 → uGs s.data.toList = -1 from fun hlen => by
    have e : uGs (s[0] :: s.data.toList.drop 1) = -1 := by
      simp only [uGs]
      rw [if_neg (by omega), show gK s[0].toNat = 3 by unfold gK; rw [if_pos (by omega)], if_pos hlen]
    rw [← hl] at e; exact e)
  have htl : (s.data.toList.drop 1).length = s.size - 1 := by rw [List.length_drop, toList_size]
  have hgt := Lib.hid (fun (j : Nat) (hj : j < (s.data.toList.drop 1).length) (hj2 : 1 + j < s.size) => (show (s.data.toList.drop 1)[j] = s[1 + j] by
    rw [List.getElem_drop]
    exact byte_at s (1 + j) hj2 (by rw [toList_size]; exact hj2)))
  generalize s.data.toList.drop 1 = t at *
  have zn : IntKind.i64.wrap ((c : Int) - 240) = (c : Int) - 240 := IntWalk.i64_in _ (by omega)
  have hN1 := Lib.hid (show -256 + 3 ≤ (c : Int) - 240 ∧ (c : Int) - 240 ≤ 256 - 3 by omega)
  clear hl hc hlo hhi
  go_enter Tryz.func150, Tryz.ntmps150
  go_wp2_with fail
  go_loopw [2, 4, 6] (fun z n i wr => RGuessRel t 3 ((c : Int) - 240) w z n i wr) (fun _ _ i _ => s.size + 1 - (intOf i).toNat)
  case atStart => exact ⟨0, (c : Int) - 240, rfl, Nat.zero_le _, Nat.zero_le _, rfl, rfl, Lib.hid (by simp [gFold]), Lib.hid (by simpa using hN1.out), rfl⟩
  case round =>
    obtain ⟨j, N, rfl, hj, hjl, rfl, rfl, hinv, hbd, hww⟩ := hrel
    rw [hww]
    clear hww hN1
    obtain ⟨I, hI⟩ : ∃ I, I = 1 + j := ⟨_, rfl⟩
    rw [← hI]
    by_cases hk : j < 3
    · have q1 : decide ((I : Int) ≤ 3) = true := decide_eq_true (by omega)
      by_cases hi : s.size ≤ I
      · have q2 : decide (s.size ≤ I) = true := decide_eq_true hi
        have HR := Lib.hid (HG2.out (by omega))
        clear hinv hbd hgt htl hI hj hjl
        go_wp2
        go_ret
        exact ⟨by rw [HR.out]; rfl, rfl⟩
      · have q2 : decide (s.size ≤ I) = false := decide_eq_false hi
        have jk0 : (0 : Int) ≤ (I : Int) := by omega
        have jk1 : (I : Int) < (s.size : Int) := by omega
        have hIs : I < s.size := by omega
        have hjt : j < t.length := by omega
        have hD := s[I].toNat_lt
        obtain ⟨D, hDe⟩ : ∃ D, D = s[I].toNat := ⟨_, rfl⟩
        have hDi : (s[I].toNat : Int) = (D : Int) := by omega
        rw [← hDe] at hD
        have hbd2 := guess_bound (D := (D : Int)) (by omega) hbd.out (by omega) (by omega)
        have hinv2 := Lib.hid (show 64 * N + (D : Int) - 128 = gFold ((c : Int) - 240) (t.take (j + 1)) by
          have e := hgt.out j hjt (by omega)
          have e2 : s[1 + j] = s[I] := by congr 1; exact hI.symm
          rw [List.take_succ_eq_append_getElem hjt, gFold_snoc, ← hinv.out, e, e2, ← hDe])
        have HB := Lib.hid hbd2.2
        have bN := hbd2.1
        have hD0 : (0 : Int) ≤ (D : Int) := by omega
        have hD1 : (D : Int) < 256 := by omega
        have y4 : IntKind.i64.wrap ((I : Int) + 1) = (I : Int) + 1 := i64_small (by omega) (by omega)
        have HI := Lib.hid hI
        have hmore := Lib.hid (show I < s.size ∧ j + 1 ≤ t.length by omega)
        obtain ⟨y0, y1, y2, y3⟩ := guess_wraps bN.1 bN.2 hD0 hD1
        have y1' : wrap64 (D : Int) = (D : Int) := wrap64_in hD0 hD1
        clear hinv hbd hgt htl hI hDe hbd2 hjl hjt hi hD
        go_wp2
        go_roundw
        case rel => exact ⟨j + 1, _, rfl, by omega, hmore.out.2, by have := HI.out; simp; omega, rfl, hinv2, HB, rfl⟩
        case measure => have := hmore.out.1; simp [intOf]; omega
    · have hjk : j = 3 := by omega
      subst hjk
      have q1 : decide ((I : Int) ≤ 3) = false := decide_eq_false (by omega)
      have HR := Lib.hid ((HG.out (by omega)).trans hinv.out.symm)
      clear hinv hbd hgt htl hI hjl
      go_wp2
      go_ret
      exact ⟨by rw [HR.out]; rfl, rfl⟩

set_option maxRecDepth 20000 in
set_option maxHeartbeats 1000000 in
theorem rguess_2 (s : ByteArray) (w : World) (hs : s.size ≤ 1125899906842624) (h0 : 0 < s.size) (c : Nat) (hc : c = s[0].toNat) (hlo : 224 ≤ c) (hhi : c < 240) :
    Calls Tryz.prog 150 #[.string s] w fun e w' => e = .returned (.int .i64 (uGs s.data.toList)) ∧ w' = w := by
  have hci : (s[0].toNat : Int) = (c : Int) := by omega
  have hl : s.data.toList = s[0] :: s.data.toList.drop 1 := by
    have := drop_at s 0 h0
    rwa [List.drop_zero] at this
  have iz : (0 : Int) < (s.size : Int) := by omega
  have zc : IntKind.i64.wrap (c : Int) = (c : Int) := IntWalk.i64_in _ (by omega)
  have zc2 : wrap64 (c : Int) = (c : Int) := wrap64_in (by omega) (by omega)
  have p1 : decide ((c : Int) < 128) = false := decide_eq_false (by omega)
  have p2 : decide ((240 : Int) ≤ (c : Int)) = false := decide_eq_false (by omega)
  have p3 : decide ((224 : Int) ≤ (c : Int)) = true := decide_eq_true (by omega)
  have HG := Lib.hid (show ∀ hl : ¬ (s.data.toList.drop 1).length < 2, uGs s.data.toList = gFold ((c : Int) - 224) ((s.data.toList.drop 1).take 2) from fun hlen => by
    have e := gsN s[0] (s.data.toList.drop 1) 2 224 (by omega) (by unfold gK; rw [if_neg (by omega), if_pos (by omega)]) (by unfold gH; rw [if_neg (by omega), if_pos (by omega)]) hlen
    rw [← hl, ← hc] at e; exact e)
  have HG2 := Lib.hid (show (s.data.toList.drop 1).length < 2 → uGs s.data.toList = -1 from fun hlen => by
    have e : uGs (s[0] :: s.data.toList.drop 1) = -1 := by
      simp only [uGs]
      rw [if_neg (by omega), show gK s[0].toNat = 2 by unfold gK; rw [if_neg (by omega), if_pos (by omega)], if_pos hlen]
    rw [← hl] at e; exact e)
  have htl : (s.data.toList.drop 1).length = s.size - 1 := by rw [List.length_drop, toList_size]
  have hgt := Lib.hid (fun (j : Nat) (hj : j < (s.data.toList.drop 1).length) (hj2 : 1 + j < s.size) => (show (s.data.toList.drop 1)[j] = s[1 + j] by
    rw [List.getElem_drop]
    exact byte_at s (1 + j) hj2 (by rw [toList_size]; exact hj2)))
  generalize s.data.toList.drop 1 = t at *
  have zn : IntKind.i64.wrap ((c : Int) - 224) = (c : Int) - 224 := IntWalk.i64_in _ (by omega)
  have hN1 := Lib.hid (show -256 + 3 ≤ (c : Int) - 224 ∧ (c : Int) - 224 ≤ 256 - 3 by omega)
  clear hl hc hlo hhi
  go_enter Tryz.func150, Tryz.ntmps150
  go_wp2_with fail
  go_loopw [2, 4, 6] (fun z n i wr => RGuessRel t 2 ((c : Int) - 224) w z n i wr) (fun _ _ i _ => s.size + 1 - (intOf i).toNat)
  case atStart => exact ⟨0, (c : Int) - 224, rfl, Nat.zero_le _, Nat.zero_le _, rfl, rfl, Lib.hid (by simp [gFold]), Lib.hid (by simpa using hN1.out), rfl⟩
  case round =>
    obtain ⟨j, N, rfl, hj, hjl, rfl, rfl, hinv, hbd, hww⟩ := hrel
    rw [hww]
    clear hww hN1
    obtain ⟨I, hI⟩ : ∃ I, I = 1 + j := ⟨_, rfl⟩
    rw [← hI]
    by_cases hk : j < 2
    · have q1 : decide ((I : Int) ≤ 2) = true := decide_eq_true (by omega)
      by_cases hi : s.size ≤ I
      · have q2 : decide (s.size ≤ I) = true := decide_eq_true hi
        have HR := Lib.hid (HG2.out (by omega))
        clear hinv hbd hgt htl hI hj hjl
        go_wp2
        go_ret
        exact ⟨by rw [HR.out]; rfl, rfl⟩
      · have q2 : decide (s.size ≤ I) = false := decide_eq_false hi
        have jk0 : (0 : Int) ≤ (I : Int) := by omega
        have jk1 : (I : Int) < (s.size : Int) := by omega
        have hIs : I < s.size := by omega
        have hjt : j < t.length := by omega
        have hD := s[I].toNat_lt
        obtain ⟨D, hDe⟩ : ∃ D, D = s[I].toNat := ⟨_, rfl⟩
        have hDi : (s[I].toNat : Int) = (D : Int) := by omega
        rw [← hDe] at hD
        have hbd2 := guess_bound (D := (D : Int)) (by omega) hbd.out (by omega) (by omega)
        have hinv2 := Lib.hid (show 64 * N + (D : Int) - 128 = gFold ((c : Int) - 224) (t.take (j + 1)) by
          have e := hgt.out j hjt (by omega)
          have e2 : s[1 + j] = s[I] := by congr 1; exact hI.symm
          rw [List.take_succ_eq_append_getElem hjt, gFold_snoc, ← hinv.out, e, e2, ← hDe])
        have HB := Lib.hid hbd2.2
        have bN := hbd2.1
        have hD0 : (0 : Int) ≤ (D : Int) := by omega
        have hD1 : (D : Int) < 256 := by omega
        have y4 : IntKind.i64.wrap ((I : Int) + 1) = (I : Int) + 1 := i64_small (by omega) (by omega)
        have HI := Lib.hid hI
        have hmore := Lib.hid (show I < s.size ∧ j + 1 ≤ t.length by omega)
        obtain ⟨y0, y1, y2, y3⟩ := guess_wraps bN.1 bN.2 hD0 hD1
        have y1' : wrap64 (D : Int) = (D : Int) := wrap64_in hD0 hD1
        clear hinv hbd hgt htl hI hDe hbd2 hjl hjt hi hD
        go_wp2
        go_roundw
        case rel => exact ⟨j + 1, _, rfl, by omega, hmore.out.2, by have := HI.out; simp; omega, rfl, hinv2, HB, rfl⟩
        case measure => have := hmore.out.1; simp [intOf]; omega
    · have hjk : j = 2 := by omega
      subst hjk
      have q1 : decide ((I : Int) ≤ 2) = false := decide_eq_false (by omega)
      have HR := Lib.hid ((HG.out (by omega)).trans hinv.out.symm)
      clear hinv hbd hgt htl hI hjl
      go_wp2
      go_ret
      exact ⟨by rw [HR.out]; rfl, rfl⟩

set_option maxRecDepth 20000 in
set_option maxHeartbeats 1000000 in
theorem rguess_1 (s : ByteArray) (w : World) (hs : s.size ≤ 1125899906842624) (h0 : 0 < s.size) (c : Nat) (hc : c = s[0].toNat) (hlo : 128 ≤ c) (hhi : c < 224) :
    Calls Tryz.prog 150 #[.string s] w fun e w' => e = .returned (.int .i64 (uGs s.data.toList)) ∧ w' = w := by
  have hci : (s[0].toNat : Int) = (c : Int) := by omega
  have hl : s.data.toList = s[0] :: s.data.toList.drop 1 := by
    have := drop_at s 0 h0
    rwa [List.drop_zero] at this
  have iz : (0 : Int) < (s.size : Int) := by omega
  have zc : IntKind.i64.wrap (c : Int) = (c : Int) := IntWalk.i64_in _ (by omega)
  have zc2 : wrap64 (c : Int) = (c : Int) := wrap64_in (by omega) (by omega)
  have p1 : decide ((c : Int) < 128) = false := decide_eq_false (by omega)
  have p2 : decide ((240 : Int) ≤ (c : Int)) = false := decide_eq_false (by omega)
  have p3 : decide ((224 : Int) ≤ (c : Int)) = false := decide_eq_false (by omega)
  have HG := Lib.hid (show ∀ hl : ¬ (s.data.toList.drop 1).length < 1, uGs s.data.toList = gFold ((c : Int) - 192) ((s.data.toList.drop 1).take 1) from fun hlen => by
    have e := gsN s[0] (s.data.toList.drop 1) 1 192 (by omega) (by unfold gK; rw [if_neg (by omega), if_neg (by omega)]) (by unfold gH; rw [if_neg (by omega), if_neg (by omega)]) hlen
    rw [← hl, ← hc] at e; exact e)
  have HG2 := Lib.hid (show (s.data.toList.drop 1).length < 1 → uGs s.data.toList = -1 from fun hlen => by
    have e : uGs (s[0] :: s.data.toList.drop 1) = -1 := by
      simp only [uGs]
      rw [if_neg (by omega), show gK s[0].toNat = 1 by unfold gK; rw [if_neg (by omega), if_neg (by omega)], if_pos hlen]
    rw [← hl] at e; exact e)
  have htl : (s.data.toList.drop 1).length = s.size - 1 := by rw [List.length_drop, toList_size]
  have hgt := Lib.hid (fun (j : Nat) (hj : j < (s.data.toList.drop 1).length) (hj2 : 1 + j < s.size) => (show (s.data.toList.drop 1)[j] = s[1 + j] by
    rw [List.getElem_drop]
    exact byte_at s (1 + j) hj2 (by rw [toList_size]; exact hj2)))
  generalize s.data.toList.drop 1 = t at *
  have zn : IntKind.i64.wrap ((c : Int) - 192) = (c : Int) - 192 := IntWalk.i64_in _ (by omega)
  have hN1 := Lib.hid (show -256 + 3 ≤ (c : Int) - 192 ∧ (c : Int) - 192 ≤ 256 - 3 by omega)
  clear hl hc hlo hhi
  go_enter Tryz.func150, Tryz.ntmps150
  go_wp2_with fail
  go_loopw [2, 4, 6] (fun z n i wr => RGuessRel t 1 ((c : Int) - 192) w z n i wr) (fun _ _ i _ => s.size + 1 - (intOf i).toNat)
  case atStart => exact ⟨0, (c : Int) - 192, rfl, Nat.zero_le _, Nat.zero_le _, rfl, rfl, Lib.hid (by simp [gFold]), Lib.hid (by simpa using hN1.out), rfl⟩
  case round =>
    obtain ⟨j, N, rfl, hj, hjl, rfl, rfl, hinv, hbd, hww⟩ := hrel
    rw [hww]
    clear hww hN1
    obtain ⟨I, hI⟩ : ∃ I, I = 1 + j := ⟨_, rfl⟩
    rw [← hI]
    by_cases hk : j < 1
    · have q1 : decide ((I : Int) ≤ 1) = true := decide_eq_true (by omega)
      by_cases hi : s.size ≤ I
      · have q2 : decide (s.size ≤ I) = true := decide_eq_true hi
        have HR := Lib.hid (HG2.out (by omega))
        clear hinv hbd hgt htl hI hj hjl
        go_wp2
        go_ret
        exact ⟨by rw [HR.out]; rfl, rfl⟩
      · have q2 : decide (s.size ≤ I) = false := decide_eq_false hi
        have jk0 : (0 : Int) ≤ (I : Int) := by omega
        have jk1 : (I : Int) < (s.size : Int) := by omega
        have hIs : I < s.size := by omega
        have hjt : j < t.length := by omega
        have hD := s[I].toNat_lt
        obtain ⟨D, hDe⟩ : ∃ D, D = s[I].toNat := ⟨_, rfl⟩
        have hDi : (s[I].toNat : Int) = (D : Int) := by omega
        rw [← hDe] at hD
        have hbd2 := guess_bound (D := (D : Int)) (by omega) hbd.out (by omega) (by omega)
        have hinv2 := Lib.hid (show 64 * N + (D : Int) - 128 = gFold ((c : Int) - 192) (t.take (j + 1)) by
          have e := hgt.out j hjt (by omega)
          have e2 : s[1 + j] = s[I] := by congr 1; exact hI.symm
          rw [List.take_succ_eq_append_getElem hjt, gFold_snoc, ← hinv.out, e, e2, ← hDe])
        have HB := Lib.hid hbd2.2
        have bN := hbd2.1
        have hD0 : (0 : Int) ≤ (D : Int) := by omega
        have hD1 : (D : Int) < 256 := by omega
        have y4 : IntKind.i64.wrap ((I : Int) + 1) = (I : Int) + 1 := i64_small (by omega) (by omega)
        have HI := Lib.hid hI
        have hmore := Lib.hid (show I < s.size ∧ j + 1 ≤ t.length by omega)
        obtain ⟨y0, y1, y2, y3⟩ := guess_wraps bN.1 bN.2 hD0 hD1
        have y1' : wrap64 (D : Int) = (D : Int) := wrap64_in hD0 hD1
        clear hinv hbd hgt htl hI hDe hbd2 hjl hjt hi hD
        go_wp2
        go_roundw
        case rel => exact ⟨j + 1, _, rfl, by omega, hmore.out.2, by have := HI.out; simp; omega, rfl, hinv2, HB, rfl⟩
        case measure => have := hmore.out.1; simp [intOf]; omega
    · have hjk : j = 1 := by omega
      subst hjk
      have q1 : decide ((I : Int) ≤ 1) = false := decide_eq_false (by omega)
      have HR := Lib.hid ((HG.out (by omega)).trans hinv.out.symm)
      clear hinv hbd hgt htl hI hjl
      go_wp2
      go_ret
      exact ⟨by rw [HR.out]; rfl, rfl⟩

theorem rguess_any (s : ByteArray) (w : World) (hs : s.size ≤ 1125899906842624) (h0 : 0 < s.size) :
    Calls Tryz.prog 150 #[.string s] w fun e w' => e = .returned (.int .i64 (uGs s.data.toList)) ∧ w' = w := by
  have hB := s[0].toNat_lt
  obtain ⟨c, hc⟩ : ∃ c, c = s[0].toNat := ⟨_, rfl⟩
  by_cases h1 : c < 128
  · have hci : (s[0].toNat : Int) = (c : Int) := by omega
    have hl : s.data.toList = s[0] :: s.data.toList.drop 1 := by
      have := drop_at s 0 h0
      rwa [List.drop_zero] at this
    have iz : (0 : Int) < (s.size : Int) := by omega
    have zc : IntKind.i64.wrap (c : Int) = (c : Int) := IntWalk.i64_in _ (by omega)
    have zc2 : wrap64 (c : Int) = (c : Int) := wrap64_in (by omega) (by omega)
    have p1 : decide ((c : Int) < 128) = true := decide_eq_true (by omega)
    have HG := Lib.hid (show uGs s.data.toList = c by rw [hl, gs1 _ _ (by omega), hc])
    clear hl hc hB h1
    go_enter Tryz.func150, Tryz.ntmps150
    go_wp2
    go_ret
    exact ⟨by rw [HG.out]; rfl, rfl⟩
  · by_cases h2 : 240 ≤ c
    · exact rguess_3 s w hs h0 c hc h2 (by omega)
    · by_cases h3 : 224 ≤ c
      · exact rguess_2 s w hs h0 c hc h3 (by omega)
      · exact rguess_1 s w hs h0 c hc (by omega) (by omega)
end Go.Proofs.YtmkcfilgiehjaaaGreatDoor
