/- Several texts in one (JnRefA, JnSpl, JnSpm, JnRefB): each begins with its own words. -/
import Derived.Test.YtnbhhnkcfbfdcaaGreatDoorZC
import Derived.Test.YtnbhhnkcfbfdcaaGreatDoorZA
import Derived.OwnWalk
import Derived.OneCell
import Derived.Deep.Cut
import Derived.Test.YtnbhhnkcfbfdcaaGreatDoorZJ
import Derived.Test.YtnbhhnkcfbfdcaaGreatDoorZM
import Derived.Deep.RegionHeld3
/- The document's own numbers (package truchmanref11): run, one, need. -/
namespace Go.Proofs.YtnbhhnkcfbfdcaaGreatDoor
open Go Go.RowKit
set_option linter.unusedVariables false

theorem dropAt {s : ByteArray} {j : Nat} (h : j < s.size) : s.data.toList.drop j = s[j] :: s.data.toList.drop (j + 1) := by
  have h' : j < s.data.toList.length := by rw [toList_size]; exact h
  rw [List.drop_eq_getElem_cons h', byte_at s j h h']
theorem drop_end {s : ByteArray} {j : Nat} (h : s.size ≤ j) : s.data.toList.drop j = [] := List.drop_eq_nil_of_le (by rw [toList_size]; exact h)
theorem dL_yes {x : UInt8} (t : List UInt8) (h : dIs x = true) : dL (x :: t) = dL t + 1 := by unfold dL; rw [List.takeWhile_cons, if_pos h, List.length_cons]
theorem dL_no {x : UInt8} (t : List UInt8) (h : ¬ dIs x = true) : dL (x :: t) = 0 := by unfold dL; rw [List.takeWhile_cons, if_neg h]; rfl
theorem pL_dup (x : UInt8) (r : List UInt8) : pL [x, x] r = pL [x] r := by
  match r with
  | [] => rfl
  | y :: t => rw [pL_at, pL_at]; simp

def RRunRel (s : ByteArray) (a : Nat) (w : World) (v : Value) (wr : World) : Prop := ∃ k : Nat, v = .int .i64 ((a + k : Nat) : Int) ∧ a + k ≤ s.size ∧ wr = w ∧ Hid (dL (s.data.toList.drop a) = k + dL (s.data.toList.drop (a + k)))
set_option maxRecDepth 20000 in
theorem rrun (s : ByteArray) (a : Nat) (w : World) (ha : a ≤ s.size) (hs : s.size ≤ 1125899906842624) :
    Calls Tryz.prog 113 #[.string s, .int .i64 (a : Nat)] w fun e w' => e = .returned (.int .i64 ((a + dL (s.data.toList.drop a) : Nat) : Int)) ∧ w' = w := by
  go_enter Tryz.func113, Tryz.ntmps113
  go_wp2_with fail
  go_loopw [1] (fun v wr => RRunRel s a w v wr) (fun v _ => s.size + 1 - (intOf v).toNat)
  case atStart => exact ⟨0, rfl, ha, rfl, Lib.hid (Nat.zero_add _).symm⟩
  case round =>
    obtain ⟨k, rfl, hk, hww, hal⟩ := hrel
    rw [hww]
    clear hww
    obtain ⟨j, hj⟩ : ∃ j, j = a + k := ⟨_, rfl⟩
    have HJ := Lib.hid hj
    rw [← hj] at hk hal ⊢
    clear hj
    by_cases hlt : j < s.size
    · have p1 : decide ((j : Int) < (s.size : Int)) = true := decide_eq_true (by omega)
      have hk0 : (0 : Int) ≤ (j : Int) := by omega
      have hk1 : (j : Int) < (s.size : Int) := by omega
      have y4 : IntKind.i64.wrap ((j : Int) + 1) = (j : Int) + 1 := i64_small (by omega) (by omega)
      have hd := dropAt hlt
      by_cases hdg : dIs s[j] = true
      · have HT := Lib.hid (show dL (s.data.toList.drop a) = (k + 1) + dL (s.data.toList.drop (j + 1)) by rw [hal.out, hd, dL_yes _ hdg]; omega)
        have hb := dIs_iff.mp hdg
        obtain ⟨B, hB⟩ : ∃ B, B = s[j].toNat := ⟨_, rfl⟩
        have hBi : (s[j].toNat : Int) = (B : Int) := by omega
        rw [← hB] at hb
        have q1 : decide ((48 : Int) ≤ (B : Int)) = true := decide_eq_true (by omega)
        have q2 : decide ((B : Int) ≤ 57) = true := decide_eq_true (by omega)
        clear hB hal hd hdg
        go_wp2
        go_roundw
        case rel =>
          have e := HJ.out
          exact ⟨k + 1, by rw [← Nat.add_assoc, ← e]; go_num, by omega, rfl, Lib.hid (by rw [← Nat.add_assoc, ← e]; exact HT.out)⟩
        case measure => simp [intOf]; omega
      · have HT := Lib.hid (show dL (s.data.toList.drop a) = k by rw [hal.out, hd, dL_no _ hdg]; omega)
        have hb : ¬ (48 ≤ s[j].toNat ∧ s[j].toNat ≤ 57) := fun h => hdg (dIs_iff.mpr h)
        obtain ⟨B, hB⟩ : ∃ B, B = s[j].toNat := ⟨_, rfl⟩
        have hBi : (s[j].toNat : Int) = (B : Int) := by omega
        rw [← hB] at hb
        by_cases hlo : B < 48
        · have q1 : decide ((48 : Int) ≤ (B : Int)) = false := decide_eq_false (by omega)
          clear hB hal hd hdg
          go_wp2
          go_ret
          exact ⟨ret_i (by rw [HT.out, HJ.out]), rfl⟩
        · have q1 : decide ((48 : Int) ≤ (B : Int)) = true := decide_eq_true (by omega)
          have q2 : decide ((B : Int) ≤ 57) = false := decide_eq_false (by omega)
          clear hB hal hd hdg
          go_wp2
          go_ret
          exact ⟨ret_i (by rw [HT.out, HJ.out]), rfl⟩
    · have p1 : decide ((j : Int) < (s.size : Int)) = false := decide_eq_false (by omega)
      have HT := Lib.hid (show dL (s.data.toList.drop a) = k by rw [hal.out, drop_end (by omega)]; rfl)
      clear hal
      go_wp2
      go_ret
      exact ⟨ret_i (by rw [HT.out, HJ.out]), rfl⟩

set_option maxRecDepth 20000 in
theorem rone (s : ByteArray) (a : Nat) (x y : UInt8) (w : World) (ha : a ≤ s.size) (hs : s.size ≤ 1125899906842624) :
    Calls Tryz.prog 95 #[.string s, .int .i64 (a : Nat), .int .u8 (x.toNat : Int), .int .u8 (y.toNat : Int)] w fun e w' => e = .returned (.bool (decide (pL [x, y] (s.data.toList.drop a) = 1))) ∧ w' = w := by
  by_cases hlt : a < s.size
  · have p1 : decide ((a : Int) < (s.size : Int)) = true := decide_eq_true (by omega)
    have hk0 : (0 : Int) ≤ (a : Int) := by omega
    have hk1 : (a : Int) < (s.size : Int) := by omega
    have hd := dropAt hlt
    obtain ⟨B, hB⟩ : ∃ B, B = s[a] := ⟨_, rfl⟩
    have hBi : (s[a].toNat : Int) = (B.toNat : Int) := by rw [hB]
    rw [← hB] at hd
    have hx : ((B.toNat : Int) == (x.toNat : Int)) = decide (B = x) := by
      rw [Bool.eq_iff_iff, beq_iff_eq, decide_eq_true_iff, ← UInt8.toNat_inj]; omega
    have hy : ((B.toNat : Int) == (y.toNat : Int)) = decide (B = y) := by
      rw [Bool.eq_iff_iff, beq_iff_eq, decide_eq_true_iff, ← UInt8.toNat_inj]; omega
    by_cases h1 : B = x
    · rw [decide_eq_true h1] at hx
      have HR := Lib.hid (show decide (pL [x, y] (s.data.toList.drop a) = 1) = true by rw [hd, pL_cons _ (by rw [h1]; simp)]; rfl)
      clear hd hB h1 hy
      generalize B.toNat = BB at *
      go_enter Tryz.func95, Tryz.ntmps95
      go_wp2
      go_ret
      exact ⟨by rw [HR.out]; rfl, rfl⟩
    · rw [decide_eq_false h1] at hx
      by_cases h2 : B = y
      · rw [decide_eq_true h2] at hy
        have HR := Lib.hid (show decide (pL [x, y] (s.data.toList.drop a) = 1) = true by rw [hd, pL_cons _ (by rw [h2]; simp)]; rfl)
        clear hd hB h1 h2
        generalize B.toNat = BB at *
        go_enter Tryz.func95, Tryz.ntmps95
        go_wp2
        go_ret
        exact ⟨by rw [HR.out]; rfl, rfl⟩
      · rw [decide_eq_false h2] at hy
        have HR := Lib.hid (show decide (pL [x, y] (s.data.toList.drop a) = 1) = false by rw [hd, pL_other _ (by simp [h1, h2])]; rfl)
        clear hd hB h1 h2
        generalize B.toNat = BB at *
        go_enter Tryz.func95, Tryz.ntmps95
        go_wp2
        go_ret
        exact ⟨by rw [HR.out]; rfl, rfl⟩
  · have p1 : decide ((a : Int) < (s.size : Int)) = false := decide_eq_false (by omega)
    have HR := Lib.hid (show decide (pL [x, y] (s.data.toList.drop a) = 1) = false by rw [drop_end (by omega)]; rfl)
    go_enter Tryz.func95, Tryz.ntmps95
    go_wp2
    go_ret
    exact ⟨by rw [HR.out]; rfl, rfl⟩

set_option maxRecDepth 20000 in
theorem rneed (s : ByteArray) (a : Nat) (w : World) (ha : a ≤ s.size) (hs : s.size ≤ 1125899906842624) :
    Calls Tryz.prog 96 #[.string s, .int .i64 (a : Nat)] w fun e w' => e = .returned (.tuple #[.int .i64 ((a + dL (s.data.toList.drop a) : Nat) : Int), .int .i64 (dE (s.data.toList.drop a))]) ∧ w' = w := by
  have HU := Lib.hid (rrun s a w ha hs)
  have hle := dL_len (s.data.toList.drop a)
  by_cases h0 : dL (s.data.toList.drop a) = 0
  · rw [h0, Nat.add_zero] at HU
    have p1 : decide ((a : Int) < (a : Int)) = false := decide_eq_false (by omega)
    by_cases he : a = s.size
    · have p2 : ((a : Int) == (s.size : Int)) = true := by simp [he]
      have HR := Lib.hid (show a + dL (s.data.toList.drop a) = a ∧ dE (s.data.toList.drop a) = 1 by
        refine ⟨by rw [h0]; rfl, ?_⟩
        unfold dE; rw [if_pos h0, if_pos (drop_end (by omega))])
      clear h0 he hle
      go_enter Tryz.func96, Tryz.ntmps96
      go_wp2_with fail
      with_reducible refine HU.out.mono ?_
      rintro e w1 ⟨rfl, hw⟩
      rw [hw]; clear hw
      go_wp2
      go_ret2
      exact ⟨ret_ii (by rw [HR.out.1]) HR.out.2.symm, rfl⟩
    · have p2 : ((a : Int) == (s.size : Int)) = false := beq_eq_false_iff_ne.mpr (by omega)
      have HR := Lib.hid (show a + dL (s.data.toList.drop a) = a ∧ dE (s.data.toList.drop a) = 3 by
        refine ⟨by rw [h0]; rfl, ?_⟩
        unfold dE; rw [if_pos h0, if_neg (fun e => by have := congrArg List.length e; rw [List.length_drop, toList_size, List.length_nil] at this; omega)])
      clear h0 he hle
      go_enter Tryz.func96, Tryz.ntmps96
      go_wp2_with fail
      with_reducible refine HU.out.mono ?_
      rintro e w1 ⟨rfl, hw⟩
      rw [hw]; clear hw
      go_wp2
      go_ret2
      exact ⟨ret_ii (by rw [HR.out.1]) HR.out.2.symm, rfl⟩
  · have HR := Lib.hid (dE_ok h0)
    obtain ⟨D, hD⟩ : ∃ D, D = a + dL (s.data.toList.drop a) := ⟨_, rfl⟩
    rw [← hD] at HU ⊢
    have p1 : decide (a < D) = true := decide_eq_true (by omega)
    have p3 : a < D := by omega
    clear h0 hle hD
    go_enter Tryz.func96, Tryz.ntmps96
    go_wp2_with fail
    with_reducible refine HU.out.mono ?_
    rintro e w1 ⟨rfl, hw⟩
    rw [hw]; clear hw
    go_wp2
    go_ret2
    exact ⟨ret_ii rfl HR.out.symm, rfl⟩
end Go.Proofs.YtnbhhnkcfbfdcaaGreatDoor
/- The document's own Split: the parts of a number. -/
namespace Go.Proofs.YtnbhhnkcfbfdcaaGreatDoor
open Go Go.RowKit
set_option linter.unusedVariables false

/-- Block g holds the parts of a number. -/
def PB (w : World) (g : Nat) (W B P : ByteArray) (E C : Int) : Prop := w.heap[g]? = some (.cells #[.string W, .string B, .string P, .int .i64 E, .int .i64 C] 119 (0, 0))
def pV (W B P : ByteArray) (E C : Int) : Value := .agg #[.string W, .string B, .string P, .int .i64 E, .int .i64 C]
section
variable {w : World} {g : Nat} {W B P : ByteArray} {E C : Int}
theorem PB.lt (h : PB w g W B P E C) : g < w.heap.size := lt_of_block h
theorem PB.c0 (h : PB w g W B P E C) : w.cell? ⟨g, 0, none⟩ = some (.string W) := by unfold PB at h; simp [World.cell?, h]
theorem PB.c1 (h : PB w g W B P E C) : w.cell? ⟨g, 1, none⟩ = some (.string B) := by unfold PB at h; simp [World.cell?, h]
theorem PB.c2 (h : PB w g W B P E C) : w.cell? ⟨g, 2, none⟩ = some (.string P) := by unfold PB at h; simp [World.cell?, h]
theorem PB.c3 (h : PB w g W B P E C) : w.cell? ⟨g, 3, none⟩ = some (.int .i64 E) := by unfold PB at h; simp [World.cell?, h]
theorem PB.c4 (h : PB w g W B P E C) : w.cell? ⟨g, 4, none⟩ = some (.int .i64 C) := by unfold PB at h; simp [World.cell?, h]
theorem PB.fr (h : PB w g W B P E C) (o : Nat) : w.frozen? ⟨g, o, none⟩ = false := by unfold PB at h; simp [World.frozen?, h]
theorem PB.set0 (h : PB w g W B P E C) (x : ByteArray) : PB (w.setCell ⟨g, 0, none⟩ (.string x)) g x B P E C := heap_setCell_block h _
theorem PB.set1 (h : PB w g W B P E C) (x : ByteArray) : PB (w.setCell ⟨g, 1, none⟩ (.string x)) g W x P E C := heap_setCell_block h _
theorem PB.set2 (h : PB w g W B P E C) (x : ByteArray) : PB (w.setCell ⟨g, 2, none⟩ (.string x)) g W B x E C := heap_setCell_block h _
theorem PB.set3 (h : PB w g W B P E C) (x : Int) : PB (w.setCell ⟨g, 3, none⟩ (.int .i64 x)) g W B P x C := heap_setCell_block h _
theorem PB.set4 (h : PB w g W B P E C) (x : Int) : PB (w.setCell ⟨g, 4, none⟩ (.int .i64 x)) g W B P E x := heap_setCell_block h _
theorem PB.other (h : PB w g W B P E C) {k o : Nat} (hk : g ≠ k) (u : Value) : PB (w.setCell ⟨k, o, none⟩ u) g W B P E C := (Below.heap_setCell _ _ _ _ hk).trans h
theorem PB.below (h : PB w g W B P E C) {w' : World} {N : Nat} (hb : Below N w w') (hN : g < N) : PB w' g W B P E C := (hb.block g hN).trans h
theorem PB.drewN (h : PB w g W B P E C) (n : Nat) : PB (w.drewN n) g W B P E C := h
end
/-- While the parts are read: block g holds those read so far, block k the empty answer. -/
structure SpR (w : World) (g k : Nat) (W B P : ByteArray) (E C : Int) (wx : World) : Prop where
  pg : PB wx g W B P E C
  pk : PB wx k ⟨#[]⟩ ⟨#[]⟩ ⟨#[]⟩ 0 0
  bel : Below w.heap.size w wx
  hg : w.heap.size ≤ g
  hk : w.heap.size ≤ k
  ne : g ≠ k
theorem below_put {N b o : Nat} {w W : World} {v : Value} (h : Below N w W) (hb : N ≤ b) : Below N w (W.setCell ⟨b, o, none⟩ v) :=
  h.trans ⟨rfl, rfl, rfl, by simp [World.setCell], fun k hk => Below.heap_setCell _ _ _ _ (by show k ≠ b; exact Nat.ne_of_lt (Nat.lt_of_lt_of_le hk hb))⟩
section
variable {w wx : World} {g k : Nat} {W B P : ByteArray} {E C : Int}
theorem SpR.set0 (h : SpR w g k W B P E C wx) (x : ByteArray) : SpR w g k x B P E C (wx.setCell ⟨g, 0, none⟩ (.string x)) := ⟨h.pg.set0 x, h.pk.other h.ne.symm _, below_put h.bel h.hg, h.hg, h.hk, h.ne⟩
theorem SpR.set1 (h : SpR w g k W B P E C wx) (x : ByteArray) : SpR w g k W x P E C (wx.setCell ⟨g, 1, none⟩ (.string x)) := ⟨h.pg.set1 x, h.pk.other h.ne.symm _, below_put h.bel h.hg, h.hg, h.hk, h.ne⟩
theorem SpR.set2 (h : SpR w g k W B P E C wx) (x : ByteArray) : SpR w g k W B x E C (wx.setCell ⟨g, 2, none⟩ (.string x)) := ⟨h.pg.set2 x, h.pk.other h.ne.symm _, below_put h.bel h.hg, h.hg, h.hk, h.ne⟩
theorem SpR.set3 (h : SpR w g k W B P E C wx) (x : Int) : SpR w g k W B P x C (wx.setCell ⟨g, 3, none⟩ (.int .i64 x)) := ⟨h.pg.set3 x, h.pk.other h.ne.symm _, below_put h.bel h.hg, h.hg, h.hk, h.ne⟩
theorem SpR.set4 (h : SpR w g k W B P E C wx) (x : Int) : SpR w g k W B P E x (wx.setCell ⟨g, 4, none⟩ (.int .i64 x)) := ⟨h.pg.set4 x, h.pk.other h.ne.symm _, below_put h.bel h.hg, h.hg, h.hk, h.ne⟩
end
theorem part_result {fn : Func} {p : Tmp} (h : fn.results = #[.cell p 119]) {tmps : Array Value} {w : World} {g : Nat} {W B P : ByteArray} {E C : Int} (hg : PB w g W B P E C) (hp : tmps.getD p undef = .pointer (some ⟨g, 0, none⟩)) :
    (results fn tmps).run Tryz.prog w = .ok (pV W B P E C) w :=
  results_cell_row h tmps w g 119 #[.string W, .string B, .string P, .int .i64 E, .int .i64 C] (0, 0) _ hp hg Tryz.underlying119 rfl (by kernel_rfl)

theorem sp_drop (s : ByteArray) (a k : Nat) : s.data.toList.drop (a + k) = (s.data.toList.drop a).drop k := (List.drop_drop ..).symm
theorem sp_text (s : ByteArray) (a i j : Nat) : s.extract (a + i) (a + j) = bA (((s.data.toList.drop a).drop i).take (j - i)) := by
  apply ByteArray.ext
  apply Array.toList_inj.mp
  rw [ext_toList, sp_drop, show a + j - (a + i) = j - i by omega]; rfl
theorem eC_zero {l : List UInt8} (h : eC l = 0) : eB l = 0 ∧ fE (l.drop (nB l)) = 0 := by
  unfold eC at h
  by_cases h1 : eB l = 0
  · rw [if_pos h1] at h; exact ⟨h1, h⟩
  · rw [if_neg h1] at h; exact absurd h h1
/-- What the document's Split tells. -/
def SplT (s : ByteArray) (a : Nat) (W B P : ByteArray) (E : Nat) : Prop :=
  (nCode (s.data.toList.drop a) = 0 → W = bA (wW (s.data.toList.drop a)) ∧ B = bA (wB (s.data.toList.drop a)) ∧ P = bA (wP (s.data.toList.drop a)) ∧ E = a + nE (s.data.toList.drop a)) ∧ W.size ≤ s.size ∧ B.size ≤ s.size ∧ P.size ≤ s.size ∧ E ≤ s.size
theorem ext_size (s : ByteArray) (i j : Nat) : (s.extract i j).size ≤ s.size := by
  rw [← toList_size, ← toList_size, ext_toList, List.length_take, List.length_drop]; omega
theorem wrap_next {a b : Nat} (h : b = a + 1) (hb : b ≤ 1125899906842625) : IntKind.i64.wrap ((a : Int) + 1) = ((b : Nat) : Int) := by
  rw [i64_small (by omega) (by omega)]; omega
end Go.Proofs.YtnbhhnkcfbfdcaaGreatDoor
/- The document's own Split, walked. -/
namespace Go.Proofs.YtnbhhnkcfbfdcaaGreatDoor
open Go Go.RowKit
set_option linter.unusedVariables false

set_option maxRecDepth 100000 in
set_option maxHeartbeats 8000000 in
theorem rsplit_any (s : ByteArray) (a : Nat) (w : World) (ha : a ≤ s.size) (hs : s.size ≤ 1125899906842624) :
    Calls Tryz.prog 82 #[.string s, .int .i64 (a : Nat)] w fun e w' => ∃ W B P E, e = .returned (pV W B P ((E : Nat) : Int) (nCode (s.data.toList.drop a))) ∧ SplT s a W B P E ∧ Below w.heap.size w w' := by
  have hll : (s.data.toList.drop a).length = s.size - a := by rw [List.length_drop, toList_size]
  have H1 : Hid (∀ w, Calls Tryz.prog 95 #[.string s, .int .i64 (a : Nat), .int .u8 45, .int .u8 45] w fun e w' => e = .returned (.bool (decide (pL [45] (s.data.toList.drop a) = 1))) ∧ w' = w) := Lib.hid (fun w => by
    have := rone s a 45 45 w ha hs
    rw [pL_dup] at this; exact this)
  have hD := fun k => sp_drop s a k
  have hT := fun i j => sp_text s a i j
  unfold SplT
  generalize s.data.toList.drop a = L at *
  have lA := nA_len L
  have lB := nB_len L
  have lC := nC_len L
  have lE := nE_len L
  rw [hll] at lA lB lC lE
  -- the whole digits
  obtain ⟨A, hA⟩ : ∃ A, A = a + nA L := ⟨_, rfl⟩
  have H2 : Hid (∀ w, Calls Tryz.prog 95 #[.string s, .int .i64 (A : Nat), .int .u8 48, .int .u8 48] w fun e w' => e = .returned (.bool (decide (pL [48] (L.drop (nA L)) = 1))) ∧ w' = w) := Lib.hid (fun w => by
    have := rone s A 48 48 w (by omega) hs
    rw [pL_dup, hA, hD] at this; rw [hA]; exact this)
  have H3 : Hid (∀ w, Calls Tryz.prog 96 #[.string s, .int .i64 (A : Nat)] w fun e w' => e = .returned (.tuple #[.int .i64 ((A + dL (L.drop (nA L)) : Nat) : Int), .int .i64 (dE (L.drop (nA L)))]) ∧ w' = w) := Lib.hid (fun w => by
    have := rneed s A w (by omega) hs
    rw [hA, hD] at this; rw [hA]; exact this)
  obtain ⟨Eb, hEb⟩ : ∃ Eb, Eb = a + nB L := ⟨_, rfl⟩
  have HB1 := Lib.hid (show pL [48] (L.drop (nA L)) = 1 → Eb = A + 1 ∧ eB L = 0 from fun h => ⟨by rw [hEb, hA]; unfold nB iL; rw [if_pos h]; omega, by unfold eB iE; rw [if_pos h]⟩)
  have HB2 := Lib.hid (show ¬ pL [48] (L.drop (nA L)) = 1 → Eb = A + dL (L.drop (nA L)) ∧ eB L = dE (L.drop (nA L)) from fun h => ⟨by rw [hEb, hA]; unfold nB iL; rw [if_neg h]; omega, by unfold eB iE; rw [if_neg h]⟩)
  have hAE : A ≤ Eb := by rw [hA, hEb]; unfold nB; omega
  have HW := Lib.hid (show s.extract A Eb = bA (wW L) by rw [hA, hEb, hT]; unfold wW nB; rw [Nat.add_sub_cancel_left])
  have HWs := Lib.hid (ext_size s A Eb)
  -- those behind the dot
  have H4 : Hid (∀ w, Calls Tryz.prog 95 #[.string s, .int .i64 (Eb : Nat), .int .u8 46, .int .u8 46] w fun e w' => e = .returned (.bool (decide (pL [46] (L.drop (nB L)) = 1))) ∧ w' = w) := Lib.hid (fun w => by
    have := rone s Eb 46 46 w (by omega) hs
    rw [pL_dup, hEb, hD] at this; rw [hEb]; exact this)
  obtain ⟨Ec, hEc⟩ : ∃ Ec, Ec = a + nC L := ⟨_, rfl⟩
  have HC0 := Lib.hid (show pL [46] (L.drop (nB L)) = 1 → Eb + 1 ≤ s.size from fun h => by
    have := one_len h
    rw [List.length_drop] at this; omega)
  have H5 : Hid (pL [46] (L.drop (nB L)) = 1 → eB L = 0 → Ec = Eb + 1 + dL ((L.drop (nB L)).drop 1) ∧ eC L = dE ((L.drop (nB L)).drop 1) ∧ s.extract (Eb + 1) Ec = bA (wB L) ∧ ∀ w, Calls Tryz.prog 96 #[.string s, .int .i64 ((Eb + 1 : Nat) : Int)] w fun e w' => e = .returned (.tuple #[.int .i64 ((Eb + 1 + dL ((L.drop (nB L)).drop 1) : Nat) : Int), .int .i64 (dE ((L.drop (nB L)).drop 1))]) ∧ w' = w) := Lib.hid (fun h h0 => by
    have hlen := HC0.out h
    refine ⟨by rw [hEc, hEb]; unfold nC fL; rw [if_pos h]; omega, by unfold eC fE; rw [if_pos h0, if_pos h], ?_, fun w => ?_⟩
    · rw [hEc, hEb, Nat.add_assoc, hT]
      unfold wB nC
      rw [List.drop_drop, show nB L + fL (L.drop (nB L)) - (nB L + 1) = fL (L.drop (nB L)) - 1 by omega]
    · have := rneed s (Eb + 1) w hlen hs
      rw [show s.data.toList.drop (Eb + 1) = (L.drop (nB L)).drop 1 by rw [hEb, Nat.add_assoc, hD, List.drop_drop]] at this
      exact this)
  have HC1 := Lib.hid (show ¬ pL [46] (L.drop (nB L)) = 1 → eB L = 0 → Ec = Eb ∧ eC L = 0 ∧ bA [] = bA (wB L) from fun h h0 => ⟨by rw [hEc, hEb]; unfold nC fL; rw [if_neg h]; omega, by unfold eC fE; rw [if_pos h0, if_neg h], by unfold wB fL; rw [if_neg h]; rfl⟩)
  have HC2 := Lib.hid (show ¬ eB L = 0 → eC L = eB L from fun h => by unfold eC; rw [if_neg h])
  have HC3 := Lib.hid (show eC L = 0 → eB L = 0 from fun h => (eC_zero h).1)
  have hcl : Ec ≤ s.size := by omega
  have hbl : Eb ≤ s.size := by omega
  -- those behind e
  have H6 : Hid (∀ w, Calls Tryz.prog 95 #[.string s, .int .i64 (Ec : Nat), .int .u8 101, .int .u8 69] w fun e w' => e = .returned (.bool (decide (pL [101, 69] (L.drop (nC L)) = 1))) ∧ w' = w) := Lib.hid (fun w => by
    have := rone s Ec 101 69 w (by omega) hs
    rw [hEc, hD] at this; rw [hEc]; exact this)
  obtain ⟨Ee, hEe⟩ : ∃ Ee, Ee = a + nE L := ⟨_, rfl⟩
  have HX0 := Lib.hid (show pL [101, 69] (L.drop (nC L)) = 1 → Ec + 1 ≤ s.size ∧ Ec + xS (L.drop (nC L)) ≤ s.size from fun h => by
    have h1 := one_len h
    have h2 := xS_len h
    rw [List.length_drop] at h1 h2; omega)
  have H7 : Hid (pL [101, 69] (L.drop (nC L)) = 1 → ∀ w, Calls Tryz.prog 95 #[.string s, .int .i64 ((Ec + 1 : Nat) : Int), .int .u8 43, .int .u8 45] w fun e w' => e = .returned (.bool (decide (pL [43, 45] ((L.drop (nC L)).drop 1) = 1))) ∧ w' = w) := Lib.hid (fun h w => by
    have := rone s (Ec + 1) 43 45 w (HX0.out h).1 hs
    rw [show s.data.toList.drop (Ec + 1) = (L.drop (nC L)).drop 1 by rw [hEc, Nat.add_assoc, hD, List.drop_drop]] at this
    exact this)
  obtain ⟨Es, hEs⟩ : ∃ Es, Es = Ec + xS (L.drop (nC L)) := ⟨_, rfl⟩
  have HX1 := Lib.hid (show Es = Ec + 1 + pL [43, 45] ((L.drop (nC L)).drop 1) by rw [hEs]; unfold xS; omega)
  have H8 : Hid (pL [101, 69] (L.drop (nC L)) = 1 → eC L = 0 → Ee = Es + dL ((L.drop (nC L)).drop (xS (L.drop (nC L)))) ∧ nCode L = dE ((L.drop (nC L)).drop (xS (L.drop (nC L)))) ∧ s.extract (Ec + 1) Ee = bA (wP L) ∧ ∀ w, Calls Tryz.prog 96 #[.string s, .int .i64 (Es : Nat)] w fun e w' => e = .returned (.tuple #[.int .i64 ((Es + dL ((L.drop (nC L)).drop (xS (L.drop (nC L)))) : Nat) : Int), .int .i64 (dE ((L.drop (nC L)).drop (xS (L.drop (nC L)))))]) ∧ w' = w) := Lib.hid (fun h h0 => by
    have hlen := (HX0.out h).2
    refine ⟨by rw [hEe, hEs, hEc]; unfold nE xL; rw [if_pos h]; omega, by unfold nCode xE; rw [if_pos h0, if_pos h], ?_, fun w => ?_⟩
    · rw [hEe, hEc, Nat.add_assoc, hT]
      unfold wP nE
      rw [List.drop_drop, show nC L + xL (L.drop (nC L)) - (nC L + 1) = xL (L.drop (nC L)) - 1 by omega]
    · have := rneed s Es w (by omega) hs
      rw [show s.data.toList.drop Es = (L.drop (nC L)).drop (xS (L.drop (nC L))) by rw [hEs, hEc, Nat.add_assoc, hD, List.drop_drop]] at this
      exact this)
  have HX2 := Lib.hid (show ¬ pL [101, 69] (L.drop (nC L)) = 1 → eC L = 0 → Ee = Ec ∧ nCode L = 0 ∧ bA [] = bA (wP L) from fun h h0 => ⟨by rw [hEe, hEc]; unfold nE xL; rw [if_neg h]; omega, by unfold nCode xE; rw [if_pos h0, if_neg h], by unfold wP xL; rw [if_neg h]; rfl⟩)
  have HX3 := Lib.hid (show ¬ eC L = 0 → nCode L = eC L from fun h => by unfold nCode; rw [if_neg h])
  have HX4 := Lib.hid (show nCode L = 0 → eC L = 0 from fun h => (codes h).2.1)
  have hel : Ee ≤ s.size := by omega
  have HEe := Lib.hid hEe
  have HA1 := Lib.hid (show pL [45] L = 1 → A = a + 1 from fun h => by rw [hA]; unfold nA; rw [h])
  have HA0 := Lib.hid (show ¬ pL [45] L = 1 → A = a from fun h => by rw [hA]; unfold nA; have := pL_le [45] L; omega)
  clear hD hT hll lA lB lC lE hA hEb hEc hEe hEs HC0
  obtain ⟨xb, hxb⟩ : ∃ xb, xb = eB L := ⟨_, rfl⟩
  obtain ⟨xc, hxc⟩ : ∃ xc, xc = eC L := ⟨_, rfl⟩
  obtain ⟨xe, hxe⟩ : ∃ xe, xe = nCode L := ⟨_, rfl⟩
  rw [← hxb] at HB1 HB2 H5 HC1 HC2 HC3
  rw [← hxc] at H5 HC1 HC2 HC3 H8 HX2 HX3 HX4
  rw [← hxe] at H8 HX2 HX3 HX4 ⊢
  clear hxb hxc hxe
  go_enter Tryz.func82, Tryz.ntmps82
  go_wp2_with fail
  have HS : SpR w (w.heap.size + 1) w.heap.size ⟨#[]⟩ ⟨#[]⟩ ⟨#[]⟩ 0 0 ((w.alloc (.cells #[.string ⟨#[]⟩, .string ⟨#[]⟩, .string ⟨#[]⟩, .int .i64 0, .int .i64 0] 119)).alloc (.cells #[.string ⟨#[]⟩, .string ⟨#[]⟩, .string ⟨#[]⟩, .int .i64 0, .int .i64 0] 119)) :=
    ⟨heap_alloc2_new w _ _, heap_alloc2_old w _ _, ((Below.refl _ _).alloc (Nat.le_refl _) _).alloc (by simp) _, by omega, Nat.le_refl _, by omega⟩
  generalize (w.alloc (.cells #[.string ⟨#[]⟩, .string ⟨#[]⟩, .string ⟨#[]⟩, .int .i64 0, .int .i64 0] 119)).alloc (.cells #[.string ⟨#[]⟩, .string ⟨#[]⟩, .string ⟨#[]⟩, .int .i64 0, .int .i64 0] 119) = w1 at HS ⊢
  generalize w.heap.size + 1 = g at HS ⊢
  with_reducible refine (H1.out _).mono ?_
  rintro e w2 ⟨rfl, hw⟩
  rw [hw]; clear hw
  go_upto_if 9 with fail
  go_cut [1] from 7 (fun v wx => v = .int .i64 ((A : Nat) : Int) ∧ wx = w1)
  case first =>
    by_cases hz : pL [45] L = 1
    · have h1 := HA1.out hz
      have m1 := wrap_next (a := a) (b := A) h1 (by omega)
      rw [decide_eq_true hz]
      go_wp2_with fail
      go_meet
      case rel => exact ⟨by rw [h1]; go_num, rfl⟩
    · have h1 := HA0.out hz
      rw [decide_eq_false hz]
      go_wp2_with fail
      go_meet
      case rel => exact ⟨by rw [h1], rfl⟩
  case rest =>
    obtain ⟨rfl, hwc⟩ := hcut
    rw [← hwc] at HS
    clear H1 HA1 HA0 hwc
    go_wp2_with fail
    with_reducible refine (H2.out _).mono ?_
    rintro e w3 ⟨rfl, hw⟩
    rw [hw]; clear hw
    go_upto_if 15 with fail
    go_cut [] from 7 (fun wx => SpR w g w.heap.size ⟨#[]⟩ ⟨#[]⟩ ⟨#[]⟩ ((Eb : Nat) : Int) xb wx)
    case first =>
      have c3 := HS.pg.c3
      have c4 := HS.pg.c4
      have fr := HS.pg.fr
      by_cases hz : pL [48] (L.drop (nA L)) = 1
      · obtain ⟨h1, h2⟩ := HB1.out hz
        have HE := Lib.hid h2
        have m1 := wrap_next (a := A) (b := Eb) h1 (by omega)
        clear h1 h2
        rw [decide_eq_true hz]
        clear hz
        go_wp2_with fail
        go_meet
        case rel =>
          rw [HE.out]
          exact HS.set3 _
      · obtain ⟨h1, h2⟩ := HB2.out hz
        have HE := Lib.hid (And.intro h1 h2)
        clear h1 h2
        rw [decide_eq_false hz]
        clear hz
        go_wp2_with fail
        with_reducible refine (H3.out _).mono ?_
        rintro e w4 ⟨rfl, hw⟩
        rw [hw]; clear hw
        go_wp2_with fail
        go_meet
        case rel =>
          rw [HE.out.1, HE.out.2]
          exact (HS.set3 _).set4 _
    case rest =>
      clear H2 H3 HB1 HB2 HS
      have HS := hcut
      clear hcut
      have c0 := HS.pg.c0
      have c3 := HS.pg.c3
      have fr := HS.pg.fr
      have k1 : (A : Int) ≤ (Eb : Int) := by omega
      have k2 : (Eb : Int) ≤ (s.size : Int) := by omega
      have k3 : (0 : Int) ≤ (A : Int) := by omega
      go_upto_region 9 with fail
      have HS3 := HS.set0 (s.extract A Eb)
      clear c0 c3 fr HS
      generalize wc.setCell ⟨g, 0, none⟩ (.string (s.extract A Eb)) = w5 at HS3 ⊢
      go_cut [41] from 7 (fun v wx => v = .bool (decide (xb = 0 ∧ pL [46] (L.drop (nB L)) = 1)) ∧ wx = w5)
      case first =>
        have c3 := HS3.pg.c3
        have c4 := HS3.pg.c4
        by_cases h0 : xb = 0
        · have p1 : (xb == 0) = true := by simp [h0]
          go_wp2_with fail
          with_reducible refine (H4.out _).mono ?_
          rintro e w6 ⟨rfl, hw⟩
          rw [hw]; clear hw
          go_wp2_with fail
          go_meet
          case rel => exact ⟨by simp only [h0, true_and], rfl⟩
        · have p1 : (xb == 0) = false := by simp [h0]
          go_wp2_with fail
          go_meet
          case rel => exact ⟨by simp only [h0, false_and, decide_false], rfl⟩
      case rest =>
        obtain ⟨rfl, hwc⟩ := hcut
        rw [← hwc] at HS3
        clear H4 hwc
        go_upto_if 41 with fail
        go_cut [] from 7 (fun wx => ∃ (B : ByteArray) (En : Nat), SpR w g w.heap.size (s.extract A Eb) B ⟨#[]⟩ ((En : Nat) : Int) xc wx ∧ En ≤ s.size ∧ B.size ≤ s.size ∧ (xc = 0 → En = Ec ∧ B = bA (wB L)))
        case first =>
          have c3 := HS3.pg.c3
          have c4 := HS3.pg.c4
          have fr := HS3.pg.fr
          by_cases hz : xb = 0 ∧ pL [46] (L.drop (nB L)) = 1
          · obtain ⟨h1, h2, h3, h4⟩ := H5.out hz.2 hz.1
            obtain ⟨Q, hQ⟩ : ∃ Q, Q = Eb + 1 := ⟨_, rfl⟩
            rw [← hQ] at h1 h3 h4
            have hEd : Q ≤ Ec := by omega
            rw [← h1, ← h2] at h4
            have HE := Lib.hid h3
            have HN := Lib.hid h4
            have k4 : ((Q : Nat) : Int) ≤ (Ec : Int) := by omega
            have k5 : (Ec : Int) ≤ (s.size : Int) := by omega
            have k6 : (0 : Int) ≤ ((Q : Nat) : Int) := by omega
            have m1 := wrap_next (a := Eb) (b := Q) hQ (by omega)
            rw [decide_eq_true hz]
            clear h1 h2 h3 h4 hz hQ
            go_wp2_with fail
            with_reducible refine (HN.out _).mono ?_
            rintro e w7 ⟨rfl, hw⟩
            rw [hw]; clear hw
            go_upto_region 12 with fail
            have HS4 := (HS3.set3 ((Ec : Nat) : Int)).set4 xc
            clear c3 c4 fr HS3
            generalize (wc.setCell ⟨g, 3, none⟩ (.int .i64 ((Ec : Nat) : Int))).setCell ⟨g, 4, none⟩ (.int .i64 xc) = w8 at HS4 ⊢
            have c1 := HS4.pg.c1
            have c3 := HS4.pg.c3
            have fr := HS4.pg.fr
            go_wp2_with fail
            go_meet
            case rel =>
              exact ⟨s.extract Q Ec, Ec, HS4.set1 _, hcl, ext_size _ _ _, fun _ => ⟨rfl, HE.out⟩⟩
          · have HE := Lib.hid (show ∃ En : Nat, (Eb = En ∧ xb = xc) ∧ (xc = 0 → En = Ec ∧ (⟨#[]⟩ : ByteArray) = bA (wB L)) from by
              by_cases h0 : xb = 0
              · obtain ⟨h1, h2, h3⟩ := HC1.out (fun h => hz ⟨h0, h⟩) h0
                exact ⟨Eb, ⟨rfl, h0.trans h2.symm⟩, fun _ => ⟨h1.symm, h3⟩⟩
              · have := HC2.out h0
                exact ⟨Eb, ⟨rfl, this.symm⟩, fun h => absurd (this.symm.trans h) h0⟩)
            rw [decide_eq_false hz]
            clear hz
            go_wp2_with fail
            go_meet
            case rel =>
              obtain ⟨En, ⟨h1, h2⟩, h3⟩ := HE.out
              refine ⟨⟨#[]⟩, En, ?_, h1 ▸ hbl, Nat.zero_le _, h3⟩
              rw [← h1, ← h2]; exact HS3
        case rest =>
          obtain ⟨B, En, HS4, hEn, hBs, hBx⟩ := hcut
          have HB := Lib.hid (And.intro hBs hBx)
          clear H5 HC1 HC2 HC3 HS3 hBs
          go_upto_region 13 with fail
          go_cut [67] from 7 (fun v wx => v = .bool (decide (xc = 0 ∧ pL [101, 69] (L.drop (nC L)) = 1)) ∧ wx = wc)
          case first =>
            have c3 := HS4.pg.c3
            have c4 := HS4.pg.c4
            by_cases h0 : xc = 0
            · have p1 : (xc == 0) = true := by simp [h0]
              rw [(hBx h0).1] at c3
              go_wp2_with fail
              with_reducible refine (H6.out _).mono ?_
              rintro e w6 ⟨rfl, hw⟩
              rw [hw]; clear hw
              go_wp2_with fail
              go_meet
              case rel => exact ⟨by simp only [h0, true_and], rfl⟩
            · have p1 : (xc == 0) = false := by simp [h0]
              go_wp2_with fail
              go_meet
              case rel => exact ⟨by simp only [h0, false_and, decide_false], rfl⟩
          case rest =>
            obtain ⟨rfl, hwc⟩ := hcut
            rw [← hwc] at HS4
            clear H6 hwc
            go_upto_if 67 with fail
            go_cut [] from 7 (fun wx => ∃ (P : ByteArray) (Ex : Nat), SpR w g w.heap.size (s.extract A Eb) B P ((Ex : Nat) : Int) xe wx ∧ Ex ≤ s.size ∧ P.size ≤ s.size ∧ (xe = 0 → Ex = Ee ∧ P = bA (wP L)))
            case first =>
              have c3 := HS4.pg.c3
              have c4 := HS4.pg.c4
              have fr := HS4.pg.fr
              by_cases hz : xc = 0 ∧ pL [101, 69] (L.drop (nC L)) = 1
              · obtain ⟨h1, h2, h3, h4⟩ := H8.out hz.2 hz.1
                have h7 := H7.out hz.2
                have hlim := (HX0.out hz.2).1
                have hes := HX1.out
                obtain ⟨Q, hQ⟩ : ∃ Q, Q = Ec + 1 := ⟨_, rfl⟩
                rw [← hQ] at h3 h7 hes hlim
                have hxs : Es ≤ Ee := by omega
                rw [← h1, ← h2] at h4
                obtain ⟨sb, hsb⟩ : ∃ sb, sb = decide (pL [43, 45] ((L.drop (nC L)).drop 1) = 1) := ⟨_, rfl⟩
                have hs1 : sb = true → Es = Q + 1 := fun h => by
                  rw [h] at hsb
                  have := of_decide_eq_true hsb.symm
                  omega
                have hs0 : sb = false → Es = Q := fun h => by
                  rw [h] at hsb
                  have := of_decide_eq_false hsb.symm
                  have := pL_le [43, 45] ((L.drop (nC L)).drop 1)
                  omega
                rw [← hsb] at h7
                have HE := Lib.hid h3
                have HN := Lib.hid h4
                have HO := Lib.hid h7
                have HSB := Lib.hid (And.intro hs1 hs0)
                have hqs : Q ≤ Es := by omega
                rw [(hBx hz.1).1] at c3 HS4
                have k4 : ((Q : Nat) : Int) ≤ (Ee : Int) := by omega
                have k5 : (Ee : Int) ≤ (s.size : Int) := by omega
                have k6 : (0 : Int) ≤ ((Q : Nat) : Int) := by omega
                have HM2 := Lib.hid (show sb = true → IntKind.i64.wrap (((Q : Nat) : Int) + 1) = ((Es : Nat) : Int) from fun h => wrap_next (hs1 h) (by omega))
                have m1 := wrap_next (a := Ec) (b := Q) hQ (by omega)
                rw [decide_eq_true hz]
                clear h1 h2 h3 h4 hz hBx hQ h7 hsb hs1 hs0 hes
                go_wp2_with fail
                with_reducible refine (HO.out _).mono ?_
                rintro e w9 ⟨rfl, hw⟩
                rw [hw]; clear hw
                go_upto_if 74 with fail
                go_cut [1] from 68 (fun v wx => v = .int .i64 ((Es : Nat) : Int) ∧ wx = wc)
                case first =>
                  cases hy : sb with
                  | true =>
                    have m2 := HM2.out hy
                    go_wp2_with fail
                    go_meet
                    case rel => exact ⟨rfl, rfl⟩
                  | false =>
                    have h0 := HSB.out.2 hy
                    go_wp2_with fail
                    go_meet
                    case rel => exact ⟨by rw [h0], rfl⟩
                case rest =>
                  obtain ⟨rfl, hwc⟩ := hcut
                  rw [← hwc] at c3 c4 fr HS4
                  clear hwc
                  go_wp2_with fail
                  with_reducible refine (HN.out _).mono ?_
                  rintro e w10 ⟨rfl, hw⟩
                  rw [hw]; clear hw
                  go_upto_region 19 with fail
                  have HS6 := (HS4.set3 ((Ee : Nat) : Int)).set4 xe
                  clear c3 c4 fr HS4
                  generalize (wc.setCell ⟨g, 3, none⟩ (.int .i64 ((Ee : Nat) : Int))).setCell ⟨g, 4, none⟩ (.int .i64 xe) = w11 at HS6 ⊢
                  have c2 := HS6.pg.c2
                  have c3 := HS6.pg.c3
                  have fr := HS6.pg.fr
                  clear hxs
                  go_wp2_with fail
                  go_meet
                  case rel =>
                    exact ⟨s.extract Q Ee, Ee, HS6.set2 _, hel, ext_size _ _ _, fun _ => ⟨rfl, HE.out⟩⟩
              · have HE := Lib.hid (show (xc = xe) ∧ (xe = 0 → En = Ee ∧ (⟨#[]⟩ : ByteArray) = bA (wP L)) from by
                  by_cases h0 : xc = 0
                  · obtain ⟨h1, h2, h3⟩ := HX2.out (fun h => hz ⟨h0, h⟩) h0
                    exact ⟨h0.trans h2.symm, fun _ => ⟨(hBx h0).1.trans h1.symm, h3⟩⟩
                  · have := HX3.out h0
                    exact ⟨this.symm, fun h => absurd (this.symm.trans h) h0⟩)
                rw [decide_eq_false hz]
                clear hz
                go_wp2_with fail
                go_meet
                case rel =>
                  obtain ⟨h2, h3⟩ := HE.out
                  refine ⟨⟨#[]⟩, En, ?_, hEn, Nat.zero_le _, h3⟩
                  rw [← h2]; exact HS4
            case rest =>
              obtain ⟨P, Ex, HS5, hEx, hPs, hPx⟩ := hcut
              have HP := Lib.hid (And.intro hPs hPx)
              have HF := Lib.hid (And.intro hEx hPs)
              have HX4' := HX4
              clear hPs hPx hBx HS4 H7 H8 HX0 HX1 HX2 HX3 HX4
              have c0 := HS5.pk.c0
              have c1 := HS5.pk.c1
              have c2 := HS5.pk.c2
              have c3 := HS5.pk.c3
              have c4 := HS5.pk.c4
              have fr := HS5.pk.fr
              have d0 := HS5.pg.c0
              have d1 := HS5.pg.c1
              have d2 := HS5.pg.c2
              have d3 := HS5.pg.c3
              have d4 := HS5.pg.c4
              go_step; go_step; go_step; go_step; go_simp; go_step; go_step; go_simp; go_step; go_step; go_step; go_step; go_step; go_step
              have HK := ((((HS5.pk.set0 (s.extract A Eb)).set1 B).set2 P).set3 ((Ex : Nat) : Int)).set4 xe
              refine bodyPost_ret (part_result Tryz.results82 HK rfl) rfl ?_
              refine ⟨s.extract A Eb, B, P, Ex, rfl, ?_, ?_⟩
              · exact ⟨fun h => ⟨HW.out, (HB.out.2 (HX4'.out h)).2, (HP.out.2 h).2, (HP.out.2 h).1.trans HEe.out⟩, HWs.out, HB.out.1, HP.out.1, HF.out.1⟩
              · have HL := Nat.le_refl w.heap.size
                exact below_put (below_put (below_put (below_put (below_put HS5.bel HL) HL) HL) HL) HL
end Go.Proofs.YtnbhhnkcfbfdcaaGreatDoor
/- The document's own Read of a number. -/
namespace Go.Proofs.YtnbhhnkcfbfdcaaGreatDoor
open Go Go.RowKit
set_option linter.unusedVariables false

/-- Where the document's own reading leaves the cursor. -/
def CS.nTo (c : CS) : CS := if c.nc = 0 then c.past (nE c.bs) else c.bad c.nc
theorem ret_nr {c a : CS} {b : ByteArray} (h : c.nTo = a) (k : bA c.nt = b) : Ending.returned (.tuple #[a.val, .string b]) = .returned (.tuple #[c.nTo.val, .string (bA c.nt)]) := by rw [h, k]
/-- The worlds within: the cursor's block, the answer's, nothing else turned. -/
structure WN (w wx : World) (c : CS) : Prop where
  r : CurT 76 wx w.heap.size c
  z : CurT 76 wx (w.heap.size + 1) CS.zero
  b : Below w.heap.size w wx
theorem WN.next {w wx w' : World} {c : CS} (h : WN w wx c) (hb : Below wx.heap.size wx w') : WN w w' c := ⟨Below.cur hb h.r h.r.lt, Below.cur hb h.z h.z.lt, h.b.trans (hb.mono h.b.size)⟩
theorem WN.alloc {w wx : World} {c : CS} (h : WN w wx c) (o : Obj) : WN w (wx.alloc o) c := h.next ((Below.refl _ _).alloc (Nat.le_refl _) _)
theorem WN.drew {w wx : World} {c : CS} (h : WN w wx c) : WN w wx.drew c := ⟨h.r, h.z, h.b.drew⟩
theorem WN.all {w wx : World} {c : CS} (h : WN w wx c) : wx.cell? ⟨w.heap.size, 0, none⟩ = some (.string c.s) ∧ wx.cell? ⟨w.heap.size, 2, none⟩ = some (.int .i64 c.en) ∧ wx.cell? ⟨w.heap.size, 1, none⟩ = some (.int .i64 c.at_) := ⟨h.r.c0, h.r.c2, h.r.c1⟩
theorem WN.first (w : World) (c : CS) : WN w ((w.alloc (.cells #[.string c.s, .int .i64 c.at_, .int .i64 c.en, .int .i64 c.er] 76)).alloc (.cells #[.string ⟨#[]⟩, .int .i64 0, .int .i64 0, .int .i64 0] 76)) c := by
  obtain ⟨h1, h2, h3⟩ := two_laid (w := w) c CS.zero 76 (Below.refl _ _)
  exact ⟨h1, h2, h3⟩
/-- Block g is the parts', behind both. -/
structure WP (w wx : World) (g : Nat) : Prop where
  blk : PB wx g ⟨#[]⟩ ⟨#[]⟩ ⟨#[]⟩ 0 0
  far : w.heap.size + 1 < g
theorem WN.new {w wx : World} {c : CS} (h : WN w wx c) : WP w (wx.alloc (.cells #[.string ⟨#[]⟩, .string ⟨#[]⟩, .string ⟨#[]⟩, .int .i64 0, .int .i64 0] 119)) wx.heap.size := ⟨heap_alloc_new wx _, h.z.lt⟩
theorem WP.next {w wx w' : World} {g : Nat} (h : WP w wx g) (hb : Below wx.heap.size wx w') : WP w w' g := ⟨h.blk.below hb h.blk.lt, h.far⟩
theorem WP.drew {w wx : World} {g : Nat} (h : WP w wx g) : WP w wx.drew g := ⟨h.blk, h.far⟩
def pStore (wx : World) (g : Nat) (W B P : ByteArray) (E C : Int) : World := ((((wx.setCell ⟨g, 0, none⟩ (.string W)).setCell ⟨g, 1, none⟩ (.string B)).setCell ⟨g, 2, none⟩ (.string P)).setCell ⟨g, 3, none⟩ (.int .i64 E)).setCell ⟨g, 4, none⟩ (.int .i64 C)
theorem wn_stored {w wx : World} {c : CS} {g : Nat} (h : WN w wx c) (k : WP w wx g) (W B P : ByteArray) (E C : Int) :
    PB (((((wx.setCell ⟨g, 0, none⟩ (.string W)).setCell ⟨g, 1, none⟩ (.string B)).setCell ⟨g, 2, none⟩ (.string P)).setCell ⟨g, 3, none⟩ (.int .i64 E)).setCell ⟨g, 4, none⟩ (.int .i64 C)) g W B P E C ∧ WN w (((((wx.setCell ⟨g, 0, none⟩ (.string W)).setCell ⟨g, 1, none⟩ (.string B)).setCell ⟨g, 2, none⟩ (.string P)).setCell ⟨g, 3, none⟩ (.int .i64 E)).setCell ⟨g, 4, none⟩ (.int .i64 C)) c ∧ w.heap.size + 1 < g := by
  have hf := k.far
  have hb : Below (w.heap.size + 2) wx (((((wx.setCell ⟨g, 0, none⟩ (.string W)).setCell ⟨g, 1, none⟩ (.string B)).setCell ⟨g, 2, none⟩ (.string P)).setCell ⟨g, 3, none⟩ (.int .i64 E)).setCell ⟨g, 4, none⟩ (.int .i64 C)) := below_put (below_put (below_put (below_put (below_put (Below.refl _ _) hf) hf) hf) hf) hf
  have hg : w.heap.size ≤ g := by omega
  exact ⟨((((k.blk.set0 W).set1 B).set2 P).set3 E).set4 C, ⟨Below.cur hb h.r (by omega), Below.cur hb h.z (by omega), below_put (below_put (below_put (below_put (below_put h.b hg) hg) hg) hg) hg⟩, hf⟩
theorem wn_laid {w wx : World} {c : CS} (h : WN w wx c) (W B P : ByteArray) (E C : Int) :
    PB (wx.alloc (.cells #[.string W, .string B, .string P, .int .i64 E, .int .i64 C] 119)) wx.heap.size W B P E C ∧ WN w (wx.alloc (.cells #[.string W, .string B, .string P, .int .i64 E, .int .i64 C] 119)) c ∧ w.heap.size + 1 < wx.heap.size :=
  ⟨heap_alloc_new wx _, h.alloc _, h.z.lt⟩
theorem front_list (s : ByteArray) (e : Nat) : (s.extract 0 e).data.toList = s.data.toList.take e := by
  rw [ext_toList, List.drop_zero, Nat.sub_zero]
theorem front_bs (c : CS) : (c.s.extract 0 c.en).data.toList.drop c.at_ = c.bs := by rw [front_list]; rfl

set_option maxRecDepth 100000 in
set_option maxHeartbeats 2000000 in
theorem rnread_err (c : CS) (w : World) (hc : c.ok) (h0 : ¬ c.er = 0) :
    Calls Tryz.prog 65 #[.agg #[.string c.s, .int .i64 c.at_, .int .i64 c.en, .int .i64 c.er]] w fun e w' => e = .returned (.tuple #[c.nTo.val, .string (bA c.nt)]) ∧ Below w.heap.size w w' := by
  have hb : (c.er != 0) = true := bne_iff_ne.mpr h0
  have hn : c.nc = c.er := by unfold CS.nc; rw [if_neg h0]
  have HR := Lib.hid (show c.nTo = c ∧ bA c.nt = ⟨#[]⟩ from ⟨by unfold CS.nTo; rw [hn, if_neg h0]; rfl, by unfold CS.nt; rw [hn, if_neg h0]; rfl⟩)
  clear h0 hn
  go_enter Tryz.func65, Tryz.ntmps65
  go_wp2
  go_returns
  exact ⟨ret_nr (c := c) (a := c) HR.out.1 HR.out.2, by go_grown⟩

theorem cur_result2 {fn : Func} {p u : Tmp} (h : fn.results = #[.cell p 76, .tmp u]) {tmps : Array Value} {w : World} {g : Nat} {c : CS} {v : Value} (hg : CurT 76 w g c) (hp : tmps.getD p undef = .pointer (some ⟨g, 0, none⟩)) (hv : tmps.getD u undef = v) :
    (results fn tmps).run Tryz.prog w = .ok (.tuple #[c.val, v]) w := by
  have hq := run_loadVar_row (P := Tryz.prog) w g 76 76 #[.string c.s, .int .i64 c.at_, .int .i64 c.en, .int .i64 c.er] (0, 0) _ hg Tryz.underlying76 rfl (by kernel_rfl)
  have hp' : tmps[p]?.getD undef = .pointer (some ⟨g, 0, none⟩) := by simpa using hp
  have hv' : tmps[u]?.getD undef = v := by simpa using hv
  simp [results, h, hp', hv', asAddr, hq, CS.val]
/-- Where the parts are read: their block, and the rest as it was. -/
def RnCut (w : World) (c : CS) (q : Value) (wx : World) : Prop :=
  ∃ (g E : Nat) (W B P : ByteArray), q = .pointer (some ⟨g, 0, none⟩) ∧ PB wx g W B P ((E : Nat) : Int) (nCode c.bs) ∧ WN w wx c ∧ w.heap.size + 1 < g ∧ (nCode c.bs = 0 → E = c.at_ + nE c.bs)
set_option maxRecDepth 100000 in
set_option maxHeartbeats 4000000 in
theorem rnread_ok (c : CS) (w : World) (hc : c.ok) (hs : c.s.size ≤ 1125899906842624) (h0 : c.er = 0) :
    Calls Tryz.prog 65 #[.agg #[.string c.s, .int .i64 c.at_, .int .i64 c.en, .int .i64 c.er]] w fun e w' => e = .returned (.tuple #[c.nTo.val, .string (bA c.nt)]) ∧ Below w.heap.size w w' := by
  obtain ⟨k1, k2, k3⟩ := hc
  have hb : (c.er != 0) = false := by rw [h0]; rfl
  have hsz : (c.s.extract 0 c.en).size = c.en := by rw [ByteArray.size_extract]; omega
  have HS : Hid (∀ w, Calls Tryz.prog 82 #[.string (c.s.extract 0 c.en), .int .i64 (c.at_ : Nat)] w fun e w' => ∃ W B P E, e = .returned (.agg #[.string W, .string B, .string P, .int .i64 ((E : Nat) : Int), .int .i64 (nCode c.bs)]) ∧ SplT (c.s.extract 0 c.en) c.at_ W B P E ∧ Below w.heap.size w w') := Lib.hid (fun w => by
    have := rsplit_any (c.s.extract 0 c.en) c.at_ w (by omega) (by omega)
    rw [front_bs] at this; exact this)
  have HW := Lib.hid (WN.first w c)
  have i1 : (c.en : Int) ≤ (c.s.size : Int) := by omega
  have i2 : (0 : Int) ≤ (c.en : Int) := by omega
  have hle := nE_len c.bs
  rw [CS.bs_length ⟨k1, k2, k3⟩] at hle
  have hcut := fun k hk => CS.cut_bs (c := c) ⟨k1, k2, k3⟩ (k := k) hk
  have HCut := Lib.hid (hcut (nE c.bs) (nE_len _))
  have hnc : c.nc = nCode c.bs := by unfold CS.nc; rw [if_pos h0]
  have HT := Lib.hid (show (nCode c.bs = 0 → c.nTo = c.past (nE c.bs) ∧ bA c.nt = bA (c.bs.take (nE c.bs))) ∧ (¬ nCode c.bs = 0 → c.nTo = c.bad (nCode c.bs) ∧ bA c.nt = ⟨#[]⟩) from
    ⟨fun h => ⟨by unfold CS.nTo; rw [hnc, if_pos h], by unfold CS.nt; rw [hnc, if_pos h]⟩, fun h => ⟨by unfold CS.nTo; rw [hnc, if_neg h], by unfold CS.nt; rw [hnc, if_neg h]; rfl⟩⟩)
  have HF := Lib.hid (fun k w => ref_fail0 c k w h0)
  have HSp := Lib.hid (fun (W B P : ByteArray) (E : Nat) (h : SplT (c.s.extract 0 c.en) c.at_ W B P E) (hz : nCode c.bs = 0) => (by
    have := h.1 (by rw [front_bs]; exact hz)
    rw [front_bs] at this
    exact this.2.2.2 : E = c.at_ + nE c.bs))
  clear hcut hnc hsz h0
  go_enter Tryz.func65, Tryz.ntmps65
  go_upto_region 3 with fail
  go_cut [4] from 6 (fun q wx => RnCut w c q wx)
  case first =>
    have hW := HW.out
    generalize ((w.alloc (.cells #[.string c.s, .int .i64 c.at_, .int .i64 c.en, .int .i64 c.er] 76)).alloc (.cells #[.string ⟨#[]⟩, .int .i64 0, .int .i64 0, .int .i64 0] 76)) = w0 at *
    have hW' := hW.all
    have HW0 := Lib.hid hW
    clear hW HW HT HF HCut
    go_region_held3 (fun wx => wx.cell? ⟨w.heap.size, 0, none⟩ = some (.string c.s) ∧ wx.cell? ⟨w.heap.size, 2, none⟩ = some (.int .i64 c.en) ∧ wx.cell? ⟨w.heap.size, 1, none⟩ = some (.int .i64 c.at_))
      (first | with_reducible exact HW0.out.drew.all | with_reducible exact HW1.out.all | with_reducible exact (HW1.out.alloc _).all | with_reducible exact (HW0.out.alloc _).drew.all | with_reducible exact (wn_stored HW1.out HG1.out _ _ _ _ _).2.1.all | with_reducible exact (wn_laid HW1.out _ _ _ _ _).2.1.all)
      (first
      | (go_at_call 82; go_loud (with_reducible refine (HS.out _).mono ?_; rintro r w1 ⟨W, B, P, E, rfl, hT, b1⟩); (first | have HW1 := Lib.hid (HW0.out.drew.next b1) | (have HW1 := Lib.hid ((HW0.out.alloc _).drew.next b1); have HG1 := Lib.hid (show WP w w1 w0.heap.size from HW0.out.new.drew.next b1); have g0 := HG1.out.blk.c0; have g1 := HG1.out.blk.c1; have g2 := HG1.out.blk.c2; have g3 := HG1.out.blk.c3; have g4 := HG1.out.blk.c4; have gf := HG1.out.blk.fr)); have HX := Lib.hid (HSp.out W B P E hT); clear b1 hT))
    all_goals go_wp2_with fail
    all_goals go_meet
    all_goals (case rel => first
      | (have HY := wn_stored HW1.out HG1.out W B P ((E : Nat) : Int) (nCode c.bs)
         refine ⟨w0.heap.size, E, W, B, P, rfl, ?_, ?_, ?_, ?_⟩
         · exact HY.1
         · exact HY.2.1
         · exact HY.2.2
         · exact HX.out)
      | (have HY := wn_laid HW1.out W B P ((E : Nat) : Int) (nCode c.bs)
         refine ⟨w1.heap.size, E, W, B, P, rfl, ?_, ?_, ?_, ?_⟩
         · exact HY.1
         · exact HY.2.1
         · exact HY.2.2
         · exact HX.out))
  case rest =>
    obtain ⟨g, E, W, B, P, rfl, hP, hN, hfar, hE⟩ := hcut
    by_cases hz : nCode c.bs = 0
    · have hE2 := hE hz
      have HT2 := Lib.hid (HT.out.1 hz)
      have p1 : (nCode c.bs != 0) = false := by rw [hz]; rfl
      have j1 : (c.at_ : Int) ≤ (E : Int) := by omega
      have j2 : (E : Int) ≤ (c.s.size : Int) := by omega
      have j3 : (0 : Int) ≤ (c.at_ : Int) := by omega
      have HX := Lib.hid (show c.s.extract c.at_ E = bA (c.bs.take (nE c.bs)) by rw [hE2]; exact HCut.out)
      have HE := Lib.hid hE2
      have d3 := hP.c3
      have d4 := hP.c4
      rw [hz] at d4
      have a0 := hN.r.c0
      have a1 := hN.r.c1
      have a2 := hN.r.c2
      have a3 := hN.r.c3
      have af := hN.r.fr
      clear hE hE2 hz HT HS HF HSp HW
      go_upto_region 8 with fail
      have R := hN.r.setAt E
      have Z : CurT 76 (wc.setCell ⟨w.heap.size, 1, none⟩ (.int .i64 ((E : Nat) : Int))) (w.heap.size + 1) CS.zero := (Below.heap_setCell _ _ _ _ (Nat.succ_ne_self _)).trans hN.z
      have hbel := below_put (o := 1) (v := .int .i64 ((E : Nat) : Int)) hN.b (Nat.le_refl _)
      clear d3 d4 a0 a1 a2 a3 af hN hP
      generalize wc.setCell ⟨w.heap.size, 1, none⟩ (.int .i64 ((E : Nat) : Int)) = w5 at R Z hbel ⊢
      have a0 := R.c0
      have a1 := R.c1
      have a2 := R.c2
      have a3 := R.c3
      have z0 := Z.c0
      have z1 := Z.c1
      have z2 := Z.c2
      have z3 := Z.c3
      have zf := Z.fr
      go_wp2
      have HZ := Z.setAll { c with at_ := E }
      refine bodyPost_ret (cur_result2 Tryz.results65 HZ rfl rfl) rfl ?_
      refine ⟨ret_nr (by rw [HT2.out.1, HE.out]; rfl) (by rw [HT2.out.2]; exact HX.out.symm), ?_⟩
      have HL := Nat.le_succ w.heap.size
      exact below_put (below_put (below_put (below_put hbel HL) HL) HL) HL
    · have HT2 := Lib.hid (HT.out.2 hz)
      have p1 : (nCode c.bs != 0) = true := bne_iff_ne.mpr hz
      have HF2 := Lib.hid (HF.out (nCode c.bs))
      have d4 := hP.c4
      have a0 := hN.r.c0
      have a1 := hN.r.c1
      have a2 := hN.r.c2
      have a3 := hN.r.c3
      have af := hN.r.fr
      clear hE hz HT HS HF HSp HW HCut hP
      generalize nCode c.bs = X at *
      go_wp2_with fail
      with_reducible refine (HF2.out _).mono ?_
      rintro e w4 ⟨rfl, hb4⟩
      have hN4 := hN.next hb4
      have Z := hN4.z
      have hbel := hN4.b
      clear d4 a0 a1 a2 a3 af hN hN4 hb4
      have z0 := Z.c0
      have z1 := Z.c1
      have z2 := Z.c2
      have z3 := Z.c3
      have zf := Z.fr
      go_wp2
      have HZ := Z.setAll (c.bad X)
      refine bodyPost_ret (cur_result2 Tryz.results65 HZ rfl rfl) rfl ?_
      refine ⟨ret_nr HT2.out.1 HT2.out.2, ?_⟩
      have HL := Nat.le_succ w.heap.size
      exact below_put (below_put (below_put (below_put hbel HL) HL) HL) HL
theorem rnread_any (c : CS) (w : World) (hc : c.ok) (hs : c.s.size ≤ 1125899906842624) :
    Calls Tryz.prog 65 #[.agg #[.string c.s, .int .i64 c.at_, .int .i64 c.en, .int .i64 c.er]] w fun e w' => e = .returned (.tuple #[c.nTo.val, .string (bA c.nt)]) ∧ Below w.heap.size w w' := by
  by_cases h0 : c.er = 0
  · exact rnread_ok c w hc hs h0
  · exact rnread_err c w hc h0
end Go.Proofs.YtnbhhnkcfbfdcaaGreatDoor
