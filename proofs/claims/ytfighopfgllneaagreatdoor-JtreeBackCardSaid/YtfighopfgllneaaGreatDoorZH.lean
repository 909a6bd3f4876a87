/- Several texts in one (JnRefA, JnSpl): each begins with its own words. -/
import Derived.Test.YtfighopfgllneaaGreatDoorZG
import Derived.Test.YtfighopfgllneaaGreatDoorZA
import Derived.OwnWalk
import Derived.OneCell
import Derived.Deep.Cut
/- The document's own numbers (package truchmanref11): run, one, need. -/
namespace Go.Proofs.YtfighopfgllneaaGreatDoor
open Go Go.RowKit
set_option linter.unusedVariables false

theorem dropAt {s : ByteArray} {j : Nat} (h : j < s.size) : s.data.toList.drop j = s[j] :: s.data.toList.drop (j + 1) := by
  have h' : j < s.data.toList.length := by rw [toList_size]; exact h
  rw [List.drop_eq_getElem_cons h', byte_at s j h h']
theorem drop_end {s : ByteArray} {j : Nat} (h : s.size ≤ j) : s.data.toList.drop j = [] := List.drop_eq_nil_of_le (by rw [toList_size]; exact h)
theorem dL_yes {x : UInt8} (t : List UInt8) (h : dIs x = true) : dL (x :: t) = dL t + 1 := by unfold dL; rw [List.takeWhile_cons, if_pos h, List.length_cons]
theorem dL_no {x : UInt8} (t : List UInt8) (h : ¬ dIs x = true) : dL (x :: t) = 0 := by unfold dL; rw [List.takeWhile_cons, if_neg h]; rfl
theorem pL_dup (x : UInt8) (r : List UInt8) : pL [x, x] r = pL [x] r := by
  match r with
  | [] => rfl
  | y :: t => rw [pL_at, pL_at]; simp

def RRunRel (s : ByteArray) (a : Nat) (w : World) (v : Value) (wr : World) : Prop := ∃ k : Nat, v = .int .i64 ((a + k : Nat) : Int) ∧ a + k ≤ s.size ∧ wr = w ∧ Hid (dL (s.data.toList.drop a) = k + dL (s.data.toList.drop (a + k)))
set_option maxRecDepth 20000 in
theorem rrun (s : ByteArray) (a : Nat) (w : World) (ha : a ≤ s.size) (hs : s.size ≤ 1125899906842624) :
    Calls Tryz.prog 84 #[.string s, .int .i64 (a : Nat)] w fun e w' => e = .returned (.int .i64 ((a + dL (s.data.toList.drop a) : Nat) : Int)) ∧ w' = w := by
  go_enter Tryz.func84, Tryz.ntmps84
  go_wp2_with fail
  go_loopw [1] (fun v wr => RRunRel s a w v wr) (fun v _ => s.size + 1 - (intOf v).toNat)
  case atStart => exact ⟨0, rfl, ha, rfl, Lib.hid (Nat.zero_add _).symm⟩
  case round =>
    obtain ⟨k, rfl, hk, hww, hal⟩ := hrel
    rw [hww]
    clear hww
    obtain ⟨j, hj⟩ : ∃ j, j = a + k := ⟨_, rfl⟩
    have HJ := Lib.hid hj
    rw [← hj] at hk hal ⊢
    clear hj
    by_cases hlt : j < s.size
    · have p1 : decide ((j : Int) < (s.size : Int)) = true := decide_eq_true (by omega)
      have hk0 : (0 : Int) ≤ (j : Int) := by omega
      have hk1 : (j : Int) < (s.size : Int) := by omega
      have y4 : IntKind.i64.wrap ((j : Int) + 1) = (j : Int) + 1 := i64_small (by omega) (by omega)
      have hd := dropAt hlt
      by_cases hdg : dIs s[j] = true
      · have HT := Lib.hid (show dL (s.data.toList.drop a) = (k + 1) + dL (s.data.toList.drop (j + 1)) by rw [hal.out, hd, dL_yes _ hdg]; omega)
        have hb := dIs_iff.mp hdg
        obtain ⟨B, hB⟩ : ∃ B, B = s[j].toNat := ⟨_, rfl⟩
        have hBi : (s[j].toNat : Int) = (B : Int) := by omega
        rw [← hB] at hb
        have q1 : decide ((48 : Int) ≤ (B : Int)) = true := decide_eq_true (by omega)
        have q2 : decide ((B : Int) ≤ 57) = true := decide_eq_true (by omega)
        clear hB hal hd hdg
        go_wp2
        go_roundw
        case rel =>
          have e := HJ.out
          exact ⟨k + 1, by rw [← Nat.add_assoc, ← e]; go_num, by omega, rfl, Lib.hid (by rw [← Nat.add_assoc, ← e]; exact HT.out)⟩
        case measure => simp [intOf]; omega
      · have HT := Lib.hid (show dL (s.data.toList.drop a) = k by rw [hal.out, hd, dL_no _ hdg]; omega)
        have hb : ¬ (48 ≤ s[j].toNat ∧ s[j].toNat ≤ 57) := fun h => hdg (dIs_iff.mpr h)
        obtain ⟨B, hB⟩ : ∃ B, B = s[j].toNat := ⟨_, rfl⟩
        have hBi : (s[j].toNat : Int) = (B : Int) := by omega
        rw [← hB] at hb
        by_cases hlo : B < 48
        · have q1 : decide ((48 : Int) ≤ (B : Int)) = false := decide_eq_false (by omega)
          clear hB hal hd hdg
          go_wp2
          go_ret
          exact ⟨ret_i (by rw [HT.out, HJ.out]), rfl⟩
        · have q1 : decide ((48 : Int) ≤ (B : Int)) = true := decide_eq_true (by omega)
          have q2 : decide ((B : Int) ≤ 57) = false := decide_eq_false (by omega)
          clear hB hal hd hdg
          go_wp2
          go_ret
          exact ⟨ret_i (by rw [HT.out, HJ.out]), rfl⟩
    · have p1 : decide ((j : Int) < (s.size : Int)) = false := decide_eq_false (by omega)
      have HT := Lib.hid (show dL (s.data.toList.drop a) = k by rw [hal.out, drop_end (by omega)]; rfl)
      clear hal
      go_wp2
      go_ret
      exact ⟨ret_i (by rw [HT.out, HJ.out]), rfl⟩

set_option maxRecDepth 20000 in
theorem rone (s : ByteArray) (a : Nat) (x y : UInt8) (w : World) (ha : a ≤ s.size) (hs : s.size ≤ 1125899906842624) :
    Calls Tryz.prog 69 #[.string s, .int .i64 (a : Nat), .int .u8 (x.toNat : Int), .int .u8 (y.toNat : Int)] w fun e w' => e = .returned (.bool (decide (pL [x, y] (s.data.toList.drop a) = 1))) ∧ w' = w := by
  by_cases hlt : a < s.size
  · have p1 : decide ((a : Int) < (s.size : Int)) = true := decide_eq_true (by omega)
    have hk0 : (0 : Int) ≤ (a : Int) := by omega
    have hk1 : (a : Int) < (s.size : Int) := by omega
    have hd := dropAt hlt
    obtain ⟨B, hB⟩ : ∃ B, B = s[a] := ⟨_, rfl⟩
    have hBi : (s[a].toNat : Int) = (B.toNat : Int) := by rw [hB]
    rw [← hB] at hd
    have hx : ((B.toNat : Int) == (x.toNat : Int)) = decide (B = x) := by
      rw [Bool.eq_iff_iff, beq_iff_eq, decide_eq_true_iff, ← UInt8.toNat_inj]; omega
    have hy : ((B.toNat : Int) == (y.toNat : Int)) = decide (B = y) := by
      rw [Bool.eq_iff_iff, beq_iff_eq, decide_eq_true_iff, ← UInt8.toNat_inj]; omega
    by_cases h1 : B = x
    · rw [decide_eq_true h1] at hx
      have HR := Lib.hid (show decide (pL [x, y] (s.data.toList.drop a) = 1) = true by rw [hd, pL_cons _ (by rw [h1]; simp)]; rfl)
      clear hd hB h1 hy
      generalize B.toNat = BB at *
      go_enter Tryz.func69, Tryz.ntmps69
      go_wp2
      go_ret
      exact ⟨by rw [HR.out]; rfl, rfl⟩
    · rw [decide_eq_false h1] at hx
      by_cases h2 : B = y
      · rw [decide_eq_true h2] at hy
        have HR := Lib.hid (show decide (pL [x, y] (s.data.toList.drop a) = 1) = true by rw [hd, pL_cons _ (by rw [h2]; simp)]; rfl)
        clear hd hB h1 h2
        generalize B.toNat = BB at *
        go_enter Tryz.func69, Tryz.ntmps69
        go_wp2
        go_ret
        exact ⟨by rw [HR.out]; rfl, rfl⟩
      · rw [decide_eq_false h2] at hy
        have HR := Lib.hid (show decide (pL [x, y] (s.data.toList.drop a) = 1) = false by rw [hd, pL_other _ (by simp [h1, h2])]; rfl)
        clear hd hB h1 h2
        generalize B.toNat = BB at *
        go_enter Tryz.func69, Tryz.ntmps69
        go_wp2
        go_ret
        exact ⟨by rw [HR.out]; rfl, rfl⟩
  · have p1 : decide ((a : Int) < (s.size : Int)) = false := decide_eq_false (by omega)
    have HR := Lib.hid (show decide (pL [x, y] (s.data.toList.drop a) = 1) = false by rw [drop_end (by omega)]; rfl)
    go_enter Tryz.func69, Tryz.ntmps69
    go_wp2
    go_ret
    exact ⟨by rw [HR.out]; rfl, rfl⟩

set_option maxRecDepth 20000 in
theorem rneed (s : ByteArray) (a : Nat) (w : World) (ha : a ≤ s.size) (hs : s.size ≤ 1125899906842624) :
    Calls Tryz.prog 70 #[.string s, .int .i64 (a : Nat)] w fun e w' => e = .returned (.tuple #[.int .i64 ((a + dL (s.data.toList.drop a) : Nat) : Int), .int .i64 (dE (s.data.toList.drop a))]) ∧ w' = w := by
  have HU := Lib.hid (rrun s a w ha hs)
  have hle := dL_len (s.data.toList.drop a)
  by_cases h0 : dL (s.data.toList.drop a) = 0
  · rw [h0, Nat.add_zero] at HU
    have p1 : decide ((a : Int) < (a : Int)) = false := decide_eq_false (by omega)
    by_cases he : a = s.size
    · have p2 : ((a : Int) == (s.size : Int)) = true := by simp [he]
      have HR := Lib.hid (show a + dL (s.data.toList.drop a) = a ∧ dE (s.data.toList.drop a) = 1 by
        refine ⟨by rw [h0]; rfl, ?_⟩
        unfold dE; rw [if_pos h0, if_pos (drop_end (by omega))])
      clear h0 he hle
      go_enter Tryz.func70, Tryz.ntmps70
      go_wp2_with fail
      with_reducible refine HU.out.mono ?_
      rintro e w1 ⟨rfl, hw⟩
      rw [hw]; clear hw
      go_wp2
      go_ret2
      exact ⟨ret_ii (by rw [HR.out.1]) HR.out.2.symm, rfl⟩
    · have p2 : ((a : Int) == (s.size : Int)) = false := beq_eq_false_iff_ne.mpr (by omega)
      have HR := Lib.hid (show a + dL (s.data.toList.drop a) = a ∧ dE (s.data.toList.drop a) = 3 by
        refine ⟨by rw [h0]; rfl, ?_⟩
        unfold dE; rw [if_pos h0, if_neg (fun e => by have := congrArg List.length e; rw [List.length_drop, toList_size, List.length_nil] at this; omega)])
      clear h0 he hle
      go_enter Tryz.func70, Tryz.ntmps70
      go_wp2_with fail
      with_reducible refine HU.out.mono ?_
      rintro e w1 ⟨rfl, hw⟩
      rw [hw]; clear hw
      go_wp2
      go_ret2
      exact ⟨ret_ii (by rw [HR.out.1]) HR.out.2.symm, rfl⟩
  · have HR := Lib.hid (dE_ok h0)
    obtain ⟨D, hD⟩ : ∃ D, D = a + dL (s.data.toList.drop a) := ⟨_, rfl⟩
    rw [← hD] at HU ⊢
    have p1 : decide (a < D) = true := decide_eq_true (by omega)
    have p3 : a < D := by omega
    clear h0 hle hD
    go_enter Tryz.func70, Tryz.ntmps70
    go_wp2_with fail
    with_reducible refine HU.out.mono ?_
    rintro e w1 ⟨rfl, hw⟩
    rw [hw]; clear hw
    go_wp2
    go_ret2
    exact ⟨ret_ii rfl HR.out.symm, rfl⟩
end Go.Proofs.YtfighopfgllneaaGreatDoor
/- The document's own Split: the parts of a number. -/
namespace Go.Proofs.YtfighopfgllneaaGreatDoor
open Go Go.RowKit
set_option linter.unusedVariables false

/-- Block g holds the parts of a number. -/
def PB (w : World) (g : Nat) (W B P : ByteArray) (E C : Int) : Prop := w.heap[g]? = some (.cells #[.string W, .string B, .string P, .int .i64 E, .int .i64 C] 104 (0, 0))
def pV (W B P : ByteArray) (E C : Int) : Value := .agg #[.string W, .string B, .string P, .int .i64 E, .int .i64 C]
section
variable {w : World} {g : Nat} {W B P : ByteArray} {E C : Int}
theorem PB.lt (h : PB w g W B P E C) : g < w.heap.size := lt_of_block h
theorem PB.c0 (h : PB w g W B P E C) : w.cell? ⟨g, 0, none⟩ = some (.string W) := by unfold PB at h; simp [World.cell?, h]
theorem PB.c1 (h : PB w g W B P E C) : w.cell? ⟨g, 1, none⟩ = some (.string B) := by unfold PB at h; simp [World.cell?, h]
theorem PB.c2 (h : PB w g W B P E C) : w.cell? ⟨g, 2, none⟩ = some (.string P) := by unfold PB at h; simp [World.cell?, h]
theorem PB.c3 (h : PB w g W B P E C) : w.cell? ⟨g, 3, none⟩ = some (.int .i64 E) := by unfold PB at h; simp [World.cell?, h]
theorem PB.c4 (h : PB w g W B P E C) : w.cell? ⟨g, 4, none⟩ = some (.int .i64 C) := by unfold PB at h; simp [World.cell?, h]
theorem PB.fr (h : PB w g W B P E C) (o : Nat) : w.frozen? ⟨g, o, none⟩ = false := by unfold PB at h; simp [World.frozen?, h]
theorem PB.set0 (h : PB w g W B P E C) (x : ByteArray) : PB (w.setCell ⟨g, 0, none⟩ (.string x)) g x B P E C := heap_setCell_block h _
theorem PB.set1 (h : PB w g W B P E C) (x : ByteArray) : PB (w.setCell ⟨g, 1, none⟩ (.string x)) g W x P E C := heap_setCell_block h _
theorem PB.set2 (h : PB w g W B P E C) (x : ByteArray) : PB (w.setCell ⟨g, 2, none⟩ (.string x)) g W B x E C := heap_setCell_block h _
theorem PB.set3 (h : PB w g W B P E C) (x : Int) : PB (w.setCell ⟨g, 3, none⟩ (.int .i64 x)) g W B P x C := heap_setCell_block h _
theorem PB.set4 (h : PB w g W B P E C) (x : Int) : PB (w.setCell ⟨g, 4, none⟩ (.int .i64 x)) g W B P E x := heap_setCell_block h _
theorem PB.other (h : PB w g W B P E C) {k o : Nat} (hk : g ≠ k) (u : Value) : PB (w.setCell ⟨k, o, none⟩ u) g W B P E C := (Below.heap_setCell _ _ _ _ hk).trans h
theorem PB.below (h : PB w g W B P E C) {w' : World} {N : Nat} (hb : Below N w w') (hN : g < N) : PB w' g W B P E C := (hb.block g hN).trans h
theorem PB.drewN (h : PB w g W B P E C) (n : Nat) : PB (w.drewN n) g W B P E C := h
end
/-- While the parts are read: block g holds those read so far, block k the empty answer. -/
structure SpR (w : World) (g k : Nat) (W B P : ByteArray) (E C : Int) (wx : World) : Prop where
  pg : PB wx g W B P E C
  pk : PB wx k ⟨#[]⟩ ⟨#[]⟩ ⟨#[]⟩ 0 0
  bel : Below w.heap.size w wx
  hg : w.heap.size ≤ g
  hk : w.heap.size ≤ k
  ne : g ≠ k
theorem below_put {N b o : Nat} {w W : World} {v : Value} (h : Below N w W) (hb : N ≤ b) : Below N w (W.setCell ⟨b, o, none⟩ v) :=
  h.trans ⟨rfl, rfl, rfl, by simp [World.setCell], fun k hk => Below.heap_setCell _ _ _ _ (by show k ≠ b; exact Nat.ne_of_lt (Nat.lt_of_lt_of_le hk hb))⟩
section
variable {w wx : World} {g k : Nat} {W B P : ByteArray} {E C : Int}
theorem SpR.set0 (h : SpR w g k W B P E C wx) (x : ByteArray) : SpR w g k x B P E C (wx.setCell ⟨g, 0, none⟩ (.string x)) := ⟨h.pg.set0 x, h.pk.other h.ne.symm _, below_put h.bel h.hg, h.hg, h.hk, h.ne⟩
theorem SpR.set1 (h : SpR w g k W B P E C wx) (x : ByteArray) : SpR w g k W x P E C (wx.setCell ⟨g, 1, none⟩ (.string x)) := ⟨h.pg.set1 x, h.pk.other h.ne.symm _, below_put h.bel h.hg, h.hg, h.hk, h.ne⟩
theorem SpR.set2 (h : SpR w g k W B P E C wx) (x : ByteArray) : SpR w g k W B x E C (wx.setCell ⟨g, 2, none⟩ (.string x)) := ⟨h.pg.set2 x, h.pk.other h.ne.symm _, below_put h.bel h.hg, h.hg, h.hk, h.ne⟩
theorem SpR.set3 (h : SpR w g k W B P E C wx) (x : Int) : SpR w g k W B P x C (wx.setCell ⟨g, 3, none⟩ (.int .i64 x)) := ⟨h.pg.set3 x, h.pk.other h.ne.symm _, below_put h.bel h.hg, h.hg, h.hk, h.ne⟩
theorem SpR.set4 (h : SpR w g k W B P E C wx) (x : Int) : SpR w g k W B P E x (wx.setCell ⟨g, 4, none⟩ (.int .i64 x)) := ⟨h.pg.set4 x, h.pk.other h.ne.symm _, below_put h.bel h.hg, h.hg, h.hk, h.ne⟩
end
theorem part_result {fn : Func} {p : Tmp} (h : fn.results = #[.cell p 104]) {tmps : Array Value} {w : World} {g : Nat} {W B P : ByteArray} {E C : Int} (hg : PB w g W B P E C) (hp : tmps.getD p undef = .pointer (some ⟨g, 0, none⟩)) :
    (results fn tmps).run Tryz.prog w = .ok (pV W B P E C) w :=
  results_cell_row h tmps w g 104 #[.string W, .string B, .string P, .int .i64 E, .int .i64 C] (0, 0) _ hp hg Tryz.underlying104 rfl (by kernel_rfl)

theorem sp_drop (s : ByteArray) (a k : Nat) : s.data.toList.drop (a + k) = (s.data.toList.drop a).drop k := (List.drop_drop ..).symm
theorem sp_text (s : ByteArray) (a i j : Nat) : s.extract (a + i) (a + j) = bA (((s.data.toList.drop a).drop i).take (j - i)) := by
  apply ByteArray.ext
  apply Array.toList_inj.mp
  rw [ext_toList, sp_drop, show a + j - (a + i) = j - i by omega]; rfl
theorem eC_zero {l : List UInt8} (h : eC l = 0) : eB l = 0 ∧ fE (l.drop (nB l)) = 0 := by
  unfold eC at h
  by_cases h1 : eB l = 0
  · rw [if_pos h1] at h; exact ⟨h1, h⟩
  · rw [if_neg h1] at h; exact absurd h h1
/-- What the document's Split tells. -/
def SplT (s : ByteArray) (a : Nat) (W B P : ByteArray) (E : Nat) : Prop :=
  (nCode (s.data.toList.drop a) = 0 → W = bA (wW (s.data.toList.drop a)) ∧ B = bA (wB (s.data.toList.drop a)) ∧ P = bA (wP (s.data.toList.drop a)) ∧ E = a + nE (s.data.toList.drop a)) ∧ W.size ≤ s.size ∧ B.size ≤ s.size ∧ P.size ≤ s.size ∧ E ≤ s.size
theorem ext_size (s : ByteArray) (i j : Nat) : (s.extract i j).size ≤ s.size := by
  rw [← toList_size, ← toList_size, ext_toList, List.length_take, List.length_drop]; omega
theorem wrap_next {a b : Nat} (h : b = a + 1) (hb : b ≤ 1125899906842625) : IntKind.i64.wrap ((a : Int) + 1) = ((b : Nat) : Int) := by
  rw [i64_small (by omega) (by omega)]; omega
end Go.Proofs.YtfighopfgllneaaGreatDoor
