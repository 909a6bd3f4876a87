/- Several texts in one (RefN, JtF, FtM): each begins with its own words. -/
import Derived.Test.YtnbhhnkcfbfdcaaGreatDoorZG
import Derived.Test.YtnbhhnkcfbfdcaaGreatDoorZK
import Derived.OneCell
import Derived.OwnWalk
import Derived.Deep.RegionWith
import Derived.Test.YtnbhhnkcfbfdcaaGreatDoorZA
import Derived.Laws.AppendOwnNone
/- The document's own cursor (package truchmanref01): New, Fail, as contracts (XRef without the rest). -/
namespace Go.Proofs.YtnbhhnkcfbfdcaaGreatDoor
open Go Go.RowKit
set_option linter.unusedVariables false

/-- Two blocks that have just been laid, seen behind a call that turned nothing that was there. -/
theorem two_laid {w w1 : World} (c d : CS) (t : TypeId) (h : Below ((w.alloc (.cells #[.string c.s, .int .i64 c.at_, .int .i64 c.en, .int .i64 c.er] t)).alloc (.cells #[.string d.s, .int .i64 d.at_, .int .i64 d.en, .int .i64 d.er] t)).heap.size ((w.alloc (.cells #[.string c.s, .int .i64 c.at_, .int .i64 c.en, .int .i64 c.er] t)).alloc (.cells #[.string d.s, .int .i64 d.at_, .int .i64 d.en, .int .i64 d.er] t)) w1) :
    CurT t w1 w.heap.size c ∧ CurT t w1 (w.heap.size + 1) d ∧ Below w.heap.size w w1 := by
  have h1 : CurT t (w.alloc (.cells #[.string c.s, .int .i64 c.at_, .int .i64 c.en, .int .i64 c.er] t)) w.heap.size c := cur_alloc t
  have h2 : CurT t ((w.alloc (.cells #[.string c.s, .int .i64 c.at_, .int .i64 c.en, .int .i64 c.er] t)).alloc (.cells #[.string d.s, .int .i64 d.at_, .int .i64 d.en, .int .i64 d.er] t)) (w.heap.size + 1) d := by
    have := cur_alloc (w := w.alloc (.cells #[.string c.s, .int .i64 c.at_, .int .i64 c.en, .int .i64 c.er] t)) (c := d) t
    rw [World.size_alloc] at this; exact this
  exact ⟨Below.cur h (h1.allocOld _) (h1.allocOld _).lt, Below.cur h h2 h2.lt, (((Below.refl _ _).alloc (Nat.le_refl _) _).alloc (by simp) _).trans (h.mono (by simp; omega))⟩
theorem ref_new (s : ByteArray) (w : World) (hs : s.size ≤ 9223372036854775807) :
    Calls Tryz.prog 42 #[.string s] w fun e w' => e = .returned (.agg #[.string s, .int .i64 0, .int .i64 s.size, .int .i64 0]) ∧ Below w.heap.size w w' := by
  go_enter Tryz.func42, Tryz.ntmps42
  go_wp2
  go_returns
  exact ⟨rfl, by go_grown⟩
theorem ref_fail (c : CS) (k : Int) (w : World) :
    Calls Tryz.prog 67 #[.agg #[.string c.s, .int .i64 c.at_, .int .i64 c.en, .int .i64 c.er], .int .i64 k] w fun e w' => e = .returned ((c.fail k).val) ∧ Below w.heap.size w w' := by
  by_cases h0 : c.er = 0
  · have hb : (c.er == 0) = true := by simp [h0]
    have HR := Lib.hid (show (c.fail k).val = .agg #[.string c.s, .int .i64 c.at_, .int .i64 c.en, .int .i64 k] from by unfold CS.fail; rw [if_pos h0]; rfl)
    clear h0
    go_enter Tryz.func67, Tryz.ntmps67
    go_wp2
    go_returns
    exact ⟨congrArg Ending.returned HR.out.symm, by go_grown⟩
  · have hb : (c.er == 0) = false := by simp [h0]
    have HR := Lib.hid (show (c.fail k).val = .agg #[.string c.s, .int .i64 c.at_, .int .i64 c.en, .int .i64 c.er] from by unfold CS.fail; rw [if_neg h0]; rfl)
    clear h0
    go_enter Tryz.func67, Tryz.ntmps67
    go_wp2
    go_returns
    exact ⟨congrArg Ending.returned HR.out.symm, by go_grown⟩
theorem ref_fail0 (c : CS) (k : Int) (w : World) (h0 : c.er = 0) :
    Calls Tryz.prog 67 #[.agg #[.string c.s, .int .i64 c.at_, .int .i64 c.en, .int .i64 c.er], .int .i64 k] w fun e w' => e = .returned (.agg #[.string c.s, .int .i64 c.at_, .int .i64 c.en, .int .i64 k]) ∧ Below w.heap.size w w' := by
  have := ref_fail c k w
  have e : (c.fail k).val = .agg #[.string c.s, .int .i64 c.at_, .int .i64 c.en, .int .i64 k] := by unfold CS.fail; rw [if_pos h0]; rfl
  rw [e] at this; exact this
theorem CurT.setAll {t : TypeId} {w : World} {b : Nat} {c : CS} (h : CurT t w b c) (d : CS) :
    CurT t ((((w.setCell ⟨b, 0, none⟩ (.string d.s)).setCell ⟨b, 1, none⟩ (.int .i64 d.at_)).setCell ⟨b, 2, none⟩ (.int .i64 d.en)).setCell ⟨b, 3, none⟩ (.int .i64 d.er)) b d :=
  heap_setCell_block (heap_setCell_block (heap_setCell_block (heap_setCell_block h _) _) _) _
theorem Only.setAll (w : World) (b : Nat) (d : CS) :
    Only b w ((((w.setCell ⟨b, 0, none⟩ (.string d.s)).setCell ⟨b, 1, none⟩ (.int .i64 d.at_)).setCell ⟨b, 2, none⟩ (.int .i64 d.en)).setCell ⟨b, 3, none⟩ (.int .i64 d.er)) :=
  ((((Only.refl _ _).setCell _ _).setCell _ _).setCell _ _).setCell _ _
end Go.Proofs.YtnbhhnkcfbfdcaaGreatDoor
/- The document's own tokens (package truchmanref12): of, word. -/
namespace Go.Proofs.YtnbhhnkcfbfdcaaGreatDoor
open Go Go.RowKit
set_option linter.unusedVariables false

theorem bs_cons {d : CS} (h : d.ok) {x : UInt8} {t : List UInt8} (hb : d.bs = x :: t) : d.at_ < d.en ∧ ∃ h1 : d.at_ < d.s.size, d.s[d.at_] = x := by
  have hl := CS.bs_length h
  rw [hb, List.length_cons] at hl
  obtain ⟨k1, k2, k3⟩ := h
  refine ⟨by omega, by omega, ?_⟩
  have e : d.bs[0]? = some x := by rw [hb]; rfl
  unfold CS.bs at e
  rw [List.getElem?_drop, List.getElem?_take_of_lt (by omega), Nat.add_zero] at e
  have h2 : d.at_ < d.s.data.toList.length := by rw [toList_size]; omega
  rw [List.getElem?_eq_getElem h2, byte_at d.s d.at_ (by omega) h2] at e
  exact Option.some.inj e
theorem bs_nil {d : CS} (h : d.ok) (hb : d.bs = []) : d.at_ = d.en := by
  have hl := CS.bs_length h
  rw [hb, List.length_nil] at hl
  obtain ⟨k1, k2, k3⟩ := h
  omega
/-- The call's own blocks: the cursor that came in, and the two results. -/
def RS (c : CS) (w wr : World) : Prop := CurT 76 wr w.heap.size c ∧ CurT 76 wr (w.heap.size + 1) CS.zero ∧ TkT 78 wr (w.heap.size + 2) (0, []) ∧ Below w.heap.size w wr
theorem RS.next {c : CS} {w wr w' : World} (h : RS c w wr) (hb : Below wr.heap.size wr w') : RS c w w' :=
  ⟨Below.cur hb h.1 h.1.lt, Below.cur hb h.2.1 h.2.1.lt, h.2.2.1.below hb h.2.2.1.lt, h.2.2.2.trans (hb.mono h.2.2.2.size)⟩
theorem RS.drewN {c : CS} {w wr : World} (h : RS c w wr) (n : Nat) : RS c w (wr.drewN n) := h.next (drew_below wr n)
theorem RS.first (c : CS) (w : World) : RS c w (((w.alloc (.cells #[.string c.s, .int .i64 c.at_, .int .i64 c.en, .int .i64 c.er] 76)).alloc (.cells #[.string ⟨#[]⟩, .int .i64 0, .int .i64 0, .int .i64 0] 76)).alloc (.cells #[.int .u8 0, .string ⟨#[]⟩] 78)) := by
  obtain ⟨w0, hw0⟩ : ∃ w0, w0 = ((w.alloc (.cells #[.string c.s, .int .i64 c.at_, .int .i64 c.en, .int .i64 c.er] 76)).alloc (.cells #[.string ⟨#[]⟩, .int .i64 0, .int .i64 0, .int .i64 0] 76)) := ⟨_, rfl⟩
  have h := two_laid (w := w) (w1 := w0) c CS.zero 76 (by rw [hw0]; exact Below.refl _ _)
  have hs : w0.heap.size = w.heap.size + 2 := by rw [hw0]; simp
  have h2 := alloc_below w0 (.cells #[.int .u8 0, .string ⟨#[]⟩] 78)
  have h3 := tk_alloc (w := w0) ((0, []) : TK) 78
  rw [hs] at h3
  rw [← hw0]
  exact ⟨Below.cur h2 h.1 h.1.lt, Below.cur h2 h.2.1 h.2.1.lt, h3, h.2.2.trans (h2.mono h.2.2.size)⟩
theorem RS.setAt {c : CS} {w wr : World} (h : RS c w wr) (a : Nat) : RS { c with at_ := a } w (wr.setCell ⟨w.heap.size, 1, none⟩ (.int .i64 a)) := by
  have hO := (Only.refl w.heap.size wr).setCell 1 (.int .i64 a)
  exact ⟨h.1.setAt a, hO.cur h.2.1 (by omega), h.2.2.1.only hO (by omega), h.2.2.2.trans (hO.below (Nat.le_refl _) h.2.2.2.size)⟩
/-- Behind the stores into the two results. -/
theorem RS.fin {c : CS} {w wr : World} (h : RS c w wr) (d : CS) (x : TK) {w2 : World}
    (hw : w2 = ((((((wr.setCell ⟨w.heap.size + 1, 0, none⟩ (.string d.s)).setCell ⟨w.heap.size + 1, 1, none⟩ (.int .i64 d.at_)).setCell ⟨w.heap.size + 1, 2, none⟩ (.int .i64 d.en)).setCell ⟨w.heap.size + 1, 3, none⟩ (.int .i64 d.er)).setCell ⟨w.heap.size + 2, 0, none⟩ (.int .u8 (x.1.toNat : Int))).setCell ⟨w.heap.size + 2, 1, none⟩ (.string (bA x.2)))) :
    CurT 76 w2 (w.heap.size + 1) d ∧ TkT 78 w2 (w.heap.size + 2) x ∧ Below w.heap.size w w2 := by
  subst hw
  have h1 := h.2.1.setAll d
  have o1 := Only.setAll wr (w.heap.size + 1) d
  have k1 := h.2.2.1.only o1 (by omega)
  have b1 := h.2.2.2.trans (o1.below (by omega) h.2.2.2.size)
  generalize ((((wr.setCell ⟨w.heap.size + 1, 0, none⟩ (.string d.s)).setCell ⟨w.heap.size + 1, 1, none⟩ (.int .i64 d.at_)).setCell ⟨w.heap.size + 1, 2, none⟩ (.int .i64 d.en)).setCell ⟨w.heap.size + 1, 3, none⟩ (.int .i64 d.er)) = w3 at *
  have o2 := Only.setTk w3 (w.heap.size + 2) x
  exact ⟨o2.cur h1 (by omega), k1.setAll x, b1.trans (o2.below (by omega) b1.size)⟩
theorem ret_ct {c d : CS} {x y : TK} (h : c = d) (h2 : x = y) : Ending.returned (.tuple #[c.val, tkV x]) = .returned (.tuple #[d.val, tkV y]) := by rw [h, h2]
theorem tof_ok (c : CS) (h0 : c.er = 0) (k : UInt8) (t : List UInt8) (w : World) :
    Calls Tryz.prog 64 #[.agg #[.string c.s, .int .i64 c.at_, .int .i64 c.en, .int .i64 c.er], .int .u8 (k.toNat : Int), .string (bA t)] w fun e w' => e = .returned (.tuple #[c.val, tkV (k, t)]) ∧ Below w.heap.size w w' := by
  have p1 : (c.er != 0) = false := by rw [h0]; rfl
  clear h0
  go_enter Tryz.func64, Tryz.ntmps64
  go_wp2
  go_returns
  exact ⟨ret_ct (c := c) (x := (k, t)) rfl rfl, by go_grown⟩
theorem tof_bad (c : CS) (h0 : ¬ c.er = 0) (k : UInt8) (t : List UInt8) (w : World) :
    Calls Tryz.prog 64 #[.agg #[.string c.s, .int .i64 c.at_, .int .i64 c.en, .int .i64 c.er], .int .u8 (k.toNat : Int), .string (bA t)] w fun e w' => e = .returned (.tuple #[c.val, tkV (0, [])]) ∧ Below w.heap.size w w' := by
  have p1 : (c.er != 0) = true := bne_iff_ne.mpr h0
  clear h0
  go_enter Tryz.func64, Tryz.ntmps64
  go_wp2
  go_returns
  exact ⟨ret_ct (c := c) (x := (0, [])) rfl rfl, by go_grown⟩
/-- What is wrong with a word's front is wrong with the word. -/
theorem tWd_stick : ∀ (q p l : List UInt8), ¬ tWd p l = 0 → tWd (p ++ q) l = tWd p l
  | [], p, l, _ => by rw [List.append_nil]
  | a :: q, p, l, h => by
    have h1 := tWd_snoc p l a
    rw [if_neg h] at h1
    have := tWd_stick q (p ++ [a]) l (by rw [h1]; exact h)
    rw [List.append_assoc] at this
    rw [← h1, ← this]; rfl
theorem tWd_at {s l : List UInt8} {j : Nat} (h : tWd (s.take j) l = 0) {a : UInt8} {u : List UInt8} (hs : s.drop j = a :: u) :
    (l.drop j = [] → tWd s l = 1) ∧ ∀ x t, l.drop j = x :: t → (x = a → tWd (s.take (j + 1)) l = 0) ∧ (¬ x = a → tWd s l = 3) := by
  have hjs : j < s.length := by
    have := congrArg List.length hs
    rw [List.length_drop, List.length_cons] at this; omega
  have hsn : s.take (j + 1) = s.take j ++ [a] := by
    rw [List.take_succ_eq_append_getElem hjs]
    congr 1
    have := List.drop_eq_getElem_cons hjs
    rw [hs] at this
    rw [(List.cons.inj this).1]
  have hlj : (s.take j).length = j := by rw [List.length_take]; omega
  have hst := tWd_snoc (s.take j) l a
  rw [← hsn, hlj, if_pos h] at hst
  have hall : ∀ e : Int, e ≠ 0 → tWd (s.take (j + 1)) l = e → tWd s l = e := fun e he h1 => by
    have := tWd_stick (s.drop (j + 1)) (s.take (j + 1)) l (by rw [h1]; exact he)
    rw [List.take_append_drop] at this
    rw [this, h1]
  constructor
  · intro hd
    rw [hd] at hst
    exact hall 1 (by decide) hst
  · intro x t hd
    rw [hd] at hst
    simp only at hst
    constructor
    · intro hx; rw [if_pos hx] at hst; exact hst
    · intro hx; rw [if_neg hx] at hst; exact hall 3 (by decide) hst
def RwRel (c : CS) (w : World) (s : List UInt8) (i : Value) (wr : World) : Prop := ∃ j : Nat, j ≤ s.length ∧ i = .int .i64 (j : Nat) ∧ Hid (tWd (s.take j) c.bs = 0) ∧ RS c w wr
set_option maxRecDepth 20000 in
set_option maxHeartbeats 2000000 in
theorem tword_any (c : CS) (k : UInt8) (hk : k = 116 ∨ k = 102 ∨ k = 122) (w : World) (hc : c.ok) (h0 : c.er = 0) (hz : c.s.size ≤ 140737488351232) :
    Calls Tryz.prog 66 #[.agg #[.string c.s, .int .i64 c.at_, .int .i64 c.en, .int .i64 c.er], .int .u8 (k.toNat : Int)] w fun e w' => ∃ c', e = .returned (.tuple #[c'.val, tkV (tWn k c.bs).tok]) ∧ CAt c (tWn k c.bs).k (tWn k c.bs).e c' ∧ Below w.heap.size w w' := by
  have HC := Lib.hid (And.intro hc h0)
  have hbl := CS.bs_length hc
  have hsl := (tW_some hk).2
  have HW := Lib.hid (rspelled_any k)
  have HF := Lib.hid (fun k w => ref_fail0 c k w h0)
  obtain ⟨S, hS⟩ : ∃ S, S = bA (tW k) := ⟨_, rfl⟩
  have hsz : S.size = (tW k).length := by rw [hS, bA_size]
  have hSl := Lib.hid (show S.data.toList = tW k by rw [hS]; rfl)
  rw [← hS] at HW
  have HE := Lib.hid (show (tWd (tW k) c.bs = 0 → (tWn k c.bs) = ⟨(k, []), (tW k).length, 0⟩) ∧ (¬ tWd (tW k) c.bs = 0 → (tWn k c.bs) = ⟨(0, []), 0, tWd (tW k) c.bs⟩) from
    ⟨fun h => by unfold tWn; rw [if_pos h], fun h => by unfold tWn; rw [if_neg h]⟩)
  obtain ⟨b1, b2, b3⟩ := hc
  clear hS hk h0
  generalize tW k = s at *
  have R0 := RS.first c w
  go_enter Tryz.func66, Tryz.ntmps66
  go_wp2_with fail
  generalize ((w.alloc (.cells #[.string c.s, .int .i64 c.at_, .int .i64 c.en, .int .i64 c.er] 76)).alloc (.cells #[.string ⟨#[]⟩, .int .i64 0, .int .i64 0, .int .i64 0] 76)).alloc (.cells #[.int .u8 0, .string ⟨#[]⟩] 78) = W at *
  with_reducible refine (HW.out _).mono ?_
  rintro e w1 ⟨rfl, hw1⟩
  rw [hw1]; clear hw1
  go_wp2_with fail
  go_loopw [7] (fun i wr => RwRel c w s i wr) (fun i _ => s.length - (intOf i).toNat)
  case atStart => exact ⟨0, Nat.zero_le _, rfl, Lib.hid rfl, R0⟩
  case round =>
    obtain ⟨j, hj, rfl, hw, R⟩ := hrel
    have a0 := R.1.c0; have a1 := R.1.c1; have a2 := R.1.c2; have a3 := R.1.c3; have af := R.1.fr
    have z0 := R.2.1.c0; have z1 := R.2.1.c1; have z2 := R.2.1.c2; have z3 := R.2.1.c3; have zf := R.2.1.fr
    have g0 := R.2.2.1.c0; have g1 := R.2.2.1.c1; have gf := R.2.2.1.fr
    by_cases hlt : j < s.length
    · have p1 : decide ((j : Int) < (S.size : Int)) = true := decide_eq_true (by omega)
      have p2 : (j : Int) < (S.size : Int) := by omega
      have hjS : j < S.size := by omega
      obtain ⟨A, hA⟩ : ∃ A, A = c.at_ + j := ⟨_, rfl⟩
      have w1 : IntKind.i64.wrap ((c.at_ : Int) + (j : Int)) = (A : Int) := by rw [i64_small (by omega) (by omega)]; omega
      have hd : s.drop j = S[j] :: s.drop (j + 1) := by
        have h' : j < s.length := hlt
        have h2 : j < S.data.toList.length := by rw [toList_size]; exact hjS
        have h3 := byte_at S j hjS h2
        have h4 := List.drop_eq_getElem_cons h2
        rw [h3, hSl.out] at h4
        exact h4
      have hat := tWd_at (hw.out) hd
      by_cases hin : A < c.en
      · have p3 : decide ((c.en : Int) ≤ (A : Int)) = false := decide_eq_false (by omega)
        have p4 : (A : Int) < (c.s.size : Int) := by omega
        have hAs : A < c.s.size := by omega
        have hjl : j < c.bs.length := by omega
        have HX := Lib.hid (show ∃ t, c.bs.drop j = c.s[A] :: t by
          have hpo := CS.past_fine HC.out.1 (k := j) (by omega)
          have hpb := CS.bs_past c j
          match hbd : c.bs.drop j with
          | [] => have := congrArg List.length hbd; rw [List.length_drop, List.length_nil] at this; omega
          | x :: t =>
            obtain ⟨_, h1, h2⟩ := bs_cons hpo (hpb.trans hbd)
            subst hA
            exact ⟨t, by rw [← h2]; rfl⟩)
        by_cases hx : c.s[A] = S[j]
        · have d1 : ((c.s[A].toNat : Int) != (S[j].toNat : Int)) = false := by rw [hx]; simp
          have HT := Lib.hid (show tWd (s.take (j + 1)) c.bs = 0 by
            obtain ⟨t, ht⟩ := HX.out
            exact (hat.2 _ t ht).1 hx)
          clear hat hd hx hA
          go_wp2_with fail
          go_quiet (fail)
          go_wp2
          go_roundw
          case rel => exact ⟨j + 1, by omega, by go_num, HT, R.drewN _⟩
          case measure => simp [intOf]; omega
        · have d1 : ((c.s[A].toNat : Int) != (S[j].toNat : Int)) = true := bne_iff_ne.mpr (fun e => hx (UInt8.toNat_inj.mp (by omega)))
          have HQ := Lib.hid (show tWd s c.bs = 3 by
            obtain ⟨t, ht⟩ := HX.out
            exact (hat.2 _ t ht).2 hx)
          have HF1 := Lib.hid (HF.out 3)
          clear hat hd hx hA
          go_wp2_with fail
          go_quiet (fail)
          go_wp2_with fail
          with_reducible refine (HF1.out _).mono ?_
          rintro e w4 ⟨rfl, hb4⟩
          have R4 := RS.next (R.drewN _) hb4
          clear R a0 a1 a2 a3 af z0 z1 z2 z3 zf g0 g1 gf hb4
          have z0 := R4.2.1.c0; have z1 := R4.2.1.c1; have z2 := R4.2.1.c2; have z3 := R4.2.1.c3; have zf := R4.2.1.fr
          have g0 := R4.2.2.1.c0; have g1 := R4.2.2.1.c1; have gf := R4.2.2.1.fr
          go_wp2
          have HX := R4.fin (c.bad 3) (0, []) rfl
          refine bodyPost_ret (ctok_result Tryz.results66 HX.1 HX.2.1 rfl rfl) rfl ?_
          have h3 : ¬ tWd s c.bs = 0 := by rw [HQ.out]; decide
          refine ⟨c.bad 3, by rw [HE.out.2 h3], ?_, HX.2.2⟩
          rw [HE.out.2 h3, HQ.out]
          exact CAt.bad0 HC.out.1 _ (by decide)
      · have p3 : decide ((c.en : Int) ≤ (A : Int)) = true := decide_eq_true (by omega)
        have hbd : c.bs.drop j = [] := List.drop_eq_nil_of_le (by omega)
        have HQ := Lib.hid (hat.1 hbd)
        have HF1 := Lib.hid (HF.out 1)
        clear hat hd hbd hjS hA
        go_wp2_with fail
        with_reducible refine (HF1.out _).mono ?_
        rintro e w4 ⟨rfl, hb4⟩
        have R4 := R.next hb4
        clear R a0 a1 a2 a3 af z0 z1 z2 z3 zf g0 g1 gf hb4
        have z0 := R4.2.1.c0; have z1 := R4.2.1.c1; have z2 := R4.2.1.c2; have z3 := R4.2.1.c3; have zf := R4.2.1.fr
        have g0 := R4.2.2.1.c0; have g1 := R4.2.2.1.c1; have gf := R4.2.2.1.fr
        go_wp2
        have HX := R4.fin (c.bad 1) (0, []) rfl
        refine bodyPost_ret (ctok_result Tryz.results66 HX.1 HX.2.1 rfl rfl) rfl ?_
        have h3 : ¬ tWd s c.bs = 0 := by rw [HQ.out]; decide
        refine ⟨c.bad 1, by rw [HE.out.2 h3], ?_, HX.2.2⟩
        rw [HE.out.2 h3, HQ.out]
        exact CAt.bad0 HC.out.1 _ (by decide)
    · have p1 : decide ((j : Int) < (S.size : Int)) = false := decide_eq_false (by omega)
      obtain ⟨A, hA⟩ : ∃ A, A = c.at_ + s.length := ⟨_, rfl⟩
      have w1 : IntKind.i64.wrap ((c.at_ : Int) + (S.size : Int)) = (A : Int) := by rw [i64_small (by omega) (by omega)]; omega
      have HQ := Lib.hid (show tWd s c.bs = 0 by
        have := hw.out
        rw [List.take_of_length_le (by omega)] at this; exact this)
      have HA := Lib.hid hA
      have p1n : decide (j < S.size) = false := decide_eq_false (by omega)
      have hlt2 : ¬ j < S.size := by omega
      clear hA hsz
      go_wp2
      have RA := R.setAt A
      have HX := RA.fin { c with at_ := A } (k, []) rfl
      refine bodyPost_ret (ctok_result Tryz.results66 HX.1 HX.2.1 rfl rfl) rfl ?_
      refine ⟨{ c with at_ := A }, by rw [HE.out.1 HQ.out], ?_, HX.2.2⟩
      rw [HE.out.1 HQ.out, HA.out]
      exact CAt.past HC.out.1 HC.out.2 (tWd_len _ _ HQ.out)
end Go.Proofs.YtnbhhnkcfbfdcaaGreatDoor
/- Lists of texts in memory, of no package: one that the call itself made ('SBts'), one that was there ('SIn'), 'append' of a text, of a list. -/
namespace Go.Proofs.YtnbhhnkcfbfdcaaGreatDoor
open Go Go.RowKit
set_option linter.unusedVariables false

def sV (l : List ByteArray) : List Value := l.map .string
theorem sV_length (l : List ByteArray) : (sV l).length = l.length := List.length_map _
theorem sV_append (l m : List ByteArray) : sV (l ++ m) = sV l ++ sV m := List.map_append
theorem sV_one (l : List ByteArray) : ∀ v ∈ sV l, v.oneCell' = true := by
  intro v hv
  obtain ⟨b, _, rfl⟩ := List.mem_map.mp hv
  rfl
theorem sV_get (l : List ByteArray) (k : Nat) (h : k < l.length) : (sV l)[k]? = some (.string l[k]) := by
  simp [sV, List.getElem?_eq_getElem h]
/-- The slice v, that the call itself made, holds the texts l. -/
def SBts (w : World) (B : Nat) (v : Value) (l : List ByteArray) : Prop := w.ownsRow B 9 1 v l.length (sV l)
/-- The slice at a, of so many texts, that was there, holds l. -/
def SIn (w : World) (a : Option Addr) (l : List ByteArray) : Prop :=
  ∀ j (h : j < l.length), ∃ b off, a = some ⟨b, off, none⟩ ∧ b < w.heap.size ∧ w.cell? ⟨b, off + j, none⟩ = some (.string l[j])
theorem SIn.below {w w' : World} {a : Option Addr} {l : List ByteArray} (h : SIn w a l) (hb : Below w.heap.size w w') : SIn w' a l := fun j hj => by
  obtain ⟨b, off, e, hlt, hc⟩ := h j hj
  exact ⟨b, off, e, Nat.lt_of_lt_of_le hlt hb.size, (hb.cell (p := ⟨b, off + j, none⟩) hlt).trans hc⟩
theorem sbts_nil (w : World) (B : Nat) : SBts w B (.slice none 0 0) [] := ⟨rfl, .inl ⟨rfl, rfl⟩⟩
theorem SBts.below {w w' : World} {B N : Nat} {v : Value} {l : List ByteArray} (h : SBts w B v l) (hb : Below N w w') (hN : w.heap.size ≤ N) : SBts w' B v l := by
  refine World.ownsRow.kept (row := none) h ⟨hb.os, hb.tape, hb.output, hb.size, fun k hk _ => hb.block k (by omega)⟩ ?_
  cases v.ownBlock <;> simp
theorem SBts.only {w w' : World} {B b : Nat} {v : Value} {l : List ByteArray} (h : SBts w B v l) (ho : Only b w w') (hb : b < B) : SBts w' B v l := by
  obtain ⟨hl, h⟩ := h
  refine ⟨hl, ?_⟩
  rcases h with h | ⟨g, cap, cur, h1, h2, h3, h4⟩
  · exact .inl h
  · exact .inr ⟨g, cap, cur, h1, h2, (ho.block g (lt_of_block h3) (by omega)).trans h3, h4⟩
theorem SBts.base {w : World} {B N : Nat} {v : Value} {l : List ByteArray} (h : SBts w N v l) (hB : B ≤ N) : SBts w B v l := by
  obtain ⟨hl, h⟩ := h
  refine ⟨hl, ?_⟩
  rcases h with h | ⟨g, cap, cur, h1, h2, h3, h4⟩
  · exact .inl h
  · exact .inr ⟨g, cap, cur, h1, by omega, h3, h4⟩
theorem SBts.inn {w : World} {B : Nat} {v : Value} {l : List ByteArray} (h : SBts w B v l) : ∃ a cap, v = .slice a l.length cap ∧ SIn w a l := by
  rcases h.2 with ⟨rfl, hn⟩ | ⟨g, cap, cur, rfl, _, hg, _⟩
  · have h0 : l = [] := List.eq_nil_of_length_eq_zero hn
    subst h0
    exact ⟨none, 0, rfl, fun j hj => by simp at hj⟩
  · refine ⟨_, cap, rfl, fun j hj => ⟨g, 0, rfl, lt_of_block hg, ?_⟩⟩
    rw [Nat.zero_add, World.ownsRow.cellAt h j (by omega), sV_get l j hj]
theorem infoS : (Tryz.prog.info? 9).map (fun i => (i.zero, i.size, i.bytes)) = some (some (.string ⟨#[]⟩), 1, 16) := by kernel_rfl
/-- 'append(list, s)' on a list that the call itself made. -/
theorem wpList_append_str {ops : Array Oper} {rest : List Oper} {o : Oper} {a : Act} {Q : Exit → Act → World → Prop} (hgd : o.guard = none) (sl x : Operand)
    (ho : o.op = .call { callee := .builtin .append, args := #[sl, x], argTypes := #[103, 103] })
    (v : Value) (wr : World) (B : Nat) (l : List ByteArray) (hb : SBts wr B v l) (hB : B ≤ wr.heap.size) (hs : a.eval sl = v)
    (s : ByteArray) (hx : a.eval x = .slice (some ⟨wr.heap.size, 0, none⟩) 1 1) (hlen : l.length ≤ 1000000)
    (h : ∀ v' w', SBts w' B v' (l ++ [s]) → Below B wr w' → wpList Tryz.prog ops Q rest (a.put o.dst v') w') :
    wpList Tryz.prog ops Q (o :: rest) a (wr.alloc (.cells #[.string s] 9)) := by
  obtain ⟨i0, hi, hz, hz1, hz2⟩ := info_parts infoS
  refine wpList_append_own _ hgd sl x 103 ho B 9 i0 (.string ⟨#[]⟩) 1 16 Tryz.underlying103 hi hz hz1 hz2 rfl (by decide) v l.length (sV l) hs (World.ownsRow.alloc hb _) ⟨wr.heap.size, 0, none⟩ 1 1 [.string s] hx rfl ?_ ?_ (by unfold maxLen; omega) (by omega) (by simp; omega) ?_
  · intro j u hj
    match j, hj with
    | 0, hj =>
      simp at hj
      subst hj
      have h1 := heap_alloc_new wr (.cells #[.string s] 9)
      show World.cell? _ ⟨wr.heap.size, 0 + 0, none⟩ = _
      simp only [World.cell?]
      rw [h1]; rfl
  · intro u hu; simp at hu; subst hu; rfl
  · intro v' w' hown hgr _
    refine h v' w' ?_ ?_
    · unfold SBts
      rw [sV_append, List.length_append]
      exact hown
    · refine ⟨hgr.os, hgr.tape, hgr.output, by have := hgr.size; simp at this; omega, fun k hk => ?_⟩
      have hne : some k ≠ v.ownBlock := fun hk' => by
        have := (World.ownsRow.lt hb k hk'.symm).1
        omega
      rw [hgr.block k (by simp; omega) hne]
      exact Below.heap_alloc _ _ _ (by omega)
/-- 'append(list, more...)' of a list that was there, on a list that the call itself made. -/
theorem wpList_append_strs {ops : Array Oper} {rest : List Oper} {o : Oper} {a : Act} {Q : Exit → Act → World → Prop} (hgd : o.guard = none) (sl x : Operand)
    (ho : o.op = .call { callee := .builtin .append, args := #[sl, x], argTypes := #[103, 103] })
    (v : Value) (wr : World) (B : Nat) (l : List ByteArray) (hb : SBts wr B v l) (hB : B ≤ wr.heap.size) (hs : a.eval sl = v)
    (ad : Addr) (cap : Nat) (m : List ByteArray) (hx : a.eval x = .slice (some ad) m.length cap) (hm : SIn wr (some ad) m) (hlen : l.length + m.length ≤ 1000000)
    (h : ∀ v' w', SBts w' B v' (l ++ m) → Below B wr w' → wpList Tryz.prog ops Q rest (a.put o.dst v') w') :
    wpList Tryz.prog ops Q (o :: rest) a wr := by
  obtain ⟨i0, hi, hz, hz1, hz2⟩ := info_parts infoS
  refine wpList_append_own _ hgd sl x 103 ho B 9 i0 (.string ⟨#[]⟩) 1 16 Tryz.underlying103 hi hz hz1 hz2 rfl (by decide) v l.length (sV l) hs hb ad m.length cap (sV m) hx (by rw [sV_length, Nat.mul_one]) ?_ (sV_one m) (by unfold maxLen; omega) (by omega) hB ?_
  · intro j u hj
    have hjm : j < m.length := by
      have := (List.getElem?_eq_some_iff.1 hj).1
      rwa [sV_length] at this
    obtain ⟨b, off, e, _, hc⟩ := hm j hjm
    obtain rfl : ad = ⟨b, off, none⟩ := Option.some.inj e
    rw [sV_get m j hjm] at hj
    have e1 : (Addr.mk b off none).add j = ⟨b, off + j, none⟩ := by unfold Addr.add; split <;> simp_all
    rw [e1, hc]; exact hj
  · intro v' w' hown hgr _
    refine h v' w' ?_ ?_
    · unfold SBts
      rw [sV_append, List.length_append]
      exact hown
    · refine ⟨hgr.os, hgr.tape, hgr.output, hgr.size, fun k hk => ?_⟩
      have hne : some k ≠ v.ownBlock := fun hk' => by
        have := (World.ownsRow.lt hb k hk'.symm).1
        omega
      exact hgr.block k (by omega) hne
/-- The same, of a list that may be nil. -/
theorem wpList_append_in {ops : Array Oper} {rest : List Oper} {o : Oper} {a : Act} {Q : Exit → Act → World → Prop} (hgd : o.guard = none) (sl x : Operand)
    (ho : o.op = .call { callee := .builtin .append, args := #[sl, x], argTypes := #[103, 103] })
    (v : Value) (wr : World) (B : Nat) (l : List ByteArray) (hb : SBts wr B v l) (hB : B ≤ wr.heap.size) (hs : a.eval sl = v)
    (ad : Option Addr) (cap : Nat) (m : List ByteArray) (hx : a.eval x = .slice ad m.length cap) (hz : ad = none → cap = 0) (hm : SIn wr ad m) (hlen : l.length + m.length ≤ 1000000)
    (h : ∀ v' w', SBts w' B v' (l ++ m) → Below B wr w' → wpList Tryz.prog ops Q rest (a.put o.dst v') w') :
    wpList Tryz.prog ops Q (o :: rest) a wr := by
  cases ad with
  | none =>
    obtain ⟨i0, hi, _⟩ := info_parts infoS
    have hm0 : m = [] := by
      cases m with
      | nil => rfl
      | cons s r => obtain ⟨b, off, e, _⟩ := hm 0 (by simp); cases e
    subst hm0
    rw [hz rfl] at hx
    refine wpList_append_own_none hgd sl x 103 ho B 9 i0 1 Tryz.underlying103 hi v l.length (sV l) hs hb hx ?_
    exact h v wr (by rw [List.append_nil]; exact hb) (Below.refl _ _)
  | some ad => exact wpList_append_strs hgd sl x ho v wr B l hb hB hs ad cap m hx hm hlen h
end Go.Proofs.YtnbhhnkcfbfdcaaGreatDoor
