/- Several texts in one (JnExp, JnWo, JnWh, JpFn): each begins with its own words. -/
import Derived.Test.YtmkcfilgiehjaaaGreatDoorZJ
import Derived.Test.YtmkcfilgiehjaaaGreatDoorZL
import Derived.Test.YtmkcfilgiehjaaaGreatDoorZO
import Derived.Shelf.Vars
import Derived.Test.YtmkcfilgiehjaaaGreatDoorJpPk
/- Package jnum's exponent, worth; what they call of the library. -/
namespace Go.Proofs.YtmkcfilgiehjaaaGreatDoor
open Go Go.RowKit
set_option linter.unusedVariables false

/-- The library's variable MaxLen holds some number. -/
def MaxL (w : World) : Prop := ∃ m, w.cell? ⟨0, 0, none⟩ = some (.int .i64 m)
theorem MaxL.lt {w : World} (h : MaxL w) : 0 < w.heap.size := by
  obtain ⟨m, h⟩ := h
  rcases Nat.lt_or_ge 0 w.heap.size with h' | h'
  · exact h'
  · simp [World.cell?, Array.getElem?_eq_none h'] at h
theorem MaxL.below {w w' : World} {N : Nat} (h : MaxL w) (hb : Below N w w') (hN : 0 < N) : MaxL w' := by
  obtain ⟨m, hm⟩ := h
  exact ⟨m, (hb.cell (p := ⟨0, 0, none⟩) hN).trans hm⟩
theorem trim_prefix (s p : ByteArray) (w : World) : Calls Tryz.prog 107 #[.string s, .string p] w fun e w' => e = .returned (.string (bA (Lib.trimPrefix s.data.toList p.data.toList))) ∧ w' = w :=
  Any.strings_TrimPrefix trimPrefixL s p w
theorem trim_left (s : ByteArray) (w : World) : Calls Tryz.prog 76 #[.string s, .string ⟨#[48]⟩] w fun e w' => e = .returned (.string (bA (lz s.data.toList))) ∧ w' = w :=
  Any.strings_TrimLeft_one trimLeftL s 48 (by decide) w
theorem trim_right (s : ByteArray) (w : World) (hs : s.size ≤ 9223372036854775807) : Calls Tryz.prog 77 #[.string s, .string ⟨#[48]⟩] w fun e w' => e = .returned (.string (bA (cnt s.data.toList))) ∧ w' = w :=
  Any.strings_TrimRight_one trimRightL s 48 (by decide) w hs
theorem index_any (s : ByteArray) (w : World) (hs : s.size < 4294967281) (ha : ∀ (j : Nat) b, s.data.toList[j]? = some b → b.toNat < 128) : Calls Tryz.prog 73 #[.string s, .string ⟨#[101, 69]⟩] w fun e w' => e = .returned (.int .i64 (Lib.indexAny s.data.toList [101, 69])) ∧ Below w.heap.size w w' :=
  Any.strings_IndexAny_laid indexAnyL (by kernel_rfl) s ⟨#[101, 69]⟩ w hs (by decide) ha (fun j b h => by
    match j, h with
    | 0, h => cases h; decide
    | 1, h => cases h; decide)
theorem cut_any (s : ByteArray) (w : World) (hs : s.size < 4294967281) (hm : MaxL w) : Calls Tryz.prog 75 #[.string s, .string ⟨#[46]⟩] w fun e w' => e = .returned (.tuple #[.string (bA (Lib.cut s.data.toList [46]).1), .string (bA (Lib.cut s.data.toList [46]).2.1), .bool (Lib.cut s.data.toList [46]).2.2]) ∧ Below w.heap.size w w' := by
  obtain ⟨m, hm⟩ := hm
  refine (Any.strings_Cut cutL s ⟨#[46]⟩ m w hs hm).mono ?_
  rintro e w' ⟨rfl, n, hw⟩
  rw [hw]
  exact ⟨rfl, drew_below w n⟩
theorem repeat_any (q : Nat) (w : World) (hq : q ≤ 1000) : Calls Tryz.prog 51 #[.string ⟨#[48]⟩, .int .i64 (q : Nat)] w fun e w' => e = .returned (.string (bA (List.replicate q 48))) ∧ Below w.heap.size w w' := by
  have := Any.strings_Repeat repeatL builderX ⟨#[48]⟩ q w (by omega) (by rw [show (ByteArray.mk #[48]).size = 1 from rfl]; omega)
  rw [show (ByteArray.mk #[48]).data.toList = List.replicate 1 48 from rfl, Lib.repeatL_replicate, Nat.mul_one] at this
  exact this

/-- A power's text: its sign off. -/
theorem exp_text {P s D : List UInt8} (h : P = s ++ D) (hs : s = [] ∨ s = [43] ∨ s = [45]) (hD : D ≠ []) (hd : D.all dIs = true) :
    Lib.trimPrefix (Lib.trimPrefix P [43]) [45] = D ∧ Lib.hasPrefix (Lib.trimPrefix P [43]) [45] = decide (P.head? = some 45) ∧ P.filter dIs = D := by
  obtain ⟨x, t, hx, hx2⟩ := head_of hD hd
  have hx3 := dIs_iff.mp hx2
  have n1 : (x == (43 : UInt8)) = false := beq_eq_false_iff_ne.mpr (fun e => by rw [e] at hx3; exact absurd hx3 (by decide))
  have n2 : (x == (45 : UInt8)) = false := beq_eq_false_iff_ne.mpr (fun e => by rw [e] at hx3; exact absurd hx3 (by decide))
  have m1 : ((43 : UInt8) == x) = false := by rw [Bool.beq_comm]; exact n1
  have m2 : ((45 : UInt8) == x) = false := by rw [Bool.beq_comm]; exact n2
  have hf : D.filter dIs = D := List.filter_eq_self.mpr (fun a ha => List.all_eq_true.mp hd a ha)
  have k1 : Lib.hasPrefix D [43] = false := by rw [hx]; unfold Lib.hasPrefix; simp [List.isPrefixOf, m1]
  have k2 : Lib.hasPrefix D [45] = false := by rw [hx]; unfold Lib.hasPrefix; simp [List.isPrefixOf, m2]
  have t1 : Lib.trimPrefix D [43] = D := by unfold Lib.trimPrefix; rw [k1]; rfl
  have t2 : Lib.trimPrefix D [45] = D := by unfold Lib.trimPrefix; rw [k2]; rfl
  have hh : D.head? ≠ some 45 := fun e => by
    rw [hx, List.head?_cons] at e
    rw [Option.some.inj e] at hx3; exact absurd hx3 (by decide)
  rcases hs with rfl | rfl | rfl
  · rw [List.nil_append] at h
    subst h
    rw [t1, t2, k2, hf]
    exact ⟨rfl, (decide_eq_false hh).symm, rfl⟩
  · have e1 : Lib.trimPrefix P [43] = D := by rw [h]; rfl
    rw [e1, t2, k2, h]
    exact ⟨rfl, rfl, hf⟩
  · have e1 : Lib.trimPrefix P [43] = P := by rw [h]; rfl
    rw [e1, h]
    exact ⟨rfl, rfl, hf⟩
theorem far_read {D : List UInt8} (hd : D.all dIs = true) (hn : lz D ≠ []) : sEnd (lz D) = if dV D ≤ 9223372036854775807 then ((dV D : Int), 0) else (0, 4) := by
  have hL := Lead.of hd hn
  unfold sEnd
  rw [if_neg (not45 hL.2.1)]
  unfold iEnd
  rw [if_pos hL.dok, dV_lz]

set_option maxRecDepth 20000 in
set_option maxHeartbeats 2000000 in
theorem nexp_any (p : ByteArray) {s D : List UInt8} (w : World) (hz : p.size ≤ 1048576) (h : p.data.toList = s ++ D) (hs : s = [] ∨ s = [43] ∨ s = [45]) (hD : D ≠ []) (hd : D.all dIs = true) :
    Calls Tryz.prog 74 #[.string p] w fun e w' => e = .returned (.int .i64 (capV 4611686018427387904 p.data.toList)) ∧ w' = w := by
  obtain ⟨x1, x2, x3⟩ := exp_text h hs hD hd
  have H1 := Lib.hid (trim_prefix p ⟨#[43]⟩ w)
  have H2 := Lib.hid (cut_prefix (bA (Lib.trimPrefix p.data.toList [43])) ⟨#[45]⟩ w)
  rw [show (⟨#[43]⟩ : ByteArray).data.toList = [43] from rfl] at H1
  rw [show (⟨#[45]⟩ : ByteArray).data.toList = [45] from rfl, show (bA (Lib.trimPrefix p.data.toList [43])).data.toList = Lib.trimPrefix p.data.toList [43] from by simp [bA], x1, x2] at H2
  have H3 := Lib.hid (trim_left (bA D) w)
  rw [show (bA D).data.toList = D from by simp [bA]] at H3
  have hDz : (lz D).length ≤ 1048576 := by
    have h1 := lz_len D
    have h2 := congrArg List.length h
    rw [toList_size, List.length_append] at h2; omega
  have H4 := Lib.hid (dRead (bA (lz D)) w (by rw [bA_size]; omega))
  rw [show (bA (lz D)).data.toList = lz D from by simp [bA]] at H4
  have HF := Lib.hid (far_read hd)
  have hE := isEmpty_of (bA (lz D))
  rw [bA_size] at hE
  have hc : capV 4611686018427387904 p.data.toList = if p.data.toList.head? = some 45 then -((min 4611686018427387904 (dV D) : Nat) : Int) else ((min 4611686018427387904 (dV D) : Nat) : Int) := by unfold capV; rw [x3]
  have hv0 := dV_lz D
  obtain ⟨C, hC⟩ : ∃ C, C = capV 4611686018427387904 p.data.toList := ⟨_, rfl⟩
  rw [← hC] at hc ⊢
  generalize bA (Lib.trimPrefix p.data.toList [43]) = T1 at *
  generalize bA D = T2 at *
  clear x1 x2 x3 hs hD hC h hDz hz

  by_cases h0 : lz D = []
  · have pE : (bA (lz D)).toList.isEmpty = true := by rw [hE, h0]; rfl
    have HR := Lib.hid (show (0 : Int) = C by rw [hc, ← hv0, h0, show dV [] = 0 from rfl, Nat.min_zero]; split <;> rfl)
    clear h0 hE hc hv0 H4 HF
    generalize bA (lz D) = T3 at *
    go_enter Tryz.func74, Tryz.ntmps74
    go_wp2_with (first
      | (go_at_call 107; with_reducible refine H1.out.mono ?_; rintro e w1 ⟨rfl, hw⟩; rw [hw]; clear hw)
      | (go_at_call 49; with_reducible refine H2.out.mono ?_; rintro e w1 ⟨rfl, hw⟩; rw [hw]; clear hw)
      | (go_at_call 76; with_reducible refine H3.out.mono ?_; rintro e w1 ⟨rfl, hw⟩; rw [hw]; clear hw))
    go_ret
    exact ⟨ret_i HR.out, rfl⟩
  · have pE : (bA (lz D)).toList.isEmpty = false := by rw [hE]; exact decide_eq_false (fun e => h0 (List.eq_nil_of_length_eq_zero e))
    have HF2 := HF.out h0
    clear h0 hE hv0 HF
    generalize bA (lz D) = T3 at *
    generalize sEnd (lz D) = E at *
    generalize dV D = V at *
    by_cases hlo : V ≤ 4611686018427387904
    · skip
      rw [if_pos (show V ≤ 9223372036854775807 by omega)] at HF2
      obtain ⟨E1, E2⟩ := E
      obtain ⟨rfl, rfl⟩ := Prod.mk.inj HF2
      rw [Nat.min_eq_right (by omega)] at hc
      have p1 : ((0 : Int) != 0) = false := rfl
      have p2 : decide ((4611686018427387904 : Int) < (V : Int)) = false := decide_eq_false (by omega)
      have m1 : IntKind.i64.wrap (-(V : Int)) = -(V : Int) := i64_small (by omega) (by omega)
      by_cases h45 : p.data.toList.head? = some 45
      · rw [if_pos h45] at hc
        rw [decide_eq_true h45] at H2
        have HR := Lib.hid hc
        clear hc h45 HF2 hlo
        go_enter Tryz.func74, Tryz.ntmps74
        go_wp2_with (first
          | (go_at_call 107; with_reducible refine H1.out.mono ?_; rintro e w1 ⟨rfl, hw⟩; rw [hw]; clear hw)
          | (go_at_call 49; with_reducible refine H2.out.mono ?_; rintro e w1 ⟨rfl, hw⟩; rw [hw]; clear hw)
          | (go_at_call 76; with_reducible refine H3.out.mono ?_; rintro e w1 ⟨rfl, hw⟩; rw [hw]; clear hw)
          | (go_at_call 52; with_reducible refine H4.out.mono ?_; rintro e w1 ⟨rfl, hw⟩; rw [hw]; clear hw))
        go_ret
        exact ⟨ret_i HR.out.symm, rfl⟩
      · rw [if_neg h45] at hc
        rw [decide_eq_false h45] at H2
        have HR := Lib.hid hc
        clear hc h45 HF2 hlo
        go_enter Tryz.func74, Tryz.ntmps74
        go_wp2_with (first
          | (go_at_call 107; with_reducible refine H1.out.mono ?_; rintro e w1 ⟨rfl, hw⟩; rw [hw]; clear hw)
          | (go_at_call 49; with_reducible refine H2.out.mono ?_; rintro e w1 ⟨rfl, hw⟩; rw [hw]; clear hw)
          | (go_at_call 76; with_reducible refine H3.out.mono ?_; rintro e w1 ⟨rfl, hw⟩; rw [hw]; clear hw)
          | (go_at_call 52; with_reducible refine H4.out.mono ?_; rintro e w1 ⟨rfl, hw⟩; rw [hw]; clear hw))
        go_ret
        exact ⟨ret_i HR.out.symm, rfl⟩
    · by_cases hhi : V ≤ 9223372036854775807
      · skip
        rw [if_pos (show V ≤ 9223372036854775807 by omega)] at HF2
        obtain ⟨E1, E2⟩ := E
        obtain ⟨rfl, rfl⟩ := Prod.mk.inj HF2
        rw [Nat.min_eq_left (by omega)] at hc
        have p1 : ((0 : Int) != 0) = false := rfl
        have p2 : decide ((4611686018427387904 : Int) < (V : Int)) = true := decide_eq_true (by omega)
        by_cases h45 : p.data.toList.head? = some 45
        · rw [if_pos h45] at hc
          rw [decide_eq_true h45] at H2
          have HR := Lib.hid hc
          clear hc h45 HF2 hlo hhi
          go_enter Tryz.func74, Tryz.ntmps74
          go_wp2_with (first
            | (go_at_call 107; with_reducible refine H1.out.mono ?_; rintro e w1 ⟨rfl, hw⟩; rw [hw]; clear hw)
            | (go_at_call 49; with_reducible refine H2.out.mono ?_; rintro e w1 ⟨rfl, hw⟩; rw [hw]; clear hw)
            | (go_at_call 76; with_reducible refine H3.out.mono ?_; rintro e w1 ⟨rfl, hw⟩; rw [hw]; clear hw)
            | (go_at_call 52; with_reducible refine H4.out.mono ?_; rintro e w1 ⟨rfl, hw⟩; rw [hw]; clear hw))
          go_ret
          exact ⟨ret_i HR.out.symm, rfl⟩
        · rw [if_neg h45] at hc
          rw [decide_eq_false h45] at H2
          have HR := Lib.hid hc
          clear hc h45 HF2 hlo hhi
          go_enter Tryz.func74, Tryz.ntmps74
          go_wp2_with (first
            | (go_at_call 107; with_reducible refine H1.out.mono ?_; rintro e w1 ⟨rfl, hw⟩; rw [hw]; clear hw)
            | (go_at_call 49; with_reducible refine H2.out.mono ?_; rintro e w1 ⟨rfl, hw⟩; rw [hw]; clear hw)
            | (go_at_call 76; with_reducible refine H3.out.mono ?_; rintro e w1 ⟨rfl, hw⟩; rw [hw]; clear hw)
            | (go_at_call 52; with_reducible refine H4.out.mono ?_; rintro e w1 ⟨rfl, hw⟩; rw [hw]; clear hw))
          go_ret
          exact ⟨ret_i HR.out.symm, rfl⟩
      · skip
        rw [if_neg (show ¬ V ≤ 9223372036854775807 by omega)] at HF2
        obtain ⟨E1, E2⟩ := E
        obtain ⟨rfl, rfl⟩ := Prod.mk.inj HF2
        rw [Nat.min_eq_left (by omega)] at hc
        have p1 : ((4 : Int) != 0) = true := rfl
        by_cases h45 : p.data.toList.head? = some 45
        · rw [if_pos h45] at hc
          rw [decide_eq_true h45] at H2
          have HR := Lib.hid hc
          clear hc h45 HF2 hlo hhi
          go_enter Tryz.func74, Tryz.ntmps74
          go_wp2_with (first
            | (go_at_call 107; with_reducible refine H1.out.mono ?_; rintro e w1 ⟨rfl, hw⟩; rw [hw]; clear hw)
            | (go_at_call 49; with_reducible refine H2.out.mono ?_; rintro e w1 ⟨rfl, hw⟩; rw [hw]; clear hw)
            | (go_at_call 76; with_reducible refine H3.out.mono ?_; rintro e w1 ⟨rfl, hw⟩; rw [hw]; clear hw)
            | (go_at_call 52; with_reducible refine H4.out.mono ?_; rintro e w1 ⟨rfl, hw⟩; rw [hw]; clear hw))
          go_ret
          exact ⟨ret_i HR.out.symm, rfl⟩
        · rw [if_neg h45] at hc
          rw [decide_eq_false h45] at H2
          have HR := Lib.hid hc
          clear hc h45 HF2 hlo hhi
          go_enter Tryz.func74, Tryz.ntmps74
          go_wp2_with (first
            | (go_at_call 107; with_reducible refine H1.out.mono ?_; rintro e w1 ⟨rfl, hw⟩; rw [hw]; clear hw)
            | (go_at_call 49; with_reducible refine H2.out.mono ?_; rintro e w1 ⟨rfl, hw⟩; rw [hw]; clear hw)
            | (go_at_call 76; with_reducible refine H3.out.mono ?_; rintro e w1 ⟨rfl, hw⟩; rw [hw]; clear hw)
            | (go_at_call 52; with_reducible refine H4.out.mono ?_; rintro e w1 ⟨rfl, hw⟩; rw [hw]; clear hw))
          go_ret
          exact ⟨ret_i HR.out.symm, rfl⟩
end Go.Proofs.YtmkcfilgiehjaaaGreatDoor
/- Package jnum's worth. -/
namespace Go.Proofs.YtmkcfilgiehjaaaGreatDoor
open Go Go.RowKit
set_option linter.unusedVariables false

theorem idx_app (R : List UInt8) (y : UInt8) (hy : [(101 : UInt8), 69].contains y = true) : ∀ (M : List UInt8) (hM : ∀ x ∈ M, [(101 : UInt8), 69].contains x = false), Lib.indexAny (M ++ y :: R) [101, 69] = (M.length : Nat)
  | [], _ => by rw [List.nil_append, Lib.indexAny, if_pos hy]; rfl
  | x :: M, hM => by
    have ih := idx_app R y hy M (fun z hz => hM z (List.mem_cons_of_mem _ hz))
    rw [List.cons_append, Lib.indexAny, if_neg (by rw [hM x List.mem_cons_self]; decide), ih, if_neg (by simp), List.length_cons]; omega
theorem idx_none : ∀ (M : List UInt8) (hM : ∀ x ∈ M, [(101 : UInt8), 69].contains x = false), Lib.indexAny M [101, 69] = -1
  | [], _ => rfl
  | x :: M, hM => by
    have ih := idx_none M (fun z hz => hM z (List.mem_cons_of_mem _ hz))
    rw [Lib.indexAny, if_neg (by rw [hM x List.mem_cons_self]; decide), ih]; rfl
theorem dot_app (R : List UInt8) : ∀ (M : List UInt8) (hM : ∀ x ∈ M, x ≠ 46), Lib.index (M ++ 46 :: R) [46] = (M.length : Nat)
  | [], _ => rfl
  | x :: M, hM => by
    have ih := dot_app R M (fun z hz => hM z (List.mem_cons_of_mem _ hz))
    have h1 : ([(46 : UInt8)].isPrefixOf (x :: (M ++ 46 :: R))) = false := by
      have : ((46 : UInt8) == x) = false := beq_eq_false_iff_ne.mpr (fun e => hM x List.mem_cons_self e.symm)
      simp [List.isPrefixOf, this]
    rw [List.cons_append, Lib.index, h1, if_neg (by decide), ih, if_neg (by simp), List.length_cons]; omega
theorem dot_none : ∀ (M : List UInt8) (hM : ∀ x ∈ M, x ≠ 46), Lib.index M [46] = -1
  | [], _ => rfl
  | x :: M, hM => by
    have ih := dot_none M (fun z hz => hM z (List.mem_cons_of_mem _ hz))
    have h1 : ([(46 : UInt8)].isPrefixOf (x :: M)) = false := by
      have : ((46 : UInt8) == x) = false := beq_eq_false_iff_ne.mpr (fun e => hM x List.mem_cons_self e.symm)
      simp [List.isPrefixOf, this]
    rw [Lib.index, h1, if_neg (by decide), ih]; rfl
theorem digs_no {D : List UInt8} (h : D.all dIs = true) (x : UInt8) (hx : x ∈ D) : 48 ≤ x.toNat ∧ x.toNat ≤ 57 := dIs_iff.mp (List.all_eq_true.mp h x hx)
theorem cut_form {W F B : List UInt8} (hW : W.all dIs = true) (h : (F = [] ∧ B = []) ∨ (F = 46 :: B ∧ B ≠ [] ∧ B.all dIs = true)) : (Lib.cut (W ++ F) [46]).1 = W ∧ (Lib.cut (W ++ F) [46]).2.1 = B := by
  have hW2 : ∀ x ∈ W, x ≠ 46 := fun x hx e => by have := digs_no hW x hx; rw [e] at this; exact absurd this (by decide)
  rcases h with ⟨rfl, rfl⟩ | ⟨rfl, _, _⟩
  · rw [List.append_nil]
    unfold Lib.cut
    rw [dot_none W hW2, if_neg (by decide)]; exact ⟨rfl, rfl⟩
  · unfold Lib.cut
    rw [dot_app B W hW2, if_pos (by omega)]
    refine ⟨?_, ?_⟩
    · show (W ++ 46 :: B).take ((W.length : Nat) : Int).toNat = W
      rw [Int.toNat_natCast, List.take_left']; rfl
    · show (W ++ 46 :: B).drop (((W.length : Nat) : Int).toNat + 1) = B
      rw [Int.toNat_natCast, ← List.drop_drop, List.drop_left' rfl]; rfl
theorem NForm.wf {L sg W F B X P : List UInt8} (h : NForm L sg W F B X P) : ∀ x ∈ W ++ F, x.toNat < 128 ∧ [(101 : UInt8), 69].contains x = false := by
  intro x hx
  have hd : ∀ D : List UInt8, D.all dIs = true → x ∈ D → x.toNat < 128 ∧ [(101 : UInt8), 69].contains x = false := fun D hD hm => by
    have := digs_no hD x hm
    exact ⟨by omega, digit_ne (List.all_eq_true.mp hD x hm) _ (by simp)⟩
  rcases List.mem_append.mp hx with hm | hm
  · exact hd W h.digs hm
  · rcases h.frac with ⟨rfl, _⟩ | ⟨rfl, _, hB⟩
    · cases hm
    · rcases List.mem_cons.mp hm with rfl | hm
      · decide
      · exact hd B hB hm
theorem NForm.low {L sg W F B X P : List UInt8} (h : NForm L sg W F B X P) : ∀ x ∈ W ++ (F ++ X), x.toNat < 128 := by
  intro x hx
  rw [← List.append_assoc] at hx
  rcases List.mem_append.mp hx with hm | hm
  · exact (h.wf x hm).1
  · rcases h.expo with ⟨rfl, _⟩ | ⟨e, s, D, he, rfl, rfl, hs, _, hD⟩
    · cases hm
    · rcases List.mem_cons.mp hm with rfl | hm
      · rcases he with rfl | rfl <;> decide
      · rcases List.mem_append.mp hm with hm | hm
        · rcases hs with rfl | rfl | rfl
          · cases hm
          · rw [List.mem_singleton.mp hm]; decide
          · rw [List.mem_singleton.mp hm]; decide
        · have := digs_no hD x hm; omega
theorem capV_in (P : List UInt8) : -4611686018427387904 ≤ capV 4611686018427387904 P ∧ capV 4611686018427387904 P ≤ 4611686018427387904 := by
  unfold capV
  have := Nat.min_le_left 4611686018427387904 (dV (P.filter dIs))
  split <;> omega
theorem ret_ti {T U : ByteArray} {a b : Int} (h : T = U) (h2 : a = b) : Ending.returned (.tuple #[.string T, .int .i64 a]) = .returned (.tuple #[.string U, .int .i64 b]) := by rw [h, h2]
theorem bA_back (l : List UInt8) : (bA l).data.toList = l := by simp [bA]
theorem cnt_le (d : List UInt8) : (cnt d).length ≤ d.length := by have := cnt_len d; omega

set_option maxRecDepth 20000 in
set_option maxHeartbeats 2000000 in
theorem nworth_any (t : ByteArray) {L sg W F B X P : List UInt8} (hf : NForm L sg W F B X P) (ht : t.data.toList = W ++ (F ++ X)) (hz : t.size ≤ 1048576) (w : World) (hm : MaxL w) :
    Calls Tryz.prog 50 #[.string t] w fun e w' => e = .returned (.tuple #[.string (bA (cnt (lz (W ++ B)))), .int .i64 (capV 4611686018427387904 P - (B.length : Nat) + ((lz (W ++ B)).length : Nat) - ((cnt (lz (W ++ B))).length : Nat))]) ∧ Below w.heap.size w w' := by
  have hlt : ∀ (j : Nat) b, t.data.toList[j]? = some b → b.toNat < 128 := fun j b hb => by
    rw [ht] at hb
    exact hf.low b (List.mem_of_getElem? hb)
  have H1 := Lib.hid (index_any t w (by omega) hlt)
  have hM := Lib.hid (fun w' h => hm.below (w' := w') h hm.lt)
  have hlen := congrArg List.length ht
  rw [toList_size, List.length_append, List.length_append] at hlen
  obtain ⟨c1, c2⟩ := cut_form hf.digs hf.frac
  have hBl : B.length ≤ F.length := by
    rcases hf.frac with ⟨rfl, rfl⟩ | ⟨rfl, _, _⟩
    · exact Nat.le_refl _
    · simp
  have hcap := capV_in P
  have hl1 := lz_len (W ++ B)
  rw [List.length_append] at hl1
  have hl2 := cnt_le (lz (W ++ B))
  have HT1 := Lib.hid (trim_left (bA W ++ bA B))
  rw [show (bA W ++ bA B).data.toList = W ++ B from by rw [toList_append, bA_back, bA_back]] at HT1
  have HT2 := Lib.hid (fun w => trim_right (bA (lz (W ++ B))) w (by rw [bA_size]; omega))
  rw [bA_back] at HT2
  have sW := bA_size W
  have sB := bA_size B
  have sA := bA_size (lz (W ++ B))
  have sC := bA_size (cnt (lz (W ++ B)))
  have HCut := Lib.hid (fun (S : ByteArray) (hS : S.data.toList = W ++ F) w hm => cut_any S w (by have := congrArg List.length hS; rw [toList_size, List.length_append] at this; omega) hm)

  rcases hf.expo with ⟨hX, hP⟩ | ⟨e, s, D, he, hX, hP, hs, hD, hd⟩
  · have hS := Lib.hid (show t.data.toList = W ++ F by rw [ht, hX, List.append_nil])
    rw [show Lib.indexAny t.data.toList [101, 69] = -1 from by rw [hS.out]; exact idx_none _ (fun x hx => (hf.wf x hx).2)] at H1
    have p1 : decide ((0 : Int) ≤ -1) = false := by decide
    have HV := Lib.hid (show capV 4611686018427387904 P = 0 by rw [hP]; rfl)
    have HC2 := Lib.hid (HCut.out t hS.out)
    rw [hS.out, c1, c2] at HC2
    clear c1 c2 HCut
    generalize bA W = WT at *
    generalize bA B = BT at *
    generalize bA (lz (W ++ B)) = AT at *
    generalize bA (cnt (lz (W ++ B))) = CT at *
    generalize (Lib.cut (W ++ F) [46]).2.2 = fnd at *
    have HS := Lib.hid (And.intro sB (And.intro sA sC))
    have n1 : WT.size ≤ 1048576 := by omega
    have n2 : BT.size ≤ 1048576 := by omega
    have n3 : AT.size ≤ 2097152 := by omega
    have n4 : CT.size ≤ 2097152 := by omega
    have m1 : IntKind.i64.wrap (0 - (BT.size : Int)) = 0 - (BT.size : Int) := i64_small (by omega) (by omega)
    have m2 : IntKind.i64.wrap (0 - (BT.size : Int) + (AT.size : Int)) = 0 - (BT.size : Int) + (AT.size : Int) := i64_small (by omega) (by omega)
    have m3 : IntKind.i64.wrap (0 - (BT.size : Int) + (AT.size : Int) - (CT.size : Int)) = 0 - (BT.size : Int) + (AT.size : Int) - (CT.size : Int) := i64_small (by omega) (by omega)
    clear hX hP ht hf hlt hlen hBl hl1 hl2 sW sB sA sC hcap hm
    go_enter Tryz.func50, Tryz.ntmps50
    go_wp2_with fail
    with_reducible refine H1.out.mono ?_
    rintro r w1 ⟨rfl, b1⟩
    have hm1 := Lib.hid (hM.out _ b1)
    go_wp2_with fail
    with_reducible refine (HC2.out _ hm1.out).mono ?_
    rintro r w3 ⟨rfl, b3⟩
    go_wp2_with (first
      | (go_at_call 76; with_reducible refine (HT1.out _).mono ?_; rintro r w4 ⟨rfl, hw⟩; rw [hw]; clear hw)
      | (go_at_call 77; with_reducible refine (HT2.out _).mono ?_; rintro r w4 ⟨rfl, hw⟩; rw [hw]; clear hw))
    go_ret2
    exact ⟨ret_ti rfl (by rw [HV.out, ← HS.out.1, ← HS.out.2.1, ← HS.out.2.2]; omega), grown_then b1 b3⟩
  · obtain ⟨K, hK⟩ : ∃ K : Nat, K = (W ++ F).length := ⟨_, rfl⟩
    have hKl := hK
    rw [List.length_append] at hKl
    have hXl : X.length = P.length + 1 := by rw [hX, List.length_cons]
    have hsplit : t.data.toList = (W ++ F) ++ e :: P := by rw [ht, hX, List.append_assoc]
    rw [show Lib.indexAny t.data.toList [101, 69] = (K : Int) from by rw [hsplit, hK]; exact idx_app P e (by rcases he with rfl | rfl <;> decide) _ (fun x hx => (hf.wf x hx).2)] at H1
    have p1 : decide ((0 : Int) ≤ (K : Int)) = true := decide_eq_true (by omega)
    have hS := Lib.hid (show (t.extract 0 K).data.toList = W ++ F by rw [ext_toList, hsplit, hK, List.drop_zero, Nat.sub_zero, List.take_left']; rfl)
    have hE : (t.extract (K + 1) t.size).data.toList = P := by rw [back_toList, hsplit, hK, ← List.drop_drop, List.drop_left' rfl]; rfl
    have HX := Lib.hid (fun w => nexp_any (t.extract (K + 1) t.size) w (by rw [← toList_size, hE]; omega) (hE.trans hP) hs hD hd)
    rw [hE] at HX
    obtain ⟨C, hC⟩ : ∃ C, C = capV 4611686018427387904 P := ⟨_, rfl⟩
    rw [← hC] at HX hcap ⊢
    have HC2 := Lib.hid (HCut.out (t.extract 0 K) hS.out)
    rw [hS.out, c1, c2] at HC2
    clear c1 c2 HCut
    generalize bA W = WT at *
    generalize bA B = BT at *
    generalize bA (lz (W ++ B)) = AT at *
    generalize bA (cnt (lz (W ++ B))) = CT at *
    generalize (Lib.cut (W ++ F) [46]).2.2 = fnd at *
    have HS := Lib.hid (And.intro sB (And.intro sA sC))
    have n1 : WT.size ≤ 1048576 := by omega
    have n2 : BT.size ≤ 1048576 := by omega
    have n3 : AT.size ≤ 2097152 := by omega
    have n4 : CT.size ≤ 2097152 := by omega
    have m1 : IntKind.i64.wrap (C - (BT.size : Int)) = C - (BT.size : Int) := i64_small (by omega) (by omega)
    have m2 : IntKind.i64.wrap (C - (BT.size : Int) + (AT.size : Int)) = C - (BT.size : Int) + (AT.size : Int) := i64_small (by omega) (by omega)
    have m3 : IntKind.i64.wrap (C - (BT.size : Int) + (AT.size : Int) - (CT.size : Int)) = C - (BT.size : Int) + (AT.size : Int) - (CT.size : Int) := i64_small (by omega) (by omega)
    have k0 : (K : Int) + 1 ≤ (t.size : Int) := by omega
    have k1 : (K : Int) ≤ (t.size : Int) := by omega
    have k2 : (0 : Int) ≤ (K : Int) := by omega
    have m4 : IntKind.i64.wrap ((K : Int) + 1) = (K : Int) + 1 := i64_small (by omega) (by omega)
    clear hX hP ht hf hlt hlen hBl hl1 hl2 sW sB sA sC hcap hm he hs hD hd hK hKl hXl hsplit hE hC
    go_enter Tryz.func50, Tryz.ntmps50
    go_wp2_with fail
    with_reducible refine H1.out.mono ?_
    rintro r w1 ⟨rfl, b1⟩
    go_wp2_with fail
    go_quiet (first | (go_at_call 74; exact Calls.quiet_of_same (HX.out _)))
    go_wp2_with fail
    have hm1 := Lib.hid (fun n => hM.out (w1.drewN n) (Below.drewN b1 n))
    with_reducible refine (HC2.out _ (hm1.out _)).mono ?_
    rintro r w3 ⟨rfl, b3⟩
    go_wp2_with (first
      | (go_at_call 76; with_reducible refine (HT1.out _).mono ?_; rintro r w4 ⟨rfl, hw⟩; rw [hw]; clear hw)
      | (go_at_call 77; with_reducible refine (HT2.out _).mono ?_; rintro r w4 ⟨rfl, hw⟩; rw [hw]; clear hw))
    go_ret2
    exact ⟨ret_ti rfl (by rw [← HS.out.1, ← HS.out.2.1, ← HS.out.2.2]), grown_then (Below.drewN b1 _) b3⟩
end Go.Proofs.YtmkcfilgiehjaaaGreatDoor
/- Package jnum's Whole. -/
namespace Go.Proofs.YtmkcfilgiehjaaaGreatDoor
open Go Go.RowKit
set_option linter.unusedVariables false

theorem bs_new (s : ByteArray) : (CS.new s).bs = s.data.toList := by
  unfold CS.bs CS.new
  rw [List.drop_zero]; exact take_all s
theorem nc_new (s : ByteArray) : (CS.new s).nc = nCode s.data.toList := by
  unfold CS.nc
  rw [if_pos (show (CS.new s).er = 0 from rfl), bs_new]
theorem nread_new {b : Nat} {s : ByteArray} {w : World} (h : CurT 110 w b (CS.new s)) (hz : s.size ≤ 1048576) :
    Calls Tryz.prog 47 #[.pointer (some ⟨b, 0, none⟩)] w fun e w' => e = .returned (.string (bA (CS.new s).nt)) ∧ (∃ c', CurT 110 w' b c' ∧ CAt (CS.new s) (nE s.data.toList) (nCode s.data.toList) c') ∧ Only b w w' := by
  have := nread_any h (CS.new_ok (by omega)) (by show s.size ≤ _; omega)
  rw [bs_new, nc_new] at this; exact this
theorem end_good {b : Nat} {s : ByteArray} {c' : CS} {w : World} (h : CurT 110 w b c') (hA : CAt (CS.new s) s.size 0 c') :
    Calls Tryz.prog 48 #[.pointer (some ⟨b, 0, none⟩)] w fun e w' => e = .returned (.int .i64 0) ∧ Below w.heap.size w w' := by
  have h1 := hA.2.2.2.2 rfl
  have hE : c'.endC = 0 := by
    unfold CS.endC
    rw [if_neg (fun h => by rw [h1] at h; have : (0 : Nat) + s.size < s.size := h.2; omega)]
    exact hA.2.2.2.1
  have := end_any h hA.1
  rw [hE] at this
  refine this.mono ?_
  rintro e w' ⟨rfl, n, hw⟩
  rw [hw]
  exact ⟨rfl, drew_below w n⟩
theorem end_bad {b k : Nat} {e : Int} {s : ByteArray} {c' : CS} {w : World} (h : CurT 110 w b c') (hA : CAt (CS.new s) k e c') (hk : k ≤ s.size) (hn : ¬ (e = 0 ∧ k = s.size)) :
    ∃ z : Int, z ≠ 0 ∧ Calls Tryz.prog 48 #[.pointer (some ⟨b, 0, none⟩)] w fun e w' => e = .returned (.int .i64 z) ∧ Below w.heap.size w w' := by
  refine ⟨c'.endC, ?_, (end_any h hA.1).mono ?_⟩
  · unfold CS.endC
    by_cases he : e = 0
    · have h1 := hA.2.2.2.2 he
      have h2 : c'.er = 0 := hA.2.2.2.1.trans he
      have h3 : c'.at_ < c'.en := by
        rw [h1]
        show 0 + k < s.size
        have : ¬ k = s.size := fun h => hn ⟨he, h⟩
        omega
      rw [if_pos ⟨h2, h3⟩]; decide
    · have h2 : c'.er = e := hA.2.2.2.1
      rw [if_neg (fun h => he (h2.symm.trans h.1)), h2]; exact he
  · rintro e w' ⟨rfl, n, hw⟩
    rw [hw]
    exact ⟨rfl, drew_below w n⟩
theorem sign_off (l : List UInt8) : Lib.trimPrefix l [45] = l.drop (nA l) ∧ Lib.hasPrefix l [45] = decide (l.take (nA l) = [45]) := by
  obtain ⟨h1, h2⟩ := sign_cut l
  by_cases h : l.head? = some 45
  · obtain ⟨r, rfl⟩ : ∃ r, l = 45 :: r := by
      match l, h with
      | x :: r, h => exact ⟨r, by rw [List.head?_cons] at h; rw [Option.some.inj h]⟩
    have hA : nA (45 :: r) = 1 := pL_cons r rfl
    rw [h2 h, h1, decide_eq_true h, hA]
    exact ⟨rfl, rfl⟩
  · have hA : nA l = 0 := by
      match l, h with
      | [], _ => rfl
      | x :: r, h => exact pL_other r (fun hc => h (by rw [contains_one hc]; rfl))
    rw [h1, decide_eq_false h, hA]
    refine ⟨?_, by rw [List.take_zero]; rfl⟩
    unfold Lib.trimPrefix
    rw [h1, decide_eq_false h]; rfl
theorem nwhole_bad (s : ByteArray) (w : World) (hz : s.size ≤ 1048576) (hn : ¬ (nCode s.data.toList = 0 ∧ nE s.data.toList = s.data.toList.length)) :
    Calls Tryz.prog 28 #[.string s] w fun e w' => e = .returned (.tuple #[.int .i64 (wEnd s.data.toList).1, .int .i64 (wEnd s.data.toList).2]) ∧ Below w.heap.size w w' := by
  rw [wEnd_no hn]
  have hle := nE_len s.data.toList
  rw [toList_size] at hn hle
  have HN := Lib.hid (And.intro hle hn)
  clear hn hle
  go_enter Tryz.func28, Tryz.ntmps28
  go_wp2_with fail
  with_reducible refine (new_cur s _ (by omega)).mono ?_
  rintro r w1 ⟨b, rfl, hb1, hc1, bel1⟩
  go_wp2_with fail
  with_reducible refine (nread_new hc1 (by omega)).mono ?_
  rintro r w2 ⟨rfl, ⟨c', hq2, hA⟩, ho2⟩
  have bel2 := bel1.trans (ho2.below hb1 bel1.size)
  obtain ⟨z, hz0, HE⟩ := end_bad hq2 hA HN.out.1 HN.out.2
  have p1 : (z != 0) = true := by simpa using hz0
  clear hA hz0
  go_wp2_with fail
  with_reducible refine HE.mono ?_
  rintro r w3 ⟨rfl, bel3⟩
  go_wp2
  go_ret2
  exact ⟨rfl, grown_then bel2 bel3⟩

set_option maxRecDepth 20000 in
set_option maxHeartbeats 4000000 in
theorem nwhole_good (s : ByteArray) {sg W F B X P : List UInt8} (hf : NForm s.data.toList sg W F B X P) (w : World) (hz : s.size ≤ 1048576) (hm : MaxL w) :
    Calls Tryz.prog 28 #[.string s] w fun e w' => e = .returned (.tuple #[.int .i64 (nWorth sg W B (pwV P)).1, .int .i64 (nWorth sg W B (pwV P)).2]) ∧ Below w.heap.size w w' := by
  obtain ⟨f1, f2, f3, _, _, _, f7, f8⟩ := form_to hf
  have hlen := congrArg List.length hf.eq
  rw [toList_size, List.length_append, List.length_append, List.length_append] at hlen
  obtain ⟨s1, s2⟩ := sign_off s.data.toList
  rw [f7] at s1
  rw [f3] at s2
  have HC := Lib.hid (fun w => cut_prefix s ⟨#[45]⟩ w)
  rw [show (⟨#[45]⟩ : ByteArray).data.toList = [45] from rfl, s1, s2] at HC
  have HW := Lib.hid (fun w hm => nworth_any (bA (W ++ (F ++ X))) hf (bA_back _) (by rw [bA_size, List.length_append, List.length_append]; omega) w hm)
  have hM := Lib.hid (fun w' h => hm.below (w' := w') h hm.lt)
  have hBl : B.length ≤ F.length := by
    rcases hf.frac with ⟨rfl, rfl⟩ | ⟨rfl, _, _⟩
    · exact Nat.le_refl _
    · simp
  rw [← nWorth_cap 4611686018427387904 (by decide) (by omega)]
  have hcap := capV_in P
  have hWB : (W ++ B).all dIs = true := by
    rw [List.all_append, hf.digs]
    rcases hf.frac with ⟨_, rfl⟩ | ⟨_, _, h⟩
    · rfl
    · exact h
  have hl1 := lz_len (W ++ B)
  rw [List.length_append] at hl1
  have hl2 := cnt_le (lz (W ++ B))
  have HLd := Lib.hid (Lead.of hWB)
  have HSg := Lib.hid hf.sign
  have hE := isEmpty_of (bA (cnt (lz (W ++ B))))
  have sC := bA_size (cnt (lz (W ++ B)))
  unfold nWorth
  generalize lz (W ++ B) = d at *
  obtain ⟨C, hC⟩ : ∃ C, C = capV 4611686018427387904 P := ⟨_, rfl⟩
  rw [← hC] at hcap HW ⊢
  obtain ⟨n, hn⟩ : ∃ n : Int, n = C - (B.length : Nat) := ⟨_, rfl⟩
  rw [← hn] at HW ⊢
  obtain ⟨p, hp⟩ : ∃ p : Int, p = n + (d.length : Nat) - ((cnt d).length : Nat) := ⟨_, rfl⟩
  rw [← hp] at HW
  have HR0 := Lib.hid (fun h => dWorth_prog HSg.out (HLd.out h) hp)
  have HF := Lib.hid (show nCode s.data.toList = 0 ∧ nE s.data.toList = s.size from ⟨f1, by rw [f2, toList_size]⟩)
  have hsz : ∀ T : ByteArray, T.data.toList = d → True := fun _ _ => trivial
  clear f1 f2 f3 f7 f8 s1 s2 hC hsz hm hf
  generalize bA (W ++ (F ++ X)) = T0 at *

  by_cases h0 : d = []
  · have pE : (bA (cnt d)).toList.isEmpty = true := by rw [hE, sC, h0]; rfl
    have HR := Lib.hid (show dWorth sg d n = (0, 0) by unfold dWorth; rw [if_pos h0])
    clear h0 hE sC HR0 HLd HSg hl1 hl2 hcap hlen hBl hn hp hWB
    generalize bA (cnt d) = CT at *
    go_enter Tryz.func28, Tryz.ntmps28
    go_wp2_with fail
    with_reducible refine (new_cur s _ (by omega)).mono ?_
    rintro r w1 ⟨b, rfl, hb1, hc1, bel1⟩
    go_wp2_with fail
    with_reducible refine (nread_new hc1 (by omega)).mono ?_
    rintro r w2 ⟨rfl, ⟨c', hq2, hA⟩, ho2⟩
    rw [HF.out.1, HF.out.2] at hA
    have bel2 := bel1.trans (ho2.below hb1 bel1.size)
    have HE := Lib.hid (end_good hq2 hA)
    clear hA
    go_wp2_with fail
    with_reducible refine HE.out.mono ?_
    rintro r w3 ⟨rfl, bel3⟩
    have bel4 := grown_then bel2 bel3
    have hm4 := Lib.hid (hM.out _ bel4)
    clear bel1 ho2 bel2 bel3 hc1 hq2
    go_wp2_with (go_at_call 49; with_reducible refine (HC.out _).mono ?_; rintro r w5 ⟨rfl, hw⟩; rw [hw]; clear hw)
    with_reducible refine (HW.out _ hm4.out).mono ?_
    rintro r w6 ⟨rfl, bel6⟩
    have bel7 := grown_then bel4 bel6
    go_wp2
    go_ret2
    exact ⟨by rw [HR.out]; rfl, bel7⟩
  · have hne := cnt_ne (HLd.out h0)
    have pE : (bA (cnt d)).toList.isEmpty = false := by rw [hE, sC]; exact decide_eq_false (fun e => hne (List.eq_nil_of_length_eq_zero e))
    have HR1 := HR0.out h0
    have hpos : 0 < (cnt d).length := List.length_pos_iff.mpr hne
    have m1 : IntKind.i64.wrap (19 - ((bA (cnt d)).size : Int)) = 19 - ((bA (cnt d)).size : Int) := i64_small (by rw [sC]; omega) (by omega)
    by_cases h1 : p < 0
    · have p1 : decide (p < 0) = true := decide_eq_true h1
      rw [if_pos h1] at HR1
      have HR := Lib.hid HR1
      clear h1 h0 hne hE HR0 HR1 HLd HSg hl1 hl2 hcap hlen hBl hn hp hWB hpos sC
      generalize bA (cnt d) = CT at *
      go_enter Tryz.func28, Tryz.ntmps28
      go_wp2_with fail
      with_reducible refine (new_cur s _ (by omega)).mono ?_
      rintro r w1 ⟨b, rfl, hb1, hc1, bel1⟩
      go_wp2_with fail
      with_reducible refine (nread_new hc1 (by omega)).mono ?_
      rintro r w2 ⟨rfl, ⟨c', hq2, hA⟩, ho2⟩
      rw [HF.out.1, HF.out.2] at hA
      have bel2 := bel1.trans (ho2.below hb1 bel1.size)
      have HE := Lib.hid (end_good hq2 hA)
      clear hA
      go_wp2_with fail
      with_reducible refine HE.out.mono ?_
      rintro r w3 ⟨rfl, bel3⟩
      have bel4 := grown_then bel2 bel3
      have hm4 := Lib.hid (hM.out _ bel4)
      clear bel1 ho2 bel2 bel3 hc1 hq2
      go_wp2_with (go_at_call 49; with_reducible refine (HC.out _).mono ?_; rintro r w5 ⟨rfl, hw⟩; rw [hw]; clear hw)
      with_reducible refine (HW.out _ hm4.out).mono ?_
      rintro r w6 ⟨rfl, bel6⟩
      have bel7 := grown_then bel4 bel6
      go_wp2
      go_ret2
      exact ⟨by rw [HR.out]; rfl, bel7⟩
    · have p1 : decide (p < 0) = false := decide_eq_false h1
      rw [if_neg h1] at HR1
      by_cases h2 : 19 - ((cnt d).length : Int) < p
      · have p2 : decide (19 - ((bA (cnt d)).size : Int) < p) = true := decide_eq_true (by rw [sC]; exact h2)
        rw [if_pos h2] at HR1
        have HR := Lib.hid HR1
        clear h1 h0 hne hE HR0 HR1 HLd HSg hl1 hl2 hcap hlen hBl hn hp hWB hpos h2 sC
        generalize bA (cnt d) = CT at *
        go_enter Tryz.func28, Tryz.ntmps28
        go_wp2_with fail
        with_reducible refine (new_cur s _ (by omega)).mono ?_
        rintro r w1 ⟨b, rfl, hb1, hc1, bel1⟩
        go_wp2_with fail
        with_reducible refine (nread_new hc1 (by omega)).mono ?_
        rintro r w2 ⟨rfl, ⟨c', hq2, hA⟩, ho2⟩
        rw [HF.out.1, HF.out.2] at hA
        have bel2 := bel1.trans (ho2.below hb1 bel1.size)
        have HE := Lib.hid (end_good hq2 hA)
        clear hA
        go_wp2_with fail
        with_reducible refine HE.out.mono ?_
        rintro r w3 ⟨rfl, bel3⟩
        have bel4 := grown_then bel2 bel3
        have hm4 := Lib.hid (hM.out _ bel4)
        clear bel1 ho2 bel2 bel3 hc1 hq2
        go_wp2_with (go_at_call 49; with_reducible refine (HC.out _).mono ?_; rintro r w5 ⟨rfl, hw⟩; rw [hw]; clear hw)
        with_reducible refine (HW.out _ hm4.out).mono ?_
        rintro r w6 ⟨rfl, bel6⟩
        have bel7 := grown_then bel4 bel6
        go_wp2
        go_ret2
        exact ⟨by rw [HR.out]; rfl, bel7⟩
      · have p2 : decide (19 - ((bA (cnt d)).size : Int) < p) = false := decide_eq_false (by rw [sC]; exact h2)
        rw [if_neg h2] at HR1
        obtain ⟨q, hq⟩ : ∃ q : Nat, (q : Int) = p := ⟨p.toNat, by omega⟩
        have hq18 : q ≤ 18 := by omega
        rw [← hq] at HW p1 p2 HR1
        rw [Int.toNat_natCast] at HR1
        have HRep := Lib.hid (fun w => repeat_any q w (by omega))
        have sZ := bA_size (List.replicate q 48)
        rw [List.length_replicate] at sZ
        have hT1 : (bA (cnt d) ++ bA (List.replicate q 48)).data.toList = cnt d ++ List.replicate q 48 := by rw [toList_append, bA_back, bA_back]
        have sT : (bA (cnt d) ++ bA (List.replicate q 48)).size ≤ 2097252 := by rw [ByteArray.size_append, sC, sZ]; omega
        rcases HSg.out with hs | hs
        · rw [hs] at HR1 HC
          rw [show decide (([] : List UInt8) = [45]) = false from rfl] at HC
          have HD := Lib.hid (fun w => dRead (bA (cnt d) ++ bA (List.replicate q 48)) w (by omega))
          rw [hT1] at HD
          rw [List.nil_append] at HR1
          have HR := Lib.hid HR1
          have n1 : (bA (cnt d)).size ≤ 2097152 := by rw [sC]; omega
          have n2 : (bA (List.replicate q 48)).size ≤ 100 := by rw [sZ]; omega
          rw [hs]
          clear h1 h0 hne hE HR0 HR1 HLd hl1 hl2 hcap hlen hBl hn hp hWB hpos h2 sC hq hq18 sZ hT1 hs HSg
          generalize bA (cnt d) = CT at *
          generalize bA (List.replicate q 48) = ZT at *
          generalize sEnd (cnt d ++ List.replicate q 48) = E at *
          go_enter Tryz.func28, Tryz.ntmps28
          go_wp2_with fail
          with_reducible refine (new_cur s _ (by omega)).mono ?_
          rintro r w1 ⟨b, rfl, hb1, hc1, bel1⟩
          go_wp2_with fail
          with_reducible refine (nread_new hc1 (by omega)).mono ?_
          rintro r w2 ⟨rfl, ⟨c', hq2, hA⟩, ho2⟩
          rw [HF.out.1, HF.out.2] at hA
          have bel2 := bel1.trans (ho2.below hb1 bel1.size)
          have HE := Lib.hid (end_good hq2 hA)
          clear hA
          go_wp2_with fail
          with_reducible refine HE.out.mono ?_
          rintro r w3 ⟨rfl, bel3⟩
          have bel4 := grown_then bel2 bel3
          have hm4 := Lib.hid (hM.out _ bel4)
          clear bel1 ho2 bel2 bel3 hc1 hq2
          go_wp2_with (go_at_call 49; with_reducible refine (HC.out _).mono ?_; rintro r w5 ⟨rfl, hw⟩; rw [hw]; clear hw)
          with_reducible refine (HW.out _ hm4.out).mono ?_
          rintro r w6 ⟨rfl, bel6⟩
          have bel7 := grown_then bel4 bel6
          go_wp2_with fail
          with_reducible refine (HRep.out _).mono ?_
          rintro r w8 ⟨rfl, bel8⟩
          go_wp2_with fail
          with_reducible refine (HD.out _).mono ?_
          rintro r w9 ⟨rfl, hw⟩
          rw [hw]; clear hw
          go_wp2
          go_ret2
          exact ⟨by rw [HR.out]; rfl, grown_then bel7 bel8⟩
        · rw [hs] at HR1 HC
          rw [show decide (([45] : List UInt8) = [45]) = true from rfl] at HC
          have HD := Lib.hid (fun w => dRead ((⟨#[45]⟩ : ByteArray) ++ (bA (cnt d) ++ bA (List.replicate q 48))) w (by rw [ByteArray.size_append]; show 1 + _ ≤ _; omega))
          rw [show ((⟨#[45]⟩ : ByteArray) ++ (bA (cnt d) ++ bA (List.replicate q 48))).data.toList = [45] ++ (cnt d ++ List.replicate q 48) from by rw [toList_append, hT1]] at HD
          have HR := Lib.hid HR1
          have n1 : (bA (cnt d)).size ≤ 2097152 := by rw [sC]; omega
          have n2 : (bA (List.replicate q 48)).size ≤ 100 := by rw [sZ]; omega
          rw [hs]
          clear h1 h0 hne hE HR0 HR1 HLd hl1 hl2 hcap hlen hBl hn hp hWB hpos h2 sC hq hq18 sZ hT1 hs HSg
          generalize bA (cnt d) = CT at *
          generalize bA (List.replicate q 48) = ZT at *
          generalize sEnd ([45] ++ (cnt d ++ List.replicate q 48)) = E at *
          go_enter Tryz.func28, Tryz.ntmps28
          go_wp2_with fail
          with_reducible refine (new_cur s _ (by omega)).mono ?_
          rintro r w1 ⟨b, rfl, hb1, hc1, bel1⟩
          go_wp2_with fail
          with_reducible refine (nread_new hc1 (by omega)).mono ?_
          rintro r w2 ⟨rfl, ⟨c', hq2, hA⟩, ho2⟩
          rw [HF.out.1, HF.out.2] at hA
          have bel2 := bel1.trans (ho2.below hb1 bel1.size)
          have HE := Lib.hid (end_good hq2 hA)
          clear hA
          go_wp2_with fail
          with_reducible refine HE.out.mono ?_
          rintro r w3 ⟨rfl, bel3⟩
          have bel4 := grown_then bel2 bel3
          have hm4 := Lib.hid (hM.out _ bel4)
          clear bel1 ho2 bel2 bel3 hc1 hq2
          go_wp2_with (go_at_call 49; with_reducible refine (HC.out _).mono ?_; rintro r w5 ⟨rfl, hw⟩; rw [hw]; clear hw)
          with_reducible refine (HW.out _ hm4.out).mono ?_
          rintro r w6 ⟨rfl, bel6⟩
          have bel7 := grown_then bel4 bel6
          go_wp2_with fail
          with_reducible refine (HRep.out _).mono ?_
          rintro r w8 ⟨rfl, bel8⟩
          go_wp2_with fail
          with_reducible refine (HD.out _).mono ?_
          rintro r w9 ⟨rfl, hw⟩
          rw [hw]; clear hw
          go_wp2
          go_ret2
          exact ⟨by rw [HR.out]; rfl, grown_then bel7 bel8⟩
theorem nwhole_any (s : ByteArray) (w : World) (hz : s.size ≤ 1048576) (hm : MaxL w) :
    Calls Tryz.prog 28 #[.string s] w fun e w' => e = .returned (.tuple #[.int .i64 (wEnd s.data.toList).1, .int .i64 (wEnd s.data.toList).2]) ∧ Below w.heap.size w w' := by
  by_cases h : nCode s.data.toList = 0 ∧ nE s.data.toList = s.data.toList.length
  · have hf := form_of h.1 h.2
    rw [wEnd_form hf]
    exact nwhole_good s hf w hz hm
  · exact nwhole_bad s w hz h
end Go.Proofs.YtmkcfilgiehjaaaGreatDoor
/- Package jpick's Text, Whole, Flag, Object, List. -/
namespace Go.Proofs.YtmkcfilgiehjaaaGreatDoor
open Go Go.RowKit
set_option linter.unusedVariables false

theorem iEnd_zero {l : List UInt8} (h : ¬ (iEnd l).2 = 0) : (iEnd l).1 = 0 := by
  unfold iEnd at h ⊢
  by_cases a : DOK l
  · rw [if_pos a] at h ⊢
    by_cases b : dV l ≤ 9223372036854775807
    · rw [if_pos b] at h; exact absurd rfl h
    · rw [if_neg b]
  · rw [if_neg a]
theorem nEnd_zero {l : List UInt8} (h : ¬ (nEnd l).2 = 0) : (nEnd l).1 = 0 := by
  unfold nEnd at h ⊢
  by_cases a : DOK l
  · rw [if_pos a] at h ⊢
    by_cases b : dV l ≤ 9223372036854775808
    · rw [if_pos b] at h; exact absurd rfl h
    · rw [if_neg b]
  · rw [if_neg a]
theorem sEnd_zero {l : List UInt8} (h : ¬ (sEnd l).2 = 0) : (sEnd l).1 = 0 := by
  unfold sEnd at h ⊢
  by_cases a : l.head? = some 45
  · rw [if_pos a] at h ⊢
    by_cases b : l.drop 1 = [48]
    · rw [if_pos b]
    · rw [if_neg b] at h ⊢; exact nEnd_zero h
  · rw [if_neg a] at h ⊢; exact iEnd_zero h
theorem wEnd_zero {l : List UInt8} (h : ¬ (wEnd l).2 = 0) : (wEnd l).1 = 0 := by
  unfold wEnd at h ⊢
  by_cases h1 : nCode l = 0 ∧ nE l = l.length
  · rw [if_pos h1] at h ⊢
    unfold nWorth dWorth at h ⊢
    split at h
    · exact absurd rfl h
    · rename_i a1
      rw [if_neg a1]
      split at h
      · rename_i a2; rw [if_pos a2]
      · rename_i a2
        rw [if_neg a2]
        split at h
        · rename_i a3; rw [if_pos a3]
        · rename_i a3
          rw [if_neg a3]
          exact sEnd_zero h
  · rw [if_neg h1]
/-- What the five tell. -/
def ftA (l : List ND) (x : Int) (key : List UInt8) : List UInt8 × Bool × Int := match pkL l x key 115 115 with | (some k, _) => (txL l k, true, 0) | (none, c) => ([], false, c)
def fwA (l : List ND) (x : Int) (key : List UInt8) : Int × Bool × Int := match pkL l x key 110 110 with | (some k, _) => ((wEnd (txL l k)).1, decide ((wEnd (txL l k)).2 = 0), (wEnd (txL l k)).2) | (none, c) => (0, false, c)
def ffA (l : List ND) (x : Int) (key : List UInt8) : Bool × Bool × Int := match pkL l x key 116 102 with | (some k, _) => (decide (knL l k = 116), true, 0) | (none, c) => (false, false, c)
def foA (l : List ND) (x : Int) (key : List UInt8) : Int × Bool × Int := match pkL l x key 123 123 with | (some k, _) => ((k : Nat), true, 0) | (none, c) => (0, false, c)
def flA (l : List ND) (x : Int) (key : List UInt8) : List Nat × Bool × Int := match pkL l x key 91 91 with | (some k, _) => (kidsL l (k : Nat), true, 0) | (none, c) => ([], false, c)
theorem pk_none {l : List ND} {x : Int} {key : List UInt8} {c d : UInt8} (h : fdL l x key = none) : pkL l x key c d = (none, 0) := by unfold pkL; rw [h]
theorem pk_null {l : List ND} {x : Int} {key : List UInt8} {c d : UInt8} {k : Nat} (h : fdL l x key = some k) (hz : knL l k = 122) : pkL l x key c d = (none, 0) := by unfold pkL; rw [h]; exact if_pos hz
theorem pk_other {l : List ND} {x : Int} {key : List UInt8} {c d : UInt8} {k : Nat} (h : fdL l x key = some k) (hz : ¬ knL l k = 122) (hc : ¬ (knL l k = c ∨ knL l k = d)) : pkL l x key c d = (none, 7) := by
  unfold pkL; rw [h]; exact (if_neg hz).trans (if_neg hc)
theorem pk_some {l : List ND} {x : Int} {key : List UInt8} {c d : UInt8} {k : Nat} (h : fdL l x key = some k) (hz : ¬ knL l k = 122) (hc : knL l k = c ∨ knL l k = d) : pkL l x key c d = (some k, 0) := by
  unfold pkL; rw [h]; exact (if_neg hz).trans (if_pos hc)
/-- The call's own blocks: the nodes' slice, what is found, the kinds. -/
structure Bx (FT : TypeId) (z : Value) (a : Option Addr) (n cap : Nat) (kl : List UInt8) (W w : World) : Prop where
  b : Below W.heap.size W w
  box : w.heap[W.heap.size]? = some (.cells #[.slice a n cap] 27 (0, 0))
  fd : FdT FT w (W.heap.size + 1) z false 0
  ks : BIn w (some ⟨W.heap.size + 1 + 1, 0, none⟩) kl
theorem bx_new (FT : TypeId) (z : Value) (a : Option Addr) (n cap : Nat) (kl : List UInt8) (C : Array Value) (hC : C = (bV kl).toArray) (W : World) :
    Bx FT z a n cap kl W (((W.alloc (.cells #[.slice a n cap] 27)).alloc (.cells #[z, .bool false, .int .i64 0] FT)).alloc (.cells C 5)) := by
  have q1 := heap_alloc_new W (.cells #[.slice a n cap] 27)
  have b1 := alloc_below W (.cells #[.slice a n cap] 27)
  have e1 : (W.alloc (.cells #[.slice a n cap] 27)).heap.size = W.heap.size + 1 := by simp
  generalize W.alloc (.cells #[.slice a n cap] 27) = w1 at *
  have q2 := FdT.new w1 FT z false 0
  have b2 := alloc_below w1 (.cells #[z, .bool false, .int .i64 0] FT)
  have e2 : (w1.alloc (.cells #[z, .bool false, .int .i64 0] FT)).heap.size = w1.heap.size + 1 := by simp
  generalize w1.alloc (.cells #[z, .bool false, .int .i64 0] FT) = w2 at *
  have b3 := alloc_below w2 (.cells C 5)
  have q3 := bin_new w2 kl C 5 hC
  generalize w2.alloc (.cells C 5) = w3 at *
  rw [e2, e1] at q3
  rw [e1] at q2
  refine ⟨(b1.trans (b2.mono (by omega))).trans (b3.mono (by omega)), ?_, (b3.block _ (by omega)).trans q2, q3⟩
  exact (b3.block _ (by omega)).trans ((b2.block _ (by omega)).trans q1)
/-- .. without the nodes' slice. -/
structure Bo (FT : TypeId) (z : Value) (kl : List UInt8) (W w : World) : Prop where
  b : Below W.heap.size W w
  fd : FdT FT w W.heap.size z false 0
  ks : BIn w (some ⟨W.heap.size + 1, 0, none⟩) kl
theorem bo_new (FT : TypeId) (z : Value) (kl : List UInt8) (C : Array Value) (hC : C = (bV kl).toArray) (W : World) :
    Bo FT z kl W ((W.alloc (.cells #[z, .bool false, .int .i64 0] FT)).alloc (.cells C 5)) := by
  have q2 := FdT.new W FT z false 0
  have b2 := alloc_below W (.cells #[z, .bool false, .int .i64 0] FT)
  have e2 : (W.alloc (.cells #[z, .bool false, .int .i64 0] FT)).heap.size = W.heap.size + 1 := by simp
  generalize W.alloc (.cells #[z, .bool false, .int .i64 0] FT) = w2 at *
  have b3 := alloc_below w2 (.cells C 5)
  have q3 := bin_new w2 kl C 5 hC
  generalize w2.alloc (.cells C 5) = w3 at *
  rw [e2] at q3
  exact ⟨b2.trans (b3.mono (by omega)), (b3.block _ (by omega)).trans q2, q3⟩
theorem Bo.nin {FT : TypeId} {z : Value} {a : Option Addr} {l : List ND} {kl : List UInt8} {W w wx : World} (h : Bo FT z kl W w) (hb : Below w.heap.size w wx) (hin : NIn W a l) : NIn wx a l :=
  hin.below (h.b.trans (hb.mono h.b.size)) (Nat.le_refl _)
theorem Bx.cell {FT : TypeId} {z : Value} {a : Option Addr} {n cap : Nat} {kl : List UInt8} {W w wx : World} (h : Bx FT z a n cap kl W w) (hb : Below w.heap.size w wx) : wx.cell? ⟨W.heap.size, 0, none⟩ = some (.slice a n cap) := by
  refine (hb.cell (p := ⟨W.heap.size, 0, none⟩) (lt_of_block h.box)).trans ?_
  rw [cell_of_row w W.heap.size 0 _ _ _ h.box]; rfl
theorem Bx.nin {FT : TypeId} {z : Value} {a : Option Addr} {l : List ND} {n cap : Nat} {kl : List UInt8} {W w wx : World} (h : Bx FT z a n cap kl W w) (hb : Below w.heap.size w wx) (hin : NIn W a l) : NIn wx a l :=
  hin.below (h.b.trans (hb.mono h.b.size)) (Nat.le_refl _)
theorem tx_cell {w : World} {a : Option Addr} {l : List ND} {k : Nat} (hin : NIn w a l) (hk : k < l.length) : ∃ g, a = some ⟨g, 0, none⟩ ∧ w.cell? ⟨g, k * 4, none⟩ = some (.int .u8 ((knL l k).toNat : Int)) ∧ w.cell? ⟨g, k * 4 + 2, none⟩ = some (.string (bA (txL l k))) := by
  obtain ⟨g, e, _, c0, _, c2, _⟩ := hin k hk
  refine ⟨g, e, ?_, ?_⟩
  · rw [kn_at hk]; exact c0
  · rw [tx_at hk]; exact c2

theorem text1_any {a : Option Addr} {cap p k : Nat} {l : List ND} {w : World} (hk : k < l.length) (hl : l.length ≤ 1099511627776) (hin : NIn w a l) (hc : w.cell? ⟨p, 0, none⟩ = some (.slice a l.length cap)) :
    Calls Tryz.prog 25 #[.int .i64 (k : Nat), .pointer (some ⟨p, 0, none⟩)] w fun e w' => e = .returned (.tuple #[.string (bA (txL l k)), .int .i64 0]) ∧ Below w.heap.size w w' := by
  obtain ⟨g, rfl, c0, c2⟩ := tx_cell hin hk
  have q1 : (k : Int) < (l.length : Int) := by omega
  have q2 : (0 : Int) ≤ (k : Int) := by omega
  have r1 := Lib.hid (eq8 (knL l k) 116)
  generalize txL l k = z at *
  generalize knL l k = y at *
  generalize hv : decide (y = 116) = v at *
  have r2 : ((y.toNat : Int) == 116) = v := r1.out
  clear hin hk r1 hv
  go_enter Tryz.func25, Tryz.ntmps25
  go_wp2
  go_ret2
  exact ⟨rfl, Below.refl _ _⟩
theorem flag1_any {a : Option Addr} {cap p k : Nat} {l : List ND} {w : World} (hk : k < l.length) (hl : l.length ≤ 1099511627776) (hin : NIn w a l) (hc : w.cell? ⟨p, 0, none⟩ = some (.slice a l.length cap)) :
    Calls Tryz.prog 30 #[.int .i64 (k : Nat), .pointer (some ⟨p, 0, none⟩)] w fun e w' => e = .returned (.tuple #[.bool (decide (knL l k = 116)), .int .i64 0]) ∧ Below w.heap.size w w' := by
  obtain ⟨g, rfl, c0, c2⟩ := tx_cell hin hk
  have q1 : (k : Int) < (l.length : Int) := by omega
  have q2 : (0 : Int) ≤ (k : Int) := by omega
  have r1 := Lib.hid (eq8 (knL l k) 116)
  generalize txL l k = z at *
  generalize knL l k = y at *
  generalize hv : decide (y = 116) = v at *
  have r2 : ((y.toNat : Int) == 116) = v := r1.out
  clear hin hk r1 hv
  go_enter Tryz.func30, Tryz.ntmps30
  go_wp2
  go_ret2
  exact ⟨rfl, Below.refl _ _⟩
theorem object1_any {k : Nat} {w : World} :
    Calls Tryz.prog 32 #[.int .i64 (k : Nat)] w fun e w' => e = .returned (.tuple #[.int .i64 (k : Nat), .int .i64 0]) ∧ Below w.heap.size w w' := by
  go_enter Tryz.func32, Tryz.ntmps32
  go_wp2
  go_ret2
  exact ⟨rfl, Below.refl _ _⟩
theorem whole1_any {a : Option Addr} {cap p k : Nat} {l : List ND} {w : World} (hk : k < l.length) (hl : l.length ≤ 1099511627776) (hin : NIn w a l) (hc : w.cell? ⟨p, 0, none⟩ = some (.slice a l.length cap)) (ht : (txL l k).length ≤ 1048576) (hm : MaxL w) :
    Calls Tryz.prog 27 #[.int .i64 (k : Nat), .pointer (some ⟨p, 0, none⟩)] w fun e w' => e = .returned (.tuple #[.int .i64 (wEnd (txL l k)).1, .int .i64 (wEnd (txL l k)).2]) ∧ Below w.heap.size w w' := by
  obtain ⟨g, rfl, c0, c2⟩ := tx_cell hin hk
  have q1 : (k : Int) < (l.length : Int) := by omega
  have q2 : (0 : Int) ≤ (k : Int) := by omega
  have HW := nwhole_any (bA (txL l k)) w (by rw [bA_size]; exact ht) hm
  rw [bA_back] at HW
  have HW2 := Lib.hid HW
  generalize txL l k = z at *
  generalize (wEnd z).1 = u at *
  generalize (wEnd z).2 = v at *
  clear hin hk ht hm HW c0
  go_enter Tryz.func27, Tryz.ntmps27
  go_wp2_with fail
  with_reducible refine HW2.out.mono ?_
  rintro e w1 ⟨rfl, b1⟩
  go_wp2
  go_ret2
  exact ⟨rfl, b1⟩
theorem list1_any {a : Option Addr} {cap p k : Nat} {l : List ND} {w : World} (hk : k < l.length) (hl : l.length ≤ 1099511627776) (hin : NIn w a l) (hsz : SzOk l) (hc : w.cell? ⟨p, 0, none⟩ = some (.slice a l.length cap)) :
    Calls Tryz.prog 34 #[.int .i64 (k : Nat), .pointer (some ⟨p, 0, none⟩)] w fun e w' => ∃ v, e = .returned (.tuple #[v, .int .i64 0]) ∧ IRow w' w.heap.size v (kidsL l (k : Nat)) ∧ Below w.heap.size w w' := by
  have HK := Lib.hid (kids_any a cap l (k : Nat) w hl hin hsz (by omega) (by omega))
  clear hin hk hsz
  go_enter Tryz.func34, Tryz.ntmps34
  go_wp2_with fail
  with_reducible refine HK.out.mono ?_
  rintro e w1 ⟨v, rfl, hv, b1⟩
  have HQ := Lib.hid (And.intro hv b1)
  obtain ⟨va, vc, rfl, -⟩ := hv.inn
  clear hv b1
  go_wp2
  go_ret2
  exact ⟨_, rfl, HQ.out.1, HQ.out.2⟩
set_option maxRecDepth 20000 in
set_option maxHeartbeats 1000000 in
theorem jtext_walk (a : Option Addr) (cap : Nat) (l : List ND) (x : Int) (key : List UInt8) (w : World) (v : ByteArray) (b : Bool) (c : Int)
    (HP : ∀ w3, Bx 35 (.string ⟨#[]⟩) a l.length cap [115] w w3 → Calls Tryz.prog 24 #[.slice a l.length cap, .int .i64 x, .string (bA key), .func (.func 25) #[] #[.pointer (some ⟨w.heap.size, 0, none⟩)], .slice (some ⟨w.heap.size + 1 + 1, 0, none⟩) 1 1] w3 fun e w' => e = .returned (.agg #[.string v, .bool b, .int .i64 c]) ∧ Below w3.heap.size w3 w') :
    Calls Tryz.prog 11 #[.slice a l.length cap, .int .i64 x, .string (bA key)] w fun e w' => e = .returned (.agg #[.string v, .bool b, .int .i64 c]) ∧ Below w.heap.size w w' := by
  have hmf : ∀ (fn : Fn) (first cap : Array Value) (w : World), (Instr.makeFunc fn first cap).run Tryz.prog w = .ok (.func fn first cap) w := fun _ _ _ _ => rfl
  have BX := Lib.hid (bx_new 35 (.string ⟨#[]⟩) a l.length cap [115] #[.int .u8 115] rfl w)
  have HPH := Lib.hid HP
  clear HP
  go_enter Tryz.func11, Tryz.ntmps11
  go_wp2_with fail
  generalize ((w.alloc (.cells #[.slice a l.length cap] 27)).alloc (.cells #[.string ⟨#[]⟩, .bool false, .int .i64 0] 35)).alloc (.cells #[.int .u8 115] 5) = w3 at *
  with_reducible refine (HPH.out w3 BX.out).mono ?_
  rintro e w4 ⟨rfl, b4⟩
  have B4 := Lib.hid (BX.out.b.trans (b4.mono BX.out.b.size))
  have f4 := BX.out.fd.below b4
  have HX := Lib.hid (f4.setAll (.string v) b c)
  have HB := Lib.hid (set3_below B4.out (Nat.le_succ w.heap.size) (.string v) (.bool b) (.int .i64 c))
  have a0 := f4.c0; have a1 := f4.c1; have a2 := f4.c2; have af := f4.fr
  clear f4 b4 HPH
  go_wp2
  refine bodyPost_ret (fd_resultS Tryz.results11 HX.out rfl) rfl ?_
  exact ⟨rfl, HB.out⟩
theorem jtext_any (a : Option Addr) (cap : Nat) (l : List ND) (x : Int) (key : List UInt8) (w : World) (hl : l.length ≤ 1099511627776) (hin : NIn w a l) (hsz : SzOk l) (h0 : -9223372036854775808 ≤ x) (h1 : x ≤ 9223372036854775807) :
    Calls Tryz.prog 11 #[.slice a l.length cap, .int .i64 x, .string (bA key)] w fun e w' => e = .returned (.agg #[.string (bA (ftA l x key).1), .bool (ftA l x key).2.1, .int .i64 (ftA l x key).2.2]) ∧ Below w.heap.size w w' := by
  cases hf : fdL l x key with
  | none =>
    rw [show ftA l x key = ([], false, 0) from by unfold ftA; rw [pk_none hf]]
    exact jtext_walk a cap l x key w (bA []) false 0 (fun w3 h3 => pickS_none a cap l x key _ _ _ 1 [115] w3 hl (h3.nin (Below.refl _ _) hin) hsz h0 h1 hf)
  | some k =>
    by_cases hz : knL l k = 122
    · rw [show ftA l x key = ([], false, 0) from by unfold ftA; rw [pk_null hf hz]]
      exact jtext_walk a cap l x key w (bA []) false 0 (fun w3 h3 => pickS_null a cap l x key _ _ _ 1 [115] w3 hl (h3.nin (Below.refl _ _) hin) hsz h0 h1 k hf hz)
    · by_cases hc : knL l k = 115 ∨ knL l k = 115
      · obtain ⟨hk, -⟩ := fdL_at hsz hf
        have hct : ([115] : List UInt8).contains (knL l k) = true := by
          rcases hc with e | e <;> rw [e] <;> rfl
        rw [show ftA l x key = (txL l k, true, 0) from by unfold ftA; rw [pk_some hf hz hc]]
        exact jtext_walk a cap l x key w (bA (txL l k)) true 0 (fun w3 h3 => pickS_told a cap l x key w.heap.size _ 1 [115] w3 hl (h3.nin (Below.refl _ _) hin) hsz h0 h1 k hf hz (by decide) h3.ks hct _ (fun wx hb => text1_any hk hl (h3.nin hb hin) (h3.cell hb)))
      · have hcf : ([115] : List UInt8).contains (knL l k) = false := by
          have := not_or.mp hc
          simp [this.1]
        rw [show ftA l x key = ([], false, 7) from by unfold ftA; rw [pk_other hf hz hc]]
        exact jtext_walk a cap l x key w (bA []) false 7 (fun w3 h3 => pickS_other a cap l x key _ _ _ 1 [115] w3 hl (h3.nin (Below.refl _ _) hin) hsz h0 h1 k hf hz (by decide) h3.ks hcf)
set_option maxRecDepth 20000 in
set_option maxHeartbeats 1000000 in
theorem jwhole_walk (a : Option Addr) (cap : Nat) (l : List ND) (x : Int) (key : List UInt8) (w : World) (v : Int) (b : Bool) (c : Int)
    (HP : ∀ w3, Bx 38 (.int .i64 0) a l.length cap [110] w w3 → Calls Tryz.prog 26 #[.slice a l.length cap, .int .i64 x, .string (bA key), .func (.func 27) #[] #[.pointer (some ⟨w.heap.size, 0, none⟩)], .slice (some ⟨w.heap.size + 1 + 1, 0, none⟩) 1 1] w3 fun e w' => e = .returned (.agg #[.int .i64 v, .bool b, .int .i64 c]) ∧ Below w3.heap.size w3 w') :
    Calls Tryz.prog 12 #[.slice a l.length cap, .int .i64 x, .string (bA key)] w fun e w' => e = .returned (.agg #[.int .i64 v, .bool b, .int .i64 c]) ∧ Below w.heap.size w w' := by
  have hmf : ∀ (fn : Fn) (first cap : Array Value) (w : World), (Instr.makeFunc fn first cap).run Tryz.prog w = .ok (.func fn first cap) w := fun _ _ _ _ => rfl
  have BX := Lib.hid (bx_new 38 (.int .i64 0) a l.length cap [110] #[.int .u8 110] rfl w)
  have HPH := Lib.hid HP
  clear HP
  go_enter Tryz.func12, Tryz.ntmps12
  go_wp2_with fail
  generalize ((w.alloc (.cells #[.slice a l.length cap] 27)).alloc (.cells #[.int .i64 0, .bool false, .int .i64 0] 38)).alloc (.cells #[.int .u8 110] 5) = w3 at *
  with_reducible refine (HPH.out w3 BX.out).mono ?_
  rintro e w4 ⟨rfl, b4⟩
  have B4 := Lib.hid (BX.out.b.trans (b4.mono BX.out.b.size))
  have f4 := BX.out.fd.below b4
  have HX := Lib.hid (f4.setAll (.int .i64 v) b c)
  have HB := Lib.hid (set3_below B4.out (Nat.le_succ w.heap.size) (.int .i64 v) (.bool b) (.int .i64 c))
  have a0 := f4.c0; have a1 := f4.c1; have a2 := f4.c2; have af := f4.fr
  clear f4 b4 HPH
  go_wp2
  refine bodyPost_ret (fd_resultI Tryz.results12 HX.out rfl) rfl ?_
  exact ⟨rfl, HB.out⟩
theorem jwhole_any (a : Option Addr) (cap : Nat) (l : List ND) (x : Int) (key : List UInt8) (w : World) (hl : l.length ≤ 1099511627776) (hin : NIn w a l) (hsz : SzOk l) (h0 : -9223372036854775808 ≤ x) (h1 : x ≤ 9223372036854775807) (ht : ∀ k, k < l.length → (txL l k).length ≤ 1048576) (hm : MaxL w) :
    Calls Tryz.prog 12 #[.slice a l.length cap, .int .i64 x, .string (bA key)] w fun e w' => e = .returned (.agg #[.int .i64 (fwA l x key).1, .bool (fwA l x key).2.1, .int .i64 (fwA l x key).2.2]) ∧ Below w.heap.size w w' := by
  cases hf : fdL l x key with
  | none =>
    rw [show fwA l x key = (0, false, 0) from by unfold fwA; rw [pk_none hf]]
    exact jwhole_walk a cap l x key w 0 false 0 (fun w3 h3 => pickI_none a cap l x key _ _ _ 1 [110] w3 hl (h3.nin (Below.refl _ _) hin) hsz h0 h1 hf)
  | some k =>
    by_cases hz : knL l k = 122
    · rw [show fwA l x key = (0, false, 0) from by unfold fwA; rw [pk_null hf hz]]
      exact jwhole_walk a cap l x key w 0 false 0 (fun w3 h3 => pickI_null a cap l x key _ _ _ 1 [110] w3 hl (h3.nin (Below.refl _ _) hin) hsz h0 h1 k hf hz)
    · by_cases hc : knL l k = 110 ∨ knL l k = 110
      · obtain ⟨hk, -⟩ := fdL_at hsz hf
        have hct : ([110] : List UInt8).contains (knL l k) = true := by
          rcases hc with e | e <;> rw [e] <;> rfl
        have HF : ∀ w3, Bx 38 (.int .i64 0) a l.length cap [110] w w3 → ∀ wx, Below w3.heap.size w3 wx → Calls Tryz.prog 27 #[.int .i64 (k : Nat), .pointer (some ⟨w.heap.size, 0, none⟩)] wx fun e w' => e = .returned (.tuple #[.int .i64 (wEnd (txL l k)).1, .int .i64 (wEnd (txL l k)).2]) ∧ Below wx.heap.size wx w' := fun w3 h3 wx hb => whole1_any hk hl (h3.nin hb hin) (h3.cell hb) (ht k hk) (hm.below (h3.b.trans (hb.mono h3.b.size)) hm.lt)
        by_cases he : (wEnd (txL l k)).2 = 0
        · rw [show fwA l x key = ((wEnd (txL l k)).1, true, 0) from by unfold fwA; rw [pk_some hf hz hc]; simp only [he]; rfl]
          exact jwhole_walk a cap l x key w (wEnd (txL l k)).1 true 0 (fun w3 h3 => pickI_whole a cap l x key w.heap.size _ 1 [110] w3 hl (h3.nin (Below.refl _ _) hin) hsz h0 h1 k hf hz (by decide) h3.ks hct _ _ (HF w3 h3) he)
        · rw [show fwA l x key = (0, false, (wEnd (txL l k)).2) from by unfold fwA; rw [pk_some hf hz hc]; simp only [wEnd_zero he, decide_eq_false he]]
          exact jwhole_walk a cap l x key w 0 false (wEnd (txL l k)).2 (fun w3 h3 => pickI_bad a cap l x key w.heap.size _ 1 [110] w3 hl (h3.nin (Below.refl _ _) hin) hsz h0 h1 k hf hz (by decide) h3.ks hct _ _ (HF w3 h3) he)
      · have hcf : ([110] : List UInt8).contains (knL l k) = false := by
          have := not_or.mp hc
          simp [this.1]
        rw [show fwA l x key = (0, false, 7) from by unfold fwA; rw [pk_other hf hz hc]]
        exact jwhole_walk a cap l x key w 0 false 7 (fun w3 h3 => pickI_other a cap l x key _ _ _ 1 [110] w3 hl (h3.nin (Below.refl _ _) hin) hsz h0 h1 k hf hz (by decide) h3.ks hcf)
set_option maxRecDepth 20000 in
set_option maxHeartbeats 1000000 in
theorem jflag_walk (a : Option Addr) (cap : Nat) (l : List ND) (x : Int) (key : List UInt8) (w : World) (v : Bool) (b : Bool) (c : Int)
    (HP : ∀ w3, Bx 41 (.bool false) a l.length cap [116, 102] w w3 → Calls Tryz.prog 29 #[.slice a l.length cap, .int .i64 x, .string (bA key), .func (.func 30) #[] #[.pointer (some ⟨w.heap.size, 0, none⟩)], .slice (some ⟨w.heap.size + 1 + 1, 0, none⟩) 2 2] w3 fun e w' => e = .returned (.agg #[.bool v, .bool b, .int .i64 c]) ∧ Below w3.heap.size w3 w') :
    Calls Tryz.prog 13 #[.slice a l.length cap, .int .i64 x, .string (bA key)] w fun e w' => e = .returned (.agg #[.bool v, .bool b, .int .i64 c]) ∧ Below w.heap.size w w' := by
  have hmf : ∀ (fn : Fn) (first cap : Array Value) (w : World), (Instr.makeFunc fn first cap).run Tryz.prog w = .ok (.func fn first cap) w := fun _ _ _ _ => rfl
  have BX := Lib.hid (bx_new 41 (.bool false) a l.length cap [116, 102] #[.int .u8 116, .int .u8 102] rfl w)
  have HPH := Lib.hid HP
  clear HP
  go_enter Tryz.func13, Tryz.ntmps13
  go_wp2_with fail
  generalize ((w.alloc (.cells #[.slice a l.length cap] 27)).alloc (.cells #[.bool false, .bool false, .int .i64 0] 41)).alloc (.cells #[.int .u8 116, .int .u8 102] 5) = w3 at *
  with_reducible refine (HPH.out w3 BX.out).mono ?_
  rintro e w4 ⟨rfl, b4⟩
  have B4 := Lib.hid (BX.out.b.trans (b4.mono BX.out.b.size))
  have f4 := BX.out.fd.below b4
  have HX := Lib.hid (f4.setAll (.bool v) b c)
  have HB := Lib.hid (set3_below B4.out (Nat.le_succ w.heap.size) (.bool v) (.bool b) (.int .i64 c))
  have a0 := f4.c0; have a1 := f4.c1; have a2 := f4.c2; have af := f4.fr
  clear f4 b4 HPH
  go_wp2
  refine bodyPost_ret (fd_resultB Tryz.results13 HX.out rfl) rfl ?_
  exact ⟨rfl, HB.out⟩
theorem jflag_any (a : Option Addr) (cap : Nat) (l : List ND) (x : Int) (key : List UInt8) (w : World) (hl : l.length ≤ 1099511627776) (hin : NIn w a l) (hsz : SzOk l) (h0 : -9223372036854775808 ≤ x) (h1 : x ≤ 9223372036854775807) :
    Calls Tryz.prog 13 #[.slice a l.length cap, .int .i64 x, .string (bA key)] w fun e w' => e = .returned (.agg #[.bool (ffA l x key).1, .bool (ffA l x key).2.1, .int .i64 (ffA l x key).2.2]) ∧ Below w.heap.size w w' := by
  cases hf : fdL l x key with
  | none =>
    rw [show ffA l x key = (false, false, 0) from by unfold ffA; rw [pk_none hf]]
    exact jflag_walk a cap l x key w false false 0 (fun w3 h3 => pickB_none a cap l x key _ _ _ 2 [116, 102] w3 hl (h3.nin (Below.refl _ _) hin) hsz h0 h1 hf)
  | some k =>
    by_cases hz : knL l k = 122
    · rw [show ffA l x key = (false, false, 0) from by unfold ffA; rw [pk_null hf hz]]
      exact jflag_walk a cap l x key w false false 0 (fun w3 h3 => pickB_null a cap l x key _ _ _ 2 [116, 102] w3 hl (h3.nin (Below.refl _ _) hin) hsz h0 h1 k hf hz)
    · by_cases hc : knL l k = 116 ∨ knL l k = 102
      · obtain ⟨hk, -⟩ := fdL_at hsz hf
        have hct : ([116, 102] : List UInt8).contains (knL l k) = true := by
          rcases hc with e | e <;> rw [e] <;> rfl
        rw [show ffA l x key = (decide (knL l k = 116), true, 0) from by unfold ffA; rw [pk_some hf hz hc]]
        exact jflag_walk a cap l x key w (decide (knL l k = 116)) true 0 (fun w3 h3 => pickB_told a cap l x key w.heap.size _ 2 [116, 102] w3 hl (h3.nin (Below.refl _ _) hin) hsz h0 h1 k hf hz (by decide) h3.ks hct _ (fun wx hb => flag1_any hk hl (h3.nin hb hin) (h3.cell hb)))
      · have hcf : ([116, 102] : List UInt8).contains (knL l k) = false := by
          have := not_or.mp hc
          simp [this.1, this.2]
        rw [show ffA l x key = (false, false, 7) from by unfold ffA; rw [pk_other hf hz hc]]
        exact jflag_walk a cap l x key w false false 7 (fun w3 h3 => pickB_other a cap l x key _ _ _ 2 [116, 102] w3 hl (h3.nin (Below.refl _ _) hin) hsz h0 h1 k hf hz (by decide) h3.ks hcf)
set_option maxRecDepth 20000 in
set_option maxHeartbeats 1000000 in
theorem jobject_walk (a : Option Addr) (cap : Nat) (l : List ND) (x : Int) (key : List UInt8) (w : World) (v : Int) (b : Bool) (c : Int)
    (HP : ∀ w3, Bo 38 (.int .i64 0) [123] w w3 → Calls Tryz.prog 26 #[.slice a l.length cap, .int .i64 x, .string (bA key), .func (.func 32) #[] #[], .slice (some ⟨w.heap.size + 1, 0, none⟩) 1 1] w3 fun e w' => e = .returned (.agg #[.int .i64 v, .bool b, .int .i64 c]) ∧ Below w3.heap.size w3 w') :
    Calls Tryz.prog 17 #[.slice a l.length cap, .int .i64 x, .string (bA key)] w fun e w' => e = .returned (.agg #[.int .i64 v, .bool b, .int .i64 c]) ∧ Below w.heap.size w w' := by
  have BX := Lib.hid (bo_new 38 (.int .i64 0) [123] #[.int .u8 123] rfl w)
  have HPH := Lib.hid HP
  clear HP
  go_enter Tryz.func17, Tryz.ntmps17
  go_wp2_with fail
  generalize (w.alloc (.cells #[.int .i64 0, .bool false, .int .i64 0] 38)).alloc (.cells #[.int .u8 123] 5) = w3 at *
  with_reducible refine (HPH.out w3 BX.out).mono ?_
  rintro e w4 ⟨rfl, b4⟩
  have B4 := Lib.hid (BX.out.b.trans (b4.mono BX.out.b.size))
  have f4 := BX.out.fd.below b4
  have HX := Lib.hid (f4.setAll (.int .i64 v) b c)
  have HB := Lib.hid (set3_below B4.out (Nat.le_refl w.heap.size) (.int .i64 v) (.bool b) (.int .i64 c))
  have a0 := f4.c0; have a1 := f4.c1; have a2 := f4.c2; have af := f4.fr
  clear f4 b4 HPH
  go_wp2
  refine bodyPost_ret (fd_resultI Tryz.results17 HX.out rfl) rfl ?_
  exact ⟨rfl, HB.out⟩
theorem jobject_any (a : Option Addr) (cap : Nat) (l : List ND) (x : Int) (key : List UInt8) (w : World) (hl : l.length ≤ 1099511627776) (hin : NIn w a l) (hsz : SzOk l) (h0 : -9223372036854775808 ≤ x) (h1 : x ≤ 9223372036854775807) :
    Calls Tryz.prog 17 #[.slice a l.length cap, .int .i64 x, .string (bA key)] w fun e w' => e = .returned (.agg #[.int .i64 (foA l x key).1, .bool (foA l x key).2.1, .int .i64 (foA l x key).2.2]) ∧ Below w.heap.size w w' := by
  cases hf : fdL l x key with
  | none =>
    rw [show foA l x key = (0, false, 0) from by unfold foA; rw [pk_none hf]]
    exact jobject_walk a cap l x key w 0 false 0 (fun w3 h3 => pickI_none a cap l x key _ _ _ 1 [123] w3 hl (h3.nin (Below.refl _ _) hin) hsz h0 h1 hf)
  | some k =>
    by_cases hz : knL l k = 122
    · rw [show foA l x key = (0, false, 0) from by unfold foA; rw [pk_null hf hz]]
      exact jobject_walk a cap l x key w 0 false 0 (fun w3 h3 => pickI_null a cap l x key _ _ _ 1 [123] w3 hl (h3.nin (Below.refl _ _) hin) hsz h0 h1 k hf hz)
    · by_cases hc : knL l k = 123 ∨ knL l k = 123
      · obtain ⟨hk, -⟩ := fdL_at hsz hf
        have hct : ([123] : List UInt8).contains (knL l k) = true := by
          rcases hc with e | e <;> rw [e] <;> rfl
        rw [show foA l x key = (((k : Nat) : Int), true, 0) from by unfold foA; rw [pk_some hf hz hc]]
        exact jobject_walk a cap l x key w (k : Nat) true 0 (fun w3 h3 => pickI_object a cap l x key _ 1 [123] w3 hl (h3.nin (Below.refl _ _) hin) hsz h0 h1 k hf hz (by decide) h3.ks hct (k : Nat) 0 (fun wx hb => object1_any) rfl)
      · have hcf : ([123] : List UInt8).contains (knL l k) = false := by
          have := not_or.mp hc
          simp [this.1]
        rw [show foA l x key = (0, false, 7) from by unfold foA; rw [pk_other hf hz hc]]
        exact jobject_walk a cap l x key w 0 false 7 (fun w3 h3 => pickI_other a cap l x key _ _ _ 1 [123] w3 hl (h3.nin (Below.refl _ _) hin) hsz h0 h1 k hf hz (by decide) h3.ks hcf)
set_option maxRecDepth 20000 in
set_option maxHeartbeats 1000000 in
theorem jlist_walk (a : Option Addr) (cap : Nat) (l : List ND) (x : Int) (key : List UInt8) (w : World) (L : List Nat) (b : Bool) (c : Int)
    (HP : ∀ w3, Bx 51 (.slice none 0 0) a l.length cap [91] w w3 → Calls Tryz.prog 33 #[.slice a l.length cap, .int .i64 x, .string (bA key), .func (.func 34) #[] #[.pointer (some ⟨w.heap.size, 0, none⟩)], .slice (some ⟨w.heap.size + 1 + 1, 0, none⟩) 1 1] w3 fun e w' => ∃ v, e = .returned (.agg #[v, .bool b, .int .i64 c]) ∧ IRow w' w3.heap.size v L ∧ Below w3.heap.size w3 w') :
    Calls Tryz.prog 18 #[.slice a l.length cap, .int .i64 x, .string (bA key)] w fun e w' => ∃ v, e = .returned (.agg #[v, .bool b, .int .i64 c]) ∧ IRow w' w.heap.size v L ∧ Below w.heap.size w w' := by
  have hmf : ∀ (fn : Fn) (first cap : Array Value) (w : World), (Instr.makeFunc fn first cap).run Tryz.prog w = .ok (.func fn first cap) w := fun _ _ _ _ => rfl
  have BX := Lib.hid (bx_new 51 (.slice none 0 0) a l.length cap [91] #[.int .u8 91] rfl w)
  have HPH := Lib.hid HP
  clear HP
  go_enter Tryz.func18, Tryz.ntmps18
  go_wp2_with fail
  generalize ((w.alloc (.cells #[.slice a l.length cap] 27)).alloc (.cells #[.slice none 0 0, .bool false, .int .i64 0] 51)).alloc (.cells #[.int .u8 91] 5) = w3 at *
  with_reducible refine (HPH.out w3 BX.out).mono ?_
  rintro e w4 ⟨v, rfl, hv, b4⟩
  have B4 := Lib.hid (BX.out.b.trans (b4.mono BX.out.b.size))
  have f4 := BX.out.fd.below b4
  have HV := Lib.hid ((irow_set hv (lt_of_block BX.out.fd) v (.bool b) (.int .i64 c)).base BX.out.b.size)
  obtain ⟨va, vc, rfl, -⟩ := hv.inn
  clear hv
  have HX := Lib.hid (f4.setAll (.slice va L.length vc) b c)
  have HB := Lib.hid (set3_below B4.out (Nat.le_succ w.heap.size) (.slice va L.length vc) (.bool b) (.int .i64 c))
  have a0 := f4.c0; have a1 := f4.c1; have a2 := f4.c2; have af := f4.fr
  clear f4 b4 HPH
  go_wp2
  refine bodyPost_ret (fd_resultL Tryz.results18 HX.out rfl) rfl ?_
  exact ⟨_, rfl, HV.out, HB.out⟩
theorem jlist_any (a : Option Addr) (cap : Nat) (l : List ND) (x : Int) (key : List UInt8) (w : World) (hl : l.length ≤ 1099511627776) (hin : NIn w a l) (hsz : SzOk l) (h0 : -9223372036854775808 ≤ x) (h1 : x ≤ 9223372036854775807) :
    Calls Tryz.prog 18 #[.slice a l.length cap, .int .i64 x, .string (bA key)] w fun e w' => ∃ v, e = .returned (.agg #[v, .bool (flA l x key).2.1, .int .i64 (flA l x key).2.2]) ∧ IRow w' w.heap.size v (flA l x key).1 ∧ Below w.heap.size w w' := by
  cases hf : fdL l x key with
  | none =>
    rw [show flA l x key = ([], false, 0) from by unfold flA; rw [pk_none hf]]
    exact jlist_walk a cap l x key w [] false 0 (fun w3 h3 => (pickL_none a cap l x key _ _ _ 1 [91] w3 hl (h3.nin (Below.refl _ _) hin) hsz h0 h1 hf).mono (fun e w' h => ⟨_, h.1, irow_nil _ _, h.2⟩))
  | some k =>
    by_cases hz : knL l k = 122
    · rw [show flA l x key = ([], false, 0) from by unfold flA; rw [pk_null hf hz]]
      exact jlist_walk a cap l x key w [] false 0 (fun w3 h3 => (pickL_null a cap l x key _ _ _ 1 [91] w3 hl (h3.nin (Below.refl _ _) hin) hsz h0 h1 k hf hz).mono (fun e w' h => ⟨_, h.1, irow_nil _ _, h.2⟩))
    · by_cases hc : knL l k = 91 ∨ knL l k = 91
      · obtain ⟨hk, -⟩ := fdL_at hsz hf
        have hct : ([91] : List UInt8).contains (knL l k) = true := by
          rcases hc with e | e <;> rw [e] <;> rfl
        rw [show flA l x key = (kidsL l (k : Nat), true, 0) from by unfold flA; rw [pk_some hf hz hc]]
        exact jlist_walk a cap l x key w (kidsL l (k : Nat)) true 0 (fun w3 h3 => pickL_told a cap l x key w.heap.size _ 1 [91] w3 hl (h3.nin (Below.refl _ _) hin) hsz h0 h1 k hf hz (by decide) h3.ks hct _ (fun wx hb => list1_any hk hl (h3.nin hb hin) hsz (h3.cell hb)))
      · have hcf : ([91] : List UInt8).contains (knL l k) = false := by
          have := not_or.mp hc
          simp [this.1]
        rw [show flA l x key = ([], false, 7) from by unfold flA; rw [pk_other hf hz hc]]
        exact jlist_walk a cap l x key w [] false 7 (fun w3 h3 => (pickL_other a cap l x key _ _ _ 1 [91] w3 hl (h3.nin (Below.refl _ _) hin) hsz h0 h1 k hf hz (by decide) h3.ks hcf).mono (fun e w' h => ⟨_, h.1, irow_nil _ _, h.2⟩))
end Go.Proofs.YtmkcfilgiehjaaaGreatDoor
