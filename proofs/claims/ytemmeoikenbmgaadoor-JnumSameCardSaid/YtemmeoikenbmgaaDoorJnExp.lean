/- Package jnum's exponent, worth; what they call of the library. -/
import Derived.Test.YtemmeoikenbmgaaDoorJnRd
import Derived.Test.YtemmeoikenbmgaaDoorJnWor
import Derived.Test.YtemmeoikenbmgaaDoorDRead
import Derived.Shelf.Vars
namespace Go.Proofs.YtemmeoikenbmgaaDoor
open Go Go.RowKit
set_option linter.unusedVariables false

/-- The library's variable MaxLen holds some number. -/
def MaxL (w : World) : Prop := ∃ m, w.cell? ⟨0, 0, none⟩ = some (.int .i64 m)
theorem MaxL.lt {w : World} (h : MaxL w) : 0 < w.heap.size := by
  obtain ⟨m, h⟩ := h
  rcases Nat.lt_or_ge 0 w.heap.size with h' | h'
  · exact h'
  · simp [World.cell?, Array.getElem?_eq_none h'] at h
theorem MaxL.below {w w' : World} {N : Nat} (h : MaxL w) (hb : Below N w w') (hN : 0 < N) : MaxL w' := by
  obtain ⟨m, hm⟩ := h
  exact ⟨m, (hb.cell (p := ⟨0, 0, none⟩) hN).trans hm⟩
theorem trim_prefix (s p : ByteArray) (w : World) : Calls Tryd.prog 62 #[.string s, .string p] w fun e w' => e = .returned (.string (bA (Lib.trimPrefix s.data.toList p.data.toList))) ∧ w' = w :=
  Any.strings_TrimPrefix trimPrefixL s p w
theorem trim_left (s : ByteArray) (w : World) : Calls Tryd.prog 40 #[.string s, .string ⟨#[48]⟩] w fun e w' => e = .returned (.string (bA (lz s.data.toList))) ∧ w' = w :=
  Any.strings_TrimLeft_one trimLeftL s 48 (by decide) w
theorem trim_right (s : ByteArray) (w : World) (hs : s.size ≤ 9223372036854775807) : Calls Tryd.prog 41 #[.string s, .string ⟨#[48]⟩] w fun e w' => e = .returned (.string (bA (cnt s.data.toList))) ∧ w' = w :=
  Any.strings_TrimRight_one trimRightL s 48 (by decide) w hs
theorem index_any (s : ByteArray) (w : World) (hs : s.size < 4294967281) (ha : ∀ (j : Nat) b, s.data.toList[j]? = some b → b.toNat < 128) : Calls Tryd.prog 37 #[.string s, .string ⟨#[101, 69]⟩] w fun e w' => e = .returned (.int .i64 (Lib.indexAny s.data.toList [101, 69])) ∧ Below w.heap.size w w' :=
  Any.strings_IndexAny_laid indexAnyL (by kernel_rfl) s ⟨#[101, 69]⟩ w hs (by decide) ha (fun j b h => by
    match j, h with
    | 0, h => cases h; decide
    | 1, h => cases h; decide)
theorem cut_any (s : ByteArray) (w : World) (hs : s.size < 4294967281) (hm : MaxL w) : Calls Tryd.prog 39 #[.string s, .string ⟨#[46]⟩] w fun e w' => e = .returned (.tuple #[.string (bA (Lib.cut s.data.toList [46]).1), .string (bA (Lib.cut s.data.toList [46]).2.1), .bool (Lib.cut s.data.toList [46]).2.2]) ∧ Below w.heap.size w w' := by
  obtain ⟨m, hm⟩ := hm
  refine (Any.strings_Cut cutL s ⟨#[46]⟩ m w hs hm).mono ?_
  rintro e w' ⟨rfl, n, hw⟩
  rw [hw]
  exact ⟨rfl, drew_below w n⟩
theorem repeat_any (q : Nat) (w : World) (hq : q ≤ 1000) : Calls Tryd.prog 24 #[.string ⟨#[48]⟩, .int .i64 (q : Nat)] w fun e w' => e = .returned (.string (bA (List.replicate q 48))) ∧ Below w.heap.size w w' := by
  have := Any.strings_Repeat repeatL builderX ⟨#[48]⟩ q w (by omega) (by rw [show (ByteArray.mk #[48]).size = 1 from rfl]; omega)
  rw [show (ByteArray.mk #[48]).data.toList = List.replicate 1 48 from rfl, Lib.repeatL_replicate, Nat.mul_one] at this
  exact this

/-- A power's text: its sign off. -/
theorem exp_text {P s D : List UInt8} (h : P = s ++ D) (hs : s = [] ∨ s = [43] ∨ s = [45]) (hD : D ≠ []) (hd : D.all dIs = true) :
    Lib.trimPrefix (Lib.trimPrefix P [43]) [45] = D ∧ Lib.hasPrefix (Lib.trimPrefix P [43]) [45] = decide (P.head? = some 45) ∧ P.filter dIs = D := by
  obtain ⟨x, t, hx, hx2⟩ := head_of hD hd
  have hx3 := dIs_iff.mp hx2
  have n1 : (x == (43 : UInt8)) = false := beq_eq_false_iff_ne.mpr (fun e => by rw [e] at hx3; exact absurd hx3 (by decide))
  have n2 : (x == (45 : UInt8)) = false := beq_eq_false_iff_ne.mpr (fun e => by rw [e] at hx3; exact absurd hx3 (by decide))
  have m1 : ((43 : UInt8) == x) = false := by rw [Bool.beq_comm]; exact n1
  have m2 : ((45 : UInt8) == x) = false := by rw [Bool.beq_comm]; exact n2
  have hf : D.filter dIs = D := List.filter_eq_self.mpr (fun a ha => List.all_eq_true.mp hd a ha)
  have k1 : Lib.hasPrefix D [43] = false := by rw [hx]; unfold Lib.hasPrefix; simp [List.isPrefixOf, m1]
  have k2 : Lib.hasPrefix D [45] = false := by rw [hx]; unfold Lib.hasPrefix; simp [List.isPrefixOf, m2]
  have t1 : Lib.trimPrefix D [43] = D := by unfold Lib.trimPrefix; rw [k1]; rfl
  have t2 : Lib.trimPrefix D [45] = D := by unfold Lib.trimPrefix; rw [k2]; rfl
  have hh : D.head? ≠ some 45 := fun e => by
    rw [hx, List.head?_cons] at e
    rw [Option.some.inj e] at hx3; exact absurd hx3 (by decide)
  rcases hs with rfl | rfl | rfl
  · rw [List.nil_append] at h
    subst h
    rw [t1, t2, k2, hf]
    exact ⟨rfl, (decide_eq_false hh).symm, rfl⟩
  · have e1 : Lib.trimPrefix P [43] = D := by rw [h]; rfl
    rw [e1, t2, k2, h]
    exact ⟨rfl, rfl, hf⟩
  · have e1 : Lib.trimPrefix P [43] = P := by rw [h]; rfl
    rw [e1, h]
    exact ⟨rfl, rfl, hf⟩
theorem far_read {D : List UInt8} (hd : D.all dIs = true) (hn : lz D ≠ []) : sEnd (lz D) = if dV D ≤ 9223372036854775807 then ((dV D : Int), 0) else (0, 4) := by
  have hL := Lead.of hd hn
  unfold sEnd
  rw [if_neg (not45 hL.2.1)]
  unfold iEnd
  rw [if_pos hL.dok, dV_lz]

set_option maxRecDepth 20000 in
set_option maxHeartbeats 2000000 in
theorem nexp_any (p : ByteArray) {s D : List UInt8} (w : World) (hz : p.size ≤ 1048576) (h : p.data.toList = s ++ D) (hs : s = [] ∨ s = [43] ∨ s = [45]) (hD : D ≠ []) (hd : D.all dIs = true) :
    Calls Tryd.prog 38 #[.string p] w fun e w' => e = .returned (.int .i64 (capV 4611686018427387904 p.data.toList)) ∧ w' = w := by
  obtain ⟨x1, x2, x3⟩ := exp_text h hs hD hd
  have H1 := Lib.hid (trim_prefix p ⟨#[43]⟩ w)
  have H2 := Lib.hid (cut_prefix (bA (Lib.trimPrefix p.data.toList [43])) ⟨#[45]⟩ w)
  rw [show (⟨#[43]⟩ : ByteArray).data.toList = [43] from rfl] at H1
  rw [show (⟨#[45]⟩ : ByteArray).data.toList = [45] from rfl, show (bA (Lib.trimPrefix p.data.toList [43])).data.toList = Lib.trimPrefix p.data.toList [43] from by simp [bA], x1, x2] at H2
  have H3 := Lib.hid (trim_left (bA D) w)
  rw [show (bA D).data.toList = D from by simp [bA]] at H3
  have hDz : (lz D).length ≤ 1048576 := by
    have h1 := lz_len D
    have h2 := congrArg List.length h
    rw [toList_size, List.length_append] at h2; omega
  have H4 := Lib.hid (dRead (bA (lz D)) w (by rw [bA_size]; omega))
  rw [show (bA (lz D)).data.toList = lz D from by simp [bA]] at H4
  have HF := Lib.hid (far_read hd)
  have hE := isEmpty_of (bA (lz D))
  rw [bA_size] at hE
  have hc : capV 4611686018427387904 p.data.toList = if p.data.toList.head? = some 45 then -((min 4611686018427387904 (dV D) : Nat) : Int) else ((min 4611686018427387904 (dV D) : Nat) : Int) := by unfold capV; rw [x3]
  have hv0 := dV_lz D
  obtain ⟨C, hC⟩ : ∃ C, C = capV 4611686018427387904 p.data.toList := ⟨_, rfl⟩
  rw [← hC] at hc ⊢
  generalize bA (Lib.trimPrefix p.data.toList [43]) = T1 at *
  generalize bA D = T2 at *
  clear x1 x2 x3 hs hD hC h hDz hz

  by_cases h0 : lz D = []
  · have pE : (bA (lz D)).toList.isEmpty = true := by rw [hE, h0]; rfl
    have HR := Lib.hid (show (0 : Int) = C by rw [hc, ← hv0, h0, show dV [] = 0 from rfl, Nat.min_zero]; split <;> rfl)
    clear h0 hE hc hv0 H4 HF
    generalize bA (lz D) = T3 at *
    go_enter Tryd.func38, Tryd.ntmps38
    go_wp2_with (first
      | (go_at_call 62; with_reducible refine H1.out.mono ?_; rintro e w1 ⟨rfl, hw⟩; rw [hw]; clear hw)
      | (go_at_call 22; with_reducible refine H2.out.mono ?_; rintro e w1 ⟨rfl, hw⟩; rw [hw]; clear hw)
      | (go_at_call 40; with_reducible refine H3.out.mono ?_; rintro e w1 ⟨rfl, hw⟩; rw [hw]; clear hw))
    go_ret
    exact ⟨ret_i HR.out, rfl⟩
  · have pE : (bA (lz D)).toList.isEmpty = false := by rw [hE]; exact decide_eq_false (fun e => h0 (List.eq_nil_of_length_eq_zero e))
    have HF2 := HF.out h0
    clear h0 hE hv0 HF
    generalize bA (lz D) = T3 at *
    generalize sEnd (lz D) = E at *
    generalize dV D = V at *
    by_cases hlo : V ≤ 4611686018427387904
    · skip
      rw [if_pos (show V ≤ 9223372036854775807 by omega)] at HF2
      obtain ⟨E1, E2⟩ := E
      obtain ⟨rfl, rfl⟩ := Prod.mk.inj HF2
      rw [Nat.min_eq_right (by omega)] at hc
      have p1 : ((0 : Int) != 0) = false := rfl
      have p2 : decide ((4611686018427387904 : Int) < (V : Int)) = false := decide_eq_false (by omega)
      have m1 : IntKind.i64.wrap (-(V : Int)) = -(V : Int) := i64_small (by omega) (by omega)
      by_cases h45 : p.data.toList.head? = some 45
      · rw [if_pos h45] at hc
        rw [decide_eq_true h45] at H2
        have HR := Lib.hid hc
        clear hc h45 HF2 hlo
        go_enter Tryd.func38, Tryd.ntmps38
        go_wp2_with (first
          | (go_at_call 62; with_reducible refine H1.out.mono ?_; rintro e w1 ⟨rfl, hw⟩; rw [hw]; clear hw)
          | (go_at_call 22; with_reducible refine H2.out.mono ?_; rintro e w1 ⟨rfl, hw⟩; rw [hw]; clear hw)
          | (go_at_call 40; with_reducible refine H3.out.mono ?_; rintro e w1 ⟨rfl, hw⟩; rw [hw]; clear hw)
          | (go_at_call 25; with_reducible refine H4.out.mono ?_; rintro e w1 ⟨rfl, hw⟩; rw [hw]; clear hw))
        go_ret
        exact ⟨ret_i HR.out.symm, rfl⟩
      · rw [if_neg h45] at hc
        rw [decide_eq_false h45] at H2
        have HR := Lib.hid hc
        clear hc h45 HF2 hlo
        go_enter Tryd.func38, Tryd.ntmps38
        go_wp2_with (first
          | (go_at_call 62; with_reducible refine H1.out.mono ?_; rintro e w1 ⟨rfl, hw⟩; rw [hw]; clear hw)
          | (go_at_call 22; with_reducible refine H2.out.mono ?_; rintro e w1 ⟨rfl, hw⟩; rw [hw]; clear hw)
          | (go_at_call 40; with_reducible refine H3.out.mono ?_; rintro e w1 ⟨rfl, hw⟩; rw [hw]; clear hw)
          | (go_at_call 25; with_reducible refine H4.out.mono ?_; rintro e w1 ⟨rfl, hw⟩; rw [hw]; clear hw))
        go_ret
        exact ⟨ret_i HR.out.symm, rfl⟩
    · by_cases hhi : V ≤ 9223372036854775807
      · skip
        rw [if_pos (show V ≤ 9223372036854775807 by omega)] at HF2
        obtain ⟨E1, E2⟩ := E
        obtain ⟨rfl, rfl⟩ := Prod.mk.inj HF2
        rw [Nat.min_eq_left (by omega)] at hc
        have p1 : ((0 : Int) != 0) = false := rfl
        have p2 : decide ((4611686018427387904 : Int) < (V : Int)) = true := decide_eq_true (by omega)
        by_cases h45 : p.data.toList.head? = some 45
        · rw [if_pos h45] at hc
          rw [decide_eq_true h45] at H2
          have HR := Lib.hid hc
          clear hc h45 HF2 hlo hhi
          go_enter Tryd.func38, Tryd.ntmps38
          go_wp2_with (first
            | (go_at_call 62; with_reducible refine H1.out.mono ?_; rintro e w1 ⟨rfl, hw⟩; rw [hw]; clear hw)
            | (go_at_call 22; with_reducible refine H2.out.mono ?_; rintro e w1 ⟨rfl, hw⟩; rw [hw]; clear hw)
            | (go_at_call 40; with_reducible refine H3.out.mono ?_; rintro e w1 ⟨rfl, hw⟩; rw [hw]; clear hw)
            | (go_at_call 25; with_reducible refine H4.out.mono ?_; rintro e w1 ⟨rfl, hw⟩; rw [hw]; clear hw))
          go_ret
          exact ⟨ret_i HR.out.symm, rfl⟩
        · rw [if_neg h45] at hc
          rw [decide_eq_false h45] at H2
          have HR := Lib.hid hc
          clear hc h45 HF2 hlo hhi
          go_enter Tryd.func38, Tryd.ntmps38
          go_wp2_with (first
            | (go_at_call 62; with_reducible refine H1.out.mono ?_; rintro e w1 ⟨rfl, hw⟩; rw [hw]; clear hw)
            | (go_at_call 22; with_reducible refine H2.out.mono ?_; rintro e w1 ⟨rfl, hw⟩; rw [hw]; clear hw)
            | (go_at_call 40; with_reducible refine H3.out.mono ?_; rintro e w1 ⟨rfl, hw⟩; rw [hw]; clear hw)
            | (go_at_call 25; with_reducible refine H4.out.mono ?_; rintro e w1 ⟨rfl, hw⟩; rw [hw]; clear hw))
          go_ret
          exact ⟨ret_i HR.out.symm, rfl⟩
      · skip
        rw [if_neg (show ¬ V ≤ 9223372036854775807 by omega)] at HF2
        obtain ⟨E1, E2⟩ := E
        obtain ⟨rfl, rfl⟩ := Prod.mk.inj HF2
        rw [Nat.min_eq_left (by omega)] at hc
        have p1 : ((4 : Int) != 0) = true := rfl
        by_cases h45 : p.data.toList.head? = some 45
        · rw [if_pos h45] at hc
          rw [decide_eq_true h45] at H2
          have HR := Lib.hid hc
          clear hc h45 HF2 hlo hhi
          go_enter Tryd.func38, Tryd.ntmps38
          go_wp2_with (first
            | (go_at_call 62; with_reducible refine H1.out.mono ?_; rintro e w1 ⟨rfl, hw⟩; rw [hw]; clear hw)
            | (go_at_call 22; with_reducible refine H2.out.mono ?_; rintro e w1 ⟨rfl, hw⟩; rw [hw]; clear hw)
            | (go_at_call 40; with_reducible refine H3.out.mono ?_; rintro e w1 ⟨rfl, hw⟩; rw [hw]; clear hw)
            | (go_at_call 25; with_reducible refine H4.out.mono ?_; rintro e w1 ⟨rfl, hw⟩; rw [hw]; clear hw))
          go_ret
          exact ⟨ret_i HR.out.symm, rfl⟩
        · rw [if_neg h45] at hc
          rw [decide_eq_false h45] at H2
          have HR := Lib.hid hc
          clear hc h45 HF2 hlo hhi
          go_enter Tryd.func38, Tryd.ntmps38
          go_wp2_with (first
            | (go_at_call 62; with_reducible refine H1.out.mono ?_; rintro e w1 ⟨rfl, hw⟩; rw [hw]; clear hw)
            | (go_at_call 22; with_reducible refine H2.out.mono ?_; rintro e w1 ⟨rfl, hw⟩; rw [hw]; clear hw)
            | (go_at_call 40; with_reducible refine H3.out.mono ?_; rintro e w1 ⟨rfl, hw⟩; rw [hw]; clear hw)
            | (go_at_call 25; with_reducible refine H4.out.mono ?_; rintro e w1 ⟨rfl, hw⟩; rw [hw]; clear hw))
          go_ret
          exact ⟨ret_i HR.out.symm, rfl⟩
end Go.Proofs.YtemmeoikenbmgaaDoor
