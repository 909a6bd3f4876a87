/- FaultTwo, walked. -/
import Derived.Test.YtnnkpeafhjokjaaDoorFtTells
import Derived.Test.YtnnkpeafhjokjaaDoorFtNum
import Derived.Deep.RegionWith
import Derived.Deep.CutRange
import Derived.Deep.RegionHeld3
namespace Go.Proofs.YtnnkpeafhjokjaaDoor
open Go Go.RowKit
set_option linter.unusedVariables false

theorem below_same {w w' : World} (h : w' = w) : Below w.heap.size w w' := by rw [h]; exact Below.refl _ _
theorem LW.drew {w wx : World} (h : LW w wx) : LW w wx.drew := ⟨h.grown.drew, h.err, h.pow⟩
/-- The worlds within the law: the two codes' block, what lasts. -/
structure WT (w : World) (x y : Int) (wx : World) : Prop where
  lw : LW w wx
  blk : wx.heap[w.heap.size]? = some (.cells #[.int .i64 x, .int .i64 y] 37 (0, 0))
theorem WT.next {w wx w' : World} {x y : Int} (h : WT w x y wx) (hb : Below wx.heap.size wx w') : WT w x y w' := ⟨h.lw.next hb, (hb.block _ (lt_of_block h.blk)).trans h.blk⟩
theorem WT.grow {w wx w' : World} {x y : Int} (h : WT w x y wx) (h0 : LW w w) (hb : Below (w.heap.size + 1) wx w') : WT w x y w' := ⟨h0.next (h.lw.grown.trans (hb.mono (Nat.le_succ _))), (hb.block _ (Nat.lt_succ_self _)).trans h.blk⟩
theorem WT.drew {w wx : World} {x y : Int} (h : WT w x y wx) : WT w x y wx.drew := ⟨h.lw.drew, h.blk⟩
theorem WT.c0 {w wx : World} {x y : Int} (h : WT w x y wx) : wx.cell? ⟨w.heap.size, 0, none⟩ = some (.int .i64 x) := by rw [Lib.cell_of_heap h.blk]; rfl
theorem WT.c1 {w wx : World} {x y : Int} (h : WT w x y wx) : wx.cell? ⟨w.heap.size, 1, none⟩ = some (.int .i64 y) := by rw [Lib.cell_of_heap h.blk]; rfl
theorem wt_start {w : World} (x y : Int) (h : LW w w) : WT w x y (w.alloc (.cells #[.int .i64 x, .int .i64 y] 37)) :=
  ⟨h.next ((Below.refl _ _).alloc (Nat.le_refl _) _), heap_alloc_new w _⟩

theorem WT.all {w wx : World} {x y : Int} (h : WT w x y wx) : wx.cell? ⟨w.heap.size, 0, none⟩ = some (.int .i64 x) ∧ wx.cell? ⟨w.heap.size, 1, none⟩ = some (.int .i64 y) ∧ WT w x y wx := ⟨h.c0, h.c1, h⟩
theorem wt_last {w wx : World} {x y : Int} (h : wx.cell? ⟨w.heap.size, 0, none⟩ = some (.int .i64 x) ∧ wx.cell? ⟨w.heap.size, 1, none⟩ = some (.int .i64 y) ∧ WT w x y wx) : WT w x y wx := h.2.2
theorem wt_keep {w wx w' : World} {x y : Int} (h : wx.cell? ⟨w.heap.size, 0, none⟩ = some (.int .i64 x) ∧ wx.cell? ⟨w.heap.size, 1, none⟩ = some (.int .i64 y) ∧ WT w x y wx) (hb : Below wx.heap.size wx w') :
    w'.cell? ⟨w.heap.size, 0, none⟩ = some (.int .i64 x) ∧ w'.cell? ⟨w.heap.size, 1, none⟩ = some (.int .i64 y) ∧ WT w x y w' := (h.2.2.next hb).all

/-- One of the four guards lets the law end at once. -/
theorem ftwo_out (x y : Int) (pa qa : Option Addr) (pn pc qn qc : Nat) (h : 12 < pn ∨ 12 < qn ∨ x = 0 ∨ y = 0) (w : World) (hX : Hid (LW w w)) :
    Calls Tryd.prog 5 #[.agg #[.int .i64 x, .int .i64 y], .slice pa pn pc, .slice qa qn qc] w fun e w' => e = .returned (.bool true) ∧ Below w.heap.size w w' := by
  have HT := wt_start x y hX.out
  have c0 := HT.c0
  have c1 := HT.c1
  have HL := Lib.hid HT.lw
  clear HT
  by_cases h1 : 12 < pn
  · have p1 : decide (12 < (pn : Int)) = true := decide_eq_true (by omega)
    clear h h1
    go_enter Tryd.func5, Tryd.ntmps5
    go_wp2_with (go_at_call 6; with_reducible refine HL.out.works.mono ?_; rintro r w1 ⟨rfl, hb⟩)
    go_ret
    exact ⟨rfl, hb⟩
  · have p1 : decide (12 < (pn : Int)) = false := decide_eq_false (by omega)
    by_cases h2 : 12 < qn
    · have p2 : decide (12 < (qn : Int)) = true := decide_eq_true (by omega)
      clear h h1 h2
      go_enter Tryd.func5, Tryd.ntmps5
      go_wp2_with (go_at_call 6; with_reducible refine HL.out.works.mono ?_; rintro r w1 ⟨rfl, hb⟩)
      go_ret
      exact ⟨rfl, hb⟩
    · have p2 : decide (12 < (qn : Int)) = false := decide_eq_false (by omega)
      by_cases h3 : x = 0
      · have p3 : (x == 0) = true := by simp [h3]
        clear h h1 h2 h3
        go_enter Tryd.func5, Tryd.ntmps5
        go_wp2_with (go_at_call 6; with_reducible refine HL.out.works.mono ?_; rintro r w1 ⟨rfl, hb⟩)
        go_ret
        exact ⟨rfl, hb⟩
      · have p3 : (x == 0) = false := by simp [h3]
        have p4 : (y == 0) = true := by simp; omega
        clear h h1 h2 h3
        go_enter Tryd.func5, Tryd.ntmps5
        go_wp2_with (go_at_call 6; with_reducible refine HL.out.works.mono ?_; rintro r w1 ⟨rfl, hb⟩)
        go_ret
        exact ⟨rfl, hb⟩

def ColRel (L : List ByteArray) (W : World) (i : Value) (wr : World) : Prop := ∃ j : Nat, j ≤ L.length ∧ i = .int .i64 j ∧ wr = W ∧ NoCol (L.take j)
def ColIn (s : ByteArray) (W : World) (k : Value) (wr : World) : Prop := ∃ j : Nat, j ≤ s.size ∧ k = .int .i64 j ∧ wr = W ∧ (58 : UInt8) ∉ s.data.toList.take j
def SameRel (x y : Int) (ps qs : List ByteArray) (W : World) (b i : Value) (wr : World) : Prop :=
  ∃ (j : Nat) (s : Bool), j ≤ ps.length ∧ i = .int .i64 j ∧ b = .bool s ∧ Below W.heap.size W wr ∧ (s = true → x = y ∧ ps.length = qs.length ∧ ps.take j = qs.take j) ∧ (s = false → ¬ (x = y ∧ ps = qs))

set_option maxRecDepth 100000 in
set_option maxHeartbeats 8000000 in
theorem ftwo_walk (x y : Int) (hx : (x == 0) = false) (hy : (y == 0) = false) (pa qa : Option Addr) (pc qc : Nat) (ps qs : List ByteArray) (hp : ¬ 12 < ps.length) (hq : ¬ 12 < qs.length) (w : World) (hX : Hid (LW w w)) (hpi : Hid (SIn w pa ps)) (hqi : Hid (SIn w qa qs)) (hpz : Hid (pa = none → pc = 0)) (hqz : Hid (qa = none → qc = 0)) (hsz : Hid (∀ q ∈ ps ++ qs, q.size ≤ 2097152))
    (E1 E2 : Value) (T1 T2 : ByteArray) (HT : Hid (NoCol ps → NoCol qs → ∀ s : Bool, (s = true → x = y ∧ ps = qs) → (s = false → ¬ (x = y ∧ ps = qs)) → (T1.toList == T2.toList) = s))
    (K1 : Hid (∀ w', Below w.heap.size w w' → Calls Tryd.prog 7 #[.int .i64 x, .slice pa ps.length pc] w' fun e w'' => e = .returned E1 ∧ w'' = w'))
    (K2 : Hid (∀ w', Below w.heap.size w w' → Calls Tryd.prog 7 #[.int .i64 y, .slice qa qs.length qc] w' fun e w'' => e = .returned E2 ∧ w'' = w'))
    (K3 : Hid (∀ w, ErrT w → P10 w → Calls Tryd.prog 10 #[E1] w fun e w' => e = .returned (.string T1) ∧ Below w.heap.size w w'))
    (K4 : Hid (∀ w, ErrT w → P10 w → Calls Tryd.prog 10 #[E2] w fun e w' => e = .returned (.string T2) ∧ Below w.heap.size w w')) :
    Calls Tryd.prog 5 #[.agg #[.int .i64 x, .int .i64 y], .slice pa ps.length pc, .slice qa qs.length qc] w fun e w' => e = .returned (.bool true) ∧ Below w.heap.size w w' := by
  have p1 : decide (12 < (ps.length : Int)) = false := decide_eq_false (by omega)
  have p2 : decide (12 < (qs.length : Int)) = false := decide_eq_false (by omega)
  have hW0 := wt_start x y hX.out
  have c0 := hW0.c0
  have c1 := hW0.c1
  have hW1 : WT w x y ((w.alloc (.cells #[.int .i64 x, .int .i64 y] 37)).alloc (.cells #[] 9)) := hW0.next ((Below.refl _ _).alloc (Nat.le_refl _) _)
  have HS := Lib.hid (show SBts ((w.alloc (.cells #[.int .i64 x, .int .i64 y] 37)).alloc (.cells #[] 9)) (w.heap.size + 1) (.slice (some ⟨w.heap.size + 1, 0, none⟩) 0 0) [] from ⟨rfl, .inr ⟨_, 0, #[], rfl, Nat.le_refl _, by have := heap_alloc_new (w.alloc (.cells #[.int .i64 x, .int .i64 y] 37)) (.cells #[] 9); rw [World.size_alloc] at this; exact this, Nat.le_refl _, Nat.zero_le _, rfl, rfl⟩⟩)
  have HPI := Lib.hid (hpi.out.below hW1.lw.grown)
  have HQI := Lib.hid (fun w' (hb : Below w.heap.size w w') => hqi.out.below hb)
  have HPJ := Lib.hid (fun w' (hb : Below w.heap.size w w') => hpi.out.below hb)
  have HW1 := Lib.hid hW1
  have HLp := Lib.hid hp
  have HLq := Lib.hid hq
  clear hp hq hW0 hW1
  go_enter Tryd.func5, Tryd.ntmps5
  go_wp2_with (first
    | (at_builtin; refine wpList_append_in rfl (.tmp 31) (.tmp 32) rfl _ _ (w.heap.size + 1) [] HS.out (by simp) rfl pa pc ps rfl hpz.out HPI.out (by have := HLp.out; simp; omega) ?_; intro v1 w2 hv1 hb1; have HV1 := Lib.hid hv1; have HW2 := Lib.hid (HW1.out.grow hX.out hb1); clear hv1 hb1)
    | (at_builtin; refine wpList_append_in rfl (.tmp 33) (.tmp 34) rfl v1 w2 (w.heap.size + 1) ([] ++ ps) HV1.out (lt_of_block HW2.out.blk) rfl qa qc qs rfl hqz.out (HQI.out w2 HW2.out.lw.grown) (by have := HLp.out; have := HLq.out; simp; omega) ?_; intro v2 w3 hv2 hb2; have HV2 := Lib.hid hv2; have HW3 := Lib.hid (HW2.out.grow hX.out hb2); clear hv2 hb2))
  obtain ⟨aL, capL, hv2e, hinL⟩ := HV2.out.inn
  subst hv2e
  obtain ⟨L, hL⟩ : ∃ L, L = [] ++ ps ++ qs := ⟨_, rfl⟩
  rw [← hL] at hinL
  rw [← hL]
  have HIL := Lib.hid hinL
  have HLe := Lib.hid (show L = ps ++ qs by rw [hL, List.nil_append])
  have hLn : L.length ≤ 24 := by rw [hL]; have := HLp.out; have := HLq.out; simp; omega
  have HLn := Lib.hid hLn
  clear hinL hL hLn
  go_loopw [6, 8, 9] (fun r i k wr => ColRel L w3 i wr) (fun _ i _ _ => L.length - (intOf i).toNat)
  case atStart => exact ⟨0, Nat.zero_le _, rfl, rfl, fun p hp => by simp at hp⟩
  case round =>
    obtain ⟨j, hj, rfl, hwr, hcol⟩ := hrel
    rw [hwr]; clear hwr
    by_cases hlt : j < L.length
    · obtain ⟨g, off, ha, hgl, hcl⟩ := HIL.out j hlt
      subst ha
      have q1 : decide ((j : Int) < (L.length : Int)) = true := decide_eq_true (by omega)
      have i0 : (0 : Int) ≤ (j : Int) := by omega
      have i1 : (j : Int) < (L.length : Int) := by omega
      have wj : IntKind.i64.wrap ((j : Int) + 1) = (j : Int) + 1 := i64_small (by have := HLn.out; omega) (by have := HLn.out; omega)
      have HN := Lib.hid (show (58 : UInt8) ∉ L[j].data.toList → NoCol (L.take (j + 1)) from fun hs p hp => by
        rw [List.take_succ_eq_append_getElem hlt] at hp
        rcases List.mem_append.mp hp with e | e
        · exact hcol p e
        · rw [List.mem_singleton.mp e]; exact hs)
      have HZ := Lib.hid (hsz.out L[j] (by rw [← HLe.out]; exact List.getElem_mem hlt))
      have HJ := Lib.hid hlt
      generalize L[j] = s at *
      clear hlt hcol hj hgl
      go_wp2_with fail
      go_loopw [6, 9] (fun r k wr => ColIn s w3 k wr) (fun _ k _ => s.size - (intOf k).toNat)
      case atStart => exact ⟨0, Nat.zero_le _, rfl, rfl, by simp⟩
      case round =>
        obtain ⟨k, hk, rfl, hwr, hno⟩ := hrel
        rw [hwr]; clear hwr
        by_cases hkl : k < s.size
        · have r1 : decide ((k : Int) < (s.size : Int)) = true := decide_eq_true (by omega)
          have k0 : (0 : Int) ≤ (k : Int) := by omega
          have k1 : (k : Int) < (s.size : Int) := by omega
          have wk : IntKind.i64.wrap ((k : Int) + 1) = (k : Int) + 1 := i64_small (by have := HZ.out; omega) (by have := HZ.out; omega)
          have hkl' : k < s.data.toList.length := by rw [toList_size]; exact hkl
          by_cases hB : s[k].toNat = 58
          · have r2 : ((s[k].toNat : Int) == 58) = true := by rw [hB]; rfl
            clear hB hno hk
            go_wp2_with (go_at_call 6; with_reducible refine HW3.out.lw.works.mono ?_; rintro r w1 ⟨rfl, hb⟩)
            go_ret
            exact ⟨rfl, hb⟩
          · have r2 : ((s[k].toNat : Int) == 58) = false := beq_eq_false_iff_ne.mpr (fun h => hB (by omega))
            have HM := Lib.hid (show (58 : UInt8) ∉ s.data.toList.take (k + 1) from fun h => by
              rw [List.take_succ_eq_append_getElem hkl'] at h
              rcases List.mem_append.mp h with e | e
              · exact hno e
              · rw [byte_at s k hkl hkl'] at e
                exact hB (by rw [← List.mem_singleton.mp e]; rfl))
            have HKL := Lib.hid hkl
            clear hB hno hk
            go_wp2
            go_roundw
            case rel => exact ⟨k + 1, by have := HKL.out; omega, by go_num, rfl, HM.out⟩
            case measure => simp [intOf]; have := HKL.out; omega
        · have hke : k = s.size := by omega
          subst hke
          have r1 : decide ((s.size : Int) < (s.size : Int)) = false := by simp
          have HM := Lib.hid (HN.out (by rw [List.take_of_length_le (by rw [toList_size]; exact Nat.le_refl _)] at hno; exact hno))
          clear hkl hno hk
          go_wp2
          go_roundw
          case rel => exact ⟨j + 1, by have := HJ.out; omega, by go_num, rfl, HM.out⟩
          case measure => simp [intOf]; have := HJ.out; omega
    · have hje : j = L.length := by omega
      subst hje
      have q1 : decide ((L.length : Int) < (L.length : Int)) = false := by simp
      rw [List.take_length] at hcol
      have HC := Lib.hid hcol
      clear hlt hcol hj
      have d0 := HW3.out.c0
      have d1 := HW3.out.c1
      have HNp := Lib.hid (show NoCol ps from fun p hp => HC.out p (by rw [HLe.out]; exact List.mem_append_left _ hp))
      have HNq := Lib.hid (show NoCol qs from fun p hp => HC.out p (by rw [HLe.out]; exact List.mem_append_right _ hp))
      go_upto_region 12 with fail
      go_cut [10] from 59 to 70 (fun q wx => ∃ s : Bool, q = .bool s ∧ wx = w3 ∧ (s = true → x = y ∧ ps.length = qs.length) ∧ (s = false → ¬ (x = y ∧ ps = qs)))
      case first =>
        by_cases hxy : x = y
        · have HXY := Lib.hid hxy
          have r3 : (x == y) = true := by simp [hxy]
          clear hxy
          by_cases hln : ps.length = qs.length
          · have r4 : ((ps.length : Int) == (qs.length : Int)) = true := by simp [hln]
            have HLN := Lib.hid hln
            clear hln
            go_wp2
            go_meet
            case rel => exact ⟨true, rfl, rfl, fun _ => ⟨HXY.out, HLN.out⟩, fun h => by cases h⟩
          · have r4 : ((ps.length : Int) == (qs.length : Int)) = false := beq_eq_false_iff_ne.mpr (fun h => hln (by omega))
            have HLN := Lib.hid hln
            clear hln
            go_wp2
            go_meet
            case rel => exact ⟨false, rfl, rfl, (fun h => by cases h), fun _ h => HLN.out (by rw [h.2])⟩
        · have HXY := Lib.hid hxy
          have r3 : (x == y) = false := by simp [hxy]
          clear hxy
          go_wp2
          go_meet
          case rel => exact ⟨false, rfl, rfl, (fun h => by cases h), fun _ h => HXY.out h.1⟩
      case rest =>
        obtain ⟨s, rfl, hw, hs1, hs0⟩ := hcut
        rw [hw]; clear hw
        have HS1 := Lib.hid hs1
        have HS0 := Lib.hid hs0
        clear hs1 hs0 d0 d1
        go_wp2_with fail
        go_loopw [10, 11] (fun b i wr => SameRel x y ps qs w3 b i wr) (fun _ i _ => ps.length - (intOf i).toNat)
        case atStart => exact ⟨0, s, Nat.zero_le _, rfl, rfl, Below.refl _ _, fun h => ⟨(HS1.out h).1, (HS1.out h).2, by simp⟩, HS0.out⟩
        case round =>
          obtain ⟨j, s, hj, rfl, rfl, hbe, ht, hf⟩ := hrel
          have HX3 := Lib.hid (HW3.out.next hbe)
          cases s
          · have hF := HT.out HNp.out HNq.out false (fun h => by cases h) hf
            clear ht hf
            go_wp2_with fail
            have HWr := Lib.hid (HW3.out.next hbe)
            have hWr := HWr.out.drew.all
            clear hbe
            go_upto_region 17 with fail
            go_region_held3 (fun wx => wx.cell? ⟨w.heap.size, 0, none⟩ = some (.int .i64 x) ∧ wx.cell? ⟨w.heap.size, 1, none⟩ = some (.int .i64 y) ∧ WT w x y wx)
              (first | exact hWr | exact wt_keep (by assumption) hb3)
              (first
              | (go_at_call 7; (first | with_reducible refine (K1.out _ (wt_last (by assumption)).lw.grown).mono ?_ | with_reducible refine (K2.out _ (wt_last (by assumption)).lw.grown).mono ?_); rintro r w' ⟨rfl, hw'⟩; have hb3 := below_same hw'; clear hw')
              | (go_at_call 10; (first | with_reducible refine (K3.out _ (wt_last (by assumption)).lw.err (wt_last (by assumption)).lw.pow).mono ?_ | with_reducible refine (K4.out _ (wt_last (by assumption)).lw.err (wt_last (by assumption)).lw.pow).mono ?_); rintro r w' ⟨rfl, hb3⟩)
              | (go_at_call 6; with_reducible refine (works9_any _ (wt_last (by assumption)).lw.err (wt_last (by assumption)).lw.pow).mono ?_; rintro r w' ⟨rfl, hb3⟩))
            all_goals (go_wp2; go_ret; exact ⟨rfl, (wt_last (by assumption)).lw.grown⟩)
          · obtain ⟨hxy, hln, htk⟩ := ht rfl
            have HXY := Lib.hid hxy
            have HLN := Lib.hid hln
            have HTK := Lib.hid htk
            clear hxy hln htk ht hf
            by_cases hlt : j < ps.length
            · have hlt2 : j < qs.length := by have := HLN.out; omega
              obtain ⟨g, off, ha, hgl, hcl⟩ := HPJ.out wr HX3.out.lw.grown j hlt
              obtain ⟨g1, off1, ha1, hgl1, hcl1⟩ := HQI.out wr HX3.out.lw.grown j hlt2
              subst ha ha1
              have q1 : decide ((j : Int) < (ps.length : Int)) = true := decide_eq_true (by omega)
              have i0 : (0 : Int) ≤ (j : Int) := by omega
              have i1 : (j : Int) < (ps.length : Int) := by omega
              have i2 : (j : Int) < (qs.length : Int) := by omega
              have wj : IntKind.i64.wrap ((j : Int) + 1) = (j : Int) + 1 := i64_small (by have := HLp.out; omega) (by have := HLp.out; omega)
              have HE := Lib.hid hbe
              have HJ := Lib.hid hlt
              have HT1 := Lib.hid (show ps.take (j + 1) = ps.take j ++ [ps[j]] from List.take_succ_eq_append_getElem hlt)
              have HT2 := Lib.hid (show qs.take (j + 1) = qs.take j ++ [qs[j]] from List.take_succ_eq_append_getElem hlt2)
              have HNE := Lib.hid (show ¬ ps[j] = qs[j] → ¬ (x = y ∧ ps = qs) from fun h e => h (by simp [e.2]))
              generalize ps[j] = P at *
              generalize qs[j] = Q at *
              clear hlt hlt2 hbe hgl hgl1 hj
              by_cases hPQ : P = Q
              · have r5 : (P.toList == Q.toList) = true := by rw [text_eq]; exact decide_eq_true hPQ
                have HPQ := Lib.hid hPQ
                clear hPQ
                go_wp2_with fail
                go_quiet (fail)
                go_wp2
                go_roundw
                case rel => exact ⟨j + 1, true, by have := HJ.out; omega, by go_num, rfl, Below.drewN HE.out _, fun _ => ⟨HXY.out, HLN.out, by rw [HT1.out, HT2.out, HTK.out, HPQ.out]⟩, fun h => by cases h⟩
                case measure => simp [intOf]; have := HJ.out; omega
              · have r5 : (P.toList == Q.toList) = false := by rw [text_eq]; exact decide_eq_false hPQ
                have HPQ := Lib.hid hPQ
                clear hPQ
                go_wp2_with fail
                go_quiet (fail)
                go_wp2
                go_roundw
                case rel => exact ⟨j + 1, false, by have := HJ.out; omega, by go_num, rfl, Below.drewN HE.out _, (fun h => by cases h), fun _ => HNE.out HPQ.out⟩
                case measure => simp [intOf]; have := HJ.out; omega
            · have hje : j = ps.length := by omega
              subst hje
              have q1 : decide ((ps.length : Int) < (ps.length : Int)) = false := by simp
              have hF := HT.out HNp.out HNq.out true (fun _ => ⟨HXY.out, by have h := HTK.out; rw [List.take_length, HLN.out, List.take_length] at h; exact h⟩) (fun h => by cases h)
              clear hlt hj
              go_wp2_with fail
              have HWr := Lib.hid (HW3.out.next hbe)
              have hWr := HWr.out.drew.all
              clear hbe
              go_upto_region 17 with fail
              go_region_held3 (fun wx => wx.cell? ⟨w.heap.size, 0, none⟩ = some (.int .i64 x) ∧ wx.cell? ⟨w.heap.size, 1, none⟩ = some (.int .i64 y) ∧ WT w x y wx)
                (first | exact hWr | exact wt_keep (by assumption) hb3)
                (first
                | (go_at_call 7; (first | with_reducible refine (K1.out _ (wt_last (by assumption)).lw.grown).mono ?_ | with_reducible refine (K2.out _ (wt_last (by assumption)).lw.grown).mono ?_); rintro r w' ⟨rfl, hw'⟩; have hb3 := below_same hw'; clear hw')
                | (go_at_call 10; (first | with_reducible refine (K3.out _ (wt_last (by assumption)).lw.err (wt_last (by assumption)).lw.pow).mono ?_ | with_reducible refine (K4.out _ (wt_last (by assumption)).lw.err (wt_last (by assumption)).lw.pow).mono ?_); rintro r w' ⟨rfl, hb3⟩)
                | (go_at_call 6; with_reducible refine (works9_any _ (wt_last (by assumption)).lw.err (wt_last (by assumption)).lw.pow).mono ?_; rintro r w' ⟨rfl, hb3⟩))
              all_goals (go_wp2; go_ret; exact ⟨rfl, (wt_last (by assumption)).lw.grown⟩)
theorem fpre_mem : ∀ {ps : List ByteArray} {q : ByteArray}, q ∈ ps → q.size ≤ (fpre ps).length
  | [], _, h => by cases h
  | p :: ps, q, h => by
    have e : (fpre (p :: ps)).length = p.size + 2 + (fpre ps).length := by
      unfold fpre
      rw [List.flatMap_cons, List.length_append, List.length_append, toList_size]; rfl
    rw [e]
    rcases List.mem_cons.mp h with e1 | e1
    · rw [e1]; omega
    · have := fpre_mem e1; omega
theorem bA_inj {l m : List UInt8} (h : bA l = bA m) : l = m := by
  have := congrArg (fun s : ByteArray => s.data.toList) h
  simpa [bA] using this
theorem ftwo_t (x y : Int) (pa : Option Addr) (pc : Nat) (ps : List ByteArray) (qa : Option Addr) (qc : Nat) (qs : List ByteArray) (w : World) (bx : -9223372036854775808 ≤ x ∧ x ≤ 9223372036854775807) (bz : -9223372036854775808 ≤ y ∧ y ≤ 9223372036854775807)
    (hpi : SIn w pa ps) (hps : (fpre ps).length ≤ 2097152) (hpz : pa = none → pc = 0) (hqi : SIn w qa qs) (hqs : (fpre qs).length ≤ 2097152) (hqz : qa = none → qc = 0) (hg : ErrT w) (hp : P10 w) :
    Calls Tryd.prog 5 #[.agg #[.int .i64 x, .int .i64 y], .slice pa ps.length pc, .slice qa qs.length qc] w fun e w' => e = .returned (.bool true) ∧ Below w.heap.size w w' := by
  have hX := Lib.hid (LW.mk (Below.refl w.heap.size w) hg hp)
  by_cases h : 12 < ps.length ∨ 12 < qs.length ∨ x = 0 ∨ y = 0
  · exact ftwo_out x y pa qa ps.length pc qs.length qc h w hX
  · have h1 : ¬ 12 < ps.length := fun e => h (.inl e)
    have h2 : ¬ 12 < qs.length := fun e => h (.inr (.inl e))
    have h3 : ¬ x = 0 := fun e => h (.inr (.inr (.inl e)))
    have h4 : ¬ y = 0 := fun e => h (.inr (.inr (.inr e)))
    have K1 := fun w' (hb : Below w.heap.size w w') => made_any x pa pc ps w' (hpi.below hb) (by omega)
    have K2 := fun w' (hb : Below w.heap.size w w') => made_any y qa qc qs w' (hqi.below hb) (by omega)
    unfold mkV at K1 K2
    rw [if_neg h3] at K1
    rw [if_neg h4] at K2
    refine ftwo_walk x y (by simp [h3]) (by simp [h4]) pa qa pc qc ps qs h1 h2 w hX (Lib.hid hpi) (Lib.hid hqi) (Lib.hid hpz) (Lib.hid hqz) (Lib.hid fun q hq => ?_) (eV x ps) (eV y qs) (bA (ftx x ps)) (bA (ftx y qs)) (Lib.hid fun hp1 hq1 s hs1 hs0 => ?_) (Lib.hid K1) (Lib.hid K2)
      (Lib.hid fun w hg hp => ftext_any x ps w bx.1 bx.2 hg hp (by omega) (by omega)) (Lib.hid fun w hg hp => ftext_any y qs w bz.1 bz.2 hg hp (by omega) (by omega))
    · rcases List.mem_append.mp hq with e | e
      · have := fpre_mem e; omega
      · have := fpre_mem e; omega
    · rw [text_eq]
      cases s
      · exact decide_eq_false fun e => hs0 rfl (ftx_inj bx.1 bx.2 bz.1 bz.2 hp1 hq1 (bA_inj e))
      · obtain ⟨e1, e2⟩ := hs1 rfl
        exact decide_eq_true (by rw [e1, e2])
end Go.Proofs.YtnnkpeafhjokjaaDoor
