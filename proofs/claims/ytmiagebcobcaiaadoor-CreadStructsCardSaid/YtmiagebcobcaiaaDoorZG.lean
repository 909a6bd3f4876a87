/- Several texts in one (CrWork, CrU, CrLaw): each begins with its own words. -/
import Derived.Test.YtmiagebcobcaiaaDoorZE
import Derived.Test.YtmiagebcobcaiaaDoorZF
import Derived.Test.YtmiagebcobcaiaaDoorZC
import Derived.Test.YtmiagebcobcaiaaDoorChA
import Derived.Deep.QuietTactic
import Derived.BigQuiet
/- Layer 22's example ('works') returns true in every world that has word's table, and turns nothing that was there. -/
namespace Go.Proofs.YtmiagebcobcaiaaDoor
open Go Go.RowKit
set_option linter.unusedVariables false

def wA : ByteArray := ⟨#[22, 10, 0, 120]⟩
def wB : ByteArray := ⟨#[33, 1, 2]⟩
def wC : ByteArray := ⟨#[0]⟩
def wX : GD := (1, 6, 5, 0, ⟨#[]⟩, ⟨#[]⟩)
def wY : GD := (0, 1, 1, 0, ⟨#[]⟩, ⟨#[]⟩)
def wZ : GD := (1, 2, 0, 0, ⟨#[]⟩, ⟨#[]⟩)
theorem fuel_pos : 0 < fuelN := by decide +kernel
theorem fuel_pos2 : 0 < fuelN - 1 := by decide +kernel
theorem wA_at : cAt wA 0 = ⟨wA, 0, 4, 0⟩ := by unfold cAt; rw [if_neg (by decide)]; rfl
theorem wA_v (d : Nat) : valTo (rdTo d) 6 ⟨wA, 1, 4, 0⟩ = ⟨wA, 2, 4, 0⟩ := by
  rw [val_no rfl, rdTo_num (by decide)]; kernel_rfl
theorem wA_R : stR wA 0 = ⟨wA, 3, 4, 0⟩ := by
  have h1 : (⟨wA, 0, 4, 0⟩ : CS).hKd 0 = 6 ∧ (⟨wA, 0, 4, 0⟩ : CS).hId 0 = 1 := by decide +kernel
  have h2 : (⟨wA, 0, 4, 0⟩ : CS).hTo 0 = ⟨wA, 1, 4, 0⟩ := by kernel_rfl
  have h3 : (⟨wA, 2, 4, 0⟩ : CS).hKd 1 = 0 := by decide +kernel
  have h4 : (⟨wA, 2, 4, 0⟩ : CS).hTo 1 = ⟨wA, 3, 4, 0⟩ := by kernel_rfl
  unfold stR
  rw [wA_at, fld_next _ fuel_pos, h1.1, if_neg (by decide), h1.2, h2, wA_v, fld_next _ fuel_pos2, h3, if_pos rfl, h4]
theorem wA_F : stF wA 0 = [wX] := by
  have h1 : (⟨wA, 0, 4, 0⟩ : CS).hKd 0 = 6 ∧ (⟨wA, 0, 4, 0⟩ : CS).hId 0 = 1 := by decide +kernel
  have h2 : (⟨wA, 0, 4, 0⟩ : CS).hTo 0 = ⟨wA, 1, 4, 0⟩ := by kernel_rfl
  have h3 : (⟨wA, 2, 4, 0⟩ : CS).hKd 1 = 0 := by decide +kernel
  have hg : gAt (rdTo (dAt 0)) 1 6 ⟨wA, 1, 4, 0⟩ = wX := by
    unfold gAt
    rw [wA_v]
    kernel_rfl
  unfold stF
  rw [wA_R, if_pos rfl, wA_at, stL_next _ fuel_pos, h1.1, if_neg (by decide), h1.2, h2, wA_v, hg, stL_next _ fuel_pos2, h3, if_pos rfl]
theorem wA_N : stN wA 0 = 3 := by unfold stN; rw [wA_R]; rfl
theorem wB_at : cAt wB 0 = ⟨wB, 0, 3, 0⟩ := by unfold cAt; rw [if_neg (by decide)]; rfl
theorem wB_v (d : Nat) (a : Nat) (h : a = 1 ∨ a = 2) : rdTo d 1 ⟨wB, a, 3, 0⟩ = ⟨wB, a + 1, 3, 0⟩ := by
  rw [rdTo_flat rfl, inTo_flat rfl]
  rcases h with rfl | rfl <;> kernel_rfl
theorem wB_h : (⟨wB, 0, 3, 0⟩ : CS).lTo = ⟨wB, 1, 3, 0⟩ ∧ (⟨wB, 0, 3, 0⟩ : CS).lCt = 2 ∧ (⟨wB, 0, 3, 0⟩ : CS).lKd = 1 := ⟨by kernel_rfl, by decide +kernel, by decide +kernel⟩
theorem wB_R : itR wB 0 = ⟨wB, 3, 3, 0⟩ := by
  unfold itR
  rw [wB_at, wB_h.1, wB_h.2.1, wB_h.2.2, eachTo_one, wB_v _ 1 (.inl rfl), eachTo_one, wB_v _ 2 (.inr rfl)]; rfl
theorem wB_E : (itR wB 0).endC = 0 := by rw [wB_R]; rfl
theorem wB_F : itF wB 0 = [wY, wZ] := by
  unfold itF
  rw [wB_E, if_pos rfl, wB_at, wB_h.1, wB_h.2.1, wB_h.2.2]
  show iAt (rdTo (dAt 0)) 0 1 ⟨wB, 1, 3, 0⟩ :: iAt (rdTo (dAt 0)) 1 1 (rdTo (dAt 0) 1 ⟨wB, 1, 3, 0⟩) :: [] = _
  rw [wB_v _ 1 (.inl rfl)]
  have h1 : iAt (rdTo (dAt 0)) 0 1 ⟨wB, 1, 3, 0⟩ = wY := by unfold iAt; rw [wB_v _ 1 (.inl rfl)]; kernel_rfl
  have h2 : iAt (rdTo (dAt 0)) 1 1 ⟨wB, 2, 3, 0⟩ = wZ := by unfold iAt; rw [wB_v _ 2 (.inr rfl)]; kernel_rfl
  rw [h1, h2]
theorem wC_R : (stR wC 32).er = 33 := by
  have hc : cAt wC 32 = ⟨wC, 0, 1, 33⟩ := by unfold cAt; rw [if_pos (by decide)]; rfl
  have h1 : (⟨wC, 0, 1, 33⟩ : CS).hKd 0 = 0 := by decide +kernel
  have h2 : (⟨wC, 0, 1, 33⟩ : CS).hTo 0 = ⟨wC, 0, 1, 33⟩ := by kernel_rfl
  unfold stR
  rw [hc, fld_next _ fuel_pos, h1, if_pos rfl, h2]
theorem wA_L : lsV 1 6 [wX] = (wX, true) := by
  unfold lsV
  rw [lastG_some (l := [wX]) (j := 0) (by decide) (by decide +kernel) (fun i hi h => absurd hi (by simp; omega))]; rfl
set_option maxRecDepth 100000 in
set_option maxHeartbeats 2000000 in
theorem works22_any (w : World) (ht : Tab w) : Calls Tryd.prog 6 #[] w fun e w' => e = .returned (.bool true) ∧ Below w.heap.size w w' := by
  have HT := Lib.hid (show ∀ w', Below w.heap.size w w' → Tab w' from fun w' hb => ht.below hb ht.lt)
  have H1 := struct_any wA 0 w (by decide +kernel) (by decide) ht
  have H2 := Lib.hid (fun w ht => items_any wB 0 w (by decide +kernel) (by decide) ht)
  have H3 := fun w ht => struct_any wC 32 w (by decide +kernel) (by decide) ht
  rw [wA_N, wA_F, wA_R] at H1
  rw [wB_E, wB_F] at H2
  rw [wC_R] at H3
  generalize stF wC 32 = FC at H3
  generalize stN wC 32 = NC at H3
  have H1 := Lib.hid H1
  have H3 := Lib.hid H3
  clear ht
  go_enter Tryd.func6, Tryd.ntmps6
  go_wp2_with fail
  refine H1.out.mono ?_
  rintro e w1 ⟨v1, rfl, r1, b1⟩
  go_wp2_with fail
  refine (H2.out _ (HT.out _ b1)).mono ?_
  rintro e w2 ⟨v2, rfl, r2, b2⟩
  have r1 := r1.below b2 (Nat.le_refl _)
  have b2 := grown_then b1 b2
  clear b1
  go_wp2_with fail
  refine (H3.out _ (HT.out _ b2)).mono ?_
  rintro e w3 ⟨v3, rfl, -, b3⟩
  have r1 := r1.below b3 (Nat.le_refl _)
  have r2 := r2.below b3 (Nat.le_refl _)
  have b3 := grown_then b2 b3
  clear b2
  obtain ⟨a1, c1, rfl, i1⟩ := r1.inn
  obtain ⟨a2, c2, rfl, i2⟩ := r2.inn
  clear r1 r2 H1 H2 H3 HT
  go_wp2_with fail
  refine (last_any [wX] 1 6 a1 c1 _ (by decide) i1).mono ?_
  rw [wA_L]
  rintro e w4 ⟨rfl, b4⟩
  have i1 := i1.below b4 (Nat.le_refl _)
  have i2 := i2.below b4 (Nat.le_refl _)
  have B4 := Lib.hid (grown_then b3 b4)
  obtain ⟨g1, rfl, l1, x0, x1, x2, -⟩ := i1 0 (by decide)
  obtain ⟨g2, rfl, l2, y0, y1, y2, -⟩ := i2 0 (by decide)
  obtain ⟨g3, hg3, l3, z0, z1, z2, -⟩ := i2 1 (by decide)
  obtain rfl : g2 = g3 := by simpa using hg3
  clear i1 i2 b3 b4 hg3
  unfold gfV
  dsimp only [wX, wY, wZ, List.length_cons, List.length_nil, List.getElem_cons_zero, List.getElem_cons_succ] at x0 x1 x2 y0 y1 y2 z0 z1 z2 ⊢
  obtain ⟨w5, hw5⟩ : ∃ w5, w5 = w4.alloc (.cells #[.int .i64 1, .int .u8 6, .int .i64 5, .int .u64 0, .string ⟨#[]⟩, .string ⟨#[]⟩] 39) := ⟨_, rfl⟩
  have F5 : GfT 39 w5 w4.heap.size (1, 6, 5, 0, ⟨#[]⟩, ⟨#[]⟩) := by rw [hw5]; exact gf_alloc w4 (1, 6, 5, 0, ⟨#[]⟩, ⟨#[]⟩) _
  have b5 : Below w4.heap.size w4 w5 := by rw [hw5]; exact (Below.refl _ w4).alloc (Nat.le_refl _) _
  have B5 := Lib.hid (grown_then B4.out b5)
  have x2' : w5.cell? ⟨g1, 2, none⟩ = some (.int .i64 5) := (b5.cell (p := ⟨g1, 2, none⟩) l1).trans x2
  have y2' : w5.cell? ⟨g2, 2, none⟩ = some (.int .i64 1) := (b5.cell (p := ⟨g2, 2, none⟩) l2).trans y2
  have z1' : w5.cell? ⟨g2, 7, none⟩ = some (.int .u8 2) := (b5.cell (p := ⟨g2, 7, none⟩) l2).trans z1
  have f2 := F5.c2
  dsimp only at f2
  clear x0 x1 x2 y0 y1 y2 z0 z1 z2 B4 b5 F5
  go_upto_region 5 with fail
  rw [← hw5]
  clear hw5
  go_wp2
  go_ret
  exact ⟨rfl, B5.out⟩
end Go.Proofs.YtmiagebcobcaiaaDoor
/- Law 22's Back; the document's Same. -/
namespace Go.Proofs.YtmiagebcobcaiaaDoor
open Go Go.RowKit
set_option linter.unusedVariables false

theorem gback_nil (a : Option Addr) (cap : Nat) (w : World) :
    Calls Tryd.prog 10 #[.slice a 0 cap] w fun e w' => ∃ v, e = .returned v ∧ GRow 40 w' w.heap.size v [] ∧ Below w.heap.size w w' := by
  go_enter Tryd.func10, Tryd.ntmps10
  go_wp2_with fail
  refine wp_loop_once ?_
  go_wp2
  go_ret
  exact ⟨_, rfl, grow_nil _ _ _, Below.refl _ _⟩
def GbRel2 (W : World) (l : List GD) (v i : Value) (wr : World) : Prop := ∃ j : Nat, j ≤ l.length ∧ i = .int .i64 (j : Nat) ∧ GRow 40 wr W.heap.size v (l.take j) ∧ Below W.heap.size W wr
set_option maxRecDepth 20000 in
set_option maxHeartbeats 1000000 in
theorem gback_any (a : Option Addr) (cap : Nat) (l : List GD) (w : World) (hl : l.length ≤ 1099511627776) (hin : GIn w a l) :
    Calls Tryd.prog 10 #[.slice a l.length cap] w fun e w' => ∃ v, e = .returned v ∧ GRow 40 w' w.heap.size v l ∧ Below w.heap.size w w' := by
  by_cases h0 : l = []
  · subst h0; exact gback_nil a cap w
  · obtain ⟨g, rfl, hg, hc⟩ := hin.block h0
    have HC := Lib.hid hc
    clear hin hc
    go_enter Tryd.func10, Tryd.ntmps10
    go_wp2_with fail
    go_loopw [3, 4] (fun v i wr => GbRel2 w l v i wr) (fun _ i _ => l.length - (intOf i).toNat)
    case atStart => exact ⟨0, Nat.zero_le _, rfl, grow_nil _ _ _, Below.refl _ _⟩
    case round =>
      obtain ⟨j, hj, rfl, hrow, hbel⟩ := hrel
      by_cases hlt : j < l.length
      · have p1 : decide ((j : Int) < (l.length : Int)) = true := decide_eq_true (by omega)
        have p2 : (j : Int) < (l.length : Int) := by omega
        obtain ⟨k0, k1, k2, k3, k4, k5⟩ := (HC.out j hlt).below hbel hg
        have HQ := Lib.hid (show (l.take (j + 1)) = l.take j ++ [l[j]] from List.take_succ_eq_append_getElem hlt)
        have hsz := hbel.size
        have hpl : (l.take j).length ≤ 1099511627776 := by rw [List.length_take]; omega
        have HC2 := Lib.hid HC.out
        clear HC
        generalize l[j] = y at *
        go_wp2_with (at_builtin; go_loud (refine wpList_append_gd rfl (.tmp 11) (.tmp 16) 27 rfl 40 Tryd.underlying27 infoRg _ wr w.heap.size (l.take j) hrow hsz rfl _ _ _ _ _ _ y rfl rfl rfl rfl rfl rfl rfl hpl ?_; intro v5 w5 hv5 hb5 _))
        have hbel5 := hbel.trans hb5
        go_roundw
        case rel => exact ⟨j + 1, by omega, by go_num, by rw [HQ.out]; exact hv5, hbel5⟩
        case measure => simp [intOf]; omega
      · have p1 : decide ((j : Int) < (l.length : Int)) = false := decide_eq_false (by omega)
        have HR := Lib.hid (show l.take j = l from List.take_of_length_le (by omega))
        have HW := Lib.hid (And.intro hrow hbel)
        clear hrow hbel
        go_wp2
        go_ret
        exact ⟨_, rfl, by have := HW.out.1; rw [HR.out] at this; exact this, HW.out.2⟩
section
variable {P : Program} {a : Act} {C : World → Prop} {Q : Act → Prop} {ops : Array Oper} {rest : List Oper} {o : Oper}
theorem wqv22 {v : Value} (hw : Region.wanted o (yielded ops a.tmps) = true) (hv : ∀ w, C w → (execOp a.eval o).run P w = .ok (.value v) w) (h : wpQuiet P ops C Q rest (a.put o.dst v)) : wpQuiet P ops C Q (o :: rest) a :=
  wpQuiet_step fun K hK => by
    rw [if_pos hw]
    exact ⟨v, fun w hC => by unfold Oper.quietAt; rw [hv w hC]; exact ⟨rfl, rfl⟩, hK _ h⟩
end
theorem wq_gdneq {dst : Option Tmp} {ty yT : TypeId} {pos : String} {after : Array Edge} {g : Option (Nat × Bool)} {x y : Operand} {a : Act} {C : World → Prop} {Q : Act → Prop} {ops : Array Oper} {rest : List Oper} {u v : GD}
    (hw : Region.wanted ⟨dst, .binOp .neq 40 x y yT, ty, pos, after, g⟩ (yielded ops a.tmps) = true) (hx : a.eval x = gfV u) (hy : a.eval y = gfV v) (h : wpQuiet Tryd.prog ops C Q rest (a.put dst (.bool (!decide (u = v))))) :
    wpQuiet Tryd.prog ops C Q (⟨dst, .binOp .neq 40 x y yT, ty, pos, after, g⟩ :: rest) a :=
  wqv22 hw (fun w hC => by
    have hn := neqRg u v w
    simp only [execOp, hx, hy, Sem.run_bind, show gfV u = .agg #[.int .i64 u.1, .int .u8 (u.2.1 : Nat), .int .i64 u.2.2.1, .int .u64 (u.2.2.2.1 : Nat), .string u.2.2.2.2.1, .string u.2.2.2.2.2] from rfl, show gfV v = .agg #[.int .i64 v.1, .int .u8 (v.2.1 : Nat), .int .i64 v.2.2.1, .int .u64 (v.2.2.2.1 : Nat), .string v.2.2.2.2.1, .string v.2.2.2.2.2] from rfl, run_eqGuard_agg w .neq 40 x y _ _ guardRg, Result.andThen_ok]
    unfold gfV at hn
    rw [hn]; rfl) h
def GsRel (w : World) (l m : List GD) (i : Value) (wr : World) : Prop := ∃ j : Nat, j ≤ l.length ∧ i = .int .i64 (j : Nat) ∧ Hid (l.take j = m.take j) ∧ Below w.heap.size w wr
theorem gsame_ne (a b : Option Addr) (n m c1 c2 : Nat) (h : ¬ n = m) (w : World) :
    Calls Tryd.prog 9 #[.slice a n c1, .slice b m c2] w fun e w' => e = .returned (.bool false) ∧ Below w.heap.size w w' := by
  have p1 : ((n : Int) != (m : Int)) = true := bne_iff_ne.mpr (by omega)
  have p2 : (n != m) = true := bne_iff_ne.mpr h
  go_enter Tryd.func9, Tryd.ntmps9
  go_wp2
  go_ret
  exact ⟨rfl, Below.refl _ _⟩
theorem gsame_nil (a b : Option Addr) (c1 c2 : Nat) (w : World) :
    Calls Tryd.prog 9 #[.slice a 0 c1, .slice b 0 c2] w fun e w' => e = .returned (.bool true) ∧ Below w.heap.size w w' := by
  go_enter Tryd.func9, Tryd.ntmps9
  go_wp2_with fail
  refine wp_loop_once ?_
  go_wp2
  go_ret
  exact ⟨rfl, Below.refl _ _⟩
set_option maxRecDepth 20000 in
set_option maxHeartbeats 1000000 in
theorem gsame_eq (a b : Option Addr) (c1 c2 : Nat) (l m : List GD) (w : World) (hlm : l.length = m.length) (hl : l.length ≤ 1099511627776) (hin : GIn w a l) (hin2 : GIn w b m) :
    Calls Tryd.prog 9 #[.slice a l.length c1, .slice b l.length c2] w fun e w' => e = .returned (.bool (decide (l = m))) ∧ Below w.heap.size w w' := by
  by_cases h0 : l = []
  · subst h0
    have : m = [] := List.eq_nil_of_length_eq_zero hlm.symm
    subst this
    exact gsame_nil a b c1 c2 w
  · have h0' : m ≠ [] := fun e => h0 (List.eq_nil_of_length_eq_zero (by rw [hlm, e]; rfl))
    obtain ⟨g, rfl, hg, hc⟩ := hin.block h0
    obtain ⟨d, rfl, hd, hc2⟩ := hin2.block h0'
    have HC := Lib.hid hc
    have HD := Lib.hid hc2
    have HLM := Lib.hid hlm
    clear hin hin2 h0 h0' hlm hc hc2
    go_enter Tryd.func9, Tryd.ntmps9
    go_wp2_with fail
    go_loopw [4, 5] (fun _ i wr => GsRel w l m i wr) (fun _ i _ => l.length - (intOf i).toNat)
    case atStart => exact ⟨0, Nat.zero_le _, rfl, Lib.hid rfl, Below.refl _ _⟩
    case round =>
      obtain ⟨j, hj, rfl, hpre, hbel⟩ := hrel
      by_cases hlt : j < l.length
      · have p1 : decide ((j : Int) < (l.length : Int)) = true := decide_eq_true (by omega)
        have p2 : (j : Int) < (l.length : Int) := by omega
        have hmt : j < m.length := by rw [← HLM.out]; exact hlt
        obtain ⟨k0, k1, k2, k3, k4, k5⟩ := (HC.out j hlt).below hbel hg
        obtain ⟨d0, d1, d2, d3, d4, d5⟩ := (HD.out j hmt).below hbel hd
        have HQ := Lib.hid (show (l.take (j + 1)) = l.take j ++ [l[j]] from List.take_succ_eq_append_getElem hlt)
        have HQ2 := Lib.hid (show (m.take (j + 1)) = m.take j ++ [m[j]] from List.take_succ_eq_append_getElem hmt)
        generalize l[j] = y at *
        generalize m[j] = z at *
        by_cases he : y = z
        · have HT := Lib.hid (show l.take (j + 1) = m.take (j + 1) by rw [HQ.out, HQ2.out, hpre.out, he])
          have e1 : (!decide (y = z)) = false := by simp [he]
          clear he
          go_wp2_with fail
          refine wp_region_quiet_lit (by kernel_rfl) (by kernel_rfl) ?_
          repeat (quiet_step (fail))
          refine wq_gdneq (u := y) (v := z) (by rfl) (by rfl) (by rfl) ?_
          simp only [Act.put, List.setIfInBounds_toArray, List.set_cons_zero, List.set_cons_succ, e1]
          refine wpQuiet_nil ?_
          intro _ hw'
          obtain ⟨nq, hw''⟩ := hw'
          subst hw''
          clear e1
          go_wp2
          go_roundw
          case rel => exact ⟨j + 1, by omega, by go_num, HT, Below.drewN hbel nq⟩
          case measure => simp [intOf]; omega
        · have HT := Lib.hid (show decide (l = m) = false from decide_eq_false (fun e => by
            have h1 := HQ.out
            have h2 := HQ2.out
            rw [← e] at h2
            rw [h2] at h1
            exact he (List.cons.inj (List.append_cancel_left h1)).1.symm))
          have e1 : (!decide (y = z)) = true := by simp [he]
          clear he
          go_wp2_with fail
          refine wp_region_quiet_lit (by kernel_rfl) (by kernel_rfl) ?_
          repeat (quiet_step (fail))
          refine wq_gdneq (u := y) (v := z) (by rfl) (by rfl) (by rfl) ?_
          simp only [Act.put, List.setIfInBounds_toArray, List.set_cons_zero, List.set_cons_succ, e1]
          refine wpQuiet_nil ?_
          intro _ hw'
          obtain ⟨nq, hw''⟩ := hw'
          subst hw''
          clear e1
          go_wp2
          go_ret
          exact ⟨ret_b HT.out.symm, Below.drewN hbel nq⟩
      · have p1 : decide ((j : Int) < (l.length : Int)) = false := decide_eq_false (by omega)
        have HT := Lib.hid (show decide (l = m) = true from decide_eq_true (by
          have h1 := hpre.out
          rw [List.take_of_length_le (by omega), List.take_of_length_le (by have := HLM.out; omega)] at h1
          exact h1))
        go_wp2
        go_ret
        exact ⟨ret_b HT.out.symm, hbel⟩
theorem gsame_any (a b : Option Addr) (c1 c2 : Nat) (l m : List GD) (w : World) (hl : l.length ≤ 1099511627776) (hin : GIn w a l) (hin2 : GIn w b m) :
    Calls Tryd.prog 9 #[.slice a l.length c1, .slice b m.length c2] w fun e w' => e = .returned (.bool (decide (l = m))) ∧ Below w.heap.size w w' := by
  by_cases h : l.length = m.length
  · have := gsame_eq a b c1 c2 l m w h hl hin hin2
    rw [← h]; exact this
  · rw [decide_eq_false (fun e => h (congrArg List.length e))]
    exact gsame_ne a b _ _ c1 c2 h w
end Go.Proofs.YtmiagebcobcaiaaDoor
/- What laws 22.1 and 22.2 begin with: how many fields there are; Back, Same. -/
namespace Go.Proofs.YtmiagebcobcaiaaDoor
open Go Go.RowKit
set_option linter.unusedVariables false

theorem stL_len (d : Nat) : ∀ (n : Nat) (last : Int) (c : CS), c.ok → (stL (rdTo d) n last c).length + c.at_ ≤ c.en
  | 0, _, c, hc => by show 0 + c.at_ ≤ c.en; have := hc.1; omega
  | n + 1, last, c, hc => by
    rw [stL]
    by_cases h : c.hKd last = 0
    · rw [if_pos h]; show 0 + c.at_ ≤ c.en; have := hc.1; omega
    · rw [if_neg h]
      obtain ⟨h1, h2, h3⟩ := head_more hc h
      have hs := head_std last c hc
      obtain ⟨v1, v2, v3, v4, v5⟩ := vrd_std d (c.hKd last) (c.hTo last) (CS.hTo_ok hc last)
      have := stL_len d n (c.hId last) _ v1
      rw [v3, hs.2.2.1] at this
      rw [List.length_cons]
      omega
theorem stF_len (s : ByteArray) (deep : Int) (hs : s.size ≤ 1099511627776) : (stF s deep).length ≤ 1099511627776 := by
  unfold stF
  split
  · have := stL_len (dAt deep) fuelN 0 _ (cAt_ok (s := s) (by omega) deep)
    obtain ⟨_, h2, _⟩ := cAt_s s deep
    omega
  · simp
theorem itL_len (f : Nat → CS → CS) (k : Nat) : ∀ (n j : Nat) (c : CS), (itL f k n j c).length = n
  | 0, _, _ => rfl
  | n + 1, j, c => by rw [itL, List.length_cons, itL_len f k n]
theorem itF_len (s : ByteArray) (deep : Int) : (itF s deep).length ≤ 1099511627776 := by
  unfold itF
  split
  · rw [itL_len]; have := CS.lCt_le (cAt s deep); omega
  · simp
theorem gback {w : World} (a : Option Addr) (cap : Nat) (l : List GD) (hl : l.length ≤ 1099511627776) (hin : GIn w a l) :
    Calls Tryd.prog 10 #[.slice a l.length cap] w fun e w' => ∃ d k, e = .returned (.slice d l.length k) ∧ GIn w' d l ∧ Below w.heap.size w w' := by
  refine (gback_any a cap l w hl hin).mono ?_
  rintro e w' ⟨v, he, hrow, hb⟩
  obtain ⟨d, k, hv, hi⟩ := hrow.inn
  rw [hv] at he
  exact ⟨d, k, he, hi, hb⟩
theorem gsame (a b : Option Addr) (c1 c2 : Nat) (l : List GD) (w : World) (hl : l.length ≤ 1099511627776) (hin : GIn w a l) (hin2 : GIn w b l) :
    Calls Tryd.prog 9 #[.slice a l.length c1, .slice b l.length c2] w fun e w' => e = .returned (.bool true) ∧ Below w.heap.size w w' := by
  have := gsame_any a b c1 c2 l l w hl hin hin2
  rwa [decide_eq_true rfl] at this
end Go.Proofs.YtmiagebcobcaiaaDoor
