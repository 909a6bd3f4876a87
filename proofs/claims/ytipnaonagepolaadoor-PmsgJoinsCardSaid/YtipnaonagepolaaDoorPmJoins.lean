/- PmsgJoins, walked. -/
import Derived.Test.YtipnaonagepolaaDoorPmLast
import Derived.Test.YtipnaonagepolaaDoorPmJn
import Derived.Test.YtipnaonagepolaaDoorPrSm
namespace Go.Proofs.YtipnaonagepolaaDoor
open Go Go.RowKit
set_option linter.unusedVariables false

/-- 'append(list, more...)' of fields that are there, on a list that the call itself made: no block turns but the list's own. -/
theorem wpList_append_fdsg {P : Program} {ops : Array Oper} {rest : List Oper} {o : Oper} {a : Act} {w : World} {Q : Exit → Act → World → Prop} (hw : Region.wanted o (yielded ops a.tmps) = true) (sl x : Operand) (t : TypeId)
    (ho : o.op = .call { callee := .builtin .append, args := #[sl, x], argTypes := #[t, t] })
    (e : TypeId) (ht : P.underlying t = some (.slice e)) (hi : (P.info? e).map (fun i => (i.zero, i.size, i.bytes)) = some (some (.agg #[.int .i64 0, .int .i64 0, .int .u64 0, .string ⟨#[]⟩]), 4, 40))
    (v : Value) (B : Nat) (l : List FD) (hb : FRow e w B v l) (hB : B ≤ w.heap.size) (hs : a.eval sl = v)
    (u : Value) (C : Nat) (m : List FD) (hm : FRow e w C u m) (hx : a.eval x = u) (hlen : l.length + m.length ≤ 1099511627776)
    (h : ∀ v' w', FRow e w' B v' (l ++ m) → w.grownBy w' v.ownBlock → wpList P ops Q rest (a.put o.dst v') w') : wpList P ops Q (o :: rest) a w := by
  obtain ⟨i0, hi, hz, hz1, hz2⟩ := info_parts hi
  refine wpList_step fun K hK => ?_
  rw [if_pos hw]
  rcases hm.2 with ⟨rfl, hn⟩ | ⟨g, cap, cur, rfl, _, hg, _⟩
  · have h0 : m = [] := List.eq_nil_of_length_eq_zero hn
    subst h0
    have hrun := run_append_owned_none (P := P) (w := w) B t o.type e i0 4 ht hi v l.length (fV l) hb
    unfold Oper.wp
    simp [execOp, ho, resolve, invoke, builtin, hs, hx, hrun, Result.andThen]
    exact hK _ _ (h v w (by rw [List.append_nil]; exact hb) ⟨rfl, rfl, rfl, Nat.le_refl _, fun _ _ _ => rfl⟩)
  · refine wp_append_own w sl x t ho B e i0 (.agg #[.int .i64 0, .int .i64 0, .int .u64 0, .string ⟨#[]⟩]) 4 40 ht hi hz hz1 hz2 rfl (by decide) v l.length (fV l) hs hb ⟨g, 0, none⟩ m.length cap (fV m) hx (fV_length m) (World.ownsRow.cells hm rfl) (fV_one _) (by unfold maxLen; omega) (by omega) hB ?_
    intro v' w' hown hgr _
    refine hK _ _ (h v' w' ?_ hgr)
    unfold FRow
    rw [fV_append, List.length_append]
    exact hown
/-- A list of bytes beside a list of fields that grows. -/
theorem Bts.beside {t e : TypeId} (hne : t ≠ e) {w w' : World} {B C : Nat} {v u : Value} {l : List UInt8} {m : List FD} (h : Bts t w B v l) (hm : FRow e w C u m) (hg : w.grownBy w' u.ownBlock) : Bts t w' B v l := by
  refine World.ownsRow.kept h hg ?_
  rcases h.2 with ⟨rfl, _⟩ | ⟨g, cap, cur, rfl, _, hk, _⟩
  · exact .inl rfl
  · refine .inr ?_
    have := hm.not_at hk (fun cs e2 => hne (by injection e2))
    simpa [Value.ownBlock] using this
theorem ty_u8_rf : (5 : TypeId) ≠ 45 := by decide

theorem pjoin_long (a : Option Addr) (c : Nat) (P : List (List FD)) (A : Int) (w : World) (h : ¬ P.length ≤ 8) (ht : Tab w) :
    Calls Tryd.prog 5 #[.slice a P.length c, .int .u8 A] w fun e w' => e = .returned (.bool true) ∧ Below w.heap.size w w' := by
  have HT := Lib.hid ht
  have p1 : decide ((8 : Int) < (P.length : Int)) = true := decide_eq_true (by omega)
  clear ht h
  go_enter Tryd.func5, Tryd.ntmps5
  go_wp2_with (go_at_call 6; refine (works_any w HT.out).mono ?_; rintro e w1 ⟨rfl, hb⟩)
  go_ret
  exact ⟨rfl, hb⟩
/-- Between two parts. -/
structure JoS (w : World) (k : Int) (P : List (List FD)) (j : Nat) (v u : Value) (W : World) : Prop where
  ok : jOk (P.take j)
  b : Bts 5 W w.heap.size v (jB k (P.take j))
  al : FRow 45 W w.heap.size u (jA (P.take j))
  bel : Below w.heap.size w W
theorem JoS.below {w W W' : World} {k : Int} {P : List (List FD)} {j : Nat} {v u : Value} (h : JoS w k P j v u W) (hb : Below W.heap.size W W') : JoS w k P j v u W' :=
  ⟨h.ok, h.b.below hb (Nat.le_refl _), h.al.below hb (Nat.le_refl _), below_on h.bel hb h.bel.size⟩

set_option maxRecDepth 100000 in
set_option maxHeartbeats 1000000 in
theorem pjoin_short (a : Option Addr) (c : Nat) (P : List (List FD)) (A : Int) (w : World) (hP : P.length ≤ 8) (hA0 : 0 ≤ A) (hA1 : A ≤ 255) (hin : PtIn w a P) (ol : ∀ l ∈ P, ∀ x ∈ l, fOk x) (ht : Tab w) :
    Calls Tryd.prog 5 #[.slice a P.length c, .int .u8 A] w fun e w' => e = .returned (.bool true) ∧ Below w.heap.size w w' := by
  have HT := Lib.hid ht
  have HI := Lib.hid hin
  have OL := Lib.hid ol
  have p1 : decide ((8 : Int) < (P.length : Int)) = false := decide_eq_false (by omega)
  obtain ⟨r, hr⟩ : ∃ r : Nat, A % 30 = (r : Int) := ⟨(A % 30).toNat, by omega⟩
  have r30 : r < 30 := by omega
  have hr2 : A.tmod 30 = (r : Int) := by rw [Int.tmod_eq_emod_of_nonneg hA0]; exact hr
  have m5 : IntKind.u8.wrap (r : Int) = (r : Int) := IntWalk.u8_in _ (by omega)
  have m6 : IntKind.i64.wrap (r : Int) = (r : Int) := i64_small (by omega) (by omega)
  have m7 : IntKind.i64.wrap ((r : Int) + 1) = (r : Int) + 1 := i64_small (by omega) (by omega)
  have HK := Lib.hid (show tagB ((r : Int) + 1) 2 = true by unfold tagB; simp; omega)
  clear ht hin ol
  go_enter Tryd.func5, Tryd.ntmps5
  go_wp2_with fail
  go_loopw [5, 6, 8] (fun v u i wr => ∃ j : Nat, j ≤ P.length ∧ i = .int .i64 (j : Nat) ∧ JoS w ((r : Int) + 1) P j v u wr) (fun _ _ i _ => P.length - (intOf i).toNat)
  case atStart => exact ⟨0, Nat.zero_le _, rfl, fun p hp => by simp at hp, ⟨rfl, .inl ⟨rfl, rfl⟩⟩, frow_nil _ _ _, Below.refl _ _⟩
  case round =>
    obtain ⟨j, hj, rfl, hS⟩ := hrel
    by_cases hlt : j < P.length
    · have q1 : decide ((j : Int) < (P.length : Int)) = true := decide_eq_true (by omega)
      have q2 : (j : Int) < (P.length : Int) := by omega
      obtain ⟨g, off, pa, pc, rfl, hg, k0, hpi⟩ := HI.out.below hS.bel (Nat.le_refl _) j hlt
      have HS := Lib.hid hS
      have HQ := Lib.hid (show P.take (j + 1) = P.take j ++ [P[j]] from List.take_succ_eq_append_getElem hlt)
      have HPI := Lib.hid hpi
      have OLj := Lib.hid (OL.out _ (List.getElem_mem hlt))
      have HTW := Lib.hid (HT.out.below hS.bel HT.out.lt)
      clear hS hpi
      generalize P[j] = p at *
      by_cases hp8 : p.length ≤ 8
      · have q3 : decide ((8 : Int) < (p.length : Int)) = false := decide_eq_false (by omega)
        go_wp2_with fail
        generalize wr = W0 at *
        go_loopw [9, 10] (fun v i wx => ∃ i2 : Nat, i2 ≤ p.length ∧ i = .int .i64 (i2 : Nat) ∧ (∀ x ∈ p.take i2, x.2.2.2.size ≤ 100) ∧ Bts 5 wx W0.heap.size v (fBs (p.take i2)) ∧ Below W0.heap.size W0 wx) (fun _ i _ => p.length - (intOf i).toNat)
        case atStart => exact ⟨0, Nat.zero_le _, rfl, by simp, ⟨rfl, .inl ⟨rfl, rfl⟩⟩, Below.refl _ _⟩
        case round =>
          obtain ⟨i2, hi2, rfl, hs, hrow, hbel⟩ := hrel
          have k0' := (hbel.cell (p := ⟨g, off + j, none⟩) hg).trans k0
          by_cases hlt2 : i2 < p.length
          · have q4 : decide ((i2 : Int) < (p.length : Int)) = true := decide_eq_true (by omega)
            have q5 : (i2 : Int) < (p.length : Int) := by omega
            obtain ⟨fg, foff, rfl, hfg, f0, f1, f2, f3⟩ := HPI.out.below hbel (Nat.le_refl _) i2 hlt2
            have HB := Lib.hid hbel
            have HQ2 := Lib.hid (show p.take (i2 + 1) = p.take i2 ++ [p[i2]] from List.take_succ_eq_append_getElem hlt2)
            have hok := OLj.out _ (List.getElem_mem hlt2)
            have hle := fBs_le (p.take i2) (fun x hx => ⟨OLj.out x (List.mem_of_mem_take hx), hs x hx⟩)
            have hlt3 : (p.take i2).length ≤ 8 := by rw [List.length_take]; omega
            obtain ⟨va, vc, rfl, hbin⟩ := hrow.inn
            have HT2 := HTW.out.below hbel HTW.out.lt
            have HPt := Lib.hid (fun (hsz : (p[i2]).2.2.2.size ≤ 100) => fput_any va vc (fBs (p.take i2)) (p[i2]).1 (p[i2]).2.1 (p[i2]).2.2.1 (p[i2]).2.2.2 wr (by omega) (by omega) hok hbin HT2)
            have HW := Lib.hid (works_any wr HT2)
            have HSX := Lib.hid hs
            clear hbel hfg hrow hbin hle hok HT2 hs k0
            generalize p[i2] = y at *
            obtain ⟨y0, y1, y2, y3⟩ := y
            dsimp only at f0 f1 f2 f3 HPt
            by_cases hsz : y3.size ≤ 100
            · have q6 : decide ((100 : Int) < (y3.size : Int)) = false := decide_eq_false (by omega)
              have HP2 := Lib.hid (HPt.out hsz)
              have HSZ := Lib.hid hsz
              clear hsz HPt HW
              go_wp2_with (go_at_call 18; refine HP2.out.mono ?_; rintro e w1 ⟨v1, rfl, hb1, hbel1⟩; have B1 := Lib.hid hb1; have BB := Lib.hid (below_on HB.out hbel1 HB.out.size); clear hb1 hbel1)
              go_roundw
              case rel =>
                refine ⟨i2 + 1, by omega, by go_num, ?_, ?_, BB.out⟩
                · rw [HQ2.out]
                  intro x hx
                  rcases List.mem_append.1 hx with hx | hx
                  · exact HSX.out x hx
                  · rw [List.mem_singleton.1 hx]; exact HSZ.out
                · rw [HQ2.out, fBs_snoc]
                  exact B1.out.base HB.out.size
              case measure => simp [intOf]; omega
            · have q6 : decide ((100 : Int) < (y3.size : Int)) = true := decide_eq_true (by omega)
              clear hsz HPt
              go_wp2_with (go_at_call 6; refine HW.out.mono ?_; rintro e w1 ⟨rfl, hb⟩; have BB := Lib.hid (below_on HS.out.bel (below_on HB.out hb HB.out.size) HS.out.bel.size); clear hb)
              go_ret
              exact ⟨rfl, BB.out⟩
          · have q4 : decide ((i2 : Int) < (p.length : Int)) = false := decide_eq_false (by omega)
            have e0 : p.take i2 = p := List.take_of_length_le (by omega)
            rw [e0] at hs hrow
            have HOK := Lib.hid (show jOk (P.take (j + 1)) by
              rw [HQ.out]
              intro q hq
              rcases List.mem_append.1 hq with hq | hq
              · exact HS.out.ok q hq
              · rw [List.mem_singleton.1 hq]
                exact ⟨hp8, fun x hx => ⟨OLj.out x hx, hs x hx⟩⟩)
            have hle := HOK.out.le (p := p) (by rw [HQ.out]; simp)
            have hjb := jB_le ((r : Int) + 1) (P.take j) HS.out.ok
            have hja := jA_le (P.take j) HS.out.ok
            have hjl : (P.take j).length ≤ 8 := by rw [List.length_take]; omega
            have hl2 := fAll_len (fBs p)
            obtain ⟨va, vc, rfl, -⟩ := hrow.inn
            have HRow := Lib.hid hrow
            have HB := Lib.hid hbel
            have S1 := Lib.hid (HS.out.below hbel)
            obtain ⟨ba, bc, rfl, -⟩ := S1.out.b.inn
            have HTr := Lib.hid (HTW.out.below hbel HTW.out.lt)
            have hcv := hrow.text Tryd.underlying43 Tryd.underlying5 Tryd.underlying9
            have HA := Lib.hid (rfall_any (bA (fBs p)) wr (by rw [bA_size]; omega))
            rw [show (bA (fBs p)).data.toList = fBs p from rfl] at HA
            have HQA := Lib.hid (show jA (P.take (j + 1)) = jA (P.take j) ++ (fAll (fBs p)).1 by rw [HQ.out, jA_snoc])
            have HQB := Lib.hid (show jB ((r : Int) + 1) (P.take (j + 1)) = jB ((r : Int) + 1) (P.take j) ++ fB ((r : Int) + 1) 2 0 (bA (fBs p)) by rw [HQ.out, jB_snoc])
            have HPt := Lib.hid (fun w5 hbi ht5 => fput_any ba bc (jB ((r : Int) + 1) (P.take j)) ((r : Int) + 1) 2 0 (bA (fBs p)) w5 (by omega) (by rw [bA_size]; omega) (by omega) hbi ht5)
            have hL2 : ((fAll (fBs p)).1).length ≤ 960 := by omega
            clear hbel hs hrow k0 hle hjb HS hl2
            generalize (fAll (fBs p)).2 = E at *
            generalize (fAll (fBs p)).1 = L2 at *
            go_wp2_with fail
            refine HA.out.mono ?_
            rintro e w2 ⟨v2, rfl, hr2, hb2⟩
            have S2 := Lib.hid (S1.out.below hb2)
            have R2 := Lib.hid hr2
            have HRow2 := Lib.hid (HRow.out.below hb2 (Nat.le_refl _))
            have HT2 := Lib.hid (HTr.out.below hb2 HTr.out.lt)
            have hlen : (jA (P.take j)).length + L2.length ≤ 1099511627776 := by omega
            clear hb2 hr2 hcv S1 HRow HTr k0'
            go_wp2_with (at_builtin; go_loud (refine wpList_append_fdsg (by rfl) (.tmp 75) (.tmp 76) 27 rfl 45 Tryd.underlying27 infoRf _ w.heap.size (jA (P.take j)) S2.out.al S2.out.bel.size rfl _ wr.heap.size L2 R2.out rfl hlen ?_; intro v7 w5 hr5 hg5; have hcv5 := (HRow2.out.beside ty_u8_rf S2.out.al hg5).text Tryd.underlying43 Tryd.underlying5 Tryd.underlying9))
            have hb5 : Below w.heap.size w w5 := S2.out.bel.grown hg5 S2.out.bel.size (fun k hk => (World.ownsRow.lt S2.out.al k hk.symm.symm).1)
            have hbb := S2.out.b.beside ty_u8_rf S2.out.al hg5
            have B5 := Lib.hid hbb
            have R5 := Lib.hid hr5
            have BW5 := Lib.hid hb5
            obtain ⟨ba2, bc2, he2, hbi5⟩ := hbb.inn
            have HP5 := Lib.hid (HPt.out w5 (by have := he2; simp only [Value.slice.injEq] at this; rw [this.1]; exact hbi5) (HT.out.below hb5 HT.out.lt))
            clear hg5 hr5 hbb hb5 he2 hbi5 HPt S2 R2 HRow2 HT2
            refine HP5.out.mono ?_
            rintro e w6 ⟨v8, rfl, hb8, hbel8⟩
            have B8 := Lib.hid (hb8.base BW5.out.size)
            have R8 := Lib.hid (R5.out.below hbel8 (Nat.le_refl _))
            have BW8 := Lib.hid (below_on BW5.out hbel8 BW5.out.size)
            clear hb8 hbel8 hcv5
            go_wp2
            go_roundw
            case rel => exact ⟨j + 1, by omega, by go_num, HOK.out, by rw [HQB.out]; exact B8.out, by rw [HQA.out]; exact R8.out, BW8.out⟩
            case measure => simp [intOf]; omega
      · have q3 : decide ((8 : Int) < (p.length : Int)) = true := decide_eq_true (by omega)
        clear hp8
        go_wp2_with (go_at_call 6; refine (works_any _ HTW.out).mono ?_; rintro e w1 ⟨rfl, hb⟩; have BB := Lib.hid (below_on HS.out.bel hb HS.out.bel.size); clear hb)
        go_ret
        exact ⟨rfl, BB.out⟩
    · have q1 : decide ((j : Int) < (P.length : Int)) = false := decide_eq_false (by omega)
      have e0 : P.take j = P := List.take_of_length_le (by omega)
      obtain ⟨hok, hb, hal, hbel⟩ := hS
      rw [e0] at hok hb hal
      have hjb := jB_le ((r : Int) + 1) P hok
      have hja := jA_le P hok
      have hjj := jJoin_le P hok
      obtain ⟨va, vc, rfl, -⟩ := hb.inn
      obtain ⟨aa, ac, rfl, hai⟩ := hal.inn
      have HAI := Lib.hid hai
      have BW := Lib.hid hbel
      have HTW := Lib.hid (HT.out.below hbel HT.out.lt)
      have hcv := hb.text Tryd.underlying43 Tryd.underlying5 Tryd.underlying9
      have HR := Lib.hid (pmread_any (bA (jB ((r : Int) + 1) P)) wr (by rw [bA_size]; omega) HTW.out)
      rw [show (bA (jB ((r : Int) + 1) P)).data.toList = jB ((r : Int) + 1) P from rfl, jB_read HK.out P hok] at HR
      have HJ := Lib.hid (fun mp w h => pmjoined_any mp (P.map fun p => (((r : Int) + 1, 2, 0, bA (fBs p)) : FD)) ((r : Int) + 1) w h (by rw [List.length_map]; omega) (by rw [jEach]; omega))
      rw [jEach, jT_len] at HJ
      have HA := Lib.hid (fun w ht => jo_all (bA (fJoin (jT P))) w (by rw [bA_size]; omega) ht)
      rw [show (bA (fJoin (jT P))).data.toList = fJoin (jT P) from rfl, jJoin_read P hok] at HA
      obtain ⟨Bp, hBp⟩ : ∃ Bp, decide (0 < P.length) = Bp := ⟨_, rfl⟩
      have hdec : decide ((0 : Int) < (P.length : Int)) = Bp := by rw [← hBp, decide_eq_decide]; omega
      rw [hBp] at HJ
      have hja2 : (jA P).length ≤ 1099511627776 := by omega
      have HBk := Lib.hid (fun w a c h => fback (w := w) a c (jA P) hja2 h)
      have HSm := Lib.hid (fun w a b c1 c2 h1 h2 => fsame a b c1 c2 (jA P) w hja2 h1 h2)
      clear hok hb hal hbel hai hjb hja hjj
      generalize jA P = L at *
      generalize bA (fJoin (jT P)) = J at *
      generalize (P.map fun p => (((r : Int) + 1, 2, 0, bA (fBs p)) : FD)) = F at *
      generalize jB ((r : Int) + 1) P = bs at *
      dsimp only at HR HA
      go_wp2_with fail
      refine HR.out.mono ?_
      rintro e w1 ⟨mp, rfl, hm, -, hb⟩
      have HM := Lib.hid hm
      have B1 := Lib.hid (below_on BW.out hb BW.out.size)
      have A1 := Lib.hid (HAI.out.below hb (Nat.le_refl _))
      have T1 := Lib.hid (HTW.out.below hb HTW.out.lt)
      clear hm hb hcv HAI BW HTW
      go_wp2_with fail
      refine (HJ.out _ _ HM.out).mono ?_
      rintro e w2 ⟨rfl, hb⟩
      have B2 := Lib.hid (below_on B1.out hb B1.out.size)
      have A2 := Lib.hid (A1.out.below hb (Nat.le_refl _))
      have T2 := Lib.hid (T1.out.below hb T1.out.lt)
      clear hb B1 A1 T1 HM
      go_wp2_with fail
      refine (HA.out _ T2.out).mono ?_
      rintro e w3 ⟨v3, rfl, hr3, hb⟩
      obtain ⟨fa, fc, rfl, hfi⟩ := hr3.inn
      have F3 := Lib.hid hfi
      have B3 := Lib.hid (below_on B2.out hb B2.out.size)
      have A3 := Lib.hid (A2.out.below hb (Nat.le_refl _))
      have T3 := Lib.hid (T2.out.below hb T2.out.lt)
      clear hb hr3 hfi B2 A2 T2
      go_wp2_with fail
      refine (HBk.out _ _ _ F3.out).mono ?_
      rintro e w4 ⟨da, dk, rfl, hd4, hb⟩
      have D4 := Lib.hid hd4
      have B4 := Lib.hid (below_on B3.out hb B3.out.size)
      have A4 := Lib.hid (A3.out.below hb (Nat.le_refl _))
      have T4 := Lib.hid (T3.out.below hb T3.out.lt)
      clear hb hd4 B3 A3 T3 F3
      go_wp2_with fail
      refine (HSm.out _ _ _ _ _ D4.out A4.out).mono ?_
      rintro e w5 ⟨rfl, hb⟩
      have B5 := Lib.hid (below_on B4.out hb B4.out.size)
      have T5 := Lib.hid (T4.out.below hb T4.out.lt)
      clear hb B4 A4 T4 D4
      go_wp2_with fail
      refine (works_any _ T5.out).mono ?_
      rintro e w6 ⟨rfl, hb⟩
      have B6 := Lib.hid (below_on B5.out hb B5.out.size)
      clear hb B5
      go_wp2
      go_ret
      exact ⟨rfl, B6.out⟩
theorem pjoin_law (a : Option Addr) (c : Nat) (P : List (List FD)) (A : Int) (w : World) (hin : PtIn w a P) (ol : ∀ l ∈ P, ∀ x ∈ l, fOk x) (hA0 : 0 ≤ A) (hA1 : A ≤ 255) (ht : Tab w) :
    Calls Tryd.prog 5 #[.slice a P.length c, .int .u8 A] w fun e w' => e = .returned (.bool true) ∧ Below w.heap.size w w' := by
  by_cases h : P.length ≤ 8
  · exact pjoin_short a c P A w h hA0 hA1 hin ol ht
  · exact pjoin_long a c P A w h ht
end Go.Proofs.YtipnaonagepolaaDoor
