/- The document's own tags (package truchmanref16): May, Text, Read. -/
import Derived.Test.YtipnaonagepolaaDoorZD
import Derived.Test.YtipnaonagepolaaDoorVAlk
namespace Go.Proofs.YtipnaonagepolaaDoor
open Go Go.RowKit
set_option linter.unusedVariables false

set_option maxRecDepth 10000 in
theorem rmay_way (n v : Int) (w : World) (x y : Bool) (p1 : decide (1 ≤ n) = x) (p2 : decide (n ≤ 536870911) = y) (hv : v = 0 ∨ v = 1 ∨ v = 2 ∨ v = 5) :
    Calls Tryd.prog 61 #[.int .i64 n, .int .i64 v] w fun e w' => e = .returned (.bool (x && y)) ∧ w' = w := by
  cases x <;> cases y <;> rcases hv with rfl | rfl | rfl | rfl <;>
    (go_enter Tryd.func61, Tryd.ntmps61
     go_wp2
     go_ret
     exact ⟨rfl, rfl⟩)
theorem rmay_none (n v : Int) (w : World) (x y : Bool) (q1 : decide (1 ≤ n) = x) (q2 : decide (n ≤ 536870911) = y) (h0 : ¬ v = 0) (h1 : ¬ v = 1) (h2 : ¬ v = 2) (h5 : ¬ v = 5) :
    Calls Tryd.prog 61 #[.int .i64 n, .int .i64 v] w fun e w' => e = .returned (.bool false) ∧ w' = w := by
  have p0 : (v == 0) = false := beq_eq_false_iff_ne.mpr h0
  have p1 : (v == 1) = false := beq_eq_false_iff_ne.mpr h1
  have p2 : (v == 2) = false := beq_eq_false_iff_ne.mpr h2
  have p5 : (v == 5) = false := beq_eq_false_iff_ne.mpr h5
  clear h0 h1 h2 h5
  cases x <;> cases y <;>
    (go_enter Tryd.func61, Tryd.ntmps61
     go_wp2
     go_ret
     exact ⟨rfl, rfl⟩)
theorem rmay_any (n v : Int) (w : World) :
    Calls Tryd.prog 61 #[.int .i64 n, .int .i64 v] w fun e w' => e = .returned (.bool (tagB n v)) ∧ w' = w := by
  by_cases hv : v = 0 ∨ v = 1 ∨ v = 2 ∨ v = 5
  · have e : tagB n v = (decide (1 ≤ n) && decide (n ≤ 536870911)) := by unfold tagB; simp [hv]
    rw [e]; exact rmay_way n v w _ _ rfl rfl hv
  · have e : tagB n v = false := by unfold tagB; simp [hv]
    rw [e]; exact rmay_none n v w _ _ rfl rfl (fun h => hv (.inl h)) (fun h => hv (.inr (.inl h))) (fun h => hv (.inr (.inr (.inl h)))) (fun h => hv (.inr (.inr (.inr h))))


/-- Three results: a cursor in a variable of its own, two numbers. -/
theorem cur_result3 {P : Program} {T : TypeId} {d : TypeDesc} (hu : P.underlying T = some d) (hd : (match d with | .struct _ | .array _ _ => true | _ => false) = true) (hi : (P.info? T).map (·.size) = some 4)
    {fn : Func} {p u v : Tmp} (h : fn.results = #[.cell p T, .tmp u, .tmp v]) {tmps : Array Value} {w : World} {g : Nat} {t : TypeId} {c : CS} {x y : Value} (hg : CurT t w g c) (hp : tmps.getD p undef = .pointer (some ⟨g, 0, none⟩)) (hx : tmps.getD u undef = x) (hy : tmps.getD v undef = y) :
    (results fn tmps).run P w = .ok (.tuple #[c.val, x, y]) w := by
  have hq := run_loadVar_row (P := P) w g t T #[.string c.s, .int .i64 c.at_, .int .i64 c.en, .int .i64 c.er] (0, 0) d hg hu hd hi
  have hp' : tmps[p]?.getD undef = .pointer (some ⟨g, 0, none⟩) := by simpa using hp
  have hx' : tmps[u]?.getD undef = x := by simpa using hx
  have hy' : tmps[v]?.getD undef = y := by simpa using hy
  simp [results, h, hp', hx', hy', asAddr, hq, CS.val]

/-- What a tag's reading makes of a cursor that is alike. -/
theorem gTo_alike {c d : CS} (h : Alike c.vTo d) : Alike c.gTo (if d.er = 0 ∧ mN c.vVal = 0 then { d with er := 14 } else d) := by
  obtain ⟨h1, h2, h3, h4, h5⟩ := h
  by_cases hm : mN c.vVal = 0
  · rw [CS.gTo_no hm]
    by_cases h0 : d.er = 0
    · rw [if_pos ⟨h0, hm⟩]
      have e := h4 (by rw [h3]; exact h0)
      have : c.vTo.fail 14 = { d with er := 14 } := by rw [e]; unfold CS.fail; rw [if_pos h0]
      rw [this]
      exact ⟨h2, h2, rfl, fun _ => rfl, rfl⟩
    · rw [if_neg (fun x => h0 x.1)]
      have : c.vTo.fail 14 = c.vTo := by unfold CS.fail; rw [if_neg (by rw [h3]; exact h0)]
      rw [this]
      exact ⟨h1, h2, h3, h4, h5⟩
  · rw [CS.gTo_yes hm, if_neg (fun x => hm x.2)]
    exact ⟨h1, h2, h3, h4, h5⟩

set_option maxRecDepth 10000 in
set_option maxHeartbeats 1000000 in
theorem rtread_bad {c r : CS} (ha : Alike c r) (hs : r.s.size ≤ 140737488351232) (w : World) (h : ¬ c.vTo.er = 0) :
    Calls Tryd.prog 43 #[.agg #[.string r.s, .int .i64 r.at_, .int .i64 r.en, .int .i64 r.er]] w fun e w' => ∃ d, e = .returned (.tuple #[.agg #[.string d.s, .int .i64 d.at_, .int .i64 d.en, .int .i64 d.er], .int .i64 (mN c.vVal : Nat), .int .i64 (mW c.vVal : Nat)]) ∧ Alike c.gTo d ∧ d.s = r.s ∧ Below w.heap.size w w' := by
  obtain ⟨u, hu⟩ : ∃ u, u = c.vVal := ⟨_, rfl⟩
  have HV := Lib.hid (fun w => rr_l (V := ((c.vVal : Nat) : Int)) (Lib.hid rfl) (Lib.hid ha) hs w)
  have hU := CS.vVal_lt c
  have HG := Lib.hid (fun d => gTo_alike (c := c) (d := d))
  have hE := Lib.hid (show c.vTo.er = c.vTo.er from rfl)
  have HN := Lib.hid (show mN c.vVal = 0 ∧ mW c.vVal = 0 by
    have e : c.vCode ≠ 0 := fun e => h (by rw [CS.vTo_er]; exact e)
    have e0 : c.vVal = 0 := by unfold CS.vVal; rw [if_neg e]
    rw [e0]; exact ⟨rfl, rfl⟩)
  rw [← hu] at HV HG hU HN ⊢
  clear ha hu hU
  go_enter Tryd.func43, Tryd.ntmps43
  go_wp2_with fail
  with_reducible refine (HV.out _).mono ?_
  rintro e w1 ⟨d, rfl, hal, hds, b1⟩
  have h0 := hal.2.2.1
  obtain ⟨q1, q2, B1⟩ := two_laid (c := r) (d := CS.zero) _ b1
  have hDS := Lib.hid hds
  have hG := Lib.hid (HG.out d hal)
  have S1 := Lib.hid (q1.setAll d)
  have S2 := Lib.hid ((Only.setAll w1 w.heap.size d).cur q2 (by omega))
  have B2 := Lib.hid (B1.trans ((Only.setAll w1 w.heap.size d).below (Nat.le_refl _) B1.size))
  have a0 := q1.c0; have a1 := q1.c1; have a2 := q1.c2; have a3 := q1.c3; have af := q1.fr
  have z0 := q2.c0; have z1 := q2.c1; have z2 := q2.c2; have z3 := q2.c3; have zf := q2.fr
  clear b1 hds B1 hal HV HG q1 q2
  have p0 : (d.er != 0) = true := by rw [← h0]; simp [h]
  have HR := Lib.hid (show Alike c.gTo d from by have := hG.out; rwa [if_neg (fun x => h (h0.trans x.1))] at this)
  clear h0 h
  have S3 := Lib.hid (S2.out.setAll d)
  have B3 := Lib.hid (B2.out.trans ((Only.setAll ((((w1.setCell ⟨w.heap.size, 0, none⟩ (.string d.s)).setCell ⟨w.heap.size, 1, none⟩ (.int .i64 d.at_)).setCell ⟨w.heap.size, 2, none⟩ (.int .i64 d.en)).setCell ⟨w.heap.size, 3, none⟩ (.int .i64 d.er)) (w.heap.size + 1) d).below (Nat.le_succ _) B2.out.size))
  clear S1 S2 B2
  go_wp2
  exact bodyPost_ret (cur_result3 Tryd.underlying69 rfl (by kernel_rfl) Tryd.results43 S3.out rfl rfl rfl) rfl ⟨d, by rw [HN.out.1, HN.out.2]; rfl, HR.out, hDS.out, B3.out⟩

set_option maxRecDepth 10000 in
set_option maxHeartbeats 1000000 in
theorem rtread_great {c r : CS} (ha : Alike c r) (hs : r.s.size ≤ 140737488351232) (w : World) (h : c.vTo.er = 0) (hb : tagB (c.vVal / 8 : Nat) (c.vVal % 8 : Nat) = false) (hg : 536870911 < c.vVal / 8) :
    Calls Tryd.prog 43 #[.agg #[.string r.s, .int .i64 r.at_, .int .i64 r.en, .int .i64 r.er]] w fun e w' => ∃ d, e = .returned (.tuple #[.agg #[.string d.s, .int .i64 d.at_, .int .i64 d.en, .int .i64 d.er], .int .i64 (mN c.vVal : Nat), .int .i64 (mW c.vVal : Nat)]) ∧ Alike c.gTo d ∧ d.s = r.s ∧ Below w.heap.size w w' := by
  obtain ⟨u, hu⟩ : ∃ u, u = c.vVal := ⟨_, rfl⟩
  have HV := Lib.hid (fun w => rr_l (V := ((c.vVal : Nat) : Int)) (Lib.hid rfl) (Lib.hid ha) hs w)
  have hU := CS.vVal_lt c
  have HG := Lib.hid (fun d => gTo_alike (c := c) (d := d))
  have hE := Lib.hid h
  have HN := Lib.hid (mN_no hb)
  rw [← hu] at HV HG hU HN ⊢
  rw [← hu] at hg
  clear hb
  obtain ⟨q, hq⟩ : ∃ q, q = u / 8 := ⟨_, rfl⟩
  obtain ⟨t, ht⟩ : ∃ t, t = u % 8 := ⟨_, rfl⟩
  have m1 : (u : Int).tmod 8 = (t : Int) := by rw [Int.tmod_eq_emod_of_nonneg (by omega)]; omega
  have m1' : (u : Int) % 8 = (t : Int) := by omega
  have m2 : (u : Int) / 8 = (q : Int) := by omega
  have m2' : (u : Int).tdiv 8 = (q : Int) := by rw [Int.tdiv_eq_ediv_of_nonneg (by omega)]; omega
  have m3 : IntKind.i64.wrap (q : Int) = (q : Int) := IntWalk.i64_in _ (by omega)
  have m4 : IntKind.i64.wrap (t : Int) = (t : Int) := IntWalk.i64_in _ (by omega)
  have m5 : IntKind.u64.wrap (q : Int) = (q : Int) := IntWalk.u64_in _ (by omega)
  have m6 : IntKind.u64.wrap (t : Int) = (t : Int) := IntWalk.u64_in _ (by omega)
  have p1 : decide (536870911 < (q : Int)) = true := decide_eq_true (by omega)
  have p1' : decide (536870911 < q) = true := decide_eq_true (by omega)
  clear hg hq ht
  clear ha hu hU
  go_enter Tryd.func43, Tryd.ntmps43
  go_wp2_with fail
  with_reducible refine (HV.out _).mono ?_
  rintro e w1 ⟨d, rfl, hal, hds, b1⟩
  have h0 := hal.2.2.1
  rw [hE.out] at h0
  obtain ⟨q1, q2, B1⟩ := two_laid (c := r) (d := CS.zero) _ b1
  have hDS := Lib.hid hds
  have hG := Lib.hid (HG.out d hal)
  have S1 := Lib.hid (q1.setAll d)
  have S2 := Lib.hid ((Only.setAll w1 w.heap.size d).cur q2 (by omega))
  have B2 := Lib.hid (B1.trans ((Only.setAll w1 w.heap.size d).below (Nat.le_refl _) B1.size))
  have a0 := q1.c0; have a1 := q1.c1; have a2 := q1.c2; have a3 := q1.c3; have af := q1.fr
  have z0 := q2.c0; have z1 := q2.c1; have z2 := q2.c2; have z3 := q2.c3; have zf := q2.fr
  clear b1 hds B1 hal HV HG q1 q2
  have p0 : (d.er != 0) = false := by rw [← h0]; rfl
  have HR := Lib.hid (show Alike c.gTo { d with er := 14 } from by have := hG.out; rwa [if_pos ⟨h0.symm, HN.out.1⟩] at this)
  have HF := Lib.hid (fun w => ref_fail0 d 14 w h0.symm)
  clear h0
  go_wp2_with fail
  obtain ⟨w2, hw2⟩ : ∃ w2, w2 = ((((w1.setCell ⟨w.heap.size, 0, none⟩ (.string d.s)).setCell ⟨w.heap.size, 1, none⟩ (.int .i64 d.at_)).setCell ⟨w.heap.size, 2, none⟩ (.int .i64 d.en)).setCell ⟨w.heap.size, 3, none⟩ (.int .i64 d.er)) := ⟨_, rfl⟩
  rw [← hw2] at S1 S2 B2 ⊢
  have y0 := S1.out.c0; have y1 := S1.out.c1; have y2 := S1.out.c2; have y3 := S1.out.c3
  clear hw2 a0 a1 a2 a3 af z0 z1 z2 z3 zf
  with_reducible refine (HF.out _).mono ?_
  rintro e w3 ⟨rfl, b3⟩
  have q3 := Below.cur b3 S2.out S2.out.lt
  have B3 := Lib.hid (below_on B2.out b3 B2.out.size)
  have z0 := q3.c0; have z1 := q3.c1; have z2 := q3.c2; have z3 := q3.c3; have zf := q3.fr
  have S3 := Lib.hid (q3.setAll { d with er := 14 })
  have B4 := Lib.hid (B3.out.trans ((Only.setAll w3 (w.heap.size + 1) { d with er := 14 }).below (Nat.le_succ _) B3.out.size))
  clear b3 q3 y0 y1 y2 y3
  go_wp2
  exact bodyPost_ret (cur_result3 Tryd.underlying69 rfl (by kernel_rfl) Tryd.results43 S3.out rfl rfl rfl) rfl ⟨{ d with er := 14 }, by rw [HN.out.1, HN.out.2]; rfl, HR.out, hDS.out, B4.out⟩

set_option maxRecDepth 10000 in
set_option maxHeartbeats 1000000 in
theorem rtread_none {c r : CS} (ha : Alike c r) (hs : r.s.size ≤ 140737488351232) (w : World) (h : c.vTo.er = 0) (hb : tagB (c.vVal / 8 : Nat) (c.vVal % 8 : Nat) = false) (hg : ¬ 536870911 < c.vVal / 8) :
    Calls Tryd.prog 43 #[.agg #[.string r.s, .int .i64 r.at_, .int .i64 r.en, .int .i64 r.er]] w fun e w' => ∃ d, e = .returned (.tuple #[.agg #[.string d.s, .int .i64 d.at_, .int .i64 d.en, .int .i64 d.er], .int .i64 (mN c.vVal : Nat), .int .i64 (mW c.vVal : Nat)]) ∧ Alike c.gTo d ∧ d.s = r.s ∧ Below w.heap.size w w' := by
  obtain ⟨u, hu⟩ : ∃ u, u = c.vVal := ⟨_, rfl⟩
  have HV := Lib.hid (fun w => rr_l (V := ((c.vVal : Nat) : Int)) (Lib.hid rfl) (Lib.hid ha) hs w)
  have hU := CS.vVal_lt c
  have HG := Lib.hid (fun d => gTo_alike (c := c) (d := d))
  have hE := Lib.hid h
  have HN := Lib.hid (mN_no hb)
  rw [← hu] at HV HG hU HN ⊢
  rw [← hu] at hg hb
  obtain ⟨q, hq⟩ : ∃ q, q = u / 8 := ⟨_, rfl⟩
  obtain ⟨t, ht⟩ : ∃ t, t = u % 8 := ⟨_, rfl⟩
  have m1 : (u : Int).tmod 8 = (t : Int) := by rw [Int.tmod_eq_emod_of_nonneg (by omega)]; omega
  have m1' : (u : Int) % 8 = (t : Int) := by omega
  have m2 : (u : Int) / 8 = (q : Int) := by omega
  have m2' : (u : Int).tdiv 8 = (q : Int) := by rw [Int.tdiv_eq_ediv_of_nonneg (by omega)]; omega
  have m3 : IntKind.i64.wrap (q : Int) = (q : Int) := IntWalk.i64_in _ (by omega)
  have m4 : IntKind.i64.wrap (t : Int) = (t : Int) := IntWalk.i64_in _ (by omega)
  have m5 : IntKind.u64.wrap (q : Int) = (q : Int) := IntWalk.u64_in _ (by omega)
  have m6 : IntKind.u64.wrap (t : Int) = (t : Int) := IntWalk.u64_in _ (by omega)
  have HM := Lib.hid (fun w => rmay_any (q : Int) (t : Int) w)
  rw [← hq, ← ht] at hb
  rw [hb] at HM
  have p1 : decide (536870911 < (q : Int)) = false := decide_eq_false (by omega)
  have p1' : decide (536870911 < q) = false := decide_eq_false (by omega)
  clear hg hb hq ht
  clear ha hu hU
  go_enter Tryd.func43, Tryd.ntmps43
  go_wp2_with fail
  with_reducible refine (HV.out _).mono ?_
  rintro e w1 ⟨d, rfl, hal, hds, b1⟩
  have h0 := hal.2.2.1
  rw [hE.out] at h0
  obtain ⟨q1, q2, B1⟩ := two_laid (c := r) (d := CS.zero) _ b1
  have hDS := Lib.hid hds
  have hG := Lib.hid (HG.out d hal)
  have S1 := Lib.hid (q1.setAll d)
  have S2 := Lib.hid ((Only.setAll w1 w.heap.size d).cur q2 (by omega))
  have B2 := Lib.hid (B1.trans ((Only.setAll w1 w.heap.size d).below (Nat.le_refl _) B1.size))
  have a0 := q1.c0; have a1 := q1.c1; have a2 := q1.c2; have a3 := q1.c3; have af := q1.fr
  have z0 := q2.c0; have z1 := q2.c1; have z2 := q2.c2; have z3 := q2.c3; have zf := q2.fr
  clear b1 hds B1 hal HV HG q1 q2
  have p0 : (d.er != 0) = false := by rw [← h0]; rfl
  have HR := Lib.hid (show Alike c.gTo { d with er := 14 } from by have := hG.out; rwa [if_pos ⟨h0.symm, HN.out.1⟩] at this)
  have HF := Lib.hid (fun w => ref_fail0 d 14 w h0.symm)
  clear h0
  go_wp2_with fail
  obtain ⟨w2, hw2⟩ : ∃ w2, w2 = ((((w1.setCell ⟨w.heap.size, 0, none⟩ (.string d.s)).setCell ⟨w.heap.size, 1, none⟩ (.int .i64 d.at_)).setCell ⟨w.heap.size, 2, none⟩ (.int .i64 d.en)).setCell ⟨w.heap.size, 3, none⟩ (.int .i64 d.er)) := ⟨_, rfl⟩
  rw [← hw2] at S1 S2 B2 ⊢
  have y0 := S1.out.c0; have y1 := S1.out.c1; have y2 := S1.out.c2; have y3 := S1.out.c3
  clear hw2 a0 a1 a2 a3 af z0 z1 z2 z3 zf
  with_reducible refine (HM.out _).mono ?_
  rintro e w2' ⟨rfl, hww⟩
  rw [hww]
  clear hww
  go_wp2_with fail
  with_reducible refine (HF.out _).mono ?_
  rintro e w3 ⟨rfl, b3⟩
  have q3 := Below.cur b3 S2.out S2.out.lt
  have B3 := Lib.hid (below_on B2.out b3 B2.out.size)
  have z0 := q3.c0; have z1 := q3.c1; have z2 := q3.c2; have z3 := q3.c3; have zf := q3.fr
  have S3 := Lib.hid (q3.setAll { d with er := 14 })
  have B4 := Lib.hid (B3.out.trans ((Only.setAll w3 (w.heap.size + 1) { d with er := 14 }).below (Nat.le_succ _) B3.out.size))
  clear b3 q3 y0 y1 y2 y3
  go_wp2
  exact bodyPost_ret (cur_result3 Tryd.underlying69 rfl (by kernel_rfl) Tryd.results43 S3.out rfl rfl rfl) rfl ⟨{ d with er := 14 }, by rw [HN.out.1, HN.out.2]; rfl, HR.out, hDS.out, B4.out⟩

set_option maxRecDepth 10000 in
set_option maxHeartbeats 1000000 in
theorem rtread_good {c r : CS} (ha : Alike c r) (hs : r.s.size ≤ 140737488351232) (w : World) (h : c.vTo.er = 0) (hb : tagB (c.vVal / 8 : Nat) (c.vVal % 8 : Nat) = true) :
    Calls Tryd.prog 43 #[.agg #[.string r.s, .int .i64 r.at_, .int .i64 r.en, .int .i64 r.er]] w fun e w' => ∃ d, e = .returned (.tuple #[.agg #[.string d.s, .int .i64 d.at_, .int .i64 d.en, .int .i64 d.er], .int .i64 (mN c.vVal : Nat), .int .i64 (mW c.vVal : Nat)]) ∧ Alike c.gTo d ∧ d.s = r.s ∧ Below w.heap.size w w' := by
  obtain ⟨u, hu⟩ : ∃ u, u = c.vVal := ⟨_, rfl⟩
  have HV := Lib.hid (fun w => rr_l (V := ((c.vVal : Nat) : Int)) (Lib.hid rfl) (Lib.hid ha) hs w)
  have hU := CS.vVal_lt c
  have HG := Lib.hid (fun d => gTo_alike (c := c) (d := d))
  have hE := Lib.hid h
  have HN := Lib.hid (mN_yes hb)
  rw [← hu] at HV HG hU HN ⊢
  rw [← hu] at hb
  obtain ⟨q, hq⟩ : ∃ q, q = u / 8 := ⟨_, rfl⟩
  obtain ⟨t, ht⟩ : ∃ t, t = u % 8 := ⟨_, rfl⟩
  have m1 : (u : Int).tmod 8 = (t : Int) := by rw [Int.tmod_eq_emod_of_nonneg (by omega)]; omega
  have m1' : (u : Int) % 8 = (t : Int) := by omega
  have m2 : (u : Int) / 8 = (q : Int) := by omega
  have m2' : (u : Int).tdiv 8 = (q : Int) := by rw [Int.tdiv_eq_ediv_of_nonneg (by omega)]; omega
  have m3 : IntKind.i64.wrap (q : Int) = (q : Int) := IntWalk.i64_in _ (by omega)
  have m4 : IntKind.i64.wrap (t : Int) = (t : Int) := IntWalk.i64_in _ (by omega)
  have m5 : IntKind.u64.wrap (q : Int) = (q : Int) := IntWalk.u64_in _ (by omega)
  have m6 : IntKind.u64.wrap (t : Int) = (t : Int) := IntWalk.u64_in _ (by omega)
  have HM := Lib.hid (fun w => rmay_any (q : Int) (t : Int) w)
  rw [← hq, ← ht] at hb HN
  rw [hb] at HM
  have hq2 := tag_yes hb
  have HZ := Lib.hid (show ¬ mN u = 0 by rw [HN.out.1]; omega)
  have p1 : decide (536870911 < (q : Int)) = false := decide_eq_false (by omega)
  have p1' : decide (536870911 < q) = false := decide_eq_false (by omega)
  clear hb hq2 hq ht
  clear ha hu hU
  go_enter Tryd.func43, Tryd.ntmps43
  go_wp2_with fail
  with_reducible refine (HV.out _).mono ?_
  rintro e w1 ⟨d, rfl, hal, hds, b1⟩
  have h0 := hal.2.2.1
  rw [hE.out] at h0
  obtain ⟨q1, q2, B1⟩ := two_laid (c := r) (d := CS.zero) _ b1
  have hDS := Lib.hid hds
  have hG := Lib.hid (HG.out d hal)
  have S1 := Lib.hid (q1.setAll d)
  have S2 := Lib.hid ((Only.setAll w1 w.heap.size d).cur q2 (by omega))
  have B2 := Lib.hid (B1.trans ((Only.setAll w1 w.heap.size d).below (Nat.le_refl _) B1.size))
  have a0 := q1.c0; have a1 := q1.c1; have a2 := q1.c2; have a3 := q1.c3; have af := q1.fr
  have z0 := q2.c0; have z1 := q2.c1; have z2 := q2.c2; have z3 := q2.c3; have zf := q2.fr
  clear b1 hds B1 hal HV HG q1 q2
  have p0 : (d.er != 0) = false := by rw [← h0]; rfl
  clear h0
  have HR := Lib.hid (show Alike c.gTo d from by have := hG.out; rwa [if_neg (fun x => HZ.out x.2)] at this)
  go_wp2_with fail
  obtain ⟨w2, hw2⟩ : ∃ w2, w2 = ((((w1.setCell ⟨w.heap.size, 0, none⟩ (.string d.s)).setCell ⟨w.heap.size, 1, none⟩ (.int .i64 d.at_)).setCell ⟨w.heap.size, 2, none⟩ (.int .i64 d.en)).setCell ⟨w.heap.size, 3, none⟩ (.int .i64 d.er)) := ⟨_, rfl⟩
  rw [← hw2] at S1 S2 B2 ⊢
  have y0 := S1.out.c0; have y1 := S1.out.c1; have y2 := S1.out.c2; have y3 := S1.out.c3
  have z0 := S2.out.c0; have z1 := S2.out.c1; have z2 := S2.out.c2; have z3 := S2.out.c3; have zf := S2.out.fr
  clear hw2 a0 a1 a2 a3 af
  with_reducible refine (HM.out _).mono ?_
  rintro e w2' ⟨rfl, hww⟩
  rw [hww]
  clear hww
  have S3 := Lib.hid (S2.out.setAll d)
  have B3 := Lib.hid (B2.out.trans ((Only.setAll w2 (w.heap.size + 1) d).below (Nat.le_succ _) B2.out.size))
  clear S1 S2 B2
  go_wp2
  exact bodyPost_ret (cur_result3 Tryd.underlying69 rfl (by kernel_rfl) Tryd.results43 S3.out rfl rfl rfl) rfl ⟨d, by rw [HN.out.1, HN.out.2]; rfl, HR.out, hDS.out, B3.out⟩

theorem rtread_any {c r : CS} (ha : Alike c r) (hs : r.s.size ≤ 140737488351232) (w : World) :
    Calls Tryd.prog 43 #[.agg #[.string r.s, .int .i64 r.at_, .int .i64 r.en, .int .i64 r.er]] w fun e w' => ∃ d, e = .returned (.tuple #[.agg #[.string d.s, .int .i64 d.at_, .int .i64 d.en, .int .i64 d.er], .int .i64 (mN c.vVal : Nat), .int .i64 (mW c.vVal : Nat)]) ∧ Alike c.gTo d ∧ d.s = r.s ∧ Below w.heap.size w w' := by
  by_cases h : c.vTo.er = 0
  · rcases Bool.eq_false_or_eq_true (tagB (c.vVal / 8 : Nat) (c.vVal % 8 : Nat)) with hb | hb
    · exact rtread_good ha hs w h hb
    · by_cases hg : 536870911 < c.vVal / 8
      · exact rtread_great ha hs w h hb hg
      · exact rtread_none ha hs w h hb hg
  · exact rtread_bad ha hs w h
end Go.Proofs.YtipnaonagepolaaDoor
