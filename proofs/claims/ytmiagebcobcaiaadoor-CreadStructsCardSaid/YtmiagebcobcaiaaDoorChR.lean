/- The document's own heads (package truchmanref20): Is, number, bytes, size; what holds of both sides. -/
import Derived.Test.YtmiagebcobcaiaaDoorChNum
import Derived.Test.YtmiagebcobcaiaaDoorRefY
namespace Go.Proofs.YtmiagebcobcaiaaDoor
open Go Go.RowKit
set_option linter.unusedVariables false

theorem ris_any (k : Nat) (w : World) :
    Calls Tryd.prog 47 #[.int .u8 (k : Nat)] w fun e w' => e = .returned (.bool (kB k)) ∧ w' = w := by
  unfold kB
  rcases Bool.eq_false_or_eq_true (decide (1 ≤ k)) with h1 | h1 <;> rcases Bool.eq_false_or_eq_true (decide (k ≤ 12)) with h2 | h2 <;>
    (have p1 : decide ((1 : Int) ≤ (k : Int)) = decide (1 ≤ k) := by apply decide_eq_decide.mpr; omega
     have p1' : decide ((k : Int) ≥ 1) = decide (1 ≤ k) := by apply decide_eq_decide.mpr; omega
     have p2 : decide ((k : Int) ≤ 12) = decide (k ≤ 12) := by apply decide_eq_decide.mpr; omega
     rw [h1] at p1 p1'; rw [h2] at p2
     rw [h1, h2]
     have HK := Lib.hid (And.intro h1 h2)
     go_enter Tryd.func47, Tryd.ntmps47
     go_wp2
     go_ret
     exact ⟨rfl, rfl⟩)
theorem rnum_any (i : Int) (w : World) :
    Calls Tryd.prog 51 #[.int .i64 i] w fun e w' => e = .returned (.bool (numB i)) ∧ w' = w := by
  unfold numB
  rcases Bool.eq_false_or_eq_true (decide (-32768 ≤ i)) with h1 | h1 <;> rcases Bool.eq_false_or_eq_true (decide (i ≤ 32767)) with h2 | h2 <;>
    (rw [h1, h2]
     go_enter Tryd.func51, Tryd.ntmps51
     go_wp2
     go_ret
     exact ⟨rfl, rfl⟩)

theorem ris_l {k : Nat} {x : Bool} (hx : Hid (x = kB k)) (w : World) :
    Calls Tryd.prog 47 #[.int .u8 (k : Nat)] w fun e w' => e = .returned (.bool x) ∧ w' = w := by
  rw [hx.out]; exact ris_any k w
theorem rnum_l {i : Int} {x : Bool} (hx : Hid (x = numB i)) (w : World) :
    Calls Tryd.prog 51 #[.int .i64 i] w fun e w' => e = .returned (.bool x) ∧ w' = w := by
  rw [hx.out]; exact rnum_any i w
theorem rby_l {r d : CS} {x : Nat} (hd : Hid (d = r.byte)) (hx : Hid (r.peekB = (x : Int))) (hr : Hid r.ok) (w : World) :
    Calls Tryd.prog 46 #[.agg #[.string r.s, .int .i64 r.at_, .int .i64 r.en, .int .i64 r.er]] w fun e w' => e = .returned (.tuple #[.agg #[.string d.s, .int .i64 d.at_, .int .i64 d.en, .int .i64 d.er], .int .u8 (x : Nat)]) ∧ Below w.heap.size w w' := by
  have := ref_byte r w hr.out
  rw [hx.out, ← hd.out] at this; exact this

/-- The variable of a cursor and the result of one, each a block of the call's own. -/
structure R2 (w0 w : World) (x y : CS) : Prop where
  a : CurT 56 w w0.heap.size x
  b : CurT 56 w (w0.heap.size + 1) y
  k : Below w0.heap.size w0 w
theorem R2.start (w : World) (r : CS) : R2 w ((w.alloc (.cells #[.string r.s, .int .i64 r.at_, .int .i64 r.en, .int .i64 r.er] 56)).alloc (.cells #[.string ⟨#[]⟩, .int .i64 0, .int .i64 0, .int .i64 0] 56)) r CS.zero := by
  obtain ⟨h1, h2, h3⟩ := two_laid r CS.zero 56 (Below.refl _ ((w.alloc (.cells #[.string r.s, .int .i64 r.at_, .int .i64 r.en, .int .i64 r.er] 56)).alloc (.cells #[.string ⟨#[]⟩, .int .i64 0, .int .i64 0, .int .i64 0] 56)))
  exact ⟨h1, h2, h3⟩
theorem R2.call {w0 w w' : World} {x y : CS} (h : R2 w0 w x y) (hb : Below w.heap.size w w') : R2 w0 w' x y :=
  ⟨Below.cur hb h.a h.a.lt, Below.cur hb h.b h.b.lt, grown_then h.k hb⟩
theorem R2.setA {w0 w : World} {x y : CS} (h : R2 w0 w x y) (d : CS) : R2 w0 ((((w.setCell ⟨w0.heap.size, 0, none⟩ (.string d.s)).setCell ⟨w0.heap.size, 1, none⟩ (.int .i64 d.at_)).setCell ⟨w0.heap.size, 2, none⟩ (.int .i64 d.en)).setCell ⟨w0.heap.size, 3, none⟩ (.int .i64 d.er)) d y :=
  ⟨h.a.setAll d, (Only.setAll w w0.heap.size d).cur h.b (by omega), h.k.trans ((Only.setAll w w0.heap.size d).below (Nat.le_refl _) h.k.size)⟩
theorem R2.setB {w0 w : World} {x y : CS} (h : R2 w0 w x y) (d : CS) : R2 w0 ((((w.setCell ⟨w0.heap.size + 1, 0, none⟩ (.string d.s)).setCell ⟨w0.heap.size + 1, 1, none⟩ (.int .i64 d.at_)).setCell ⟨w0.heap.size + 1, 2, none⟩ (.int .i64 d.en)).setCell ⟨w0.heap.size + 1, 3, none⟩ (.int .i64 d.er)) x d :=
  ⟨(Only.setAll w (w0.heap.size + 1) d).cur h.a (by omega), h.b.setAll d, h.k.trans ((Only.setAll w (w0.heap.size + 1) d).below (Nat.le_succ _) h.k.size)⟩
theorem R2.alloc {w0 w : World} {x y : CS} (h : R2 w0 w x y) (o : Obj) : R2 w0 (w.alloc o) x y := h.call ((Below.refl _ _).alloc (Nat.le_refl _) _)
/-- Another block, behind these two, that is written. -/
theorem R2.setC {w0 w : World} {x y : CS} (h : R2 w0 w x y) {g : Nat} (hg : w0.heap.size + 1 < g) (d : CS) : R2 w0 ((((w.setCell ⟨g, 0, none⟩ (.string d.s)).setCell ⟨g, 1, none⟩ (.int .i64 d.at_)).setCell ⟨g, 2, none⟩ (.int .i64 d.en)).setCell ⟨g, 3, none⟩ (.int .i64 d.er)) x y :=
  ⟨(Only.setAll w g d).cur h.a (by omega), (Only.setAll w g d).cur h.b (by omega), h.k.trans ((Only.setAll w g d).below (by omega) h.k.size)⟩

/-- A cursor in a variable of its own, and one, two, three numbers, as results. -/
theorem curn_result {P : Program} {T : TypeId} {d : TypeDesc} (hu : P.underlying T = some d) (hd : (match d with | .struct _ | .array _ _ => true | _ => false) = true) (hi : (P.info? T).map (·.size) = some 4)
    {w : World} {g : Nat} {t : TypeId} {c : CS} (hg : CurT t w g c) :
    (loadVar T ⟨g, 0, none⟩).run P w = .ok (.agg #[.string c.s, .int .i64 c.at_, .int .i64 c.en, .int .i64 c.er]) w :=
  run_loadVar_row (P := P) w g t T #[.string c.s, .int .i64 c.at_, .int .i64 c.en, .int .i64 c.er] (0, 0) d hg hu hd hi
theorem cur_res2 {P : Program} {T : TypeId} {d : TypeDesc} (hu : P.underlying T = some d) (hd : (match d with | .struct _ | .array _ _ => true | _ => false) = true) (hi : (P.info? T).map (·.size) = some 4)
    {fn : Func} {p u : Tmp} (h : fn.results = #[.cell p T, .tmp u]) {tmps : Array Value} {w : World} {g : Nat} {t : TypeId} {c : CS} {x : Value} (hg : CurT t w g c) (hp : tmps.getD p undef = .pointer (some ⟨g, 0, none⟩)) (hx : tmps.getD u undef = x) :
    (results fn tmps).run P w = .ok (.tuple #[c.val, x]) w := by
  have hq := curn_result (P := P) hu hd hi hg
  have hp' : tmps[p]?.getD undef = .pointer (some ⟨g, 0, none⟩) := by simpa using hp
  have hx' : tmps[u]?.getD undef = x := by simpa using hx
  simp [results, h, hp', hx', asAddr, hq, CS.val]
theorem cur_res3 {P : Program} {T : TypeId} {d : TypeDesc} (hu : P.underlying T = some d) (hd : (match d with | .struct _ | .array _ _ => true | _ => false) = true) (hi : (P.info? T).map (·.size) = some 4)
    {fn : Func} {p u v : Tmp} (h : fn.results = #[.cell p T, .tmp u, .tmp v]) {tmps : Array Value} {w : World} {g : Nat} {t : TypeId} {c : CS} {x y : Value} (hg : CurT t w g c) (hp : tmps.getD p undef = .pointer (some ⟨g, 0, none⟩)) (hx : tmps.getD u undef = x) (hy : tmps.getD v undef = y) :
    (results fn tmps).run P w = .ok (.tuple #[c.val, x, y]) w := by
  have hq := curn_result (P := P) hu hd hi hg
  have hp' : tmps[p]?.getD undef = .pointer (some ⟨g, 0, none⟩) := by simpa using hp
  have hx' : tmps[u]?.getD undef = x := by simpa using hx
  have hy' : tmps[v]?.getD undef = y := by simpa using hy
  simp [results, h, hp', hx', hy', asAddr, hq, CS.val]
theorem cur_res4 {P : Program} {T : TypeId} {d : TypeDesc} (hu : P.underlying T = some d) (hd : (match d with | .struct _ | .array _ _ => true | _ => false) = true) (hi : (P.info? T).map (·.size) = some 4)
    {fn : Func} {p u v z : Tmp} (h : fn.results = #[.cell p T, .tmp u, .tmp v, .tmp z]) {tmps : Array Value} {w : World} {g : Nat} {t : TypeId} {c : CS} {x y q : Value} (hg : CurT t w g c) (hp : tmps.getD p undef = .pointer (some ⟨g, 0, none⟩)) (hx : tmps.getD u undef = x) (hy : tmps.getD v undef = y) (hz : tmps.getD z undef = q) :
    (results fn tmps).run P w = .ok (.tuple #[c.val, x, y, q]) w := by
  have hq := curn_result (P := P) hu hd hi hg
  have hp' : tmps[p]?.getD undef = .pointer (some ⟨g, 0, none⟩) := by simpa using hp
  have hx' : tmps[u]?.getD undef = x := by simpa using hx
  have hy' : tmps[v]?.getD undef = y := by simpa using hy
  have hz' : tmps[z]?.getD undef = q := by simpa using hz
  simp [results, h, hp', hx', hy', hz', asAddr, hq, CS.val]

set_option maxHeartbeats 1000000 in
theorem rsize_bad {c r : CS} (ha : Alike c r) (hs : r.s.size ≤ 140737488351232) (w : World) (h : ¬ c.vTo.er = 0) :
    Calls Tryd.prog 65 #[.agg #[.string r.s, .int .i64 r.at_, .int .i64 r.en, .int .i64 r.er]] w fun e w' => ∃ d, e = .returned (.tuple #[.agg #[.string d.s, .int .i64 d.at_, .int .i64 d.en, .int .i64 d.er], .int .i64 (c.sN : Nat)]) ∧ Alike c.sTo d ∧ d.s = r.s ∧ Below w.heap.size w w' := by
  have HE := Lib.hid (show c.vTo.er = c.vTo.er from rfl)
  have HR := Lib.hid (show c.sTo = c.vTo ∧ c.sN = 0 by
    have e : c.sTo = c.vTo := CS.want_bad h _ _
    unfold CS.sN; rw [e, if_neg h]; exact ⟨rfl, rfl⟩)
  obtain ⟨u, hu⟩ : ∃ u, u = c.vVal := ⟨_, rfl⟩
  have HV := Lib.hid (fun w => rr_l (V := ((c.vVal : Nat) : Int)) (Lib.hid rfl) (Lib.hid ha) hs w)
  have hU := CS.vVal_lt c
  rw [← hu] at HV hU
  clear ha hs hu
  have T0 := Lib.hid (R2.start w r)
  go_enter Tryd.func65, Tryd.ntmps65
  go_wp2_with fail
  with_reducible refine (HV.out _).mono ?_
  rintro e w1 ⟨d, rfl, hal, hds, b1⟩
  have T1 := Lib.hid (T0.out.call b1)
  have her := hal.2.2.1
  have HA := Lib.hid hal
  have HD := Lib.hid hds
  clear b1 hal hds
  have p1 : (d.er == 0) = false := by rw [← her]; exact beq_eq_false_iff_ne.mpr h
  have p2 : (d.er != 0) = true := by rw [← her]; simp [h]
  clear her h
  have a0 := T1.out.a.c0; have a1 := T1.out.a.c1; have a2 := T1.out.a.c2; have a3 := T1.out.a.c3; have af := T1.out.a.fr
  have z0 := T1.out.b.c0; have z1 := T1.out.b.c1; have z2 := T1.out.b.c2; have z3 := T1.out.b.c3; have zf := T1.out.b.fr
  have S2 := Lib.hid ((T1.out.setA d).setB d)
  simp only []
  repeat (first | go_values | go_skip | go_guarded | go_step | go_upon)
  exact bodyPost_ret (cur_res2 (x := .int .i64 0) Tryd.underlying56 rfl (by kernel_rfl) Tryd.results65 S2.out.b (by kernel_rfl) (by kernel_rfl)) rfl ⟨d, by rw [HR.out.2]; rfl, by rw [HR.out.1]; exact HA.out, HD.out, S2.out.k⟩

set_option maxHeartbeats 1000000 in
theorem rsize_great {c r : CS} (ha : Alike c r) (hs : r.s.size ≤ 140737488351232) (w : World) (h : c.vTo.er = 0) (hg : ¬ c.vVal ≤ 2147483647) :
    Calls Tryd.prog 65 #[.agg #[.string r.s, .int .i64 r.at_, .int .i64 r.en, .int .i64 r.er]] w fun e w' => ∃ d, e = .returned (.tuple #[.agg #[.string d.s, .int .i64 d.at_, .int .i64 d.en, .int .i64 d.er], .int .i64 (c.sN : Nat)]) ∧ Alike c.sTo d ∧ d.s = r.s ∧ Below w.heap.size w w' := by
  have HE := Lib.hid (show c.vTo.er = c.vTo.er from rfl)
  have HR := Lib.hid (show c.sTo = c.vTo.fail 4 ∧ c.sN = 0 by
    have e : c.sTo = c.vTo.fail 4 := by unfold CS.sTo; rw [decide_eq_false hg]; rfl
    unfold CS.sN; rw [e, CS.fail_er h, if_neg (by simp)]; exact ⟨rfl, rfl⟩)
  obtain ⟨u, hu⟩ : ∃ u, u = c.vVal := ⟨_, rfl⟩
  have HV := Lib.hid (fun w => rr_l (V := ((c.vVal : Nat) : Int)) (Lib.hid rfl) (Lib.hid ha) hs w)
  have hU := CS.vVal_lt c
  rw [← hu] at HV hU
  rw [← hu] at hg
  have p3 : decide ((2147483647 : Int) < (u : Int)) = true := decide_eq_true (by omega)
  have p3' : decide (2147483647 < u) = true := decide_eq_true (by omega)
  clear hg hU
  clear ha hs hu
  have T0 := Lib.hid (R2.start w r)
  go_enter Tryd.func65, Tryd.ntmps65
  go_wp2_with fail
  with_reducible refine (HV.out _).mono ?_
  rintro e w1 ⟨d, rfl, hal, hds, b1⟩
  have T1 := Lib.hid (T0.out.call b1)
  have her := hal.2.2.1
  have HA := Lib.hid hal
  have HD := Lib.hid hds
  clear b1 hal hds
  rw [h] at her
  have p1 : (d.er == 0) = true := by rw [← her]; rfl
  have p2 : (d.er != 0) = false := by rw [← her]; rfl
  have HF := Lib.hid (fun w => ref_fail0 d 4 w her.symm)
  have HQ := Lib.hid (HA.out.fail her.symm 4)
  clear her h
  have a0 := T1.out.a.c0; have a1 := T1.out.a.c1; have a2 := T1.out.a.c2; have a3 := T1.out.a.c3; have af := T1.out.a.fr
  have z0 := T1.out.b.c0; have z1 := T1.out.b.c1; have z2 := T1.out.b.c2; have z3 := T1.out.b.c3; have zf := T1.out.b.fr
  go_wp2_with fail
  have T2 := Lib.hid (T1.out.setA d)
  obtain ⟨w2, hw2⟩ : ∃ W, W = ((((w1.setCell ⟨w.heap.size, 0, none⟩ (.string d.s)).setCell ⟨w.heap.size, 1, none⟩ (.int .i64 d.at_)).setCell ⟨w.heap.size, 2, none⟩ (.int .i64 d.en)).setCell ⟨w.heap.size, 3, none⟩ (.int .i64 d.er)) := ⟨_, rfl⟩
  rw [← hw2] at T2 ⊢
  clear hw2
  clear a0 a1 a2 a3 af z0 z1 z2 z3 zf
  have a0 := T2.out.a.c0; have a1 := T2.out.a.c1; have a2 := T2.out.a.c2; have a3 := T2.out.a.c3; have af := T2.out.a.fr
  have z0 := T2.out.b.c0; have z1 := T2.out.b.c1; have z2 := T2.out.b.c2; have z3 := T2.out.b.c3; have zf := T2.out.b.fr
  with_reducible refine (HF.out _).mono ?_
  rintro e w3 ⟨rfl, b3⟩
  have T3 := Lib.hid (T2.out.call b3)
  clear b3
  clear a0 a1 a2 a3 af z0 z1 z2 z3 zf
  have a0 := T3.out.a.c0; have a1 := T3.out.a.c1; have a2 := T3.out.a.c2; have a3 := T3.out.a.c3; have af := T3.out.a.fr
  have z0 := T3.out.b.c0; have z1 := T3.out.b.c1; have z2 := T3.out.b.c2; have z3 := T3.out.b.c3; have zf := T3.out.b.fr
  have S3 := Lib.hid ((T3.out.setA { d with er := 4 }).setB { d with er := 4 })
  simp only []
  repeat (first | go_values | go_skip | go_guarded | go_step | go_upon)
  exact bodyPost_ret (cur_res2 (x := .int .i64 0) Tryd.underlying56 rfl (by kernel_rfl) Tryd.results65 S3.out.b (by kernel_rfl) (by kernel_rfl)) rfl ⟨{ d with er := 4 }, by rw [HR.out.2]; rfl, by rw [HR.out.1]; exact HQ.out, HD.out, S3.out.k⟩

set_option maxHeartbeats 1000000 in
theorem rsize_good {c r : CS} (ha : Alike c r) (hs : r.s.size ≤ 140737488351232) (w : World) (h : c.vTo.er = 0) (hg : c.vVal ≤ 2147483647) :
    Calls Tryd.prog 65 #[.agg #[.string r.s, .int .i64 r.at_, .int .i64 r.en, .int .i64 r.er]] w fun e w' => ∃ d, e = .returned (.tuple #[.agg #[.string d.s, .int .i64 d.at_, .int .i64 d.en, .int .i64 d.er], .int .i64 (c.sN : Nat)]) ∧ Alike c.sTo d ∧ d.s = r.s ∧ Below w.heap.size w w' := by
  have HE := Lib.hid (show c.vTo.er = c.vTo.er from rfl)
  have HR := Lib.hid (show c.sTo = c.vTo ∧ c.sN = c.vVal by
    have e : c.sTo = c.vTo := by unfold CS.sTo; rw [decide_eq_true hg]; rfl
    unfold CS.sN; rw [e, if_pos h]; exact ⟨rfl, rfl⟩)
  obtain ⟨u, hu⟩ : ∃ u, u = c.vVal := ⟨_, rfl⟩
  have HV := Lib.hid (fun w => rr_l (V := ((c.vVal : Nat) : Int)) (Lib.hid rfl) (Lib.hid ha) hs w)
  have hU := CS.vVal_lt c
  rw [← hu] at HV hU
  rw [← hu] at hg HR
  have p3 : decide ((2147483647 : Int) < (u : Int)) = false := decide_eq_false (by omega)
  have p3' : decide (2147483647 < u) = false := decide_eq_false (by omega)
  have m1 : wrap64 (u : Int) = (u : Int) := by unfold wrap64; omega
  have m2 : IntKind.i64.wrap (u : Int) = (u : Int) := IntWalk.i64_in _ (by omega)
  clear hg hU
  clear ha hs hu
  have T0 := Lib.hid (R2.start w r)
  go_enter Tryd.func65, Tryd.ntmps65
  go_wp2_with fail
  with_reducible refine (HV.out _).mono ?_
  rintro e w1 ⟨d, rfl, hal, hds, b1⟩
  have T1 := Lib.hid (T0.out.call b1)
  have her := hal.2.2.1
  have HA := Lib.hid hal
  have HD := Lib.hid hds
  clear b1 hal hds
  rw [h] at her
  have p1 : (d.er == 0) = true := by rw [← her]; rfl
  have p2 : (d.er != 0) = false := by rw [← her]; rfl
  clear her h
  have a0 := T1.out.a.c0; have a1 := T1.out.a.c1; have a2 := T1.out.a.c2; have a3 := T1.out.a.c3; have af := T1.out.a.fr
  have z0 := T1.out.b.c0; have z1 := T1.out.b.c1; have z2 := T1.out.b.c2; have z3 := T1.out.b.c3; have zf := T1.out.b.fr
  have S2 := Lib.hid ((T1.out.setA d).setB d)
  simp only []
  repeat (first | go_values | go_skip | go_guarded | go_step | go_upon)
  exact bodyPost_ret (cur_res2 (x := .int .i64 (u : Nat)) Tryd.underlying56 rfl (by kernel_rfl) Tryd.results65 S2.out.b (by kernel_rfl) (by kernel_rfl)) rfl ⟨d, by rw [HR.out.2]; rfl, by rw [HR.out.1]; exact HA.out, HD.out, S2.out.k⟩

theorem rsize_any {c r : CS} (ha : Alike c r) (hs : r.s.size ≤ 140737488351232) (w : World) :
    Calls Tryd.prog 65 #[.agg #[.string r.s, .int .i64 r.at_, .int .i64 r.en, .int .i64 r.er]] w fun e w' => ∃ d, e = .returned (.tuple #[.agg #[.string d.s, .int .i64 d.at_, .int .i64 d.en, .int .i64 d.er], .int .i64 (c.sN : Nat)]) ∧ Alike c.sTo d ∧ d.s = r.s ∧ Below w.heap.size w w' := by
  by_cases h : c.vTo.er = 0
  · by_cases hg : c.vVal ≤ 2147483647
    · exact rsize_good ha hs w h hg
    · exact rsize_great ha hs w h hg
  · exact rsize_bad ha hs w h
end Go.Proofs.YtmiagebcobcaiaaDoor
