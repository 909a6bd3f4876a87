/- Package cread: a reader in memory; truth, whole, text, raw, enter. -/
import Derived.Test.YtmcklfndnjagiaaDoorCrNum
import Derived.Test.YtmcklfndnjagiaaDoorSkD
import Derived.Test.YtmcklfndnjagiaaDoorFoldA
import Derived.Deep.QuietTactic
import Derived.BigQuiet
namespace Go.Proofs.YtmcklfndnjagiaaDoor
open Go Go.RowKit
set_option linter.unusedVariables false

/-- A reader: a text, a cursor, and within how many. -/
def rdV (s : ByteArray) (b : Nat) (deep : Int) : Value := .agg #[.string s, .pointer (some ⟨b, 0, none⟩), .int .i64 deep]
/-- Block g holds a reader. -/
def RdT (w : World) (g : Nat) (s : ByteArray) (p : Option Addr) (deep : Int) : Prop := w.heap[g]? = some (.cells #[.string s, .pointer p, .int .i64 deep] 68 (0, 0))
theorem RdT.c0 {w : World} {g : Nat} {s : ByteArray} {p : Option Addr} {deep : Int} (h : RdT w g s p deep) : w.cell? ⟨g, 0, none⟩ = some (.string s) := by unfold RdT at h; simp [World.cell?, h]
theorem RdT.c1 {w : World} {g : Nat} {s : ByteArray} {p : Option Addr} {deep : Int} (h : RdT w g s p deep) : w.cell? ⟨g, 1, none⟩ = some (.pointer p) := by unfold RdT at h; simp [World.cell?, h]
theorem RdT.c2 {w : World} {g : Nat} {s : ByteArray} {p : Option Addr} {deep : Int} (h : RdT w g s p deep) : w.cell? ⟨g, 2, none⟩ = some (.int .i64 deep) := by unfold RdT at h; simp [World.cell?, h]
theorem RdT.fr {w : World} {g : Nat} {s : ByteArray} {p : Option Addr} {deep : Int} (h : RdT w g s p deep) (o : Nat) : w.frozen? ⟨g, o, none⟩ = false := by unfold RdT at h; simp [World.frozen?, h]
theorem RdT.lt {w : World} {g : Nat} {s : ByteArray} {p : Option Addr} {deep : Int} (h : RdT w g s p deep) : g < w.heap.size := lt_of_block h
theorem RdT.new (w : World) (s : ByteArray) (p : Option Addr) (deep : Int) : RdT (w.alloc (.cells #[.string s, .pointer p, .int .i64 deep] 68)) w.heap.size s p deep := heap_alloc_new w _
theorem RdT.only {w w' : World} {g k : Nat} {s : ByteArray} {p : Option Addr} {deep : Int} (h : RdT w g s p deep) (ho : Only k w w') (hk : g ≠ k) : RdT w' g s p deep := (ho.block g h.lt hk).trans h
theorem RdT.below {w w' : World} {g N : Nat} {s : ByteArray} {p : Option Addr} {deep : Int} (h : RdT w g s p deep) (hb : Below N w w') (hN : g < N) : RdT w' g s p deep := (hb.block g hN).trans h
theorem RdT.drewN {w : World} {g : Nat} {s : ByteArray} {p : Option Addr} {deep : Int} (h : RdT w g s p deep) (n : Nat) : RdT (w.drewN n) g s p deep := h
theorem RdT.alloc {w : World} {g : Nat} {s : ByteArray} {p : Option Addr} {deep : Int} (h : RdT w g s p deep) (o : Obj) : RdT (w.alloc o) g s p deep := (Below.heap_alloc _ _ _ h.lt).trans h
theorem RdT.setAll {w : World} {g : Nat} {s : ByteArray} {p : Option Addr} {deep : Int} (h : RdT w g s p deep) (s' : ByteArray) (p' : Option Addr) (deep' : Int) :
    RdT (((w.setCell ⟨g, 0, none⟩ (.string s')).setCell ⟨g, 1, none⟩ (.pointer p')).setCell ⟨g, 2, none⟩ (.int .i64 deep')) g s' p' deep' :=
  heap_setCell_block (heap_setCell_block (heap_setCell_block h _) _) _
theorem Only.setRd (w : World) (g : Nat) (s' : ByteArray) (p' : Option Addr) (deep' : Int) : Only g w (((w.setCell ⟨g, 0, none⟩ (.string s')).setCell ⟨g, 1, none⟩ (.pointer p')).setCell ⟨g, 2, none⟩ (.int .i64 deep')) :=
  (((Only.refl _ _).setCell _ _).setCell _ _).setCell _ _
theorem rd_result {P : Program} {T : TypeId} {d : TypeDesc} (hu : P.underlying T = some d) (hd : (match d with | .struct _ | .array _ _ => true | _ => false) = true) (hi : (P.info? T).map (·.size) = some 3)
    {fn : Func} {q : Tmp} (h : fn.results = #[.cell q T]) {tmps : Array Value} {w : World} {g : Nat} {s : ByteArray} {p : Option Addr} {deep : Int} (hg : RdT w g s p deep) (hp : tmps.getD q undef = .pointer (some ⟨g, 0, none⟩)) :
    (results fn tmps).run P w = .ok (.agg #[.string s, .pointer p, .int .i64 deep]) w :=
  results_cell_row h tmps w g 68 #[.string s, .pointer p, .int .i64 deep] (0, 0) d hp hg hu hd hi
/-- A call's first step: its reader lies in a block of its own. -/
theorem rd_start {w : World} {b : Nat} {c : CS} (h : CurT 105 w b c) (s : ByteArray) (deep : Int) :
    CurT 105 (w.alloc (.cells #[.string s, .pointer (some ⟨b, 0, none⟩), .int .i64 deep] 68)) b c ∧ Only b w (w.alloc (.cells #[.string s, .pointer (some ⟨b, 0, none⟩), .int .i64 deep] 68)) ∧ w.heap.size ≠ b ∧ RdT (w.alloc (.cells #[.string s, .pointer (some ⟨b, 0, none⟩), .int .i64 deep] 68)) w.heap.size s (some ⟨b, 0, none⟩) deep :=
  ⟨(Below.heap_alloc _ _ _ h.lt).trans h, (Only.refl _ _).alloc _, by have := h.lt; omega, RdT.new w s _ deep⟩

/-- A truth's kind. -/
def kT (c : CS) : Nat := if c.pB = 1 then 1 else 2
/-- Numbers of so many bits. -/
theorem whole_any {b : Nat} {c : CS} {w : World} (h : CurT 105 w b c) (hc : c.ok) (s : ByteArray) (deep B : Int) :
    Calls Tryd.prog 65 #[rdV s b deep, .int .i64 B] w fun e w' => e = .returned (.int .i64 (zagI (c.vVal : Nat))) ∧ CurT 105 w' b (c.vTo.want (decide (fitC (zagI (c.vVal : Nat)) B = 0)) 4) ∧ Only b w w' := by
  obtain ⟨c1, hc1⟩ : ∃ d, d = c.vTo := ⟨_, rfl⟩
  obtain ⟨u, hu⟩ : ∃ u, u = c.vVal := ⟨_, rfl⟩
  have HV := Lib.hid (fun w (h : CurT 105 w b c) => vrd_l (Lib.hid hc1) (Lib.hid hu) h (Lib.hid hc))
  have hu64 : u < 18446744073709551616 := by rw [hu]; exact CS.vVal_lt c
  have HZ := Lib.hid (fun w => zag_any (u : Nat) w (by omega) (by omega))
  rw [← hc1, ← hu]
  obtain ⟨z, hz⟩ : ∃ z, z = zagI (u : Nat) := ⟨_, rfl⟩
  rw [← hz] at HZ ⊢
  have HFi := Lib.hid (fun w => fit_any z B w)
  have S0 := Lib.hid (rd_start h s deep)
  by_cases hq : fitC z B = 0
  · rw [hq] at HFi
    rw [decide_eq_true hq]
    have p1 : ((0 : Int) != 0) = false := rfl
    clear hq hu hc1 hc h hz hu64
    unfold rdV
    go_enter Tryd.func65, Tryd.ntmps65
    have g0 := S0.out.2.2.2.c1
    go_wp2_with fail
    with_reducible refine (HV.out _ S0.out.1).mono ?_
    rintro e w1 ⟨rfl, h1, o1⟩
    go_wp2_with fail
    with_reducible refine (HZ.out _).mono ?_
    rintro e w2 ⟨rfl, rfl⟩
    go_wp2_with fail
    with_reducible refine (HFi.out _).mono ?_
    rintro e w3 ⟨rfl, rfl⟩
    go_wp2
    go_ret
    exact ⟨rfl, h1, S0.out.2.1.trans o1⟩
  · have p1 : (fitC z B != 0) = true := bne_iff_ne.mpr hq
    rw [decide_eq_false hq]
    have HF := Lib.hid (fun w (h : CurT 105 w b c1) => fail_any h 4)
    clear hq hu hc1 hc h hz hu64
    generalize fitC z B = F at *
    unfold rdV
    go_enter Tryd.func65, Tryd.ntmps65
    have g0 := S0.out.2.2.2.c1
    go_wp2_with fail
    with_reducible refine (HV.out _ S0.out.1).mono ?_
    rintro e w1 ⟨rfl, h1, o1⟩
    have g1 := (S0.out.2.2.2.only o1 S0.out.2.2.1).c1
    have O1 := Lib.hid (S0.out.2.1.trans o1)
    clear g0 o1
    go_wp2_with fail
    with_reducible refine (HZ.out _).mono ?_
    rintro e w2 ⟨rfl, rfl⟩
    go_wp2_with fail
    with_reducible refine (HFi.out _).mono ?_
    rintro e w3 ⟨rfl, rfl⟩
    go_wp2_with fail
    with_reducible refine (HF.out _ h1).mono ?_
    rintro e w2 ⟨rfl, h2, o2⟩
    go_wp2
    go_ret
    exact ⟨rfl, h2, O1.out.trans o2⟩
set_option maxHeartbeats 1000000 in
theorem gtext_any {b : Nat} {c : CS} {w : World} (h : CurT 105 w b c) (hc : c.ok) (s : ByteArray) (deep : Int) :
    Calls Tryd.prog 67 #[rdV s b deep] w fun e w' => ∃ T, e = .returned (.string T) ∧ CurT 105 w' b c.txt ∧ Only b w w' ∧ (c.txt.er = 0 → T = c.vTo.takeS (c.vVal : Nat)) := by
  obtain ⟨c1, hc1⟩ : ∃ d, d = c.vTo := ⟨_, rfl⟩
  obtain ⟨u, hu⟩ : ∃ u, u = c.vVal := ⟨_, rfl⟩
  have hok1 : c1.ok := by rw [hc1]; exact CS.vTo_ok hc
  have HV := Lib.hid (fun w (h : CurT 105 w b c) => vrd_l (Lib.hid hc1) (Lib.hid hu) h (Lib.hid hc))
  have hT : c.txt = txTo u c1 := by rw [hc1, hu]; rfl
  rw [hT, ← hc1, ← hu]
  obtain ⟨z, hz⟩ : ∃ z, z = c1.lf := ⟨_, rfl⟩
  have hzi : (c1.en : Int) - c1.at_ = (z : Int) := by rw [hz]; unfold CS.lf; have := hok1.1; omega
  have HL := Lib.hid (fun w (h : CurT 105 w b c1) => left_any h hok1)
  rw [hzi] at HL
  have hz64 : z ≤ 9223372036854775807 := by rw [hz]; unfold CS.lf; have := hok1.2; omega
  have m1 : IntKind.u64.wrap (z : Int) = (z : Int) := IntWalk.u64_in _ (by omega)
  have S0 := Lib.hid (rd_start h s deep)
  by_cases hq : u ≤ z
  · have p1 : decide ((z : Int) < (u : Int)) = false := decide_eq_false (by omega)
    have p1' : decide (z < u) = false := decide_eq_false (by omega)
    have m2 : IntKind.i64.wrap (u : Int) = (u : Int) := IntWalk.i64_in _ (by omega)
    have m3 : wrap64 (u : Int) = (u : Int) := by unfold wrap64; omega
    have HT := Lib.hid (show txTo u c1 = c1.take (u : Nat) by unfold txTo; rw [if_pos (by rw [← hz]; exact hq)])
    have HK := Lib.hid (fun w (h : CurT 105 w b c1) => take_any h hok1 (u : Nat))
    clear hT hq hu hc1 hc h hz hzi hz64 hok1
    unfold rdV
    go_enter Tryd.func67, Tryd.ntmps67
    have g0 := S0.out.2.2.2.c1
    go_wp2_with fail
    with_reducible refine (HV.out _ S0.out.1).mono ?_
    rintro e w1 ⟨rfl, h1, o1⟩
    have K1 := Lib.hid (S0.out.2.2.2.only o1 S0.out.2.2.1)
    have g1 := K1.out.c1
    have O1 := Lib.hid (S0.out.2.1.trans o1)
    clear g0 o1
    go_wp2_with fail
    with_reducible refine (HL.out _ h1).mono ?_
    rintro e w2 ⟨rfl, n, rfl⟩
    have h2 := h1.drewN n
    have g2 := (K1.out.only ((Only.refl b w1).drewN n) S0.out.2.2.1).c1
    clear g1
    go_wp2_with fail
    with_reducible refine (HK.out _ h2).mono ?_
    rintro e w3 ⟨rfl, h3, o3⟩
    go_wp2
    go_ret
    exact ⟨_, rfl, by rw [HT.out]; exact h3, (O1.out.drewN n).trans o3, fun _ => rfl⟩
  · have p1 : decide ((z : Int) < (u : Int)) = true := decide_eq_true (by omega)
    have p1' : decide (z < u) = true := decide_eq_true (by omega)
    have HT := Lib.hid (show txTo u c1 = c1.fail 1 by unfold txTo; rw [if_neg (by rw [← hz]; exact hq)])
    have HN := Lib.hid (show ¬ (c1.fail 1).er = 0 by unfold CS.fail; split; (exact (by decide : ¬ (1 : Int) = 0)); assumption)
    have HF := Lib.hid (fun w (h : CurT 105 w b c1) => fail_any h 1)
    clear hT hq hu hc1 hc h hz hzi hz64 hok1
    unfold rdV
    go_enter Tryd.func67, Tryd.ntmps67
    have g0 := S0.out.2.2.2.c1
    go_wp2_with fail
    with_reducible refine (HV.out _ S0.out.1).mono ?_
    rintro e w1 ⟨rfl, h1, o1⟩
    have K1 := Lib.hid (S0.out.2.2.2.only o1 S0.out.2.2.1)
    have g1 := K1.out.c1
    have O1 := Lib.hid (S0.out.2.1.trans o1)
    clear g0 o1
    go_wp2_with fail
    with_reducible refine (HL.out _ h1).mono ?_
    rintro e w2 ⟨rfl, n, rfl⟩
    have h2 := h1.drewN n
    have g2 := (K1.out.only ((Only.refl b w1).drewN n) S0.out.2.2.1).c1
    clear g1
    go_wp2_with fail
    with_reducible refine (HF.out _ h2).mono ?_
    rintro e w3 ⟨rfl, h3, o3⟩
    go_wp2
    go_ret
    exact ⟨_, rfl, by rw [HT.out]; exact h3, (O1.out.drewN n).trans o3, fun he => absurd (by rw [← HT.out]; exact he) HN.out⟩
theorem raw_any {b : Nat} {c : CS} {w : World} (h : CurT 105 w b c) (hc : c.ok) (deep : Int) (h0 : 0 ≤ deep) (k : Nat) (hk : k < 256) :
    Calls Tryd.prog 68 #[rdV c.s b deep, .int .u8 (k : Nat)] w fun e w' => ∃ T, e = .returned (.string T) ∧ CurT 105 w' b (valTo (inTo (32 - deep).toNat) k c) ∧ Only b w w' ∧ ((valTo (inTo (32 - deep).toNat) k c).er = 0 → T = c.s.extract c.at_ (valTo (inTo (32 - deep).toNat) k c).at_) := by
  have hstd := val_std (32 - deep).toNat k c hc
  have HV := Lib.hid (fun w (h : CurT 105 w b c) => skip_value k deep h0 hk h hc)
  obtain ⟨D, hD⟩ : ∃ D, D = valTo (inTo (32 - deep).toNat) k c := ⟨_, rfl⟩
  rw [← hD] at hstd HV ⊢
  obtain ⟨d1, d2, d3, d4, d5⟩ := hstd
  have HA := Lib.hid (fun w (h : CurT 105 w b c) => at_any h hc)
  have HE := Lib.hid (fun w (h : CurT 105 w b D) => err_any h)
  have HB := Lib.hid (fun w (h : CurT 105 w b D) => at_any h d1)
  have S0 := Lib.hid (rd_start h c.s deep)
  obtain ⟨s, hs⟩ : ∃ s, s = c.s := ⟨_, rfl⟩
  obtain ⟨A, hA⟩ : ∃ A, A = c.at_ := ⟨_, rfl⟩
  rw [← hA] at HA d4 ⊢
  rw [← hs] at S0 ⊢
  have q1 : (D.at_ : Int) ≤ s.size := by rw [hs, ← d2]; have := d1.1; have := d1.2.1; omega
  have q1' : D.at_ ≤ s.size := by omega
  have q2 : (A : Int) ≤ D.at_ := by omega
  by_cases he : D.er = 0
  · have p1 : (D.er != 0) = false := by rw [he]; rfl
    clear he hD d5 d3 d2 h0 hk hc h hs hA
    unfold rdV
    go_enter Tryd.func68, Tryd.ntmps68
    have g1 := S0.out.2.2.2.c1
    have g2 := S0.out.2.2.2.c2
    go_wp2_with fail
    with_reducible refine (HA.out _ S0.out.1).mono ?_
    rintro e w1 ⟨rfl, rfl⟩
    go_wp2_with fail
    with_reducible refine (HV.out _ S0.out.1).mono ?_
    rintro e w2 ⟨rfl, h2, o2⟩
    have K2 := S0.out.2.2.2.only o2 S0.out.2.2.1
    have O2 := Lib.hid (S0.out.2.1.trans o2)
    clear g1 g2 o2
    have g0 := K2.c0
    have g1 := K2.c1
    clear K2
    go_wp2_with fail
    with_reducible refine (HE.out _ h2).mono ?_
    rintro e w3 ⟨rfl, rfl⟩
    go_wp2
    go_quiet (with_reducible exact Calls.quiet_of_same (HB.out _ (h2.drewN _)))
    go_wp2
    go_ret
    exact ⟨_, rfl, h2, O2.out.drewN _, fun _ => by simp⟩
  · have p1 : (D.er != 0) = true := bne_iff_ne.mpr he
    have HX := Lib.hid he
    clear he hD d5 d3 d2 h0 hk hc h hs hA q1 q1' q2 d1 d4
    unfold rdV
    go_enter Tryd.func68, Tryd.ntmps68
    have g1 := S0.out.2.2.2.c1
    have g2 := S0.out.2.2.2.c2
    go_wp2_with fail
    with_reducible refine (HA.out _ S0.out.1).mono ?_
    rintro e w1 ⟨rfl, rfl⟩
    go_wp2_with fail
    with_reducible refine (HV.out _ S0.out.1).mono ?_
    rintro e w2 ⟨rfl, h2, o2⟩
    have K2 := S0.out.2.2.2.only o2 S0.out.2.2.1
    have O2 := Lib.hid (S0.out.2.1.trans o2)
    clear g1 g2 o2
    have g1 := K2.c1
    clear K2
    go_wp2_with fail
    with_reducible refine (HE.out _ h2).mono ?_
    rintro e w3 ⟨rfl, rfl⟩
    go_wp2
    go_ret
    exact ⟨_, rfl, h2, O2.out, fun h => absurd h HX.out⟩
theorem enter_any (s : ByteArray) (deep : Int) (w : World) (hs : s.size ≤ 9223372036854775807) (hd : 0 ≤ deep ∧ deep ≤ 1000) :
    Calls Tryd.prog 29 #[.string s, .int .i64 deep] w fun e w' => ∃ b, e = .returned (rdV s b (deep + 1)) ∧ w.heap.size ≤ b ∧ CurT 105 w' b (cAt s deep) ∧ Below w.heap.size w w' := by
  have HN := Lib.hid (fun w => new_cur s w hs)
  have m1 : IntKind.i64.wrap (deep + 1) = deep + 1 := IntWalk.i64_in _ (by omega)
  obtain ⟨w0, hw0⟩ : ∃ w0, w0 = w.alloc (.cells #[.string ⟨#[]⟩, .pointer none, .int .i64 0] 68) := ⟨_, rfl⟩
  have K0 : RdT w0 w.heap.size ⟨#[]⟩ none 0 := by rw [hw0]; exact RdT.new w _ _ _
  have B0 : Below w.heap.size w w0 := by rw [hw0]; exact (Below.refl _ w).alloc (Nat.le_refl _) _
  by_cases hq : 32 ≤ deep
  · have p1 : decide ((32 : Int) ≤ deep) = true := decide_eq_true hq
    have HR := Lib.hid (show cAt s deep = (CS.new s).fail 33 by unfold cAt; rw [if_pos hq])
    clear hq hd hs
    go_enter Tryd.func29, Tryd.ntmps29
    go_wp2_with fail
    rw [← hw0]
    clear hw0
    have hG0 := B0.size
    obtain ⟨G, hG⟩ : ∃ G, G = w.heap.size := ⟨_, rfl⟩
    have HG := Lib.hid hG
    rw [← hG] at K0 B0 hG0 ⊢
    clear hG
    refine (HN.out _).mono ?_
    rintro e w1 ⟨b, rfl, hb, h1, b1⟩
    have K1 := K0.below b1 K0.lt
    have hGb : G ≠ b := by have := K0.lt; omega
    have B1 := B0.trans (b1.mono hG0)
    have hb' := Nat.le_trans hG0 hb
    clear K0 B0 b1 HN
    go_wp2_with fail
    with_reducible refine (fail_any h1 33).mono ?_
    rintro e w2 ⟨rfl, h2, o2⟩
    have K2 := K1.only o2 hGb
    have B2 := B1.trans (o2.below hb' (Nat.le_trans hG0 (Nat.le_trans hb (Nat.le_of_lt h1.lt))))
    clear h1 K1 B1 o2
    have g0 := K2.c0; have g1 := K2.c1; have g2 := K2.c2; have gf := K2.fr
    have K3 := Lib.hid (K2.setAll s (some ⟨b, 0, none⟩) (deep + 1))
    have h3 := Lib.hid (gset_cur (o := 2) (x := .int .i64 (deep + 1)) (gset_cur (o := 1) (x := .pointer (some ⟨b, 0, none⟩)) (gset_cur (o := 0) (x := .string s) h2 hGb.symm) hGb.symm) hGb.symm)
    have B3 := Lib.hid (gset_keeps (o := 2) (x := .int .i64 (deep + 1)) (gset_keeps (o := 1) (x := .pointer (some ⟨b, 0, none⟩)) (gset_keeps (o := 0) (x := .string s) B2 (Nat.le_refl G)) (Nat.le_refl G)) (Nat.le_refl G))
    clear K2 B2 h2
    simp only []
    repeat (first | go_values | go_skip | go_guarded | go_step | go_upon)
    refine bodyPost_ret (rd_result Tryd.underlying68 rfl (by kernel_rfl) Tryd.results29 K3.out (by kernel_rfl)) rfl ⟨b, rfl, by rw [← HG.out]; exact hb', by rw [HR.out]; exact h3.out, by rw [← HG.out]; exact B3.out⟩
  · have p1 : decide ((32 : Int) ≤ deep) = false := decide_eq_false hq
    have HR := Lib.hid (show cAt s deep = CS.new s by unfold cAt; rw [if_neg hq])
    clear hq hd hs
    go_enter Tryd.func29, Tryd.ntmps29
    go_wp2_with fail
    rw [← hw0]
    clear hw0
    have hG0 := B0.size
    obtain ⟨G, hG⟩ : ∃ G, G = w.heap.size := ⟨_, rfl⟩
    have HG := Lib.hid hG
    rw [← hG] at K0 B0 hG0 ⊢
    clear hG
    refine (HN.out _).mono ?_
    rintro e w1 ⟨b, rfl, hb, h2, b1⟩
    have K2 := K0.below b1 K0.lt
    have hGb : G ≠ b := by have := K0.lt; omega
    have B2 := B0.trans (b1.mono hG0)
    have hb' := Nat.le_trans hG0 hb
    clear K0 B0 b1 HN
    have g0 := K2.c0; have g1 := K2.c1; have g2 := K2.c2; have gf := K2.fr
    have K3 := Lib.hid (K2.setAll s (some ⟨b, 0, none⟩) (deep + 1))
    have h3 := Lib.hid (gset_cur (o := 2) (x := .int .i64 (deep + 1)) (gset_cur (o := 1) (x := .pointer (some ⟨b, 0, none⟩)) (gset_cur (o := 0) (x := .string s) h2 hGb.symm) hGb.symm) hGb.symm)
    have B3 := Lib.hid (gset_keeps (o := 2) (x := .int .i64 (deep + 1)) (gset_keeps (o := 1) (x := .pointer (some ⟨b, 0, none⟩)) (gset_keeps (o := 0) (x := .string s) B2 (Nat.le_refl G)) (Nat.le_refl G)) (Nat.le_refl G))
    clear K2 B2 h2
    simp only []
    repeat (first | go_values | go_skip | go_guarded | go_step | go_upon)
    refine bodyPost_ret (rd_result Tryd.underlying68 rfl (by kernel_rfl) Tryd.results29 K3.out (by kernel_rfl)) rfl ⟨b, rfl, by rw [← HG.out]; exact hb', by rw [HR.out]; exact h3.out, by rw [← HG.out]; exact B3.out⟩
end Go.Proofs.YtmcklfndnjagiaaDoor
