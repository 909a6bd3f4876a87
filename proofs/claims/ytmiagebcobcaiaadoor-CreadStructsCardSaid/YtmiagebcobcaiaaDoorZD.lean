/- Several texts in one (CrA, CrB, CrC): each begins with its own words. -/
import Derived.Test.YtmiagebcobcaiaaDoorZC
import Derived.Test.YtmiagebcobcaiaaDoorZA
import Derived.Test.YtmiagebcobcaiaaDoorFoldA
import Derived.Deep.QuietTactic
import Derived.BigQuiet
import Derived.Test.YtmiagebcobcaiaaDoorReadA
/- Package cread: a reader in memory; truth, whole, text, raw, enter. -/
namespace Go.Proofs.YtmiagebcobcaiaaDoor
open Go Go.RowKit
set_option linter.unusedVariables false

/-- A reader: a text, a cursor, and within how many. -/
def rdV (s : ByteArray) (b : Nat) (deep : Int) : Value := .agg #[.string s, .pointer (some ⟨b, 0, none⟩), .int .i64 deep]
/-- Block g holds a reader. -/
def RdT (w : World) (g : Nat) (s : ByteArray) (p : Option Addr) (deep : Int) : Prop := w.heap[g]? = some (.cells #[.string s, .pointer p, .int .i64 deep] 48 (0, 0))
theorem RdT.c0 {w : World} {g : Nat} {s : ByteArray} {p : Option Addr} {deep : Int} (h : RdT w g s p deep) : w.cell? ⟨g, 0, none⟩ = some (.string s) := by unfold RdT at h; simp [World.cell?, h]
theorem RdT.c1 {w : World} {g : Nat} {s : ByteArray} {p : Option Addr} {deep : Int} (h : RdT w g s p deep) : w.cell? ⟨g, 1, none⟩ = some (.pointer p) := by unfold RdT at h; simp [World.cell?, h]
theorem RdT.c2 {w : World} {g : Nat} {s : ByteArray} {p : Option Addr} {deep : Int} (h : RdT w g s p deep) : w.cell? ⟨g, 2, none⟩ = some (.int .i64 deep) := by unfold RdT at h; simp [World.cell?, h]
theorem RdT.fr {w : World} {g : Nat} {s : ByteArray} {p : Option Addr} {deep : Int} (h : RdT w g s p deep) (o : Nat) : w.frozen? ⟨g, o, none⟩ = false := by unfold RdT at h; simp [World.frozen?, h]
theorem RdT.lt {w : World} {g : Nat} {s : ByteArray} {p : Option Addr} {deep : Int} (h : RdT w g s p deep) : g < w.heap.size := lt_of_block h
theorem RdT.new (w : World) (s : ByteArray) (p : Option Addr) (deep : Int) : RdT (w.alloc (.cells #[.string s, .pointer p, .int .i64 deep] 48)) w.heap.size s p deep := heap_alloc_new w _
theorem RdT.only {w w' : World} {g k : Nat} {s : ByteArray} {p : Option Addr} {deep : Int} (h : RdT w g s p deep) (ho : Only k w w') (hk : g ≠ k) : RdT w' g s p deep := (ho.block g h.lt hk).trans h
theorem RdT.below {w w' : World} {g N : Nat} {s : ByteArray} {p : Option Addr} {deep : Int} (h : RdT w g s p deep) (hb : Below N w w') (hN : g < N) : RdT w' g s p deep := (hb.block g hN).trans h
theorem RdT.drewN {w : World} {g : Nat} {s : ByteArray} {p : Option Addr} {deep : Int} (h : RdT w g s p deep) (n : Nat) : RdT (w.drewN n) g s p deep := h
theorem RdT.alloc {w : World} {g : Nat} {s : ByteArray} {p : Option Addr} {deep : Int} (h : RdT w g s p deep) (o : Obj) : RdT (w.alloc o) g s p deep := (Below.heap_alloc _ _ _ h.lt).trans h
theorem RdT.setAll {w : World} {g : Nat} {s : ByteArray} {p : Option Addr} {deep : Int} (h : RdT w g s p deep) (s' : ByteArray) (p' : Option Addr) (deep' : Int) :
    RdT (((w.setCell ⟨g, 0, none⟩ (.string s')).setCell ⟨g, 1, none⟩ (.pointer p')).setCell ⟨g, 2, none⟩ (.int .i64 deep')) g s' p' deep' :=
  heap_setCell_block (heap_setCell_block (heap_setCell_block h _) _) _
theorem Only.setRd (w : World) (g : Nat) (s' : ByteArray) (p' : Option Addr) (deep' : Int) : Only g w (((w.setCell ⟨g, 0, none⟩ (.string s')).setCell ⟨g, 1, none⟩ (.pointer p')).setCell ⟨g, 2, none⟩ (.int .i64 deep')) :=
  (((Only.refl _ _).setCell _ _).setCell _ _).setCell _ _
theorem rd_result {P : Program} {T : TypeId} {d : TypeDesc} (hu : P.underlying T = some d) (hd : (match d with | .struct _ | .array _ _ => true | _ => false) = true) (hi : (P.info? T).map (·.size) = some 3)
    {fn : Func} {q : Tmp} (h : fn.results = #[.cell q T]) {tmps : Array Value} {w : World} {g : Nat} {s : ByteArray} {p : Option Addr} {deep : Int} (hg : RdT w g s p deep) (hp : tmps.getD q undef = .pointer (some ⟨g, 0, none⟩)) :
    (results fn tmps).run P w = .ok (.agg #[.string s, .pointer p, .int .i64 deep]) w :=
  results_cell_row h tmps w g 48 #[.string s, .pointer p, .int .i64 deep] (0, 0) d hp hg hu hd hi
/-- A call's first step: its reader lies in a block of its own. -/
theorem rd_start {w : World} {b : Nat} {c : CS} (h : CurT 83 w b c) (s : ByteArray) (deep : Int) :
    CurT 83 (w.alloc (.cells #[.string s, .pointer (some ⟨b, 0, none⟩), .int .i64 deep] 48)) b c ∧ Only b w (w.alloc (.cells #[.string s, .pointer (some ⟨b, 0, none⟩), .int .i64 deep] 48)) ∧ w.heap.size ≠ b ∧ RdT (w.alloc (.cells #[.string s, .pointer (some ⟨b, 0, none⟩), .int .i64 deep] 48)) w.heap.size s (some ⟨b, 0, none⟩) deep :=
  ⟨(Below.heap_alloc _ _ _ h.lt).trans h, (Only.refl _ _).alloc _, by have := h.lt; omega, RdT.new w s _ deep⟩

/-- A truth's kind. -/
def kT (c : CS) : Nat := if c.pB = 1 then 1 else 2
theorem rtruth_any {b : Nat} {c : CS} {w : World} (h : CurT 83 w b c) (hc : c.ok) (s : ByteArray) (deep : Int) :
    Calls Tryd.prog 63 #[rdV s b deep] w fun e w' => e = .returned (.int .u8 (kT c : Nat)) ∧ CurT 83 w' b c.tru ∧ Only b w w' := by
  obtain ⟨c1, hc1⟩ : ∃ d, d = c.byte := ⟨_, rfl⟩
  obtain ⟨x, hx⟩ : ∃ x, x = c.pB := ⟨_, rfl⟩
  have HB := Lib.hid (fun w (h : CurT 83 w b c) => byte_l (Lib.hid hc1) (Lib.hid hx) h hc)
  have hT : c.tru = c1.want (decide (x ≤ 2)) 3 := by rw [hc1, hx]; rfl
  have hK : kT c = if x = 1 then 1 else 2 := by rw [hx]; rfl
  have S0 := Lib.hid (rd_start h s deep)
  by_cases hq : x ≤ 2
  · have p1 : decide ((2 : Int) < (x : Int)) = false := decide_eq_false (by omega)
    have p1' : decide (2 < x) = false := decide_eq_false (by omega)
    have HT := Lib.hid (show c.tru = c1 by rw [hT, decide_eq_true hq]; rfl)
    by_cases h1 : x = 1
    · have p2 : ((x : Int) == 1) = true := by rw [h1]; rfl
      have p2' : (x == 1) = true := by rw [h1]; rfl
      have HK := Lib.hid (show kT c = 1 by rw [hK, if_pos h1])
      clear hT hq hx hc1 hc h hK h1
      unfold rdV
      go_enter Tryd.func63, Tryd.ntmps63
      have g0 := S0.out.2.2.2.c1
      go_wp2_with fail
      with_reducible refine (HB.out _ S0.out.1).mono ?_
      rintro e w1 ⟨rfl, h1, o1⟩
      go_wp2
      go_ret
      exact ⟨by rw [HK.out]; rfl, by rw [HT.out]; exact h1, S0.out.2.1.trans o1⟩
    · have p2 : ((x : Int) == 1) = false := beq_eq_false_iff_ne.mpr (by omega)
      have p2' : (x == 1) = false := beq_eq_false_iff_ne.mpr h1
      have HK := Lib.hid (show kT c = 2 by rw [hK, if_neg h1])
      clear hT hq hx hc1 hc h hK h1
      unfold rdV
      go_enter Tryd.func63, Tryd.ntmps63
      have g0 := S0.out.2.2.2.c1
      go_wp2_with fail
      with_reducible refine (HB.out _ S0.out.1).mono ?_
      rintro e w1 ⟨rfl, h1, o1⟩
      go_wp2
      go_ret
      exact ⟨by rw [HK.out]; rfl, by rw [HT.out]; exact h1, S0.out.2.1.trans o1⟩
  · have p1 : decide ((2 : Int) < (x : Int)) = true := decide_eq_true (by omega)
    have p1' : decide (2 < x) = true := decide_eq_true (by omega)
    have h1 : ¬ x = 1 := by omega
    have p2 : ((x : Int) == 1) = false := beq_eq_false_iff_ne.mpr (by omega)
    have p2' : (x == 1) = false := beq_eq_false_iff_ne.mpr h1
    have HK := Lib.hid (show kT c = 2 by rw [hK, if_neg h1])
    have HT := Lib.hid (show c.tru = c1.fail 3 by rw [hT, decide_eq_false hq]; rfl)
    have HF := Lib.hid (fun w (h : CurT 83 w b c1) => fail_any h 3)
    clear hT hq hx hc1 hc h hK h1
    unfold rdV
    go_enter Tryd.func63, Tryd.ntmps63
    have g0 := S0.out.2.2.2.c1
    go_wp2_with fail
    with_reducible refine (HB.out _ S0.out.1).mono ?_
    rintro e w1 ⟨rfl, h1, o1⟩
    have g1 := (S0.out.2.2.2.only o1 S0.out.2.2.1).c1
    have O1 := Lib.hid (S0.out.2.1.trans o1)
    clear g0 o1
    go_wp2_with fail
    with_reducible refine (HF.out _ h1).mono ?_
    rintro e w2 ⟨rfl, h2, o2⟩
    go_wp2
    go_ret
    exact ⟨by rw [HK.out]; rfl, by rw [HT.out]; exact h2, O1.out.trans o2⟩
/-- Numbers of so many bits. -/
theorem whole_any {b : Nat} {c : CS} {w : World} (h : CurT 83 w b c) (hc : c.ok) (s : ByteArray) (deep B : Int) :
    Calls Tryd.prog 42 #[rdV s b deep, .int .i64 B] w fun e w' => e = .returned (.int .i64 (zagI (c.vVal : Nat))) ∧ CurT 83 w' b (c.vTo.want (decide (fitC (zagI (c.vVal : Nat)) B = 0)) 4) ∧ Only b w w' := by
  obtain ⟨c1, hc1⟩ : ∃ d, d = c.vTo := ⟨_, rfl⟩
  obtain ⟨u, hu⟩ : ∃ u, u = c.vVal := ⟨_, rfl⟩
  have HV := Lib.hid (fun w (h : CurT 83 w b c) => vrd_l (Lib.hid hc1) (Lib.hid hu) h (Lib.hid hc))
  have hu64 : u < 18446744073709551616 := by rw [hu]; exact CS.vVal_lt c
  have HZ := Lib.hid (fun w => zag_any (u : Nat) w (by omega) (by omega))
  rw [← hc1, ← hu]
  obtain ⟨z, hz⟩ : ∃ z, z = zagI (u : Nat) := ⟨_, rfl⟩
  rw [← hz] at HZ ⊢
  have HFi := Lib.hid (fun w => fit_any z B w)
  have S0 := Lib.hid (rd_start h s deep)
  by_cases hq : fitC z B = 0
  · rw [hq] at HFi
    rw [decide_eq_true hq]
    have p1 : ((0 : Int) != 0) = false := rfl
    clear hq hu hc1 hc h hz hu64
    unfold rdV
    go_enter Tryd.func42, Tryd.ntmps42
    have g0 := S0.out.2.2.2.c1
    go_wp2_with fail
    with_reducible refine (HV.out _ S0.out.1).mono ?_
    rintro e w1 ⟨rfl, h1, o1⟩
    go_wp2_with fail
    with_reducible refine (HZ.out _).mono ?_
    rintro e w2 ⟨rfl, rfl⟩
    go_wp2_with fail
    with_reducible refine (HFi.out _).mono ?_
    rintro e w3 ⟨rfl, rfl⟩
    go_wp2
    go_ret
    exact ⟨rfl, h1, S0.out.2.1.trans o1⟩
  · have p1 : (fitC z B != 0) = true := bne_iff_ne.mpr hq
    rw [decide_eq_false hq]
    have HF := Lib.hid (fun w (h : CurT 83 w b c1) => fail_any h 4)
    clear hq hu hc1 hc h hz hu64
    generalize fitC z B = F at *
    unfold rdV
    go_enter Tryd.func42, Tryd.ntmps42
    have g0 := S0.out.2.2.2.c1
    go_wp2_with fail
    with_reducible refine (HV.out _ S0.out.1).mono ?_
    rintro e w1 ⟨rfl, h1, o1⟩
    have g1 := (S0.out.2.2.2.only o1 S0.out.2.2.1).c1
    have O1 := Lib.hid (S0.out.2.1.trans o1)
    clear g0 o1
    go_wp2_with fail
    with_reducible refine (HZ.out _).mono ?_
    rintro e w2 ⟨rfl, rfl⟩
    go_wp2_with fail
    with_reducible refine (HFi.out _).mono ?_
    rintro e w3 ⟨rfl, rfl⟩
    go_wp2_with fail
    with_reducible refine (HF.out _ h1).mono ?_
    rintro e w2 ⟨rfl, h2, o2⟩
    go_wp2
    go_ret
    exact ⟨rfl, h2, O1.out.trans o2⟩
set_option maxHeartbeats 1000000 in
theorem gtext_any {b : Nat} {c : CS} {w : World} (h : CurT 83 w b c) (hc : c.ok) (s : ByteArray) (deep : Int) :
    Calls Tryd.prog 44 #[rdV s b deep] w fun e w' => ∃ T, e = .returned (.string T) ∧ CurT 83 w' b c.txt ∧ Only b w w' ∧ (c.txt.er = 0 → T = c.vTo.takeS (c.vVal : Nat)) := by
  obtain ⟨c1, hc1⟩ : ∃ d, d = c.vTo := ⟨_, rfl⟩
  obtain ⟨u, hu⟩ : ∃ u, u = c.vVal := ⟨_, rfl⟩
  have hok1 : c1.ok := by rw [hc1]; exact CS.vTo_ok hc
  have HV := Lib.hid (fun w (h : CurT 83 w b c) => vrd_l (Lib.hid hc1) (Lib.hid hu) h (Lib.hid hc))
  have hT : c.txt = txTo u c1 := by rw [hc1, hu]; rfl
  rw [hT, ← hc1, ← hu]
  obtain ⟨z, hz⟩ : ∃ z, z = c1.lf := ⟨_, rfl⟩
  have hzi : (c1.en : Int) - c1.at_ = (z : Int) := by rw [hz]; unfold CS.lf; have := hok1.1; omega
  have HL := Lib.hid (fun w (h : CurT 83 w b c1) => left_any h hok1)
  rw [hzi] at HL
  have hz64 : z ≤ 9223372036854775807 := by rw [hz]; unfold CS.lf; have := hok1.2; omega
  have m1 : IntKind.u64.wrap (z : Int) = (z : Int) := IntWalk.u64_in _ (by omega)
  have S0 := Lib.hid (rd_start h s deep)
  by_cases hq : u ≤ z
  · have p1 : decide ((z : Int) < (u : Int)) = false := decide_eq_false (by omega)
    have p1' : decide (z < u) = false := decide_eq_false (by omega)
    have m2 : IntKind.i64.wrap (u : Int) = (u : Int) := IntWalk.i64_in _ (by omega)
    have m3 : wrap64 (u : Int) = (u : Int) := by unfold wrap64; omega
    have HT := Lib.hid (show txTo u c1 = c1.take (u : Nat) by unfold txTo; rw [if_pos (by rw [← hz]; exact hq)])
    have HK := Lib.hid (fun w (h : CurT 83 w b c1) => take_any h hok1 (u : Nat))
    clear hT hq hu hc1 hc h hz hzi hz64 hok1
    unfold rdV
    go_enter Tryd.func44, Tryd.ntmps44
    have g0 := S0.out.2.2.2.c1
    go_wp2_with fail
    with_reducible refine (HV.out _ S0.out.1).mono ?_
    rintro e w1 ⟨rfl, h1, o1⟩
    have K1 := Lib.hid (S0.out.2.2.2.only o1 S0.out.2.2.1)
    have g1 := K1.out.c1
    have O1 := Lib.hid (S0.out.2.1.trans o1)
    clear g0 o1
    go_wp2_with fail
    with_reducible refine (HL.out _ h1).mono ?_
    rintro e w2 ⟨rfl, n, rfl⟩
    have h2 := h1.drewN n
    have g2 := (K1.out.only ((Only.refl b w1).drewN n) S0.out.2.2.1).c1
    clear g1
    go_wp2_with fail
    with_reducible refine (HK.out _ h2).mono ?_
    rintro e w3 ⟨rfl, h3, o3⟩
    go_wp2
    go_ret
    exact ⟨_, rfl, by rw [HT.out]; exact h3, (O1.out.drewN n).trans o3, fun _ => rfl⟩
  · have p1 : decide ((z : Int) < (u : Int)) = true := decide_eq_true (by omega)
    have p1' : decide (z < u) = true := decide_eq_true (by omega)
    have HT := Lib.hid (show txTo u c1 = c1.fail 1 by unfold txTo; rw [if_neg (by rw [← hz]; exact hq)])
    have HN := Lib.hid (show ¬ (c1.fail 1).er = 0 by unfold CS.fail; split; (exact (by decide : ¬ (1 : Int) = 0)); assumption)
    have HF := Lib.hid (fun w (h : CurT 83 w b c1) => fail_any h 1)
    clear hT hq hu hc1 hc h hz hzi hz64 hok1
    unfold rdV
    go_enter Tryd.func44, Tryd.ntmps44
    have g0 := S0.out.2.2.2.c1
    go_wp2_with fail
    with_reducible refine (HV.out _ S0.out.1).mono ?_
    rintro e w1 ⟨rfl, h1, o1⟩
    have K1 := Lib.hid (S0.out.2.2.2.only o1 S0.out.2.2.1)
    have g1 := K1.out.c1
    have O1 := Lib.hid (S0.out.2.1.trans o1)
    clear g0 o1
    go_wp2_with fail
    with_reducible refine (HL.out _ h1).mono ?_
    rintro e w2 ⟨rfl, n, rfl⟩
    have h2 := h1.drewN n
    have g2 := (K1.out.only ((Only.refl b w1).drewN n) S0.out.2.2.1).c1
    clear g1
    go_wp2_with fail
    with_reducible refine (HF.out _ h2).mono ?_
    rintro e w3 ⟨rfl, h3, o3⟩
    go_wp2
    go_ret
    exact ⟨_, rfl, by rw [HT.out]; exact h3, (O1.out.drewN n).trans o3, fun he => absurd (by rw [← HT.out]; exact he) HN.out⟩
theorem raw_any {b : Nat} {c : CS} {w : World} (h : CurT 83 w b c) (hc : c.ok) (deep : Int) (h0 : 0 ≤ deep) (k : Nat) (hk : k < 256) :
    Calls Tryd.prog 45 #[rdV c.s b deep, .int .u8 (k : Nat)] w fun e w' => ∃ T, e = .returned (.string T) ∧ CurT 83 w' b (valTo (inTo (32 - deep).toNat) k c) ∧ Only b w w' ∧ ((valTo (inTo (32 - deep).toNat) k c).er = 0 → T = c.s.extract c.at_ (valTo (inTo (32 - deep).toNat) k c).at_) := by
  have hstd := val_std (32 - deep).toNat k c hc
  have HV := Lib.hid (fun w (h : CurT 83 w b c) => skip_value k deep h0 hk h hc)
  obtain ⟨D, hD⟩ : ∃ D, D = valTo (inTo (32 - deep).toNat) k c := ⟨_, rfl⟩
  rw [← hD] at hstd HV ⊢
  obtain ⟨d1, d2, d3, d4, d5⟩ := hstd
  have HA := Lib.hid (fun w (h : CurT 83 w b c) => at_any h hc)
  have HE := Lib.hid (fun w (h : CurT 83 w b D) => err_any h)
  have HB := Lib.hid (fun w (h : CurT 83 w b D) => at_any h d1)
  have S0 := Lib.hid (rd_start h c.s deep)
  obtain ⟨s, hs⟩ : ∃ s, s = c.s := ⟨_, rfl⟩
  obtain ⟨A, hA⟩ : ∃ A, A = c.at_ := ⟨_, rfl⟩
  rw [← hA] at HA d4 ⊢
  rw [← hs] at S0 ⊢
  have q1 : (D.at_ : Int) ≤ s.size := by rw [hs, ← d2]; have := d1.1; have := d1.2.1; omega
  have q1' : D.at_ ≤ s.size := by omega
  have q2 : (A : Int) ≤ D.at_ := by omega
  by_cases he : D.er = 0
  · have p1 : (D.er != 0) = false := by rw [he]; rfl
    clear he hD d5 d3 d2 h0 hk hc h hs hA
    unfold rdV
    go_enter Tryd.func45, Tryd.ntmps45
    have g1 := S0.out.2.2.2.c1
    have g2 := S0.out.2.2.2.c2
    go_wp2_with fail
    with_reducible refine (HA.out _ S0.out.1).mono ?_
    rintro e w1 ⟨rfl, rfl⟩
    go_wp2_with fail
    with_reducible refine (HV.out _ S0.out.1).mono ?_
    rintro e w2 ⟨rfl, h2, o2⟩
    have K2 := S0.out.2.2.2.only o2 S0.out.2.2.1
    have O2 := Lib.hid (S0.out.2.1.trans o2)
    clear g1 g2 o2
    have g0 := K2.c0
    have g1 := K2.c1
    clear K2
    go_wp2_with fail
    with_reducible refine (HE.out _ h2).mono ?_
    rintro e w3 ⟨rfl, rfl⟩
    go_wp2
    go_quiet (with_reducible exact Calls.quiet_of_same (HB.out _ (h2.drewN _)))
    go_wp2
    go_ret
    exact ⟨_, rfl, h2, O2.out.drewN _, fun _ => by simp⟩
  · have p1 : (D.er != 0) = true := bne_iff_ne.mpr he
    have HX := Lib.hid he
    clear he hD d5 d3 d2 h0 hk hc h hs hA q1 q1' q2 d1 d4
    unfold rdV
    go_enter Tryd.func45, Tryd.ntmps45
    have g1 := S0.out.2.2.2.c1
    have g2 := S0.out.2.2.2.c2
    go_wp2_with fail
    with_reducible refine (HA.out _ S0.out.1).mono ?_
    rintro e w1 ⟨rfl, rfl⟩
    go_wp2_with fail
    with_reducible refine (HV.out _ S0.out.1).mono ?_
    rintro e w2 ⟨rfl, h2, o2⟩
    have K2 := S0.out.2.2.2.only o2 S0.out.2.2.1
    have O2 := Lib.hid (S0.out.2.1.trans o2)
    clear g1 g2 o2
    have g1 := K2.c1
    clear K2
    go_wp2_with fail
    with_reducible refine (HE.out _ h2).mono ?_
    rintro e w3 ⟨rfl, rfl⟩
    go_wp2
    go_ret
    exact ⟨_, rfl, h2, O2.out, fun h => absurd h HX.out⟩
theorem enter_any (s : ByteArray) (deep : Int) (w : World) (hs : s.size ≤ 9223372036854775807) (hd : 0 ≤ deep ∧ deep ≤ 1000) :
    Calls Tryd.prog 15 #[.string s, .int .i64 deep] w fun e w' => ∃ b, e = .returned (rdV s b (deep + 1)) ∧ w.heap.size ≤ b ∧ CurT 83 w' b (cAt s deep) ∧ Below w.heap.size w w' := by
  have HN := Lib.hid (fun w => new_cur s w hs)
  have m1 : IntKind.i64.wrap (deep + 1) = deep + 1 := IntWalk.i64_in _ (by omega)
  obtain ⟨w0, hw0⟩ : ∃ w0, w0 = w.alloc (.cells #[.string ⟨#[]⟩, .pointer none, .int .i64 0] 48) := ⟨_, rfl⟩
  have K0 : RdT w0 w.heap.size ⟨#[]⟩ none 0 := by rw [hw0]; exact RdT.new w _ _ _
  have B0 : Below w.heap.size w w0 := by rw [hw0]; exact (Below.refl _ w).alloc (Nat.le_refl _) _
  by_cases hq : 32 ≤ deep
  · have p1 : decide ((32 : Int) ≤ deep) = true := decide_eq_true hq
    have HR := Lib.hid (show cAt s deep = (CS.new s).fail 33 by unfold cAt; rw [if_pos hq])
    clear hq hd hs
    go_enter Tryd.func15, Tryd.ntmps15
    go_wp2_with fail
    rw [← hw0]
    clear hw0
    have hG0 := B0.size
    obtain ⟨G, hG⟩ : ∃ G, G = w.heap.size := ⟨_, rfl⟩
    have HG := Lib.hid hG
    rw [← hG] at K0 B0 hG0 ⊢
    clear hG
    refine (HN.out _).mono ?_
    rintro e w1 ⟨b, rfl, hb, h1, b1⟩
    have K1 := K0.below b1 K0.lt
    have hGb : G ≠ b := by have := K0.lt; omega
    have B1 := B0.trans (b1.mono hG0)
    have hb' := Nat.le_trans hG0 hb
    clear K0 B0 b1 HN
    go_wp2_with fail
    with_reducible refine (fail_any h1 33).mono ?_
    rintro e w2 ⟨rfl, h2, o2⟩
    have K2 := K1.only o2 hGb
    have B2 := B1.trans (o2.below hb' (Nat.le_trans hG0 (Nat.le_trans hb (Nat.le_of_lt h1.lt))))
    clear h1 K1 B1 o2
    have g0 := K2.c0; have g1 := K2.c1; have g2 := K2.c2; have gf := K2.fr
    have K3 := Lib.hid (K2.setAll s (some ⟨b, 0, none⟩) (deep + 1))
    have h3 := Lib.hid (gset_cur (o := 2) (x := .int .i64 (deep + 1)) (gset_cur (o := 1) (x := .pointer (some ⟨b, 0, none⟩)) (gset_cur (o := 0) (x := .string s) h2 hGb.symm) hGb.symm) hGb.symm)
    have B3 := Lib.hid (gset_keeps (o := 2) (x := .int .i64 (deep + 1)) (gset_keeps (o := 1) (x := .pointer (some ⟨b, 0, none⟩)) (gset_keeps (o := 0) (x := .string s) B2 (Nat.le_refl G)) (Nat.le_refl G)) (Nat.le_refl G))
    clear K2 B2 h2
    simp only []
    repeat (first | go_values | go_skip | go_guarded | go_step | go_upon)
    refine bodyPost_ret (rd_result Tryd.underlying48 rfl (by kernel_rfl) Tryd.results15 K3.out (by kernel_rfl)) rfl ⟨b, rfl, by rw [← HG.out]; exact hb', by rw [HR.out]; exact h3.out, by rw [← HG.out]; exact B3.out⟩
  · have p1 : decide ((32 : Int) ≤ deep) = false := decide_eq_false hq
    have HR := Lib.hid (show cAt s deep = CS.new s by unfold cAt; rw [if_neg hq])
    clear hq hd hs
    go_enter Tryd.func15, Tryd.ntmps15
    go_wp2_with fail
    rw [← hw0]
    clear hw0
    have hG0 := B0.size
    obtain ⟨G, hG⟩ : ∃ G, G = w.heap.size := ⟨_, rfl⟩
    have HG := Lib.hid hG
    rw [← hG] at K0 B0 hG0 ⊢
    clear hG
    refine (HN.out _).mono ?_
    rintro e w1 ⟨b, rfl, hb, h2, b1⟩
    have K2 := K0.below b1 K0.lt
    have hGb : G ≠ b := by have := K0.lt; omega
    have B2 := B0.trans (b1.mono hG0)
    have hb' := Nat.le_trans hG0 hb
    clear K0 B0 b1 HN
    have g0 := K2.c0; have g1 := K2.c1; have g2 := K2.c2; have gf := K2.fr
    have K3 := Lib.hid (K2.setAll s (some ⟨b, 0, none⟩) (deep + 1))
    have h3 := Lib.hid (gset_cur (o := 2) (x := .int .i64 (deep + 1)) (gset_cur (o := 1) (x := .pointer (some ⟨b, 0, none⟩)) (gset_cur (o := 0) (x := .string s) h2 hGb.symm) hGb.symm) hGb.symm)
    have B3 := Lib.hid (gset_keeps (o := 2) (x := .int .i64 (deep + 1)) (gset_keeps (o := 1) (x := .pointer (some ⟨b, 0, none⟩)) (gset_keeps (o := 0) (x := .string s) B2 (Nat.le_refl G)) (Nat.le_refl G)) (Nat.le_refl G))
    clear K2 B2 h2
    simp only []
    repeat (first | go_values | go_skip | go_guarded | go_step | go_upon)
    refine bodyPost_ret (rd_result Tryd.underlying48 rfl (by kernel_rfl) Tryd.results15 K3.out (by kernel_rfl)) rfl ⟨b, rfl, by rw [← HG.out]; exact hb', by rw [HR.out]; exact h3.out, by rw [← HG.out]; exact B3.out⟩
end Go.Proofs.YtmiagebcobcaiaaDoor
/- Package cread: value, kind by kind. -/
namespace Go.Proofs.YtmiagebcobcaiaaDoor
open Go Go.RowKit
set_option linter.unusedVariables false

def nB : ByteArray := ⟨#[]⟩
theorem val_start {w : World} {b : Nat} {c : CS} (h : CurT 83 w b c) (s : ByteArray) (deep id : Int) (k : Nat) (K : Int) (hK : K = (k : Nat)) :
    ∃ w3, w3 = ((w.alloc (.cells #[.string s, .pointer (some ⟨b, 0, none⟩), .int .i64 deep] 48)).alloc (.cells #[.int .i64 0, .int .u8 0, .int .i64 0, .int .u64 0, .string ⟨#[]⟩, .string ⟨#[]⟩] 39)).alloc (.cells #[.int .i64 id, .int .u8 K, .int .i64 0, .int .u64 0, .string ⟨#[]⟩, .string ⟨#[]⟩] 39) ∧
      CurT 83 w3 b c ∧ Only b w w3 ∧ RdT w3 w.heap.size s (some ⟨b, 0, none⟩) deep ∧ GfT 39 w3 (w.heap.size + 1) (0, 0, 0, 0, ⟨#[]⟩, ⟨#[]⟩) ∧ GfT 39 w3 (w.heap.size + 1 + 1) (id, k, 0, 0, ⟨#[]⟩, ⟨#[]⟩) ∧ b < w.heap.size := by
  subst hK
  obtain ⟨h1, o1, -, r1⟩ := rd_start h s deep
  refine ⟨_, rfl, (h1.allocOld _).allocOld _, (o1.alloc _).alloc _, (r1.alloc _).alloc _, ?_, ?_, h.lt⟩
  · have := gf_alloc (w.alloc (.cells #[.string s, .pointer (some ⟨b, 0, none⟩), .int .i64 deep] 48)) (0, 0, 0, 0, ⟨#[]⟩, ⟨#[]⟩) 39
    rw [World.size_alloc] at this
    exact this.alloc _
  · have := gf_alloc ((w.alloc (.cells #[.string s, .pointer (some ⟨b, 0, none⟩), .int .i64 deep] 48)).alloc (.cells #[.int .i64 0, .int .u8 0, .int .i64 0, .int .u64 0, .string ⟨#[]⟩, .string ⟨#[]⟩] 39)) (id, k, 0, 0, ⟨#[]⟩, ⟨#[]⟩) 39
    rw [World.size_alloc, World.size_alloc] at this
    exact this
/-- The end: the field is laid where the result is. -/
theorem val_end {w w4 : World} {b g : Nat} {c : CS} (h : CurT 83 w4 b c) (o : Only b w w4) (hg : b ≠ g) (hw : w.heap.size ≤ g) (y : GD) : CurT 83 ((((((w4.setCell ⟨g, 0, none⟩ (.int .i64 y.1)).setCell ⟨g, 1, none⟩ (.int .u8 (y.2.1 : Nat))).setCell ⟨g, 2, none⟩ (.int .i64 y.2.2.1)).setCell ⟨g, 3, none⟩ (.int .u64 (y.2.2.2.1 : Nat))).setCell ⟨g, 4, none⟩ (.string y.2.2.2.2.1)).setCell ⟨g, 5, none⟩ (.string y.2.2.2.2.2)) b c ∧ Only b w ((((((w4.setCell ⟨g, 0, none⟩ (.int .i64 y.1)).setCell ⟨g, 1, none⟩ (.int .u8 (y.2.1 : Nat))).setCell ⟨g, 2, none⟩ (.int .i64 y.2.2.1)).setCell ⟨g, 3, none⟩ (.int .u64 (y.2.2.2.1 : Nat))).setCell ⟨g, 4, none⟩ (.string y.2.2.2.2.1)).setCell ⟨g, 5, none⟩ (.string y.2.2.2.2.2)) :=
  ⟨(Only.setGf w4 g y).cur h hg, gset_only (gset_only (gset_only (gset_only (gset_only (gset_only o hw) hw) hw) hw) hw) hw⟩
theorem gval_1 {b : Nat} {c : CS} {w : World} (h : CurT 83 w b c) (s : ByteArray) (deep id : Int) :
    Calls Tryd.prog 17 #[rdV s b deep, .int .i64 id, .int .u8 1] w fun e w' => e = .returned (gfV (id, 1, 1, 0, ⟨#[]⟩, ⟨#[]⟩)) ∧ CurT 83 w' b c ∧ Only b w w' := by
  obtain ⟨w3, hw3, h3, o3, r3, z3, f3, hb⟩ := val_start h s deep id 1 1 rfl
  clear h r3
  unfold rdV
  go_enter Tryd.func17, Tryd.ntmps17
  go_upto_region 2 with fail
  rw [← hw3]
  clear hw3
  have k2 := f3.c2; have kf := f3.fr
  go_upto_region 20 with fail
  have f4 := Lib.hid (f3.setNum 1)
  have z4 := Lib.hid (gset_fd (o := 2) (x := .int .i64 1) z3 (show w.heap.size + 1 ≠ w.heap.size + 1 + 1 by omega))
  have h4 := Lib.hid (gset_cur (o := 2) (x := .int .i64 1) h3 (show b ≠ w.heap.size + 1 + 1 by omega))
  have o4 := Lib.hid (gset_only (o := 2) (x := .int .i64 1) o3 (show w.heap.size ≤ w.heap.size + 1 + 1 by omega))
  clear f3 z3 h3 o3 k2 kf
  generalize (w3.setCell ⟨w.heap.size + 1 + 1, 2, none⟩ (.int .i64 1)) = w4 at *
  have e0 := f4.out.c0; have e1 := f4.out.c1; have e2 := f4.out.c2; have e3 := f4.out.c3; have e4 := f4.out.c4; have e5 := f4.out.c5
  have z0 := z4.out.c0; have z1 := z4.out.c1; have z2 := z4.out.c2; have z3 := z4.out.c3; have z4' := z4.out.c4; have z5 := z4.out.c5; have zf := z4.out.fr
  have f5 := Lib.hid (z4.out.setAll (id, 1, 1, 0, ⟨#[]⟩, ⟨#[]⟩))
  have V5 := Lib.hid (val_end h4.out o4.out (show b ≠ w.heap.size + 1 by omega) (show w.heap.size ≤ w.heap.size + 1 by omega) (id, 1, 1, 0, ⟨#[]⟩, ⟨#[]⟩))
  clear f4 z4 h4 o4
  try simp only []
  repeat (first | go_values | go_skip | go_guarded | go_step | go_upon)
  exact bodyPost_ret (gf_result Tryd.underlying39 rfl (by kernel_rfl) Tryd.results17 f5.out (by kernel_rfl)) rfl ⟨rfl, V5.out.1, V5.out.2⟩
theorem gval_2 {b : Nat} {c : CS} {w : World} (h : CurT 83 w b c) (s : ByteArray) (deep id : Int) :
    Calls Tryd.prog 17 #[rdV s b deep, .int .i64 id, .int .u8 2] w fun e w' => e = .returned (gfV (id, 2, 0, 0, ⟨#[]⟩, ⟨#[]⟩)) ∧ CurT 83 w' b c ∧ Only b w w' := by
  obtain ⟨w3, hw3, h3, o3, r3, z3, f3, hb⟩ := val_start h s deep id 2 2 rfl
  clear h r3
  unfold rdV
  go_enter Tryd.func17, Tryd.ntmps17
  go_upto_region 2 with fail
  rw [← hw3]
  clear hw3
  have k2 := f3.c2; have kf := f3.fr
  go_upto_region 20 with fail
  have f4 := Lib.hid (f3.setNum 0)
  have z4 := Lib.hid (gset_fd (o := 2) (x := .int .i64 0) z3 (show w.heap.size + 1 ≠ w.heap.size + 1 + 1 by omega))
  have h4 := Lib.hid (gset_cur (o := 2) (x := .int .i64 0) h3 (show b ≠ w.heap.size + 1 + 1 by omega))
  have o4 := Lib.hid (gset_only (o := 2) (x := .int .i64 0) o3 (show w.heap.size ≤ w.heap.size + 1 + 1 by omega))
  clear f3 z3 h3 o3 k2 kf
  generalize (w3.setCell ⟨w.heap.size + 1 + 1, 2, none⟩ (.int .i64 0)) = w4 at *
  have e0 := f4.out.c0; have e1 := f4.out.c1; have e2 := f4.out.c2; have e3 := f4.out.c3; have e4 := f4.out.c4; have e5 := f4.out.c5
  have z0 := z4.out.c0; have z1 := z4.out.c1; have z2 := z4.out.c2; have z3 := z4.out.c3; have z4' := z4.out.c4; have z5 := z4.out.c5; have zf := z4.out.fr
  have f5 := Lib.hid (z4.out.setAll (id, 2, 0, 0, ⟨#[]⟩, ⟨#[]⟩))
  have V5 := Lib.hid (val_end h4.out o4.out (show b ≠ w.heap.size + 1 by omega) (show w.heap.size ≤ w.heap.size + 1 by omega) (id, 2, 0, 0, ⟨#[]⟩, ⟨#[]⟩))
  clear f4 z4 h4 o4
  try simp only []
  repeat (first | go_values | go_skip | go_guarded | go_step | go_upon)
  exact bodyPost_ret (gf_result Tryd.underlying39 rfl (by kernel_rfl) Tryd.results17 f5.out (by kernel_rfl)) rfl ⟨rfl, V5.out.1, V5.out.2⟩
theorem gval_3 {b : Nat} {c : CS} {w : World} (h : CurT 83 w b c) (hc : c.ok) (s : ByteArray) (deep id : Int) :
    Calls Tryd.prog 17 #[rdV s b deep, .int .i64 id, .int .u8 3] w fun e w' => e = .returned (gfV (id, 3, wideI (c.pB : Nat) 8, 0, ⟨#[]⟩, ⟨#[]⟩)) ∧ CurT 83 w' b c.byte ∧ Only b w w' := by
  obtain ⟨c1, hc1⟩ : ∃ d, d = c.byte := ⟨_, rfl⟩
  obtain ⟨x, hx⟩ : ∃ x, x = c.pB := ⟨_, rfl⟩
  have HB := Lib.hid (fun w (h : CurT 83 w b c) => byte_l (Lib.hid hc1) (Lib.hid hx) h hc)
  have hx8 : x < 256 := by rw [hx]; exact (CS.peekB_nat c).2
  have m1 : IntKind.u64.wrap (x : Int) = (x : Int) := IntWalk.u64_in _ (by omega)
  have HW0 := fun w => wide_any (x : Nat) 8 w
  rw [← hc1, ← hx]
  obtain ⟨n, hn⟩ : ∃ n, n = wideI (x : Nat) 8 := ⟨_, rfl⟩
  rw [← hn] at HW0 ⊢
  have HW := Lib.hid HW0
  obtain ⟨w3, hw3, h3, o3, r3, z3, f3, hb⟩ := val_start h s deep id 3 3 rfl
  clear h hc1 hx hc HW0 hn
  unfold rdV
  go_enter Tryd.func17, Tryd.ntmps17
  go_upto_region 2 with fail
  rw [← hw3]
  clear hw3
  have g0 := r3.c0; have g1 := r3.c1; have g2 := r3.c2
  go_wp2_with fail
  with_reducible refine (HB.out _ h3).mono ?_
  rintro e w5 ⟨rfl, h5, o5⟩
  have f3 := f3.only o5 (show w.heap.size + 1 + 1 ≠ b by omega)
  have z3 := z3.only o5 (show w.heap.size + 1 ≠ b by omega)
  have o3 := o3.trans o5
  clear g0 g1 g2 o5 h3
  have h3 := h5
  clear h5
  go_wp2_with fail
  with_reducible refine (HW.out _).mono ?_
  rintro e w6 ⟨rfl, hww⟩
  rw [hww]
  clear hww
  have k2 := f3.c2; have kf := f3.fr
  go_upto_region 20 with fail
  have f4 := Lib.hid (f3.setNum n)
  have z4 := Lib.hid (gset_fd (o := 2) (x := .int .i64 n) z3 (show w.heap.size + 1 ≠ w.heap.size + 1 + 1 by omega))
  have h4 := Lib.hid (gset_cur (o := 2) (x := .int .i64 n) h3 (show b ≠ w.heap.size + 1 + 1 by omega))
  have o4 := Lib.hid (gset_only (o := 2) (x := .int .i64 n) o3 (show w.heap.size ≤ w.heap.size + 1 + 1 by omega))
  clear f3 z3 h3 o3 k2 kf
  generalize (w5.setCell ⟨w.heap.size + 1 + 1, 2, none⟩ (.int .i64 n)) = w4 at *
  have e0 := f4.out.c0; have e1 := f4.out.c1; have e2 := f4.out.c2; have e3 := f4.out.c3; have e4 := f4.out.c4; have e5 := f4.out.c5
  have z0 := z4.out.c0; have z1 := z4.out.c1; have z2 := z4.out.c2; have z3 := z4.out.c3; have z4' := z4.out.c4; have z5 := z4.out.c5; have zf := z4.out.fr
  have f5 := Lib.hid (z4.out.setAll (id, 3, n, 0, ⟨#[]⟩, ⟨#[]⟩))
  have V5 := Lib.hid (val_end h4.out o4.out (show b ≠ w.heap.size + 1 by omega) (show w.heap.size ≤ w.heap.size + 1 by omega) (id, 3, n, 0, ⟨#[]⟩, ⟨#[]⟩))
  clear f4 z4 h4 o4
  try simp only []
  repeat (first | go_values | go_skip | go_guarded | go_step | go_upon)
  exact bodyPost_ret (gf_result Tryd.underlying39 rfl (by kernel_rfl) Tryd.results17 f5.out (by kernel_rfl)) rfl ⟨rfl, V5.out.1, V5.out.2⟩
theorem gval_4 {b : Nat} {c : CS} {w : World} (h : CurT 83 w b c) (hc : c.ok) (s : ByteArray) (deep id : Int) :
    Calls Tryd.prog 17 #[rdV s b deep, .int .i64 id, .int .u8 4] w fun e w' => e = .returned (gfV (id, 4, zagI (c.vVal : Nat), 0, ⟨#[]⟩, ⟨#[]⟩)) ∧ CurT 83 w' b (c.vTo.want (fitB 4 c.vVal) 4) ∧ Only b w w' := by
  have HW0 := fun w (h : CurT 83 w b c) => whole_any h hc s deep 16
  rw [show decide (fitC (zagI (c.vVal : Nat)) 16 = 0) = fitB 4 c.vVal from rfl] at HW0
  obtain ⟨D, hD⟩ : ∃ d, d = c.vTo.want (fitB 4 c.vVal) 4 := ⟨_, rfl⟩
  obtain ⟨n, hn⟩ : ∃ n, n = zagI (c.vVal : Nat) := ⟨_, rfl⟩
  rw [← hD, ← hn] at HW0 ⊢
  have HW := Lib.hid HW0
  unfold rdV at HW
  obtain ⟨w3, hw3, h3, o3, r3, z3, f3, hb⟩ := val_start h s deep id 4 4 rfl
  clear h hc HW0 hD hn
  unfold rdV
  go_enter Tryd.func17, Tryd.ntmps17
  go_upto_region 2 with fail
  rw [← hw3]
  clear hw3
  have g0 := r3.c0; have g1 := r3.c1; have g2 := r3.c2
  go_wp2_with fail
  with_reducible refine (HW.out _ h3).mono ?_
  rintro e w5 ⟨rfl, h5, o5⟩
  have f3 := f3.only o5 (show w.heap.size + 1 + 1 ≠ b by omega)
  have z3 := z3.only o5 (show w.heap.size + 1 ≠ b by omega)
  have o3 := o3.trans o5
  clear g0 g1 g2 o5 h3
  have h3 := h5
  clear h5
  have k2 := f3.c2; have kf := f3.fr
  go_upto_region 20 with fail
  have f4 := Lib.hid (f3.setNum n)
  have z4 := Lib.hid (gset_fd (o := 2) (x := .int .i64 n) z3 (show w.heap.size + 1 ≠ w.heap.size + 1 + 1 by omega))
  have h4 := Lib.hid (gset_cur (o := 2) (x := .int .i64 n) h3 (show b ≠ w.heap.size + 1 + 1 by omega))
  have o4 := Lib.hid (gset_only (o := 2) (x := .int .i64 n) o3 (show w.heap.size ≤ w.heap.size + 1 + 1 by omega))
  clear f3 z3 h3 o3 k2 kf
  generalize (w5.setCell ⟨w.heap.size + 1 + 1, 2, none⟩ (.int .i64 n)) = w4 at *
  have e0 := f4.out.c0; have e1 := f4.out.c1; have e2 := f4.out.c2; have e3 := f4.out.c3; have e4 := f4.out.c4; have e5 := f4.out.c5
  have z0 := z4.out.c0; have z1 := z4.out.c1; have z2 := z4.out.c2; have z3 := z4.out.c3; have z4' := z4.out.c4; have z5 := z4.out.c5; have zf := z4.out.fr
  have f5 := Lib.hid (z4.out.setAll (id, 4, n, 0, ⟨#[]⟩, ⟨#[]⟩))
  have V5 := Lib.hid (val_end h4.out o4.out (show b ≠ w.heap.size + 1 by omega) (show w.heap.size ≤ w.heap.size + 1 by omega) (id, 4, n, 0, ⟨#[]⟩, ⟨#[]⟩))
  clear f4 z4 h4 o4
  try simp only []
  repeat (first | go_values | go_skip | go_guarded | go_step | go_upon)
  exact bodyPost_ret (gf_result Tryd.underlying39 rfl (by kernel_rfl) Tryd.results17 f5.out (by kernel_rfl)) rfl ⟨rfl, V5.out.1, V5.out.2⟩
theorem gval_5 {b : Nat} {c : CS} {w : World} (h : CurT 83 w b c) (hc : c.ok) (s : ByteArray) (deep id : Int) :
    Calls Tryd.prog 17 #[rdV s b deep, .int .i64 id, .int .u8 5] w fun e w' => e = .returned (gfV (id, 5, zagI (c.vVal : Nat), 0, ⟨#[]⟩, ⟨#[]⟩)) ∧ CurT 83 w' b (c.vTo.want (fitB 5 c.vVal) 4) ∧ Only b w w' := by
  have HW0 := fun w (h : CurT 83 w b c) => whole_any h hc s deep 32
  rw [show decide (fitC (zagI (c.vVal : Nat)) 32 = 0) = fitB 5 c.vVal from rfl] at HW0
  obtain ⟨D, hD⟩ : ∃ d, d = c.vTo.want (fitB 5 c.vVal) 4 := ⟨_, rfl⟩
  obtain ⟨n, hn⟩ : ∃ n, n = zagI (c.vVal : Nat) := ⟨_, rfl⟩
  rw [← hD, ← hn] at HW0 ⊢
  have HW := Lib.hid HW0
  unfold rdV at HW
  obtain ⟨w3, hw3, h3, o3, r3, z3, f3, hb⟩ := val_start h s deep id 5 5 rfl
  clear h hc HW0 hD hn
  unfold rdV
  go_enter Tryd.func17, Tryd.ntmps17
  go_upto_region 2 with fail
  rw [← hw3]
  clear hw3
  have g0 := r3.c0; have g1 := r3.c1; have g2 := r3.c2
  go_wp2_with fail
  with_reducible refine (HW.out _ h3).mono ?_
  rintro e w5 ⟨rfl, h5, o5⟩
  have f3 := f3.only o5 (show w.heap.size + 1 + 1 ≠ b by omega)
  have z3 := z3.only o5 (show w.heap.size + 1 ≠ b by omega)
  have o3 := o3.trans o5
  clear g0 g1 g2 o5 h3
  have h3 := h5
  clear h5
  have k2 := f3.c2; have kf := f3.fr
  go_upto_region 20 with fail
  have f4 := Lib.hid (f3.setNum n)
  have z4 := Lib.hid (gset_fd (o := 2) (x := .int .i64 n) z3 (show w.heap.size + 1 ≠ w.heap.size + 1 + 1 by omega))
  have h4 := Lib.hid (gset_cur (o := 2) (x := .int .i64 n) h3 (show b ≠ w.heap.size + 1 + 1 by omega))
  have o4 := Lib.hid (gset_only (o := 2) (x := .int .i64 n) o3 (show w.heap.size ≤ w.heap.size + 1 + 1 by omega))
  clear f3 z3 h3 o3 k2 kf
  generalize (w5.setCell ⟨w.heap.size + 1 + 1, 2, none⟩ (.int .i64 n)) = w4 at *
  have e0 := f4.out.c0; have e1 := f4.out.c1; have e2 := f4.out.c2; have e3 := f4.out.c3; have e4 := f4.out.c4; have e5 := f4.out.c5
  have z0 := z4.out.c0; have z1 := z4.out.c1; have z2 := z4.out.c2; have z3 := z4.out.c3; have z4' := z4.out.c4; have z5 := z4.out.c5; have zf := z4.out.fr
  have f5 := Lib.hid (z4.out.setAll (id, 5, n, 0, ⟨#[]⟩, ⟨#[]⟩))
  have V5 := Lib.hid (val_end h4.out o4.out (show b ≠ w.heap.size + 1 by omega) (show w.heap.size ≤ w.heap.size + 1 by omega) (id, 5, n, 0, ⟨#[]⟩, ⟨#[]⟩))
  clear f4 z4 h4 o4
  try simp only []
  repeat (first | go_values | go_skip | go_guarded | go_step | go_upon)
  exact bodyPost_ret (gf_result Tryd.underlying39 rfl (by kernel_rfl) Tryd.results17 f5.out (by kernel_rfl)) rfl ⟨rfl, V5.out.1, V5.out.2⟩
theorem gval_6 {b : Nat} {c : CS} {w : World} (h : CurT 83 w b c) (hc : c.ok) (s : ByteArray) (deep id : Int) :
    Calls Tryd.prog 17 #[rdV s b deep, .int .i64 id, .int .u8 6] w fun e w' => e = .returned (gfV (id, 6, zagI (c.vVal : Nat), 0, ⟨#[]⟩, ⟨#[]⟩)) ∧ CurT 83 w' b (c.vTo.want (fitB 6 c.vVal) 4) ∧ Only b w w' := by
  have HW0 := fun w (h : CurT 83 w b c) => whole_any h hc s deep 64
  rw [show decide (fitC (zagI (c.vVal : Nat)) 64 = 0) = fitB 6 c.vVal from rfl] at HW0
  obtain ⟨D, hD⟩ : ∃ d, d = c.vTo.want (fitB 6 c.vVal) 4 := ⟨_, rfl⟩
  obtain ⟨n, hn⟩ : ∃ n, n = zagI (c.vVal : Nat) := ⟨_, rfl⟩
  rw [← hD, ← hn] at HW0 ⊢
  have HW := Lib.hid HW0
  unfold rdV at HW
  obtain ⟨w3, hw3, h3, o3, r3, z3, f3, hb⟩ := val_start h s deep id 6 6 rfl
  clear h hc HW0 hD hn
  unfold rdV
  go_enter Tryd.func17, Tryd.ntmps17
  go_upto_region 2 with fail
  rw [← hw3]
  clear hw3
  have g0 := r3.c0; have g1 := r3.c1; have g2 := r3.c2
  go_wp2_with fail
  with_reducible refine (HW.out _ h3).mono ?_
  rintro e w5 ⟨rfl, h5, o5⟩
  have f3 := f3.only o5 (show w.heap.size + 1 + 1 ≠ b by omega)
  have z3 := z3.only o5 (show w.heap.size + 1 ≠ b by omega)
  have o3 := o3.trans o5
  clear g0 g1 g2 o5 h3
  have h3 := h5
  clear h5
  have k2 := f3.c2; have kf := f3.fr
  go_upto_region 20 with fail
  have f4 := Lib.hid (f3.setNum n)
  have z4 := Lib.hid (gset_fd (o := 2) (x := .int .i64 n) z3 (show w.heap.size + 1 ≠ w.heap.size + 1 + 1 by omega))
  have h4 := Lib.hid (gset_cur (o := 2) (x := .int .i64 n) h3 (show b ≠ w.heap.size + 1 + 1 by omega))
  have o4 := Lib.hid (gset_only (o := 2) (x := .int .i64 n) o3 (show w.heap.size ≤ w.heap.size + 1 + 1 by omega))
  clear f3 z3 h3 o3 k2 kf
  generalize (w5.setCell ⟨w.heap.size + 1 + 1, 2, none⟩ (.int .i64 n)) = w4 at *
  have e0 := f4.out.c0; have e1 := f4.out.c1; have e2 := f4.out.c2; have e3 := f4.out.c3; have e4 := f4.out.c4; have e5 := f4.out.c5
  have z0 := z4.out.c0; have z1 := z4.out.c1; have z2 := z4.out.c2; have z3 := z4.out.c3; have z4' := z4.out.c4; have z5 := z4.out.c5; have zf := z4.out.fr
  have f5 := Lib.hid (z4.out.setAll (id, 6, n, 0, ⟨#[]⟩, ⟨#[]⟩))
  have V5 := Lib.hid (val_end h4.out o4.out (show b ≠ w.heap.size + 1 by omega) (show w.heap.size ≤ w.heap.size + 1 by omega) (id, 6, n, 0, ⟨#[]⟩, ⟨#[]⟩))
  clear f4 z4 h4 o4
  try simp only []
  repeat (first | go_values | go_skip | go_guarded | go_step | go_upon)
  exact bodyPost_ret (gf_result Tryd.underlying39 rfl (by kernel_rfl) Tryd.results17 f5.out (by kernel_rfl)) rfl ⟨rfl, V5.out.1, V5.out.2⟩
theorem gval_7 {b : Nat} {c : CS} {w : World} (h : CurT 83 w b c) (hc : c.ok) (s : ByteArray) (deep id : Int) (ht : Tab w) (hg : 0 ≠ b) :
    Calls Tryd.prog 17 #[rdV s b deep, .int .i64 id, .int .u8 7] w fun e w' => e = .returned (gfV (id, 7, 0, valL (c.takeS (8 : Nat)).data.toList, ⟨#[]⟩, ⟨#[]⟩)) ∧ CurT 83 w' b (c.take (8 : Nat)) ∧ Only b w w' := by
  have HL0 := fun w (h : CurT 83 w b c) (ht : Tab w) => readLow64_any h hc ht hg
  obtain ⟨D, hD⟩ : ∃ d, d = c.take (8 : Nat) := ⟨_, rfl⟩
  obtain ⟨n, hn⟩ : ∃ n, n = valL (c.takeS (8 : Nat)).data.toList := ⟨_, rfl⟩
  rw [← hD, ← hn] at HL0 ⊢
  have HL := Lib.hid HL0
  have gl := ht.lt
  obtain ⟨w3, hw3, h3, o3, r3, z3, f3, hb⟩ := val_start h s deep id 7 7 rfl
  have HT := Lib.hid (show Tab w3 from fun k hk => by
    have := o3.block 0 gl hg
    rw [World.cell?_of_block (w := w) this]; exact ht k hk)
  clear h hc HL0 hD hn ht
  unfold rdV
  go_enter Tryd.func17, Tryd.ntmps17
  go_upto_region 2 with fail
  rw [← hw3]
  clear hw3
  have g0 := r3.c0; have g1 := r3.c1; have g2 := r3.c2
  go_wp2_with fail
  with_reducible refine (HL.out _ h3 HT.out).mono ?_
  rintro e w5 ⟨rfl, h5, o5⟩
  have f3 := f3.only o5 (show w.heap.size + 1 + 1 ≠ b by omega)
  have z3 := z3.only o5 (show w.heap.size + 1 ≠ b by omega)
  have o3 := o3.trans o5
  clear g0 g1 g2 o5 h3
  have h3 := h5
  clear h5
  have k2 := f3.c3; have kf := f3.fr
  go_upto_region 20 with fail
  have f4 := Lib.hid (f3.setBits n)
  have z4 := Lib.hid (gset_fd (o := 3) (x := .int .u64 (n : Nat)) z3 (show w.heap.size + 1 ≠ w.heap.size + 1 + 1 by omega))
  have h4 := Lib.hid (gset_cur (o := 3) (x := .int .u64 (n : Nat)) h3 (show b ≠ w.heap.size + 1 + 1 by omega))
  have o4 := Lib.hid (gset_only (o := 3) (x := .int .u64 (n : Nat)) o3 (show w.heap.size ≤ w.heap.size + 1 + 1 by omega))
  clear f3 z3 h3 o3 k2 kf
  generalize (w5.setCell ⟨w.heap.size + 1 + 1, 3, none⟩ (.int .u64 (n : Nat))) = w4 at *
  have e0 := f4.out.c0; have e1 := f4.out.c1; have e2 := f4.out.c2; have e3 := f4.out.c3; have e4 := f4.out.c4; have e5 := f4.out.c5
  have z0 := z4.out.c0; have z1 := z4.out.c1; have z2 := z4.out.c2; have z3 := z4.out.c3; have z4' := z4.out.c4; have z5 := z4.out.c5; have zf := z4.out.fr
  have f5 := Lib.hid (z4.out.setAll (id, 7, 0, n, ⟨#[]⟩, ⟨#[]⟩))
  have V5 := Lib.hid (val_end h4.out o4.out (show b ≠ w.heap.size + 1 by omega) (show w.heap.size ≤ w.heap.size + 1 by omega) (id, 7, 0, n, ⟨#[]⟩, ⟨#[]⟩))
  clear f4 z4 h4 o4
  try simp only []
  repeat (first | go_values | go_skip | go_guarded | go_step | go_upon)
  exact bodyPost_ret (gf_result Tryd.underlying39 rfl (by kernel_rfl) Tryd.results17 f5.out (by kernel_rfl)) rfl ⟨rfl, V5.out.1, V5.out.2⟩
theorem gval_8 {b : Nat} {c : CS} {w : World} (h : CurT 83 w b c) (hc : c.ok) (s : ByteArray) (deep id : Int) :
    Calls Tryd.prog 17 #[rdV s b deep, .int .i64 id, .int .u8 8] w fun e w' => ∃ T, e = .returned (gfV (id, 8, 0, 0, T, ⟨#[]⟩)) ∧ CurT 83 w' b c.txt ∧ Only b w w' ∧ (c.txt.er = 0 → T = c.vTo.takeS (c.vVal : Nat)) := by
  have HL := Lib.hid (fun w (h : CurT 83 w b c) => gtext_any h hc s deep)
  unfold rdV at HL
  obtain ⟨w3, hw3, h3, o3, r3, z3, f3, hb⟩ := val_start h s deep id 8 8 rfl
  clear h hc
  unfold rdV
  go_enter Tryd.func17, Tryd.ntmps17
  go_upto_region 2 with fail
  rw [← hw3]
  clear hw3
  have g0 := r3.c0; have g1 := r3.c1; have g2 := r3.c2
  go_wp2_with fail
  with_reducible refine (HL.out _ h3).mono ?_
  rintro e w5 ⟨T, rfl, h5, o5, hT⟩
  have f3 := f3.only o5 (show w.heap.size + 1 + 1 ≠ b by omega)
  have z3 := z3.only o5 (show w.heap.size + 1 ≠ b by omega)
  have o3 := o3.trans o5
  clear g0 g1 g2 o5 h3
  have h3 := h5
  clear h5
  have HT := Lib.hid hT
  clear hT
  have k2 := f3.c4; have kf := f3.fr
  go_upto_region 20 with fail
  have f4 := Lib.hid (f3.setText T)
  have z4 := Lib.hid (gset_fd (o := 4) (x := .string T) z3 (show w.heap.size + 1 ≠ w.heap.size + 1 + 1 by omega))
  have h4 := Lib.hid (gset_cur (o := 4) (x := .string T) h3 (show b ≠ w.heap.size + 1 + 1 by omega))
  have o4 := Lib.hid (gset_only (o := 4) (x := .string T) o3 (show w.heap.size ≤ w.heap.size + 1 + 1 by omega))
  clear f3 z3 h3 o3 k2 kf
  generalize (w5.setCell ⟨w.heap.size + 1 + 1, 4, none⟩ (.string T)) = w4 at *
  have e0 := f4.out.c0; have e1 := f4.out.c1; have e2 := f4.out.c2; have e3 := f4.out.c3; have e4 := f4.out.c4; have e5 := f4.out.c5
  have z0 := z4.out.c0; have z1 := z4.out.c1; have z2 := z4.out.c2; have z3 := z4.out.c3; have z4' := z4.out.c4; have z5 := z4.out.c5; have zf := z4.out.fr
  have f5 := Lib.hid (z4.out.setAll (id, 8, 0, 0, T, ⟨#[]⟩))
  have V5 := Lib.hid (val_end h4.out o4.out (show b ≠ w.heap.size + 1 by omega) (show w.heap.size ≤ w.heap.size + 1 by omega) (id, 8, 0, 0, T, ⟨#[]⟩))
  clear f4 z4 h4 o4
  try simp only []
  repeat (first | go_values | go_skip | go_guarded | go_step | go_upon)
  exact bodyPost_ret (gf_result Tryd.underlying39 rfl (by kernel_rfl) Tryd.results17 f5.out (by kernel_rfl)) rfl ⟨T, rfl, V5.out.1, V5.out.2, HT.out⟩
theorem gval_no {b : Nat} {c : CS} {w : World} (h : CurT 83 w b c) (hc : c.ok) (deep id : Int) (h0 : 0 ≤ deep) (k : Nat) (hk : k < 256) (hn : ¬ (1 ≤ k ∧ k ≤ 8)) :
    Calls Tryd.prog 17 #[rdV c.s b deep, .int .i64 id, .int .u8 (k : Nat)] w fun e w' => ∃ T, e = .returned (gfV (id, k, 0, 0, ⟨#[]⟩, T)) ∧ CurT 83 w' b (valTo (inTo (32 - deep).toNat) k c) ∧ Only b w w' ∧ ((valTo (inTo (32 - deep).toNat) k c).er = 0 → T = c.s.extract c.at_ (valTo (inTo (32 - deep).toNat) k c).at_) := by
  have HL0 := fun w (h : CurT 83 w b c) => raw_any h hc deep h0 k hk
  obtain ⟨s, hs⟩ : ∃ s, s = c.s := ⟨_, rfl⟩
  rw [← hs] at HL0 ⊢
  have HL := Lib.hid HL0
  unfold rdV at HL
  have p1 : ((k : Int) == 1) = false := beq_eq_false_iff_ne.mpr (by omega)
  have p1' : (k == 1) = false := beq_eq_false_iff_ne.mpr (by omega)
  have p2 : ((k : Int) == 2) = false := beq_eq_false_iff_ne.mpr (by omega)
  have p2' : (k == 2) = false := beq_eq_false_iff_ne.mpr (by omega)
  have p3 : ((k : Int) == 3) = false := beq_eq_false_iff_ne.mpr (by omega)
  have p3' : (k == 3) = false := beq_eq_false_iff_ne.mpr (by omega)
  have p4 : ((k : Int) == 4) = false := beq_eq_false_iff_ne.mpr (by omega)
  have p4' : (k == 4) = false := beq_eq_false_iff_ne.mpr (by omega)
  have p5 : ((k : Int) == 5) = false := beq_eq_false_iff_ne.mpr (by omega)
  have p5' : (k == 5) = false := beq_eq_false_iff_ne.mpr (by omega)
  have p6 : ((k : Int) == 6) = false := beq_eq_false_iff_ne.mpr (by omega)
  have p6' : (k == 6) = false := beq_eq_false_iff_ne.mpr (by omega)
  have p7 : ((k : Int) == 7) = false := beq_eq_false_iff_ne.mpr (by omega)
  have p7' : (k == 7) = false := beq_eq_false_iff_ne.mpr (by omega)
  have p8 : ((k : Int) == 8) = false := beq_eq_false_iff_ne.mpr (by omega)
  have p8' : (k == 8) = false := beq_eq_false_iff_ne.mpr (by omega)
  obtain ⟨w3, hw3, h3, o3, r3, z3, f3, hb⟩ := val_start h s deep id k (k : Nat) rfl
  clear h hc HL0 hs h0 hk hn
  unfold rdV
  go_enter Tryd.func17, Tryd.ntmps17
  go_upto_region 2 with fail
  rw [← hw3]
  clear hw3
  have g0 := r3.c0; have g1 := r3.c1; have g2 := r3.c2
  go_wp2_with fail
  with_reducible refine (HL.out _ h3).mono ?_
  rintro e w5 ⟨T, rfl, h5, o5, hT⟩
  have f3 := f3.only o5 (show w.heap.size + 1 + 1 ≠ b by omega)
  have z3 := z3.only o5 (show w.heap.size + 1 ≠ b by omega)
  have o3 := o3.trans o5
  clear g0 g1 g2 o5 h3
  have h3 := h5
  clear h5
  have HT := Lib.hid hT
  clear hT
  have k2 := f3.c5; have kf := f3.fr
  go_upto_region 20 with fail
  have f4 := Lib.hid (f3.setRaw T)
  have z4 := Lib.hid (gset_fd (o := 5) (x := .string T) z3 (show w.heap.size + 1 ≠ w.heap.size + 1 + 1 by omega))
  have h4 := Lib.hid (gset_cur (o := 5) (x := .string T) h3 (show b ≠ w.heap.size + 1 + 1 by omega))
  have o4 := Lib.hid (gset_only (o := 5) (x := .string T) o3 (show w.heap.size ≤ w.heap.size + 1 + 1 by omega))
  clear f3 z3 h3 o3 k2 kf
  generalize (w5.setCell ⟨w.heap.size + 1 + 1, 5, none⟩ (.string T)) = w4 at *
  have e0 := f4.out.c0; have e1 := f4.out.c1; have e2 := f4.out.c2; have e3 := f4.out.c3; have e4 := f4.out.c4; have e5 := f4.out.c5
  have z0 := z4.out.c0; have z1 := z4.out.c1; have z2 := z4.out.c2; have z3 := z4.out.c3; have z4' := z4.out.c4; have z5 := z4.out.c5; have zf := z4.out.fr
  have f5 := Lib.hid (z4.out.setAll (id, k, 0, 0, ⟨#[]⟩, T))
  have V5 := Lib.hid (val_end h4.out o4.out (show b ≠ w.heap.size + 1 by omega) (show w.heap.size ≤ w.heap.size + 1 by omega) (id, k, 0, 0, ⟨#[]⟩, T))
  clear f4 z4 h4 o4
  try simp only []
  repeat (first | go_values | go_skip | go_guarded | go_step | go_upon)
  exact bodyPost_ret (gf_result Tryd.underlying39 rfl (by kernel_rfl) Tryd.results17 f5.out (by kernel_rfl)) rfl ⟨T, rfl, V5.out.1, V5.out.2, HT.out⟩
end Go.Proofs.YtmiagebcobcaiaaDoor
/- Package cread: value, item, whatever the kind. -/
namespace Go.Proofs.YtmiagebcobcaiaaDoor
open Go Go.RowKit
set_option linter.unusedVariables false

theorem want_both {c : CS} {x : Bool} {k : Int} (hk : k ≠ 0) (h : (c.want x k).er = 0) : x = true ∧ c.er = 0 := by
  cases x
  · exfalso
    rw [CS.want_no] at h
    by_cases h0 : c.er = 0
    · exact CS.bad_er h0 hk h
    · rw [CS.fail_fail h0] at h; exact h0 h
  · exact ⟨rfl, h⟩
theorem gOf_one (id : Int) (s : ByteArray) : gOf id 1 s = (id, 1, 1, 0, ⟨#[]⟩, ⟨#[]⟩) := rfl
theorem gOf_two (id : Int) (s : ByteArray) : gOf id 2 s = (id, 2, 0, 0, ⟨#[]⟩, ⟨#[]⟩) := rfl
theorem value_all {b : Nat} {c : CS} {w : World} (h : CurT 83 w b c) (hc : c.ok) (deep id : Int) (h0 : 0 ≤ deep) (k : Nat) (hk : k < 256) (ht : Tab w) (hg : 0 ≠ b) :
    Calls Tryd.prog 17 #[rdV c.s b deep, .int .i64 id, .int .u8 (k : Nat)] w fun e w' => ∃ x, e = .returned (gfV x) ∧ CurT 83 w' b (valTo (rdTo (32 - deep).toNat) k c) ∧ Only b w w' ∧ ((valTo (rdTo (32 - deep).toNat) k c).er = 0 → x = gAt (rdTo (32 - deep).toNat) id k c) := by
  generalize hd : (32 - deep).toNat = d at *
  unfold gAt
  by_cases h8 : 1 ≤ k ∧ k ≤ 8
  · have hcase : k = 1 ∨ k = 2 ∨ k = 3 ∨ (4 ≤ k ∧ k ≤ 6) ∨ k = 7 ∨ k = 8 := by omega
    rcases hcase with rfl | rfl | rfl | hn | rfl | rfl
    · refine (gval_1 h c.s deep id).mono ?_
      rintro e w' ⟨rfl, h1, o1⟩
      exact ⟨_, rfl, h1, o1, fun _ => rfl⟩
    · refine (gval_2 h c.s deep id).mono ?_
      rintro e w' ⟨rfl, h1, o1⟩
      exact ⟨_, rfl, h1, o1, fun _ => rfl⟩
    · have hv : valTo (rdTo d) 3 c = c.byte := by rw [val_no rfl, rdTo_flat rfl, inTo_flat rfl]; rfl
      rw [hv]
      refine (gval_3 h hc c.s deep id).mono ?_
      rintro e w' ⟨rfl, h1, o1⟩
      refine ⟨_, rfl, h1, o1, fun he => ?_⟩
      have := sub_byte hc he
      unfold gOf
      rw [this]; rfl
    · have hv : valTo (rdTo d) k c = c.vTo.want (fitB k c.vVal) 4 := by rw [val_no (by unfold trB; simp; omega), rdTo_num hn]
      rw [hv]
      have hx : (c.vTo.want (fitB k c.vVal) 4).er = 0 → gOf id k (c.s.extract c.at_ (c.vTo.want (fitB k c.vVal) 4).at_) = (id, k, zagI (c.vVal : Nat), 0, ⟨#[]⟩, ⟨#[]⟩) := by
        intro he
        obtain ⟨e1, e2⟩ := want_both (by decide) he
        obtain ⟨n, hn1, hn2, hn3⟩ := sub_num hc e2
        have hw : (c.vTo.want (fitB k c.vVal) 4).at_ = c.at_ + (n + 0) := by rw [e1, CS.want_yes, hn2]; rfl
        rw [hw]
        have := (hn3 0 (by omega)).1
        unfold gOf
        have hbk : ¬ bitsK k = 0 := by
          have hcase : k = 4 ∨ k = 5 ∨ k = 6 := by omega
          rcases hcase with rfl | rfl | rfl <;> decide
        rw [this, if_neg (by omega), if_neg (by omega), if_neg hbk, if_neg (by omega), if_neg (by omega), if_neg (by omega)]
      have hcase : k = 4 ∨ k = 5 ∨ k = 6 := by omega
      rcases hcase with rfl | rfl | rfl
      · refine (gval_4 h hc c.s deep id).mono ?_
        rintro e w' ⟨rfl, h1, o1⟩
        exact ⟨_, rfl, h1, o1, fun he => (hx he).symm⟩
      · refine (gval_5 h hc c.s deep id).mono ?_
        rintro e w' ⟨rfl, h1, o1⟩
        exact ⟨_, rfl, h1, o1, fun he => (hx he).symm⟩
      · refine (gval_6 h hc c.s deep id).mono ?_
        rintro e w' ⟨rfl, h1, o1⟩
        exact ⟨_, rfl, h1, o1, fun he => (hx he).symm⟩
    · have hv : valTo (rdTo d) 7 c = c.take 8 := by rw [val_no rfl, rdTo_flat rfl, inTo_flat rfl]; rfl
      rw [hv]
      refine (gval_7 h hc c.s deep id ht hg).mono ?_
      rintro e w' ⟨rfl, h1, o1⟩
      refine ⟨_, rfl, h1, o1, fun he => ?_⟩
      have := (sub_eight hc he).1
      unfold gOf
      rw [this]; rfl
    · have hv : valTo (rdTo d) 8 c = c.txt := by rw [val_no rfl, rdTo_flat rfl, inTo_flat rfl]; rfl
      rw [hv]
      refine (gval_8 h hc c.s deep id).mono ?_
      rintro e w' ⟨T, rfl, h1, o1, hT⟩
      refine ⟨_, rfl, h1, o1, fun he => ?_⟩
      have := (sub_text hc he).2.2.2.1
      unfold gOf
      rw [if_pos rfl, this, ← hT he]; rfl
  · have hb : bitsK k = 0 := bitsK_no (by omega)
    have hv : valTo (rdTo d) k c = valTo (inTo d) k c := by unfold valTo; rw [rdTo_flat hb]
    rw [hv]
    refine (gval_no h hc deep id h0 k hk h8).mono ?_
    rw [hd]
    rintro e w' ⟨T, rfl, h1, o1, hT⟩
    refine ⟨_, rfl, h1, o1, fun he => ?_⟩
    have h9 : 9 ≤ k := by
      rcases Nat.lt_or_ge k 9 with h9 | h9
      · exfalso
        obtain rfl : k = 0 := by omega
        have : valTo (inTo d) 0 c = c.fail 7 := by rw [val_no rfl, inTo_flat rfl]; rfl
        rw [this] at he
        by_cases e0 : c.er = 0
        · exact CS.bad_er e0 (by decide) he
        · rw [CS.fail_fail e0] at he; exact e0 he
      · exact h9
    unfold gOf
    rw [← hT he, if_neg (by omega), if_neg (by omega), if_pos hb, if_neg (by omega), if_neg (by omega), if_pos h9]
/-- A value within a list. -/
theorem item_all {b : Nat} {c : CS} {w : World} (h : CurT 83 w b c) (hc : c.ok) (deep : Int) (j : Nat) (h0 : 0 ≤ deep) (k : Nat) (hk : k < 256) (ht : Tab w) (hg : 0 ≠ b) :
    Calls Tryd.prog 26 #[rdV c.s b deep, .int .i64 (j : Nat), .int .u8 (k : Nat)] w fun e w' => ∃ x, e = .returned (gfV x) ∧ CurT 83 w' b (rdTo (32 - deep).toNat k c) ∧ Only b w w' ∧ ((rdTo (32 - deep).toNat k c).er = 0 → x = iAt (rdTo (32 - deep).toNat) j k c) := by
  have hstd := rd_std (32 - deep).toNat k c hc
  have hV := fun k (hk : k < 256) c w (hs : c.s = c.s) (h : CurT 83 w b c) hc (ht : Tab w) => value_all h hc deep (j : Nat) h0 k hk ht hg
  have HS := Lib.hid (fun w => same_true k w)
  generalize (32 - deep).toNat = d at *
  have gl := ht.lt
  have S0 := Lib.hid (rd_start h c.s deep)
  obtain ⟨w1, hw1⟩ : ∃ w1, w1 = (w.alloc (.cells #[.string c.s, .pointer (some ⟨b, 0, none⟩), .int .i64 deep] 48)).alloc (.cells #[.int .i64 0, .int .u8 0, .int .i64 0, .int .u64 0, .string ⟨#[]⟩, .string ⟨#[]⟩] 39) := ⟨_, rfl⟩
  have hz := gf_alloc (w.alloc (.cells #[.string c.s, .pointer (some ⟨b, 0, none⟩), .int .i64 deep] 48)) (0, 0, 0, 0, ⟨#[]⟩, ⟨#[]⟩) 39
  rw [World.size_alloc] at hz
  have z1 : GfT 39 w1 (w.heap.size + 1) (0, 0, 0, 0, ⟨#[]⟩, ⟨#[]⟩) := by rw [hw1]; exact hz
  have h1 : CurT 83 w1 b c := by rw [hw1]; exact S0.out.1.allocOld _
  have o1 : Only b w w1 := by rw [hw1]; exact S0.out.2.1.alloc _
  have r1 : RdT w1 w.heap.size c.s (some ⟨b, 0, none⟩) deep := by rw [hw1]; exact S0.out.2.2.2.alloc _
  have hb : b < w.heap.size := h.lt
  have T1 : Tab w1 := fun k hk => by
    have := o1.block 0 gl hg
    rw [World.cell?_of_block (w := w) this]; exact ht k hk
  clear hz S0 h ht
  rcases Bool.eq_false_or_eq_true (trB k) with htr | htr
  · have hrd : rdTo d k c = c.tru := by
      have h9 : hdK k = false := by
        unfold trB at htr; simp at htr
        rcases htr with rfl | rfl <;> rfl
      have hb0 : bitsK k = 0 := by
        unfold trB at htr; simp at htr
        rcases htr with rfl | rfl <;> rfl
      rw [rdTo_flat hb0, inTo_flat h9]; unfold flatTo; rw [if_pos htr]
    have hko : kOf k c = kT c := by unfold kOf kT; rw [if_pos htr]
    rw [htr] at HS
    have HT := Lib.hid (fun w (h : CurT 83 w b c) => rtruth_any h hc c.s deep)
    have hkt : kT c = 1 ∨ kT c = 2 := by unfold kT; split; exact .inl rfl; exact .inr rfl
    have hS : c.tru.s = c.s := by rw [← hrd]; exact hstd.2.1
    have hi : ∀ s, gOf (j : Int) (kT c) s = (((j : Int), kT c, (if kT c = 1 then (1 : Int) else 0), 0, ⟨#[]⟩, ⟨#[]⟩) : GD) := by
      intro s; rcases hkt with e | e <;> (rw [e]; rfl)
    unfold iAt
    rw [hko, hrd, hi]
    have HV := Lib.hid (fun w (h : CurT 83 w b c.tru) => show Calls Tryd.prog 17 #[.agg #[.string c.s, .pointer (some ⟨b, 0, none⟩), .int .i64 deep], .int .i64 (j : Nat), .int .u8 (kT c : Nat)] w fun e w' => e = .returned (gfV ((j : Int), kT c, (if kT c = 1 then (1 : Int) else 0), 0, ⟨#[]⟩, ⟨#[]⟩)) ∧ CurT 83 w' b c.tru ∧ Only b w w' from by
      rcases hkt with e | e
      · rw [e]; exact gval_1 h c.s deep (j : Int)
      · rw [e]; exact gval_2 h c.s deep (j : Int))
    generalize (if kT c = 1 then (1 : Int) else 0) = n at *
    generalize kT c = q at *
    generalize c.tru = D at *
    obtain ⟨s, hs⟩ : ∃ s, s = c.s := ⟨_, rfl⟩
    rw [← hs] at HT HV r1 hw1 ⊢
    clear hrd hko hkt hi hV hs hS hstd htr hc
    unfold rdV at HT ⊢
    go_enter Tryd.func26, Tryd.ntmps26
    go_wp2_with fail
    rw [← hw1]
    clear hw1
    with_reducible refine (HS.out _).mono ?_
    rintro e w2 ⟨rfl, hww⟩
    rw [hww]; clear hww
    have g0 := r1.c0; have g1 := r1.c1; have g2 := r1.c2
    go_wp2_with fail
    with_reducible refine (HT.out _ h1).mono ?_
    rintro e w3 ⟨rfl, h3, o3⟩
    have r3 := r1.only o3 (show w.heap.size ≠ b by omega)
    have z3 := z1.only o3 (show w.heap.size + 1 ≠ b by omega)
    have o3 := o1.trans o3
    clear g0 g1 g2 h1 r1 z1 o1 T1
    have g0 := r3.c0; have g1 := r3.c1; have g2 := r3.c2
    go_wp2_with fail
    with_reducible refine (HV.out _ h3).mono ?_
    rintro e w4 ⟨rfl, h4, o4⟩
    have z4 := Lib.hid (z3.only o4 (show w.heap.size + 1 ≠ b by omega))
    have z0 := z4.out.c0; have z1 := z4.out.c1; have z2 := z4.out.c2; have z3' := z4.out.c3; have z4' := z4.out.c4; have z5 := z4.out.c5; have zf := z4.out.fr
    have f5 := Lib.hid (z4.out.setAll ((j : Int), q, n, 0, ⟨#[]⟩, ⟨#[]⟩))
    have V5 := Lib.hid (val_end h4 (o3.trans o4) (show b ≠ w.heap.size + 1 by omega) (show w.heap.size ≤ w.heap.size + 1 by omega) ((j : Int), q, n, 0, ⟨#[]⟩, ⟨#[]⟩))
    clear z4 h4 o4 o3 z3 r3 g0 g1 g2
    unfold gfV
    try simp only []
    repeat (first | go_values | go_skip | go_guarded | go_step | go_upon)
    exact bodyPost_ret (gf_result Tryd.underlying39 rfl (by kernel_rfl) Tryd.results26 f5.out (by kernel_rfl)) rfl ⟨_, rfl, V5.out.1, V5.out.2, fun _ => rfl⟩
  · rw [htr] at HS
    have hko : kOf k c = k := by unfold kOf; rw [if_neg (by rw [htr]; decide)]
    have hv : valTo (rdTo d) k c = rdTo d k c := val_no htr c
    have HV := Lib.hid (fun w (h : CurT 83 w b c) ht => hV k hk c w rfl h hc ht)
    unfold gAt at HV
    unfold iAt
    rw [hko]
    rw [hv] at HV
    generalize rdTo d k c = D at *
    generalize gOf (j : Nat) k (c.s.extract c.at_ D.at_) = X at *
    obtain ⟨s, hs⟩ : ∃ s, s = c.s := ⟨_, rfl⟩
    rw [← hs] at HV r1 hw1 ⊢
    clear hko hv hV hs hstd htr hc
    unfold rdV at HV ⊢
    go_enter Tryd.func26, Tryd.ntmps26
    go_wp2_with fail
    rw [← hw1]
    clear hw1
    with_reducible refine (HS.out _).mono ?_
    rintro e w2 ⟨rfl, hww⟩
    rw [hww]; clear hww
    have g0 := r1.c0; have g1 := r1.c1; have g2 := r1.c2
    go_wp2_with fail
    with_reducible refine (HV.out _ h1 T1).mono ?_
    rintro e w4 ⟨x, rfl, h4, o4, hx⟩
    have HX := Lib.hid hx
    have z4 := Lib.hid (z1.only o4 (show w.heap.size + 1 ≠ b by omega))
    obtain ⟨x0, x1, x2, x3, x4, x5⟩ := x
    clear hx T1 z1 r1 g0 g1 g2 h1
    have z0 := z4.out.c0; have z1 := z4.out.c1; have z2 := z4.out.c2; have z3' := z4.out.c3; have z4' := z4.out.c4; have z5 := z4.out.c5; have zf := z4.out.fr
    have f5 := Lib.hid (z4.out.setAll (x0, x1, x2, x3, x4, x5))
    have V5 := Lib.hid (val_end h4 (o1.trans o4) (show b ≠ w.heap.size + 1 by omega) (show w.heap.size ≤ w.heap.size + 1 by omega) (x0, x1, x2, x3, x4, x5))
    clear z4 h4 o4 o1
    unfold gfV
    try simp only []
    repeat (first | go_values | go_skip | go_guarded | go_step | go_upon)
    exact bodyPost_ret (gf_result Tryd.underlying39 rfl (by kernel_rfl) Tryd.results26 f5.out (by kernel_rfl)) rfl ⟨_, rfl, V5.out.1, V5.out.2, HX.out⟩
end Go.Proofs.YtmiagebcobcaiaaDoor
