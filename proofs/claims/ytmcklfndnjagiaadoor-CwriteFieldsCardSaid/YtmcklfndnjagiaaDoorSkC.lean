/- Package cskip: passList, passMap, passStruct, where going past a thing within is known. -/
import Derived.Test.YtmcklfndnjagiaaDoorSkB
namespace Go.Proofs.YtmcklfndnjagiaaDoor
open Go Go.RowKit
set_option linter.unusedVariables false

theorem ks_one (w : World) (x : Nat) : KsT (w.alloc (.cells #[.int .u8 (x : Nat)] 5)) w.heap.size [x] := by
  refine ⟨by simp, fun j hj => ?_⟩
  have h0 : j = 0 := by simpa using hj
  subst h0
  have h1 := heap_alloc_new w (.cells #[.int .u8 (x : Nat)] 5)
  simp only [World.cell?]
  rw [h1]; rfl
theorem ks_two (w : World) (x y : Nat) : KsT (w.alloc (.cells #[.int .u8 (x : Nat), .int .u8 (y : Nat)] 5)) w.heap.size [x, y] := by
  refine ⟨by simp, fun j hj => ?_⟩
  have h1 := heap_alloc_new w (.cells #[.int .u8 (x : Nat), .int .u8 (y : Nat)] 5)
  simp only [World.cell?]
  rw [h1]
  match j, hj with
  | 0, _ => rfl
  | 1, _ => rfl
set_option maxHeartbeats 1000000 in
theorem passlist_any {deep : Int} {f : Nat → CS → CS} (hI : InR deep f) (hf : ∀ k, Std (f k)) {b : Nat} {c : CS} {w : World} (h : CurT 105 w b c) (hc : c.ok) :
    Calls Tryd.prog 97 #[plV b deep] w fun e w' => e = .returned (.tuple #[]) ∧ CurT 105 w' b (eachTo f [c.lKd] c.lCt c.lTo) ∧ Only b w w' := by
  have HL := Lib.hid (fun w (h : CurT 105 w b c) => list_any h hc)
  have hok := CS.lTo_ok hc
  have hk := CS.lKd_le c
  have hn := CS.lCt_le c
  obtain ⟨d, hd⟩ : ∃ d, d = c.lTo := ⟨_, rfl⟩
  obtain ⟨x, hx⟩ : ∃ x, x = c.lKd := ⟨_, rfl⟩
  obtain ⟨n, hnn⟩ : ∃ n, n = c.lCt := ⟨_, rfl⟩
  rw [← hd, ← hx, ← hnn] at HL
  rw [← hd] at hok
  rw [← hx] at hk
  rw [← hnn] at hn
  rw [← hd, ← hx, ← hnn]
  have HE := Lib.hid (fun (g : Nat) (w : World) (h : CurT 105 w b d) (hK : KsT w g [x]) (hg : g ≠ b) => each_any hI hf (ks := [x]) (by intro k hk2; simp at hk2; omega) (by simp) hn h hok hK hg 1)
  have S0 := Lib.hid (pl_start h deep)
  have HB := Lib.hid h.lt
  clear hd hx hnn hk hn hok hI hf hc h
  unfold plV at *
  go_enter Tryd.func97, Tryd.ntmps97
  have g0 := S0.out.2.2.2.c0
  go_wp2_with fail
  with_reducible refine (HL.out _ S0.out.1).mono ?_
  rintro e w1 ⟨rfl, h1, o1⟩
  have K1 := Lib.hid (S0.out.2.2.2.only o1 S0.out.2.2.1)
  have O1 := Lib.hid (S0.out.2.1.trans o1)
  have g1 := K1.out.c0
  have g2 := K1.out.c1
  have H1 := Lib.hid h1
  clear g0 o1 h1
  go_wp2_with fail
  refine (HE.out w1.heap.size _ ((Below.heap_alloc _ _ _ H1.out.lt).trans H1.out) (ks_one w1 x) (by have := H1.out.lt; omega)).mono ?_
  rintro e w2 ⟨rfl, h2, o2⟩
  have O2 := Lib.hid ((O1.out.alloc (.cells #[.int .u8 (x : Nat)] 5)).trans o2)
  go_wp2
  go_end0
  exact ⟨rfl, h2, O2.out⟩
set_option maxHeartbeats 1000000 in
theorem passmap_any {deep : Int} {f : Nat → CS → CS} (hI : InR deep f) (hf : ∀ k, Std (f k)) {b : Nat} {c : CS} {w : World} (h : CurT 105 w b c) (hc : c.ok) :
    Calls Tryd.prog 98 #[plV b deep] w fun e w' => e = .returned (.tuple #[]) ∧ CurT 105 w' b (eachTo f [c.mKy, c.mVl] c.mCt c.mTo) ∧ Only b w w' := by
  have HL := Lib.hid (fun w (h : CurT 105 w b c) => map_any h hc)
  have hok := CS.mTo_ok hc
  have hk := CS.mKy_le c
  have hn := CS.mCt_le c
  obtain ⟨d, hd⟩ : ∃ d, d = c.mTo := ⟨_, rfl⟩
  obtain ⟨x, hx⟩ : ∃ x, x = c.mKy := ⟨_, rfl⟩
  obtain ⟨y, hy⟩ : ∃ y, y = c.mVl := ⟨_, rfl⟩
  obtain ⟨n, hnn⟩ : ∃ n, n = c.mCt := ⟨_, rfl⟩
  rw [← hd, ← hx, ← hy, ← hnn] at HL
  rw [← hd] at hok
  rw [← hx, ← hy] at hk
  rw [← hnn] at hn
  rw [← hd, ← hx, ← hy, ← hnn]
  have HE := Lib.hid (fun (g : Nat) (w : World) (h : CurT 105 w b d) (hK : KsT w g [x, y]) (hg : g ≠ b) => each_any hI hf (ks := [x, y]) (by intro k hk2; simp at hk2; omega) (by simp) hn h hok hK hg 2)
  have S0 := Lib.hid (pl_start h deep)
  clear hd hx hy hnn hk hn hok hI hf hc h
  unfold plV at *
  go_enter Tryd.func98, Tryd.ntmps98
  have g0 := S0.out.2.2.2.c0
  go_wp2_with fail
  with_reducible refine (HL.out _ S0.out.1).mono ?_
  rintro e w1 ⟨rfl, h1, o1⟩
  have K1 := Lib.hid (S0.out.2.2.2.only o1 S0.out.2.2.1)
  have O1 := Lib.hid (S0.out.2.1.trans o1)
  have g1 := K1.out.c0
  have g2 := K1.out.c1
  have H1 := Lib.hid h1
  clear g0 o1 h1
  go_wp2_with fail
  refine (HE.out w1.heap.size _ ((Below.heap_alloc _ _ _ H1.out.lt).trans H1.out) (ks_two w1 x y) (by have := H1.out.lt; omega)).mono ?_
  rintro e w2 ⟨rfl, h2, o2⟩
  have O2 := Lib.hid ((O1.out.alloc (.cells #[.int .u8 (x : Nat), .int .u8 (y : Nat)] 5)).trans o2)
  go_wp2
  go_end0
  exact ⟨rfl, h2, O2.out⟩

def FlRel (f : Nat → CS → CS) (R : CS) (P b E : Nat) (deep : Int) (w : World) (v : Value) (wr : World) : Prop :=
  ∃ (m : Nat) (last : Int) (c : CS), v = .int .i64 last ∧ numB last = true ∧ c.ok ∧ c.en = E ∧ c.lf < m ∧ fldTo f m last c = R ∧ CurT 105 wr b c ∧ PlT wr P b deep ∧ Only b w wr
set_option maxHeartbeats 1000000 in
theorem passstruct_any {deep : Int} {f : Nat → CS → CS} (hI : InR deep f) (hf : ∀ k, Std (f k)) {b : Nat} {c : CS} {w : World} (h : CurT 105 w b c) (hc : c.ok) :
    Calls Tryd.prog 99 #[plV b deep] w fun e w' => e = .returned (.tuple #[]) ∧ CurT 105 w' b (fldTo f fuelN 0 c) ∧ Only b w w' := by
  have hv : ∀ k, Std (valTo f k) := by
    intro k
    unfold valTo
    intro c hc
    split
    · exact Std.id c hc
    · exact hf k c hc
  have HV := Lib.hid (value_of hI)
  obtain ⟨R, hR⟩ : ∃ R, R = fldTo f fuelN 0 c := ⟨_, rfl⟩
  rw [← hR]
  obtain ⟨P, hP⟩ : ∃ P, P = w.heap.size := ⟨_, rfl⟩
  have S0 := pl_start h deep
  rw [← hP] at S0
  have hPb := S0.2.2.1
  obtain ⟨E, hE⟩ : ∃ E, E = c.en := ⟨_, rfl⟩
  have HR0 := Lib.hid (show FlRel f R P b E deep w (.int .i64 0) _ from ⟨fuelN, 0, c, rfl, rfl, hc, hE.symm, lf_fuel hc, hR.symm, S0.1, S0.2.2.2, S0.2.1⟩)
  have HS := Lib.hid hv
  unfold plV
  clear S0 hR h hc hI hf hE hv
  go_enter Tryd.func99, Tryd.ntmps99
  go_wp2_with fail
  rw [← hP]
  clear hP
  generalize w.alloc (.cells #[.pointer (some ⟨b, 0, none⟩), .int .i64 deep] 122) = w0 at HR0 ⊢
  go_loopw [2] (fun v wr => FlRel f R P b E deep w v wr) (fun _ wr => E - atOf b wr)
  case atStart => exact HR0.out
  case round =>
    obtain ⟨m, last, c1, rfl, hnl, hok, hen, hlf, hT, q1, q2, o1⟩ := hrel
    have HX := Lib.hid (fun w (h : CurT 105 w b c1) => field_any h hok last hnl)
    have hat := atOf_cur q1
    have hstd : (c1.hTo last).ok ∧ (c1.hTo last).s = c1.s ∧ (c1.hTo last).en = c1.en ∧ c1.at_ ≤ (c1.hTo last).at_ ∧ (¬ c1.er = 0 → c1.hTo last = c1) := head_std last c1 hok
    have hkl := CS.hKd_le c1 last
    have hnum := CS.hId_numb c1 last
    have hmore := head_more (c := c1) hok (last := last)
    have hT1 : fldTo f m last c1 = if c1.hKd last = 0 then c1.hTo last else fldTo f (m - 1) (c1.hId last) (valTo f (c1.hKd last) (c1.hTo last)) := by
      cases m with
      | zero => omega
      | succ m => rfl
    rw [hT1] at hT
    obtain ⟨d, hd⟩ : ∃ d, d = c1.hTo last := ⟨_, rfl⟩
    obtain ⟨x, hx⟩ : ∃ x, x = c1.hKd last := ⟨_, rfl⟩
    obtain ⟨i, hi⟩ : ∃ i, i = c1.hId last := ⟨_, rfl⟩
    rw [← hd, ← hx, ← hi] at hT HX
    rw [← hx] at hkl hmore
    rw [← hi] at hnum
    rw [← hd] at hstd hmore
    have c0 := q2.c0
    by_cases h0 : x = 0
    · subst h0
      rw [if_pos rfl] at hT
      have O1 := Lib.hid o1
      have HT := Lib.hid hT
      clear hT1 hd hx hi hkl hmore hnum hstd hat hlf hen hok hnl o1 hT q2
      go_wp2_with fail
      with_reducible refine (HX.out _ q1).mono ?_
      rintro e w1 ⟨rfl, h1, o1⟩
      go_wp2
      refine bodyPost_ret (results_none rfl _ _ _) rfl ?_
      exact ⟨rfl, by rw [← HT.out]; exact h1, O1.out.trans o1⟩
    · rw [if_neg h0] at hT
      have p1 : ((x : Int) == 0) = false := beq_eq_false_iff_ne.mpr (by omega)
      have p1' : (x == 0) = false := beq_eq_false_iff_ne.mpr h0
      obtain ⟨hm1, hm2, hm3⟩ := hmore h0
      obtain ⟨s1, s2, s3, s4, s5⟩ := hstd
      have HC := Lib.hid (fun w (h : CurT 105 w b d) => HV.out x b d w hkl h s1)
      obtain ⟨z1, z2, z3, z4, z5⟩ := HS.out x d s1
      obtain ⟨D, hD⟩ : ∃ D, D = valTo f x d := ⟨_, rfl⟩
      rw [← hD] at hT HC z1 z2 z3 z4
      have hl2 : D.lf < m - 1 := by
        have := lf_less hok z1 (z3.trans s3) (by omega)
        omega
      have hme : D.at_ ≤ E ∧ c1.at_ + 1 ≤ D.at_ := ⟨by have := z1.1; omega, by omega⟩
      have NX := Lib.hid (fun (wr : World) (q1 : CurT 105 wr b D) (q2 : PlT wr P b deep) (o1 : Only b w wr) => show FlRel f R P b E deep w (.int .i64 i) wr from ⟨m - 1, i, D, rfl, hnum, z1, (z3.trans s3).trans hen, hl2, hT, q1, q2, o1⟩)
      have HM := Lib.hid hme
      have HA := Lib.hid hat
      have Q := Lib.hid (And.intro q2 o1)
      have c1' := q2.c1
      clear hT1 hd hx hi hkl hmore hnum hlf hen hok hnl o1 hT hl2 hme z1 z2 z3 z4 z5 s1 s2 s3 s4 s5 hm1 hm2 hm3 hD hat h0 q2
      go_wp2_with fail
      with_reducible refine (HX.out _ q1).mono ?_
      rintro e w1 ⟨rfl, h1, o1⟩
      have Q1 := Lib.hid (And.intro (Q.out.1.only o1 hPb) (Q.out.2.trans o1))
      have d0 := Q1.out.1.c0
      have d1 := Q1.out.1.c1
      clear Q o1 c0 c1'
      go_wp2_with fail
      with_reducible refine (HC.out _ h1).mono ?_
      rintro e w2 ⟨rfl, h2, o2⟩
      have N2 := Lib.hid (NX.out w2 h2 (Q1.out.1.only o2 hPb) (Q1.out.2.trans o2))
      have A2 := Lib.hid (atOf_cur h2)
      clear Q1 o2 d0 d1 h2
      go_wp2
      go_roundw
      case rel => exact N2.out
      case measure => rw [A2.out, HA.out]; have := HM.out; omega
end Go.Proofs.YtmcklfndnjagiaaDoor
