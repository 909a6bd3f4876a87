/- Several texts in one (JrRi, JrRk): each begins with its own words. -/
import Derived.Test.YtfighopfgllneaaGreatDoorZN
import Derived.Test.YtfighopfgllneaaGreatDoorJrRf
import Derived.Test.YtfighopfgllneaaGreatDoorJrRh
import Derived.Deep.Cut
import Derived.Deep.CutRange
import Derived.Test.YtfighopfgllneaaGreatDoorJrRj
/- The document's inner (package truchmanref13): the parts of either. -/
namespace Go.Proofs.YtfighopfgllneaaGreatDoor
open Go Go.RowKit
set_option linter.unusedVariables false

/-- inner, when value is known of less. -/
theorem inner_up {la : Int} {f : Nat} (hV : ∀ g, g + 2 ≤ f → ValR la g) : InR la f := by
  intro ob a cap ts d w hin hcap hs hd hf hl
  match ts with
  | [] =>
    have h0 : ∀ g, g + 2 ≤ 2 → ValR la g := fun g hg => value_none (by omega)
    cases ob
    · exact inner_cutL a cap la d w h0 hin hcap hs hd (by simp) (Nat.le_refl _) (by simp)
    · exact inner_cutO a cap la d w h0 hin hcap hs hd (by simp) (Nat.le_refl _) (by simp)
  | x :: ts1 =>
    have hf2 : 2 ≤ f := by rw [List.length_cons] at hf; omega
    show Calls Tryz.prog 25 _ w (RVp a (x :: ts1) la (if x.1 = cls ob then ⟨[], ts1, 0⟩ else mTr (eE (some la)) f ob x d [] ts1) w)
    by_cases h : x.1 = cls ob
    · rw [if_pos h]
      cases ob
      · exact inner_closeL x ts1 a cap la d w _ rfl h hin hcap hl
      · exact inner_closeO x ts1 a cap la d w _ rfl h hin hcap hl
    · rw [if_neg h]
      cases ob
      · exact inner_someL x ts1 h a cap la d w hV hin hcap hs hd hf hf2 hl
      · exact inner_someO x ts1 h a cap la d w hV hin hcap hs hd hf hf2 hl
/-- Both, of any tokens. -/
theorem trees_any (la : Int) : ∀ f, ValR la f ∧ InR la f := by
  intro f
  induction f using Nat.strongRecOn with
  | _ f ih =>
    refine ⟨?_, inner_up fun g hg => (ih g (by omega)).1⟩
    match f, ih with
    | 0, _ => exact value_none (by omega)
    | 1, _ => exact value_none (by omega)
    | f + 2, ih => exact value_up (ih f (by omega)).2
end Go.Proofs.YtfighopfgllneaaGreatDoor
/- The document's Read (package truchmanref13), over any tokens. -/
namespace Go.Proofs.YtfighopfgllneaaGreatDoor
open Go Go.RowKit
set_option linter.unusedVariables false

theorem rdT_ref (la : Int) : ∀ (ts : List TK) (R : TRs), R = rvT (eE (some la)) (4 * ts.length + 2 - 4) 0 [] ts → (R.e ≠ 0 → rdT ts (some la) = ([], R.e)) ∧ (R.e = 0 → (R.r = [] → la = 0 → rdT ts (some la) = (R.l, 0)) ∧ ((R.r ≠ [] ∨ la ≠ 0) → rdT ts (some la) = ([], 2)))
  | [], R, e => by
    subst e
    exact ⟨fun _ => rfl, fun h => absurd h (eE_ne (some la))⟩
  | t :: ts1, R, e => by
    have e2 : 4 * (t :: ts1).length + 2 - 4 = 4 * ts1.length + 2 := by rw [List.length_cons]; omega
    rw [e2] at e
    have e3 : R = vTr (eE (some la)) (4 * ts1.length + 2) t [] 0 ts1 := e
    unfold rdT
    simp only
    rw [← e3]
    refine ⟨fun h => by rw [if_neg h], fun h => ?_⟩
    rw [if_pos h]
    refine ⟨fun h1 h2 => by rw [if_pos ⟨h1, by rw [h2]⟩], fun h1 => ?_⟩
    rw [if_neg]
    rintro ⟨h2, h3⟩
    simp only [Option.some.injEq] at h3
    rcases h1 with h1 | h1
    · exact h1 h2
    · exact h1 h3
set_option maxRecDepth 20000 in
set_option maxHeartbeats 4000000 in
theorem rread_any (s : ByteArray) (ts : List TK) (la : Int) (w : World) (hs : s.size ≤ 1099511627774) (hsf : SfL ts (some la) s.data.toList) (hsg : SgE ts) :
    Calls Tryz.prog 5 #[.string s] w fun e w' => ∃ v, e = .returned (.tuple #[v, .int .i64 (rdT ts (some la)).2]) ∧ NRow 56 w' w.heap.size v (rdT ts (some la)).1 ∧ Below w.heap.size w w' := by
  have hlen : ts.length ≤ s.size := by have := sf_len _ _ _ hsf; rw [toList_size] at this; exact this
  have HT := Lib.hid (tokens_any s ts la w (by omega) hsf)
  have HV := Lib.hid (fun a cap w hin hcap => (trees_any la (4 * ts.length + 2 - 4)).1 a cap ts [] 0 w hin hcap hsg (by omega) (by omega) (by omega))
  have HRD := Lib.hid (rdT_ref la ts _ rfl)
  have hl2 : ts.length ≤ 1099511627774 := by omega
  generalize rvT (eE (some la)) (4 * ts.length + 2 - 4) 0 [] ts = R at *
  generalize rdT ts (some la) = X at *
  clear hsf hsg hlen
  go_enter Tryz.func5, Tryz.ntmps5
  go_wp2_with fail
  refine HT.out.mono ?_
  rintro e w1 ⟨a, cap, rfl, hcap, hin, b1⟩
  have S0 := st_alloc w1 a ts.length cap la
  have B2 := Lib.hid (b1.trans ((alloc_below w1 (.cells #[.slice a ts.length cap, .int .i64 la] 43)).mono b1.size))
  have HIN := Lib.hid (hin.below (alloc_below w1 (.cells #[.slice a ts.length cap, .int .i64 la] 43)) (Nat.le_refl _))
  clear HT hin b1
  go_upto_region 2 with fail
  have s0 := S0.c0; have s1 := S0.c1
  clear S0
  generalize w1.alloc (.cells #[.slice a ts.length cap, .int .i64 la] 43) = w2 at *
  have HC := Lib.hid (show Calls Tryz.prog 14 #[.agg #[.slice a ts.length cap, .int .i64 la], .string ⟨#[]⟩, .int .i64 0] w2 (RVp a ts la R w2) from HV.out a cap w2 HIN.out hcap)
  clear HV
  go_wp2_with fail
  refine HC.out.mono ?_
  rintro e w3 ⟨nv, A, n, c, m, rfl, hg, hrow, hml, b3⟩
  have S4 := Lib.hid (st_alloc w3 A n c la)
  have R4 := Lib.hid ((hrow.below (alloc_below w3 (.cells #[.slice A n c, .int .i64 la] 43)) (Nat.le_refl _)).base B2.out.size)
  have B4 := Lib.hid ((B2.out.trans (b3.mono B2.out.size)).trans ((alloc_below w3 (.cells #[.slice A n c, .int .i64 la] 43)).mono (Nat.le_trans B2.out.size b3.size)))
  clear hrow b3 s0 s1 HC
  by_cases he : R.e = 0
  · have p1 : (R.e != 0) = false := by rw [he]; rfl
    obtain ⟨g1, g2, g3, g4⟩ := hg he
    subst g1
    obtain ⟨h1, h2⟩ := HRD.out.2 he
    have H1 := Lib.hid h1; have H2 := Lib.hid h2
    have HG2 := Lib.hid g2
    clear he hg h1 h2 g2 g4 HRD
    generalize R.e = er at *
    go_upto_region 3 with fail
    have s0 := S4.out.c0; have s1 := S4.out.c1
    generalize w3.alloc (.cells #[.slice A n c, .int .i64 la] 43) = w4 at *
    by_cases hn : n = 0
    · have q1 : decide ((0 : Int) < (n : Int)) = false := decide_eq_false (by omega)
      have q2 : decide (0 < n) = false := decide_eq_false (by omega)
      have q3 : ¬ 0 < n := by omega
      have HR := Lib.hid (show R.r = [] from List.eq_nil_of_length_eq_zero (by rw [← HG2.out]; exact hn))
      clear hn
      by_cases hla : la = 0
      · have q4 : (la != 0) = false := by rw [hla]; rfl
        have HX := Lib.hid (H1.out HR.out hla)
        clear hla
        go_wp2
        go_ret2
        exact ⟨nv, by rw [HX.out]; rfl, by rw [HX.out]; exact R4.out, B4.out⟩
      · have q4 : (la != 0) = true := bne_iff_ne.mpr hla
        have HX := Lib.hid (H2.out (.inr hla))
        clear hla
        go_wp2
        go_ret2
        exact ⟨.slice none 0 0, by rw [HX.out]; rfl, by rw [HX.out]; exact nrow_nil _ _ _, B4.out⟩
    · have q1 : decide ((0 : Int) < (n : Int)) = true := decide_eq_true (by omega)
      have q2 : decide (0 < n) = true := decide_eq_true (by omega)
      have q3 : 0 < n := by omega
      have HX := Lib.hid (H2.out (.inl (fun e => hn (by rw [HG2.out, e]; rfl))))
      clear hn
      go_wp2
      go_ret2
      exact ⟨.slice none 0 0, by rw [HX.out]; rfl, by rw [HX.out]; exact nrow_nil _ _ _, B4.out⟩
  · have p1 : (R.e != 0) = true := bne_iff_ne.mpr he
    have HX := Lib.hid (HRD.out.1 he)
    clear he hg HRD
    generalize R.e = er at *
    go_upto_region 3 with fail
    generalize w3.alloc (.cells #[.slice A n c, .int .i64 la] 43) = w4 at *
    go_wp2
    go_ret2
    exact ⟨.slice none 0 0, by rw [HX.out]; rfl, by rw [HX.out]; exact nrow_nil _ _ _, B4.out⟩
end Go.Proofs.YtfighopfgllneaaGreatDoor
