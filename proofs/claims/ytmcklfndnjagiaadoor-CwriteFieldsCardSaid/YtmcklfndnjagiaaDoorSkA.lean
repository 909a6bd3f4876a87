/- Package cskip: a place in memory; passTruth, passText, enter. -/
import Derived.Test.YtmcklfndnjagiaaDoorSkLoc
import Derived.Test.YtmcklfndnjagiaaDoorChC
namespace Go.Proofs.YtmcklfndnjagiaaDoor
open Go Go.RowKit
set_option linter.unusedVariables false

/-- A place: a cursor, and within how many. -/
def plV (b : Nat) (deep : Int) : Value := .agg #[.pointer (some ⟨b, 0, none⟩), .int .i64 deep]
/-- Block g holds a place. -/
def PlT (w : World) (g b : Nat) (deep : Int) : Prop := w.heap[g]? = some (.cells #[.pointer (some ⟨b, 0, none⟩), .int .i64 deep] 122 (0, 0))
theorem PlT.c0 {w : World} {g b : Nat} {deep : Int} (h : PlT w g b deep) : w.cell? ⟨g, 0, none⟩ = some (.pointer (some ⟨b, 0, none⟩)) := by unfold PlT at h; simp [World.cell?, h]
theorem PlT.c1 {w : World} {g b : Nat} {deep : Int} (h : PlT w g b deep) : w.cell? ⟨g, 1, none⟩ = some (.int .i64 deep) := by unfold PlT at h; simp [World.cell?, h]
theorem PlT.lt {w : World} {g b : Nat} {deep : Int} (h : PlT w g b deep) : g < w.heap.size := lt_of_block h
theorem PlT.new (w : World) (b : Nat) (deep : Int) : PlT (w.alloc (.cells #[.pointer (some ⟨b, 0, none⟩), .int .i64 deep] 122)) w.heap.size b deep := heap_alloc_new w _
theorem PlT.only {w w' : World} {g b k : Nat} {deep : Int} (h : PlT w g b deep) (ho : Only k w w') (hk : g ≠ k) : PlT w' g b deep := (ho.block g h.lt hk).trans h
/-- A call's first step: its place lies in a block of its own. -/
theorem pl_start {w : World} {b : Nat} {c : CS} (h : CurT 105 w b c) (deep : Int) :
    CurT 105 (w.alloc (.cells #[.pointer (some ⟨b, 0, none⟩), .int .i64 deep] 122)) b c ∧ Only b w (w.alloc (.cells #[.pointer (some ⟨b, 0, none⟩), .int .i64 deep] 122)) ∧ w.heap.size ≠ b ∧ PlT (w.alloc (.cells #[.pointer (some ⟨b, 0, none⟩), .int .i64 deep] 122)) w.heap.size b deep :=
  ⟨(Below.heap_alloc _ _ _ h.lt).trans h, (Only.refl _ _).alloc _, by have := h.lt; omega, PlT.new w b deep⟩

theorem truth_any {b : Nat} {c : CS} {w : World} (h : CurT 105 w b c) (hc : c.ok) (deep : Int) :
    Calls Tryd.prog 94 #[plV b deep] w fun e w' => e = .returned (.tuple #[]) ∧ CurT 105 w' b c.tru ∧ Only b w w' := by
  obtain ⟨c1, hc1⟩ : ∃ d, d = c.byte := ⟨_, rfl⟩
  obtain ⟨x, hx⟩ : ∃ x, x = c.pB := ⟨_, rfl⟩
  have HB := Lib.hid (fun w (h : CurT 105 w b c) => byte_l (Lib.hid hc1) (Lib.hid hx) h hc)
  have hT : c.tru = c1.want (decide (x ≤ 2)) 3 := by rw [hc1, hx]; rfl
  have S0 := Lib.hid (pl_start h deep)
  by_cases hq : x ≤ 2
  · have p1 : decide ((2 : Int) < (x : Int)) = false := decide_eq_false (by omega)
    have p1' : decide (2 < x) = false := decide_eq_false (by omega)
    have HT := Lib.hid (show c.tru = c1 by rw [hT, decide_eq_true hq]; rfl)
    clear hT hq hx hc1 hc h
    unfold plV
    go_enter Tryd.func94, Tryd.ntmps94
    have g0 := S0.out.2.2.2.c0
    go_wp2_with fail
    with_reducible refine (HB.out _ S0.out.1).mono ?_
    rintro e w1 ⟨rfl, h1, o1⟩
    go_wp2
    go_end0
    exact ⟨rfl, by rw [HT.out]; exact h1, S0.out.2.1.trans o1⟩
  · have p1 : decide ((2 : Int) < (x : Int)) = true := decide_eq_true (by omega)
    have p1' : decide (2 < x) = true := decide_eq_true (by omega)
    have HT := Lib.hid (show c.tru = c1.fail 3 by rw [hT, decide_eq_false hq]; rfl)
    have HF := Lib.hid (fun w (h : CurT 105 w b c1) => fail_any h 3)
    clear hT hq hx hc1 hc h
    unfold plV
    go_enter Tryd.func94, Tryd.ntmps94
    have g0 := S0.out.2.2.2.c0
    go_wp2_with fail
    with_reducible refine (HB.out _ S0.out.1).mono ?_
    rintro e w1 ⟨rfl, h1, o1⟩
    have g1 := (S0.out.2.2.2.only o1 S0.out.2.2.1).c0
    have O1 := Lib.hid (S0.out.2.1.trans o1)
    clear g0 o1
    go_wp2_with fail
    with_reducible refine (HF.out _ h1).mono ?_
    rintro e w2 ⟨rfl, h2, o2⟩
    go_wp2
    go_end0
    exact ⟨rfl, by rw [HT.out]; exact h2, O1.out.trans o2⟩
set_option maxHeartbeats 1000000 in
theorem text_any {b : Nat} {c : CS} {w : World} (h : CurT 105 w b c) (hc : c.ok) (deep : Int) :
    Calls Tryd.prog 95 #[plV b deep] w fun e w' => e = .returned (.tuple #[]) ∧ CurT 105 w' b c.txt ∧ Only b w w' := by
  obtain ⟨c1, hc1⟩ : ∃ d, d = c.vTo := ⟨_, rfl⟩
  obtain ⟨u, hu⟩ : ∃ u, u = c.vVal := ⟨_, rfl⟩
  have hok1 : c1.ok := by rw [hc1]; exact CS.vTo_ok hc
  have HV := Lib.hid (fun w (h : CurT 105 w b c) => vrd_l (Lib.hid hc1) (Lib.hid hu) h (Lib.hid hc))
  have hT : c.txt = txTo u c1 := by rw [hc1, hu]; rfl
  obtain ⟨z, hz⟩ : ∃ z, z = c1.lf := ⟨_, rfl⟩
  have hzi : (c1.en : Int) - c1.at_ = (z : Int) := by rw [hz]; unfold CS.lf; have := hok1.1; omega
  have HL := Lib.hid (fun w (h : CurT 105 w b c1) => left_any h hok1)
  rw [hzi] at HL
  have hz64 : z ≤ 9223372036854775807 := by rw [hz]; unfold CS.lf; have := hok1.2; omega
  have m1 : IntKind.u64.wrap (z : Int) = (z : Int) := IntWalk.u64_in _ (by omega)
  have S0 := Lib.hid (pl_start h deep)
  by_cases hq : u ≤ z
  · have p1 : decide ((z : Int) < (u : Int)) = false := decide_eq_false (by omega)
    have p1' : decide (z < u) = false := decide_eq_false (by omega)
    have m2 : IntKind.i64.wrap (u : Int) = (u : Int) := IntWalk.i64_in _ (by omega)
    have m3 : wrap64 (u : Int) = (u : Int) := by unfold wrap64; omega
    have HT := Lib.hid (show c.txt = c1.take (u : Nat) by rw [hT]; unfold txTo; rw [if_pos (by rw [← hz]; exact hq)])
    have HK := Lib.hid (fun w (h : CurT 105 w b c1) => take_any h hok1 (u : Nat))
    clear hT hq hu hc1 hc h hz hzi hz64 hok1
    unfold plV
    go_enter Tryd.func95, Tryd.ntmps95
    have g0 := S0.out.2.2.2.c0
    go_wp2_with fail
    with_reducible refine (HV.out _ S0.out.1).mono ?_
    rintro e w1 ⟨rfl, h1, o1⟩
    have K1 := Lib.hid (S0.out.2.2.2.only o1 S0.out.2.2.1)
    have g1 := K1.out.c0
    have O1 := Lib.hid (S0.out.2.1.trans o1)
    clear g0 o1
    go_wp2_with fail
    with_reducible refine (HL.out _ h1).mono ?_
    rintro e w2 ⟨rfl, n, rfl⟩
    have h2 := h1.drewN n
    have g2 := (K1.out.only ((Only.refl b w1).drewN n) S0.out.2.2.1).c0
    clear g1
    go_wp2_with fail
    with_reducible refine (HK.out _ h2).mono ?_
    rintro e w3 ⟨rfl, h3, o3⟩
    go_wp2
    go_end0
    exact ⟨rfl, by rw [HT.out]; exact h3, (O1.out.drewN n).trans o3⟩
  · have p1 : decide ((z : Int) < (u : Int)) = true := decide_eq_true (by omega)
    have p1' : decide (z < u) = true := decide_eq_true (by omega)
    have HT := Lib.hid (show c.txt = c1.fail 1 by rw [hT]; unfold txTo; rw [if_neg (by rw [← hz]; exact hq)])
    have HF := Lib.hid (fun w (h : CurT 105 w b c1) => fail_any h 1)
    clear hT hq hu hc1 hc h hz hzi hz64 hok1
    unfold plV
    go_enter Tryd.func95, Tryd.ntmps95
    have g0 := S0.out.2.2.2.c0
    go_wp2_with fail
    with_reducible refine (HV.out _ S0.out.1).mono ?_
    rintro e w1 ⟨rfl, h1, o1⟩
    have K1 := Lib.hid (S0.out.2.2.2.only o1 S0.out.2.2.1)
    have g1 := K1.out.c0
    have O1 := Lib.hid (S0.out.2.1.trans o1)
    clear g0 o1
    go_wp2_with fail
    with_reducible refine (HL.out _ h1).mono ?_
    rintro e w2 ⟨rfl, n, rfl⟩
    have h2 := h1.drewN n
    have g2 := (K1.out.only ((Only.refl b w1).drewN n) S0.out.2.2.1).c0
    clear g1
    go_wp2_with fail
    with_reducible refine (HF.out _ h2).mono ?_
    rintro e w3 ⟨rfl, h3, o3⟩
    go_wp2
    refine bodyPost_ret (results_none rfl _ _ _) rfl ?_
    exact ⟨rfl, by rw [HT.out]; exact h3, (O1.out.drewN n).trans o3⟩
theorem enter_deep {b : Nat} {c : CS} {w : World} (h : CurT 105 w b c) (deep : Int) (hd : 32 ≤ deep) (v : Value) :
    Calls Tryd.prog 96 #[plV b deep, v] w fun e w' => e = .returned (.tuple #[]) ∧ CurT 105 w' b (c.fail 33) ∧ Only b w w' := by
  have p1 : decide ((32 : Int) ≤ deep) = true := decide_eq_true hd
  have HF := Lib.hid (fun w (h : CurT 105 w b c) => fail_any h 33)
  have S0 := Lib.hid (pl_start h deep)
  clear hd h
  unfold plV
  go_enter Tryd.func96, Tryd.ntmps96
  have g0 := S0.out.2.2.2.c0
  have g1 := S0.out.2.2.2.c1
  go_wp2_with fail
  with_reducible refine (HF.out _ S0.out.1).mono ?_
  rintro e w1 ⟨rfl, h1, o1⟩
  go_wp2
  refine bodyPost_ret (results_none rfl _ _ _) rfl ?_
  exact ⟨rfl, h1, S0.out.2.1.trans o1⟩
theorem enter_in {b : Nat} {c d : CS} {w : World} (h : CurT 105 w b c) (deep : Int) (hd : 0 ≤ deep ∧ deep < 32) (F : FuncId) (hF : F = 97 ∨ F = 98 ∨ F = 99)
    (HF : Hid (∀ w, CurT 105 w b c → Calls Tryd.prog F #[plV b (deep + 1)] w fun e w' => e = .returned (.tuple #[]) ∧ CurT 105 w' b d ∧ Only b w w')) :
    Calls Tryd.prog 96 #[plV b deep, .func (.func F) #[] #[]] w fun e w' => e = .returned (.tuple #[]) ∧ CurT 105 w' b d ∧ Only b w w' := by
  have p1 : decide ((32 : Int) ≤ deep) = false := decide_eq_false (by omega)
  have m1 : IntKind.i64.wrap (deep + 1) = deep + 1 := IntWalk.i64_in _ (by omega)
  have S0 := Lib.hid (pl_start h deep)
  clear hd h
  rcases hF with rfl | rfl | rfl <;>
    (unfold plV at *
     go_enter Tryd.func96, Tryd.ntmps96
     have g0 := S0.out.2.2.2.c0
     have g1 := S0.out.2.2.2.c1
     go_wp2_with fail
     with_reducible refine (HF.out _ S0.out.1).mono ?_
     rintro e w1 ⟨rfl, h1, o1⟩
     go_wp2
     go_end0
     exact ⟨rfl, h1, S0.out.2.1.trans o1⟩)
end Go.Proofs.YtmcklfndnjagiaaDoor
