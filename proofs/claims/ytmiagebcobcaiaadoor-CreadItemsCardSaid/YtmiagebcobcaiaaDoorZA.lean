/- Several texts in one (SkA, SkB, SkC, SkD): each begins with its own words. -/
import Derived.Test.YtmiagebcobcaiaaDoorSkLoc
import Derived.Test.YtmiagebcobcaiaaDoorChC
/- Package cskip: a place in memory; passTruth, passText, enter. -/
namespace Go.Proofs.YtmiagebcobcaiaaDoor
open Go Go.RowKit
set_option linter.unusedVariables false

/-- A place: a cursor, and within how many. -/
def plV (b : Nat) (deep : Int) : Value := .agg #[.pointer (some ⟨b, 0, none⟩), .int .i64 deep]
/-- Block g holds a place. -/
def PlT (w : World) (g b : Nat) (deep : Int) : Prop := w.heap[g]? = some (.cells #[.pointer (some ⟨b, 0, none⟩), .int .i64 deep] 116 (0, 0))
theorem PlT.c0 {w : World} {g b : Nat} {deep : Int} (h : PlT w g b deep) : w.cell? ⟨g, 0, none⟩ = some (.pointer (some ⟨b, 0, none⟩)) := by unfold PlT at h; simp [World.cell?, h]
theorem PlT.c1 {w : World} {g b : Nat} {deep : Int} (h : PlT w g b deep) : w.cell? ⟨g, 1, none⟩ = some (.int .i64 deep) := by unfold PlT at h; simp [World.cell?, h]
theorem PlT.lt {w : World} {g b : Nat} {deep : Int} (h : PlT w g b deep) : g < w.heap.size := lt_of_block h
theorem PlT.new (w : World) (b : Nat) (deep : Int) : PlT (w.alloc (.cells #[.pointer (some ⟨b, 0, none⟩), .int .i64 deep] 116)) w.heap.size b deep := heap_alloc_new w _
theorem PlT.only {w w' : World} {g b k : Nat} {deep : Int} (h : PlT w g b deep) (ho : Only k w w') (hk : g ≠ k) : PlT w' g b deep := (ho.block g h.lt hk).trans h
/-- A call's first step: its place lies in a block of its own. -/
theorem pl_start {w : World} {b : Nat} {c : CS} (h : CurT 83 w b c) (deep : Int) :
    CurT 83 (w.alloc (.cells #[.pointer (some ⟨b, 0, none⟩), .int .i64 deep] 116)) b c ∧ Only b w (w.alloc (.cells #[.pointer (some ⟨b, 0, none⟩), .int .i64 deep] 116)) ∧ w.heap.size ≠ b ∧ PlT (w.alloc (.cells #[.pointer (some ⟨b, 0, none⟩), .int .i64 deep] 116)) w.heap.size b deep :=
  ⟨(Below.heap_alloc _ _ _ h.lt).trans h, (Only.refl _ _).alloc _, by have := h.lt; omega, PlT.new w b deep⟩

theorem truth_any {b : Nat} {c : CS} {w : World} (h : CurT 83 w b c) (hc : c.ok) (deep : Int) :
    Calls Tryd.prog 82 #[plV b deep] w fun e w' => e = .returned (.tuple #[]) ∧ CurT 83 w' b c.tru ∧ Only b w w' := by
  obtain ⟨c1, hc1⟩ : ∃ d, d = c.byte := ⟨_, rfl⟩
  obtain ⟨x, hx⟩ : ∃ x, x = c.pB := ⟨_, rfl⟩
  have HB := Lib.hid (fun w (h : CurT 83 w b c) => byte_l (Lib.hid hc1) (Lib.hid hx) h hc)
  have hT : c.tru = c1.want (decide (x ≤ 2)) 3 := by rw [hc1, hx]; rfl
  have S0 := Lib.hid (pl_start h deep)
  by_cases hq : x ≤ 2
  · have p1 : decide ((2 : Int) < (x : Int)) = false := decide_eq_false (by omega)
    have p1' : decide (2 < x) = false := decide_eq_false (by omega)
    have HT := Lib.hid (show c.tru = c1 by rw [hT, decide_eq_true hq]; rfl)
    clear hT hq hx hc1 hc h
    unfold plV
    go_enter Tryd.func82, Tryd.ntmps82
    have g0 := S0.out.2.2.2.c0
    go_wp2_with fail
    with_reducible refine (HB.out _ S0.out.1).mono ?_
    rintro e w1 ⟨rfl, h1, o1⟩
    go_wp2
    go_end0
    exact ⟨rfl, by rw [HT.out]; exact h1, S0.out.2.1.trans o1⟩
  · have p1 : decide ((2 : Int) < (x : Int)) = true := decide_eq_true (by omega)
    have p1' : decide (2 < x) = true := decide_eq_true (by omega)
    have HT := Lib.hid (show c.tru = c1.fail 3 by rw [hT, decide_eq_false hq]; rfl)
    have HF := Lib.hid (fun w (h : CurT 83 w b c1) => fail_any h 3)
    clear hT hq hx hc1 hc h
    unfold plV
    go_enter Tryd.func82, Tryd.ntmps82
    have g0 := S0.out.2.2.2.c0
    go_wp2_with fail
    with_reducible refine (HB.out _ S0.out.1).mono ?_
    rintro e w1 ⟨rfl, h1, o1⟩
    have g1 := (S0.out.2.2.2.only o1 S0.out.2.2.1).c0
    have O1 := Lib.hid (S0.out.2.1.trans o1)
    clear g0 o1
    go_wp2_with fail
    with_reducible refine (HF.out _ h1).mono ?_
    rintro e w2 ⟨rfl, h2, o2⟩
    go_wp2
    go_end0
    exact ⟨rfl, by rw [HT.out]; exact h2, O1.out.trans o2⟩
set_option maxHeartbeats 1000000 in
theorem text_any {b : Nat} {c : CS} {w : World} (h : CurT 83 w b c) (hc : c.ok) (deep : Int) :
    Calls Tryd.prog 83 #[plV b deep] w fun e w' => e = .returned (.tuple #[]) ∧ CurT 83 w' b c.txt ∧ Only b w w' := by
  obtain ⟨c1, hc1⟩ : ∃ d, d = c.vTo := ⟨_, rfl⟩
  obtain ⟨u, hu⟩ : ∃ u, u = c.vVal := ⟨_, rfl⟩
  have hok1 : c1.ok := by rw [hc1]; exact CS.vTo_ok hc
  have HV := Lib.hid (fun w (h : CurT 83 w b c) => vrd_l (Lib.hid hc1) (Lib.hid hu) h (Lib.hid hc))
  have hT : c.txt = txTo u c1 := by rw [hc1, hu]; rfl
  obtain ⟨z, hz⟩ : ∃ z, z = c1.lf := ⟨_, rfl⟩
  have hzi : (c1.en : Int) - c1.at_ = (z : Int) := by rw [hz]; unfold CS.lf; have := hok1.1; omega
  have HL := Lib.hid (fun w (h : CurT 83 w b c1) => left_any h hok1)
  rw [hzi] at HL
  have hz64 : z ≤ 9223372036854775807 := by rw [hz]; unfold CS.lf; have := hok1.2; omega
  have m1 : IntKind.u64.wrap (z : Int) = (z : Int) := IntWalk.u64_in _ (by omega)
  have S0 := Lib.hid (pl_start h deep)
  by_cases hq : u ≤ z
  · have p1 : decide ((z : Int) < (u : Int)) = false := decide_eq_false (by omega)
    have p1' : decide (z < u) = false := decide_eq_false (by omega)
    have m2 : IntKind.i64.wrap (u : Int) = (u : Int) := IntWalk.i64_in _ (by omega)
    have m3 : wrap64 (u : Int) = (u : Int) := by unfold wrap64; omega
    have HT := Lib.hid (show c.txt = c1.take (u : Nat) by rw [hT]; unfold txTo; rw [if_pos (by rw [← hz]; exact hq)])
    have HK := Lib.hid (fun w (h : CurT 83 w b c1) => take_any h hok1 (u : Nat))
    clear hT hq hu hc1 hc h hz hzi hz64 hok1
    unfold plV
    go_enter Tryd.func83, Tryd.ntmps83
    have g0 := S0.out.2.2.2.c0
    go_wp2_with fail
    with_reducible refine (HV.out _ S0.out.1).mono ?_
    rintro e w1 ⟨rfl, h1, o1⟩
    have K1 := Lib.hid (S0.out.2.2.2.only o1 S0.out.2.2.1)
    have g1 := K1.out.c0
    have O1 := Lib.hid (S0.out.2.1.trans o1)
    clear g0 o1
    go_wp2_with fail
    with_reducible refine (HL.out _ h1).mono ?_
    rintro e w2 ⟨rfl, n, rfl⟩
    have h2 := h1.drewN n
    have g2 := (K1.out.only ((Only.refl b w1).drewN n) S0.out.2.2.1).c0
    clear g1
    go_wp2_with fail
    with_reducible refine (HK.out _ h2).mono ?_
    rintro e w3 ⟨rfl, h3, o3⟩
    go_wp2
    go_end0
    exact ⟨rfl, by rw [HT.out]; exact h3, (O1.out.drewN n).trans o3⟩
  · have p1 : decide ((z : Int) < (u : Int)) = true := decide_eq_true (by omega)
    have p1' : decide (z < u) = true := decide_eq_true (by omega)
    have HT := Lib.hid (show c.txt = c1.fail 1 by rw [hT]; unfold txTo; rw [if_neg (by rw [← hz]; exact hq)])
    have HF := Lib.hid (fun w (h : CurT 83 w b c1) => fail_any h 1)
    clear hT hq hu hc1 hc h hz hzi hz64 hok1
    unfold plV
    go_enter Tryd.func83, Tryd.ntmps83
    have g0 := S0.out.2.2.2.c0
    go_wp2_with fail
    with_reducible refine (HV.out _ S0.out.1).mono ?_
    rintro e w1 ⟨rfl, h1, o1⟩
    have K1 := Lib.hid (S0.out.2.2.2.only o1 S0.out.2.2.1)
    have g1 := K1.out.c0
    have O1 := Lib.hid (S0.out.2.1.trans o1)
    clear g0 o1
    go_wp2_with fail
    with_reducible refine (HL.out _ h1).mono ?_
    rintro e w2 ⟨rfl, n, rfl⟩
    have h2 := h1.drewN n
    have g2 := (K1.out.only ((Only.refl b w1).drewN n) S0.out.2.2.1).c0
    clear g1
    go_wp2_with fail
    with_reducible refine (HF.out _ h2).mono ?_
    rintro e w3 ⟨rfl, h3, o3⟩
    go_wp2
    refine bodyPost_ret (results_none rfl _ _ _) rfl ?_
    exact ⟨rfl, by rw [HT.out]; exact h3, (O1.out.drewN n).trans o3⟩
theorem enter_deep {b : Nat} {c : CS} {w : World} (h : CurT 83 w b c) (deep : Int) (hd : 32 ≤ deep) (v : Value) :
    Calls Tryd.prog 84 #[plV b deep, v] w fun e w' => e = .returned (.tuple #[]) ∧ CurT 83 w' b (c.fail 33) ∧ Only b w w' := by
  have p1 : decide ((32 : Int) ≤ deep) = true := decide_eq_true hd
  have HF := Lib.hid (fun w (h : CurT 83 w b c) => fail_any h 33)
  have S0 := Lib.hid (pl_start h deep)
  clear hd h
  unfold plV
  go_enter Tryd.func84, Tryd.ntmps84
  have g0 := S0.out.2.2.2.c0
  have g1 := S0.out.2.2.2.c1
  go_wp2_with fail
  with_reducible refine (HF.out _ S0.out.1).mono ?_
  rintro e w1 ⟨rfl, h1, o1⟩
  go_wp2
  refine bodyPost_ret (results_none rfl _ _ _) rfl ?_
  exact ⟨rfl, h1, S0.out.2.1.trans o1⟩
theorem enter_in {b : Nat} {c d : CS} {w : World} (h : CurT 83 w b c) (deep : Int) (hd : 0 ≤ deep ∧ deep < 32) (F : FuncId) (hF : F = 85 ∨ F = 86 ∨ F = 87)
    (HF : Hid (∀ w, CurT 83 w b c → Calls Tryd.prog F #[plV b (deep + 1)] w fun e w' => e = .returned (.tuple #[]) ∧ CurT 83 w' b d ∧ Only b w w')) :
    Calls Tryd.prog 84 #[plV b deep, .func (.func F) #[] #[]] w fun e w' => e = .returned (.tuple #[]) ∧ CurT 83 w' b d ∧ Only b w w' := by
  have p1 : decide ((32 : Int) ≤ deep) = false := decide_eq_false (by omega)
  have m1 : IntKind.i64.wrap (deep + 1) = deep + 1 := IntWalk.i64_in _ (by omega)
  have S0 := Lib.hid (pl_start h deep)
  clear hd h
  rcases hF with rfl | rfl | rfl <;>
    (unfold plV at *
     go_enter Tryd.func84, Tryd.ntmps84
     have g0 := S0.out.2.2.2.c0
     have g1 := S0.out.2.2.2.c1
     go_wp2_with fail
     with_reducible refine (HF.out _ S0.out.1).mono ?_
     rintro e w1 ⟨rfl, h1, o1⟩
     go_wp2
     go_end0
     exact ⟨rfl, h1, S0.out.2.1.trans o1⟩)
end Go.Proofs.YtmiagebcobcaiaaDoor
/- Package cskip: passEach, passList, passMap, passStruct, where going past a thing within is known. -/
namespace Go.Proofs.YtmiagebcobcaiaaDoor
open Go Go.RowKit
set_option linter.unusedVariables false

/-- Inner, of things that stand within so many: what it makes of a cursor. -/
def InR (deep : Int) (f : Nat → CS → CS) : Prop := ∀ (k : Nat) (b : Nat) (c : CS) (w : World), k < 256 → CurT 83 w b c → c.ok →
  Calls Tryd.prog 80 #[.pointer (some ⟨b, 0, none⟩), .int .u8 (k : Nat), .int .i64 deep] w fun e w' => e = .returned (.tuple #[]) ∧ CurT 83 w' b (f k c) ∧ Only b w w'
/-- Value, likewise. -/
def VaR (deep : Int) (f : Nat → CS → CS) : Prop := ∀ (k : Nat) (b : Nat) (c : CS) (w : World), k < 256 → CurT 83 w b c → c.ok →
  Calls Tryd.prog 73 #[.pointer (some ⟨b, 0, none⟩), .int .u8 (k : Nat), .int .i64 deep] w fun e w' => e = .returned (.tuple #[]) ∧ CurT 83 w' b (valTo f k c) ∧ Only b w w'

theorem same_true (k : Nat) (w : World) :
    Calls Tryd.prog 32 #[.int .u8 (k : Nat), .int .u8 1] w fun e w' => e = .returned (.bool (trB k)) ∧ w' = w := by
  have := same_any k 1 w
  have e : sameB k 1 = trB k := by
    unfold sameB trB
    by_cases h : k = 1
    · subst h; rfl
    · rw [decide_eq_false h]; simp
  rw [e] at this
  exact this
theorem value_of {deep : Int} {f : Nat → CS → CS} (hI : InR deep f) : VaR deep f := by
  intro k b c w hk h hc
  have HS := Lib.hid (fun w => same_true k w)
  have HI := Lib.hid (fun w (h : CurT 83 w b c) => hI k b c w hk h hc)
  rcases Bool.eq_false_or_eq_true (trB k) with ht | ht
  · have HR := Lib.hid (show valTo f k c = c by unfold valTo; rw [if_pos ht])
    rw [ht] at HS
    clear ht hI hk hc
    go_enter Tryd.func73, Tryd.ntmps73
    go_wp2_with fail
    with_reducible refine (HS.out _).mono ?_
    rintro e w1 ⟨rfl, rfl⟩
    go_wp2
    refine bodyPost_ret (results_none rfl _ _ _) rfl ?_
    exact ⟨rfl, by rw [HR.out]; exact h, Only.refl _ _⟩
  · have HR := Lib.hid (show valTo f k c = f k c by unfold valTo; rw [if_neg (by rw [ht]; decide)])
    rw [ht] at HS
    clear ht hI hk hc
    go_enter Tryd.func73, Tryd.ntmps73
    go_wp2_with fail
    with_reducible refine (HS.out _).mono ?_
    rintro e w1 ⟨rfl, rfl⟩
    go_wp2_with fail
    with_reducible refine (HI.out _ h).mono ?_
    rintro e w2 ⟨rfl, h2, o2⟩
    go_wp2
    go_end0
    exact ⟨rfl, by rw [HR.out]; exact h2, o2⟩

/-- Kinds in memory, in a block of their own. -/
def KsT (w : World) (g : Nat) (ks : List Nat) : Prop := g < w.heap.size ∧ ∀ j (h : j < ks.length), w.cell? ⟨g, j, none⟩ = some (.int .u8 (ks[j] : Nat))
theorem cell_block {w w' : World} {g j : Nat} (h : w'.heap[g]? = w.heap[g]?) : w'.cell? ⟨g, j, none⟩ = w.cell? ⟨g, j, none⟩ := by simp only [World.cell?]; rw [h]
theorem KsT.only {w w' : World} {g k : Nat} {ks : List Nat} (h : KsT w g ks) (ho : Only k w w') (hk : g ≠ k) : KsT w' g ks :=
  ⟨Nat.lt_of_lt_of_le h.1 ho.size, fun j hj => (cell_block (ho.block g h.1 hk)).trans (h.2 j hj)⟩
theorem KsT.alloc {w : World} {g : Nat} {ks : List Nat} (h : KsT w g ks) (o : Obj) : KsT (w.alloc o) g ks :=
  ⟨by simp; have := h.1; omega, fun j hj => (cell_block (Below.heap_alloc _ _ _ h.1)).trans (h.2 j hj)⟩

def EaRel (f : Nat → CS → CS) (ks : List Nat) (R : CS) (g P b n : Nat) (deep : Int) (w : World) (i : Value) (wr : World) : Prop :=
  ∃ (j : Nat) (c : CS), j ≤ n ∧ i = .int .i64 j ∧ c.ok ∧ eachTo f ks (n - j) c = R ∧ CurT 83 wr b c ∧ KsT wr g ks ∧ PlT wr P b deep ∧ Only b w wr
def EiRel (f : Nat → CS → CS) (ks : List Nat) (D : CS) (g P b : Nat) (deep : Int) (w : World) (i : Value) (wr : World) : Prop :=
  ∃ (j : Nat) (c : CS), j ≤ ks.length ∧ i = .int .i64 j ∧ c.ok ∧ (ks.drop j).foldl (fun c k => f k c) c = D ∧ CurT 83 wr b c ∧ KsT wr g ks ∧ PlT wr P b deep ∧ Only b w wr
set_option maxHeartbeats 1000000 in
theorem each_any {deep : Int} {f : Nat → CS → CS} (hI : InR deep f) (hf : ∀ k, Std (f k)) {ks : List Nat} (hks : ∀ k ∈ ks, k < 256) (hkl : ks.length ≤ 2) {b g n : Nat} {c : CS} {w : World} (hn : n ≤ 2147483647) (h : CurT 83 w b c) (hc : c.ok) (hK : KsT w g ks) (hgb : g ≠ b) (cap : Nat) :
    Calls Tryd.prog 88 #[plV b deep, .int .i64 (n : Nat), .slice (some ⟨g, 0, none⟩) ks.length cap] w fun e w' => e = .returned (.tuple #[]) ∧ CurT 83 w' b (eachTo f ks n c) ∧ Only b w w' := by
  obtain ⟨R, hR⟩ : ∃ R, R = eachTo f ks n c := ⟨_, rfl⟩
  rw [← hR]
  obtain ⟨P, hP⟩ : ∃ P, P = w.heap.size := ⟨_, rfl⟩
  have S0 := pl_start h deep
  rw [← hP] at S0
  have hPb := S0.2.2.1
  have HR0 := Lib.hid (show EaRel f ks R g P b n deep w (.int .i64 0) _ from ⟨0, c, Nat.zero_le _, rfl, hc, by rw [Nat.sub_zero]; exact hR.symm, S0.1, hK.alloc _, S0.2.2.2, S0.2.1⟩)
  have HI := Lib.hid hI
  have HF := Lib.hid hf
  have HKS := Lib.hid hks
  unfold plV
  clear S0 hR h hc hK hI hf hks
  go_enter Tryd.func88, Tryd.ntmps88
  go_wp2_with fail
  rw [← hP]
  clear hP
  generalize w.alloc (.cells #[.pointer (some ⟨b, 0, none⟩), .int .i64 deep] 116) = w0 at HR0 ⊢
  go_loopw [9] (fun i wr => EaRel f ks R g P b n deep w i wr) (fun i _ => n - (intOf i).toNat)
  case atStart => exact HR0.out
  case round =>
    obtain ⟨i, c1, hi, rfl, hok, hE, q1, q2, q3, o1⟩ := hrel
    by_cases hlt : i < n
    · have p1 : decide ((i : Int) < (n : Int)) = true := decide_eq_true (by omega)
      have p1' : decide (i < n) = true := decide_eq_true hlt
      obtain ⟨D, hD⟩ : ∃ D, D = ks.foldl (fun c k => f k c) c1 := ⟨_, rfl⟩
      have hE2 : eachTo f ks (n - (i + 1)) D = R := by
        rw [← hE, show n - i = (n - (i + 1)) + 1 by omega, eachTo, hD]
      have HR1 := Lib.hid (show EiRel f ks D g P b deep w (.int .i64 0) wr from ⟨0, c1, Nat.zero_le _, rfl, hok, by rw [List.drop_zero]; exact hD.symm, q1, q2, q3, o1⟩)
      have HE2 := Lib.hid hE2
      have HLT := Lib.hid hlt
      clear q1 q2 q3 o1 hE hE2 hD hok hi
      go_wp2_with fail
      go_loopw [13] (fun i wr => EiRel f ks D g P b deep w i wr) (fun i _ => ks.length - (intOf i).toNat)
      case atStart => exact HR1.out
      case round =>
        obtain ⟨j, c2, hj, rfl, hok2, hD2, q1, q2, q3, o1⟩ := hrel
        by_cases hjl : j < ks.length
        · have p2 : decide ((j : Int) < (ks.length : Int)) = true := decide_eq_true (by omega)
          have p2' : decide (j < ks.length) = true := decide_eq_true hjl
          obtain ⟨k, hk⟩ : ∃ k, k = ks[j] := ⟨_, rfl⟩
          have hk256 : k < 256 := by rw [hk]; exact HKS.out _ (List.getElem_mem hjl)
          have cK := q2.2 j hjl
          rw [← hk] at cK
          have c0 := q3.c0
          have c1' := q3.c1
          have HC := Lib.hid (fun w (h : CurT 83 w b c2) => HI.out k b c2 w hk256 h hok2)
          have hD3 : (ks.drop (j + 1)).foldl (fun c k => f k c) (f k c2) = D := by
            rw [← hD2, List.drop_eq_getElem_cons hjl, List.foldl_cons, hk]
          have HOK := Lib.hid (HF.out k c2 hok2).1
          have Q := Lib.hid (And.intro q2 (And.intro q3 o1))
          have HD3 := Lib.hid hD3
          have HJ := Lib.hid hjl
          clear q2 q3 o1 hD2 hD3 hok2 hk hk256 hj hjl
          go_wp2_with fail
          with_reducible refine (HC.out _ q1).mono ?_
          rintro e w2 ⟨rfl, h2, o2⟩
          have HN := Lib.hid (show EiRel f ks D g P b deep w (.int .i64 ((j + 1 : Nat) : Int)) w2 from ⟨j + 1, f k c2, HJ.out, rfl, HOK.out, HD3.out, h2, Q.out.1.only o2 hgb, Q.out.2.1.only o2 hPb, Q.out.2.2.trans o2⟩)
          clear h2 o2 Q c0 c1' cK
          go_wp2
          go_roundw
          case rel =>
            have := HN.out
            rwa [show ((j + 1 : Nat) : Int) = (j : Int) + 1 by omega] at this
          case measure => have := HJ.out; simp [intOf]; omega
        · have p2 : decide ((j : Int) < (ks.length : Int)) = false := decide_eq_false (by omega)
          have p2' : decide (j < ks.length) = false := decide_eq_false hjl
          have hDc : c2 = D := by rw [← hD2, List.drop_eq_nil_of_le (by omega)]; rfl
          subst hDc
          have c0 := q3.c0
          have HE := Lib.hid (fun w (h : CurT 83 w b c2) => err_any h)
          by_cases he : c2.er = 0
          · have p3 : (c2.er != 0) = false := by rw [he]; rfl
            have HN := Lib.hid (fun (v : Value) (hv : v = .int .i64 ((i + 1 : Nat) : Int)) => show EaRel f ks R g P b n deep w v _ from ⟨i + 1, c2, HLT.out, hv, hok2, HE2.out, q1, q2, q3, o1⟩)
            clear q2 q3 o1 hD2 hok2 he
            go_wp2_with fail
            with_reducible refine (HE.out _ q1).mono ?_
            rintro e w2 ⟨rfl, rfl⟩
            go_wp2
            go_roundw
            case rel =>
              have := HLT.out
              exact HN.out _ (by go_num)
            case measure => have := HLT.out; simp [intOf]; omega
          · have p3 : (c2.er != 0) = true := by simp [he]
            have HX := Lib.hid (show c2 = R by rw [← HE2.out]; exact (each_bad HF.out hok2 he ks _).symm)
            clear q2 q3 hD2 hok2 he
            go_wp2_with fail
            with_reducible refine (HE.out _ q1).mono ?_
            rintro e w2 ⟨rfl, rfl⟩
            go_wp2
            refine bodyPost_ret (results_none rfl _ _ _) rfl ?_
            exact ⟨rfl, by rw [← HX.out]; exact q1, o1⟩
    · have p1 : decide ((i : Int) < (n : Int)) = false := decide_eq_false (by omega)
      have p1' : decide (i < n) = false := decide_eq_false hlt
      have HX := Lib.hid (show c1 = R by rw [← hE, show n - i = 0 by omega, eachTo])
      go_wp2
      go_end0
      exact ⟨rfl, by rw [← HX.out]; exact q1, o1⟩
theorem kb_lt {k : Nat} (h : k ≤ 255) : k < 256 := by omega
theorem list_more {f : Nat → CS → CS} {c : CS} {k : Nat} (h1 : ¬ k = 12) (h2 : ¬ k = 11) : holdTo f k c = eachTo f [c.lKd] c.lCt c.lTo := by unfold holdTo; rw [if_neg h1, if_neg h2]
theorem CS.lCt_le (c : CS) : c.lCt ≤ 2147483647 := by
  unfold CS.lCt
  split
  · rename_i h0
    unfold CS.lTo at h0
    by_cases hn : c.lN ≤ 2147483647
    · exact hn
    · rw [decide_eq_false hn] at h0
      by_cases hc : c.lC.er = 0
      · rw [CS.want_no, CS.fail_er hc] at h0; exact absurd (show (4 : Int) = 0 from h0) (by decide)
      · rw [CS.want_no, CS.fail_fail hc] at h0; exact absurd h0 hc
  · exact Nat.zero_le _
theorem CS.lKd_le (c : CS) : c.lKd < 256 := by
  unfold CS.lKd; split
  · omega
  · omega
theorem CS.mCt_le (c : CS) : c.mCt ≤ 2147483647 := by
  unfold CS.mCt
  split
  · exact Nat.zero_le _
  · split
    · rename_i h0
      by_cases hn : c.vVal ≤ 2147483647
      · exact hn
      · exfalso
        have hs : ¬ c.sTo.er = 0 := by
          unfold CS.sTo
          rw [decide_eq_false hn, CS.want_no]
          by_cases hv : c.vTo.er = 0
          · rw [CS.fail_er hv]; exact show ¬ (4 : Int) = 0 by decide
          · rw [CS.fail_fail hv]; exact hv
        exact hs (by
          have h1 : c.sTo.byte.er = 0 := by
            by_cases h1 : c.sTo.byte.er = 0
            · exact h1
            · unfold CS.mK at h0; rw [CS.want_bad h1] at h0; exact absurd h0 h1
          by_cases h2 : c.sTo.er = 0
          · exact h2
          · exfalso
            have : c.sTo.byte.er = c.sTo.er := by
              unfold CS.byte CS.take CS.why
              rw [if_pos h2, if_neg h2]
            rw [this] at h1; exact h2 h1)
    · exact Nat.zero_le _
theorem CS.mKy_le (c : CS) : c.mKy < 256 ∧ c.mVl < 256 := by
  have := (CS.peekB_nat c.sTo).2
  unfold CS.mKy CS.mVl
  constructor
  · split
    · omega
    · split <;> omega
  · split
    · omega
    · split <;> omega
theorem CS.hKd_le (c : CS) (last : Int) : c.hKd last < 256 := by
  unfold CS.hKd; split
  · omega
  · split <;> omega
theorem CS.hId_numb (c : CS) (last : Int) : numB (c.hId last) = true := by
  unfold CS.hId
  split
  · rfl
  · rename_i hp
    split
    · rename_i h0
      unfold CS.hTo at h0
      rw [if_neg hp] at h0
      rcases Bool.eq_false_or_eq_true (numB (c.hN last)) with hx | hx
      · exact hx
      · rw [hx, CS.want_no] at h0
        by_cases hc : c.hC.er = 0
        · rw [CS.fail_er hc] at h0; exact absurd (show (4 : Int) = 0 from h0) (by decide)
        · rw [CS.fail_fail hc] at h0; exact absurd h0 hc
    · rfl
end Go.Proofs.YtmiagebcobcaiaaDoor
/- Package cskip: passList, passMap, passStruct, where going past a thing within is known. -/
namespace Go.Proofs.YtmiagebcobcaiaaDoor
open Go Go.RowKit
set_option linter.unusedVariables false

theorem ks_one (w : World) (x : Nat) : KsT (w.alloc (.cells #[.int .u8 (x : Nat)] 5)) w.heap.size [x] := by
  refine ⟨by simp, fun j hj => ?_⟩
  have h0 : j = 0 := by simpa using hj
  subst h0
  have h1 := heap_alloc_new w (.cells #[.int .u8 (x : Nat)] 5)
  simp only [World.cell?]
  rw [h1]; rfl
theorem ks_two (w : World) (x y : Nat) : KsT (w.alloc (.cells #[.int .u8 (x : Nat), .int .u8 (y : Nat)] 5)) w.heap.size [x, y] := by
  refine ⟨by simp, fun j hj => ?_⟩
  have h1 := heap_alloc_new w (.cells #[.int .u8 (x : Nat), .int .u8 (y : Nat)] 5)
  simp only [World.cell?]
  rw [h1]
  match j, hj with
  | 0, _ => rfl
  | 1, _ => rfl
set_option maxHeartbeats 1000000 in
theorem passlist_any {deep : Int} {f : Nat → CS → CS} (hI : InR deep f) (hf : ∀ k, Std (f k)) {b : Nat} {c : CS} {w : World} (h : CurT 83 w b c) (hc : c.ok) :
    Calls Tryd.prog 85 #[plV b deep] w fun e w' => e = .returned (.tuple #[]) ∧ CurT 83 w' b (eachTo f [c.lKd] c.lCt c.lTo) ∧ Only b w w' := by
  have HL := Lib.hid (fun w (h : CurT 83 w b c) => list_any h hc)
  have hok := CS.lTo_ok hc
  have hk := CS.lKd_le c
  have hn := CS.lCt_le c
  obtain ⟨d, hd⟩ : ∃ d, d = c.lTo := ⟨_, rfl⟩
  obtain ⟨x, hx⟩ : ∃ x, x = c.lKd := ⟨_, rfl⟩
  obtain ⟨n, hnn⟩ : ∃ n, n = c.lCt := ⟨_, rfl⟩
  rw [← hd, ← hx, ← hnn] at HL
  rw [← hd] at hok
  rw [← hx] at hk
  rw [← hnn] at hn
  rw [← hd, ← hx, ← hnn]
  have HE := Lib.hid (fun (g : Nat) (w : World) (h : CurT 83 w b d) (hK : KsT w g [x]) (hg : g ≠ b) => each_any hI hf (ks := [x]) (by intro k hk2; simp at hk2; omega) (by simp) hn h hok hK hg 1)
  have S0 := Lib.hid (pl_start h deep)
  have HB := Lib.hid h.lt
  clear hd hx hnn hk hn hok hI hf hc h
  unfold plV at *
  go_enter Tryd.func85, Tryd.ntmps85
  have g0 := S0.out.2.2.2.c0
  go_wp2_with fail
  with_reducible refine (HL.out _ S0.out.1).mono ?_
  rintro e w1 ⟨rfl, h1, o1⟩
  have K1 := Lib.hid (S0.out.2.2.2.only o1 S0.out.2.2.1)
  have O1 := Lib.hid (S0.out.2.1.trans o1)
  have g1 := K1.out.c0
  have g2 := K1.out.c1
  have H1 := Lib.hid h1
  clear g0 o1 h1
  go_wp2_with fail
  refine (HE.out w1.heap.size _ ((Below.heap_alloc _ _ _ H1.out.lt).trans H1.out) (ks_one w1 x) (by have := H1.out.lt; omega)).mono ?_
  rintro e w2 ⟨rfl, h2, o2⟩
  have O2 := Lib.hid ((O1.out.alloc (.cells #[.int .u8 (x : Nat)] 5)).trans o2)
  go_wp2
  go_end0
  exact ⟨rfl, h2, O2.out⟩
set_option maxHeartbeats 1000000 in
theorem passmap_any {deep : Int} {f : Nat → CS → CS} (hI : InR deep f) (hf : ∀ k, Std (f k)) {b : Nat} {c : CS} {w : World} (h : CurT 83 w b c) (hc : c.ok) :
    Calls Tryd.prog 86 #[plV b deep] w fun e w' => e = .returned (.tuple #[]) ∧ CurT 83 w' b (eachTo f [c.mKy, c.mVl] c.mCt c.mTo) ∧ Only b w w' := by
  have HL := Lib.hid (fun w (h : CurT 83 w b c) => map_any h hc)
  have hok := CS.mTo_ok hc
  have hk := CS.mKy_le c
  have hn := CS.mCt_le c
  obtain ⟨d, hd⟩ : ∃ d, d = c.mTo := ⟨_, rfl⟩
  obtain ⟨x, hx⟩ : ∃ x, x = c.mKy := ⟨_, rfl⟩
  obtain ⟨y, hy⟩ : ∃ y, y = c.mVl := ⟨_, rfl⟩
  obtain ⟨n, hnn⟩ : ∃ n, n = c.mCt := ⟨_, rfl⟩
  rw [← hd, ← hx, ← hy, ← hnn] at HL
  rw [← hd] at hok
  rw [← hx, ← hy] at hk
  rw [← hnn] at hn
  rw [← hd, ← hx, ← hy, ← hnn]
  have HE := Lib.hid (fun (g : Nat) (w : World) (h : CurT 83 w b d) (hK : KsT w g [x, y]) (hg : g ≠ b) => each_any hI hf (ks := [x, y]) (by intro k hk2; simp at hk2; omega) (by simp) hn h hok hK hg 2)
  have S0 := Lib.hid (pl_start h deep)
  clear hd hx hy hnn hk hn hok hI hf hc h
  unfold plV at *
  go_enter Tryd.func86, Tryd.ntmps86
  have g0 := S0.out.2.2.2.c0
  go_wp2_with fail
  with_reducible refine (HL.out _ S0.out.1).mono ?_
  rintro e w1 ⟨rfl, h1, o1⟩
  have K1 := Lib.hid (S0.out.2.2.2.only o1 S0.out.2.2.1)
  have O1 := Lib.hid (S0.out.2.1.trans o1)
  have g1 := K1.out.c0
  have g2 := K1.out.c1
  have H1 := Lib.hid h1
  clear g0 o1 h1
  go_wp2_with fail
  refine (HE.out w1.heap.size _ ((Below.heap_alloc _ _ _ H1.out.lt).trans H1.out) (ks_two w1 x y) (by have := H1.out.lt; omega)).mono ?_
  rintro e w2 ⟨rfl, h2, o2⟩
  have O2 := Lib.hid ((O1.out.alloc (.cells #[.int .u8 (x : Nat), .int .u8 (y : Nat)] 5)).trans o2)
  go_wp2
  go_end0
  exact ⟨rfl, h2, O2.out⟩

def FlRel (f : Nat → CS → CS) (R : CS) (P b E : Nat) (deep : Int) (w : World) (v : Value) (wr : World) : Prop :=
  ∃ (m : Nat) (last : Int) (c : CS), v = .int .i64 last ∧ numB last = true ∧ c.ok ∧ c.en = E ∧ c.lf < m ∧ fldTo f m last c = R ∧ CurT 83 wr b c ∧ PlT wr P b deep ∧ Only b w wr
set_option maxHeartbeats 1000000 in
theorem passstruct_any {deep : Int} {f : Nat → CS → CS} (hI : InR deep f) (hf : ∀ k, Std (f k)) {b : Nat} {c : CS} {w : World} (h : CurT 83 w b c) (hc : c.ok) :
    Calls Tryd.prog 87 #[plV b deep] w fun e w' => e = .returned (.tuple #[]) ∧ CurT 83 w' b (fldTo f fuelN 0 c) ∧ Only b w w' := by
  have hv : ∀ k, Std (valTo f k) := by
    intro k
    unfold valTo
    intro c hc
    split
    · exact Std.id c hc
    · exact hf k c hc
  have HV := Lib.hid (value_of hI)
  obtain ⟨R, hR⟩ : ∃ R, R = fldTo f fuelN 0 c := ⟨_, rfl⟩
  rw [← hR]
  obtain ⟨P, hP⟩ : ∃ P, P = w.heap.size := ⟨_, rfl⟩
  have S0 := pl_start h deep
  rw [← hP] at S0
  have hPb := S0.2.2.1
  obtain ⟨E, hE⟩ : ∃ E, E = c.en := ⟨_, rfl⟩
  have HR0 := Lib.hid (show FlRel f R P b E deep w (.int .i64 0) _ from ⟨fuelN, 0, c, rfl, rfl, hc, hE.symm, lf_fuel hc, hR.symm, S0.1, S0.2.2.2, S0.2.1⟩)
  have HS := Lib.hid hv
  unfold plV
  clear S0 hR h hc hI hf hE hv
  go_enter Tryd.func87, Tryd.ntmps87
  go_wp2_with fail
  rw [← hP]
  clear hP
  generalize w.alloc (.cells #[.pointer (some ⟨b, 0, none⟩), .int .i64 deep] 116) = w0 at HR0 ⊢
  go_loopw [2] (fun v wr => FlRel f R P b E deep w v wr) (fun _ wr => E - atOf b wr)
  case atStart => exact HR0.out
  case round =>
    obtain ⟨m, last, c1, rfl, hnl, hok, hen, hlf, hT, q1, q2, o1⟩ := hrel
    have HX := Lib.hid (fun w (h : CurT 83 w b c1) => field_any h hok last hnl)
    have hat := atOf_cur q1
    have hstd : (c1.hTo last).ok ∧ (c1.hTo last).s = c1.s ∧ (c1.hTo last).en = c1.en ∧ c1.at_ ≤ (c1.hTo last).at_ ∧ (¬ c1.er = 0 → c1.hTo last = c1) := head_std last c1 hok
    have hkl := CS.hKd_le c1 last
    have hnum := CS.hId_numb c1 last
    have hmore := head_more (c := c1) hok (last := last)
    have hT1 : fldTo f m last c1 = if c1.hKd last = 0 then c1.hTo last else fldTo f (m - 1) (c1.hId last) (valTo f (c1.hKd last) (c1.hTo last)) := by
      cases m with
      | zero => omega
      | succ m => rfl
    rw [hT1] at hT
    obtain ⟨d, hd⟩ : ∃ d, d = c1.hTo last := ⟨_, rfl⟩
    obtain ⟨x, hx⟩ : ∃ x, x = c1.hKd last := ⟨_, rfl⟩
    obtain ⟨i, hi⟩ : ∃ i, i = c1.hId last := ⟨_, rfl⟩
    rw [← hd, ← hx, ← hi] at hT HX
    rw [← hx] at hkl hmore
    rw [← hi] at hnum
    rw [← hd] at hstd hmore
    have c0 := q2.c0
    by_cases h0 : x = 0
    · subst h0
      rw [if_pos rfl] at hT
      have O1 := Lib.hid o1
      have HT := Lib.hid hT
      clear hT1 hd hx hi hkl hmore hnum hstd hat hlf hen hok hnl o1 hT q2
      go_wp2_with fail
      with_reducible refine (HX.out _ q1).mono ?_
      rintro e w1 ⟨rfl, h1, o1⟩
      go_wp2
      refine bodyPost_ret (results_none rfl _ _ _) rfl ?_
      exact ⟨rfl, by rw [← HT.out]; exact h1, O1.out.trans o1⟩
    · rw [if_neg h0] at hT
      have p1 : ((x : Int) == 0) = false := beq_eq_false_iff_ne.mpr (by omega)
      have p1' : (x == 0) = false := beq_eq_false_iff_ne.mpr h0
      obtain ⟨hm1, hm2, hm3⟩ := hmore h0
      obtain ⟨s1, s2, s3, s4, s5⟩ := hstd
      have HC := Lib.hid (fun w (h : CurT 83 w b d) => HV.out x b d w hkl h s1)
      obtain ⟨z1, z2, z3, z4, z5⟩ := HS.out x d s1
      obtain ⟨D, hD⟩ : ∃ D, D = valTo f x d := ⟨_, rfl⟩
      rw [← hD] at hT HC z1 z2 z3 z4
      have hl2 : D.lf < m - 1 := by
        have := lf_less hok z1 (z3.trans s3) (by omega)
        omega
      have hme : D.at_ ≤ E ∧ c1.at_ + 1 ≤ D.at_ := ⟨by have := z1.1; omega, by omega⟩
      have NX := Lib.hid (fun (wr : World) (q1 : CurT 83 wr b D) (q2 : PlT wr P b deep) (o1 : Only b w wr) => show FlRel f R P b E deep w (.int .i64 i) wr from ⟨m - 1, i, D, rfl, hnum, z1, (z3.trans s3).trans hen, hl2, hT, q1, q2, o1⟩)
      have HM := Lib.hid hme
      have HA := Lib.hid hat
      have Q := Lib.hid (And.intro q2 o1)
      have c1' := q2.c1
      clear hT1 hd hx hi hkl hmore hnum hlf hen hok hnl o1 hT hl2 hme z1 z2 z3 z4 z5 s1 s2 s3 s4 s5 hm1 hm2 hm3 hD hat h0 q2
      go_wp2_with fail
      with_reducible refine (HX.out _ q1).mono ?_
      rintro e w1 ⟨rfl, h1, o1⟩
      have Q1 := Lib.hid (And.intro (Q.out.1.only o1 hPb) (Q.out.2.trans o1))
      have d0 := Q1.out.1.c0
      have d1 := Q1.out.1.c1
      clear Q o1 c0 c1'
      go_wp2_with fail
      with_reducible refine (HC.out _ h1).mono ?_
      rintro e w2 ⟨rfl, h2, o2⟩
      have N2 := Lib.hid (NX.out w2 h2 (Q1.out.1.only o2 hPb) (Q1.out.2.trans o2))
      have A2 := Lib.hid (atOf_cur h2)
      clear Q1 o2 d0 d1 h2
      go_wp2
      go_roundw
      case rel => exact N2.out
      case measure => rw [A2.out, HA.out]; have := HM.out; omega
end Go.Proofs.YtmiagebcobcaiaaDoor
/- Package cskip: Inner, kind by kind, and by how many things it stands within; Value. -/
namespace Go.Proofs.YtmiagebcobcaiaaDoor
open Go Go.RowKit
set_option linter.unusedVariables false
theorem inner_1 {b : Nat} {c : CS} {w : World} (h : CurT 83 w b c) (hc : c.ok) (deep : Int) :
    Calls Tryd.prog 80 #[.pointer (some ⟨b, 0, none⟩), .int .u8 1, .int .i64 deep] w fun e w' => e = .returned (.tuple #[]) ∧ CurT 83 w' b c.tru ∧ Only b w w' := by
  have HX := Lib.hid (fun w (h : CurT 83 w b c) => truth_any h hc deep)
  have S0 := Lib.hid (pl_start h deep)
  clear hc h
  unfold plV at *
  go_enter Tryd.func80, Tryd.ntmps80
  have g0 := S0.out.2.2.2.c0
  have g1 := S0.out.2.2.2.c1
  go_wp2_with fail
  with_reducible refine (HX.out _ S0.out.1).mono ?_
  rintro e w1 ⟨rfl, h1, o1⟩
  go_wp2
  go_end0
  exact ⟨rfl, h1, S0.out.2.1.trans o1⟩
theorem inner_2 {b : Nat} {c : CS} {w : World} (h : CurT 83 w b c) (hc : c.ok) (deep : Int) :
    Calls Tryd.prog 80 #[.pointer (some ⟨b, 0, none⟩), .int .u8 2, .int .i64 deep] w fun e w' => e = .returned (.tuple #[]) ∧ CurT 83 w' b c.tru ∧ Only b w w' := by
  have HX := Lib.hid (fun w (h : CurT 83 w b c) => truth_any h hc deep)
  have S0 := Lib.hid (pl_start h deep)
  clear hc h
  unfold plV at *
  go_enter Tryd.func80, Tryd.ntmps80
  have g0 := S0.out.2.2.2.c0
  have g1 := S0.out.2.2.2.c1
  go_wp2_with fail
  with_reducible refine (HX.out _ S0.out.1).mono ?_
  rintro e w1 ⟨rfl, h1, o1⟩
  go_wp2
  go_end0
  exact ⟨rfl, h1, S0.out.2.1.trans o1⟩
theorem inner_3 {b : Nat} {c : CS} {w : World} (h : CurT 83 w b c) (hc : c.ok) (deep : Int) :
    Calls Tryd.prog 80 #[.pointer (some ⟨b, 0, none⟩), .int .u8 3, .int .i64 deep] w fun e w' => e = .returned (.tuple #[]) ∧ CurT 83 w' b c.byte ∧ Only b w w' := by
  have HX := Lib.hid (fun w (h : CurT 83 w b c) => byte_any h hc)
  have S0 := Lib.hid (pl_start h deep)
  clear hc h
  unfold plV at *
  go_enter Tryd.func80, Tryd.ntmps80
  have g0 := S0.out.2.2.2.c0
  have g1 := S0.out.2.2.2.c1
  go_wp2_with fail
  with_reducible refine (HX.out _ S0.out.1).mono ?_
  rintro e w1 ⟨rfl, h1, o1⟩
  go_wp2
  go_end0
  exact ⟨rfl, h1, S0.out.2.1.trans o1⟩
theorem inner_4 {b : Nat} {c : CS} {w : World} (h : CurT 83 w b c) (hc : c.ok) (deep : Int) :
    Calls Tryd.prog 80 #[.pointer (some ⟨b, 0, none⟩), .int .u8 4, .int .i64 deep] w fun e w' => e = .returned (.tuple #[]) ∧ CurT 83 w' b c.vTo ∧ Only b w w' := by
  have HX := Lib.hid (fun w (h : CurT 83 w b c) => vread_any h hc)
  have S0 := Lib.hid (pl_start h deep)
  clear hc h
  unfold plV at *
  go_enter Tryd.func80, Tryd.ntmps80
  have g0 := S0.out.2.2.2.c0
  have g1 := S0.out.2.2.2.c1
  go_wp2_with fail
  with_reducible refine (HX.out _ S0.out.1).mono ?_
  rintro e w1 ⟨rfl, h1, o1⟩
  go_wp2
  go_end0
  exact ⟨rfl, h1, S0.out.2.1.trans o1⟩
theorem inner_5 {b : Nat} {c : CS} {w : World} (h : CurT 83 w b c) (hc : c.ok) (deep : Int) :
    Calls Tryd.prog 80 #[.pointer (some ⟨b, 0, none⟩), .int .u8 5, .int .i64 deep] w fun e w' => e = .returned (.tuple #[]) ∧ CurT 83 w' b c.vTo ∧ Only b w w' := by
  have HX := Lib.hid (fun w (h : CurT 83 w b c) => vread_any h hc)
  have S0 := Lib.hid (pl_start h deep)
  clear hc h
  unfold plV at *
  go_enter Tryd.func80, Tryd.ntmps80
  have g0 := S0.out.2.2.2.c0
  have g1 := S0.out.2.2.2.c1
  go_wp2_with fail
  with_reducible refine (HX.out _ S0.out.1).mono ?_
  rintro e w1 ⟨rfl, h1, o1⟩
  go_wp2
  go_end0
  exact ⟨rfl, h1, S0.out.2.1.trans o1⟩
theorem inner_6 {b : Nat} {c : CS} {w : World} (h : CurT 83 w b c) (hc : c.ok) (deep : Int) :
    Calls Tryd.prog 80 #[.pointer (some ⟨b, 0, none⟩), .int .u8 6, .int .i64 deep] w fun e w' => e = .returned (.tuple #[]) ∧ CurT 83 w' b c.vTo ∧ Only b w w' := by
  have HX := Lib.hid (fun w (h : CurT 83 w b c) => vread_any h hc)
  have S0 := Lib.hid (pl_start h deep)
  clear hc h
  unfold plV at *
  go_enter Tryd.func80, Tryd.ntmps80
  have g0 := S0.out.2.2.2.c0
  have g1 := S0.out.2.2.2.c1
  go_wp2_with fail
  with_reducible refine (HX.out _ S0.out.1).mono ?_
  rintro e w1 ⟨rfl, h1, o1⟩
  go_wp2
  go_end0
  exact ⟨rfl, h1, S0.out.2.1.trans o1⟩
theorem inner_7 {b : Nat} {c : CS} {w : World} (h : CurT 83 w b c) (hc : c.ok) (deep : Int) :
    Calls Tryd.prog 80 #[.pointer (some ⟨b, 0, none⟩), .int .u8 7, .int .i64 deep] w fun e w' => e = .returned (.tuple #[]) ∧ CurT 83 w' b (c.take 8) ∧ Only b w w' := by
  have HX := Lib.hid (fun w (h : CurT 83 w b c) => take_any h hc 8)
  have S0 := Lib.hid (pl_start h deep)
  clear hc h
  unfold plV at *
  go_enter Tryd.func80, Tryd.ntmps80
  have g0 := S0.out.2.2.2.c0
  have g1 := S0.out.2.2.2.c1
  go_wp2_with fail
  with_reducible refine (HX.out _ S0.out.1).mono ?_
  rintro e w1 ⟨rfl, h1, o1⟩
  go_wp2
  go_end0
  exact ⟨rfl, h1, S0.out.2.1.trans o1⟩
theorem inner_8 {b : Nat} {c : CS} {w : World} (h : CurT 83 w b c) (hc : c.ok) (deep : Int) :
    Calls Tryd.prog 80 #[.pointer (some ⟨b, 0, none⟩), .int .u8 8, .int .i64 deep] w fun e w' => e = .returned (.tuple #[]) ∧ CurT 83 w' b c.txt ∧ Only b w w' := by
  have HX := Lib.hid (fun w (h : CurT 83 w b c) => text_any h hc deep)
  have S0 := Lib.hid (pl_start h deep)
  clear hc h
  unfold plV at *
  go_enter Tryd.func80, Tryd.ntmps80
  have g0 := S0.out.2.2.2.c0
  have g1 := S0.out.2.2.2.c1
  go_wp2_with fail
  with_reducible refine (HX.out _ S0.out.1).mono ?_
  rintro e w1 ⟨rfl, h1, o1⟩
  go_wp2
  go_end0
  exact ⟨rfl, h1, S0.out.2.1.trans o1⟩
theorem inner_9 {b : Nat} {c d : CS} {w : World} (h : CurT 83 w b c) (hc : c.ok) (deep : Int)
    (HE : Hid (∀ w, CurT 83 w b c → Calls Tryd.prog 84 #[plV b deep, .func (.func 85) #[] #[]] w fun e w' => e = .returned (.tuple #[]) ∧ CurT 83 w' b d ∧ Only b w w')) :
    Calls Tryd.prog 80 #[.pointer (some ⟨b, 0, none⟩), .int .u8 9, .int .i64 deep] w fun e w' => e = .returned (.tuple #[]) ∧ CurT 83 w' b d ∧ Only b w w' := by
  have HX := Lib.hid (fun w (h : CurT 83 w b c) => HE.out w h)
  have S0 := Lib.hid (pl_start h deep)
  clear hc h
  unfold plV at *
  go_enter Tryd.func80, Tryd.ntmps80
  have g0 := S0.out.2.2.2.c0
  have g1 := S0.out.2.2.2.c1
  go_wp2_with fail
  with_reducible refine (HX.out _ S0.out.1).mono ?_
  rintro e w1 ⟨rfl, h1, o1⟩
  go_wp2
  go_end0
  exact ⟨rfl, h1, S0.out.2.1.trans o1⟩
theorem inner_10 {b : Nat} {c d : CS} {w : World} (h : CurT 83 w b c) (hc : c.ok) (deep : Int)
    (HE : Hid (∀ w, CurT 83 w b c → Calls Tryd.prog 84 #[plV b deep, .func (.func 85) #[] #[]] w fun e w' => e = .returned (.tuple #[]) ∧ CurT 83 w' b d ∧ Only b w w')) :
    Calls Tryd.prog 80 #[.pointer (some ⟨b, 0, none⟩), .int .u8 10, .int .i64 deep] w fun e w' => e = .returned (.tuple #[]) ∧ CurT 83 w' b d ∧ Only b w w' := by
  have HX := Lib.hid (fun w (h : CurT 83 w b c) => HE.out w h)
  have S0 := Lib.hid (pl_start h deep)
  clear hc h
  unfold plV at *
  go_enter Tryd.func80, Tryd.ntmps80
  have g0 := S0.out.2.2.2.c0
  have g1 := S0.out.2.2.2.c1
  go_wp2_with fail
  with_reducible refine (HX.out _ S0.out.1).mono ?_
  rintro e w1 ⟨rfl, h1, o1⟩
  go_wp2
  go_end0
  exact ⟨rfl, h1, S0.out.2.1.trans o1⟩
theorem inner_11 {b : Nat} {c d : CS} {w : World} (h : CurT 83 w b c) (hc : c.ok) (deep : Int)
    (HE : Hid (∀ w, CurT 83 w b c → Calls Tryd.prog 84 #[plV b deep, .func (.func 86) #[] #[]] w fun e w' => e = .returned (.tuple #[]) ∧ CurT 83 w' b d ∧ Only b w w')) :
    Calls Tryd.prog 80 #[.pointer (some ⟨b, 0, none⟩), .int .u8 11, .int .i64 deep] w fun e w' => e = .returned (.tuple #[]) ∧ CurT 83 w' b d ∧ Only b w w' := by
  have HX := Lib.hid (fun w (h : CurT 83 w b c) => HE.out w h)
  have S0 := Lib.hid (pl_start h deep)
  clear hc h
  unfold plV at *
  go_enter Tryd.func80, Tryd.ntmps80
  have g0 := S0.out.2.2.2.c0
  have g1 := S0.out.2.2.2.c1
  go_wp2_with fail
  with_reducible refine (HX.out _ S0.out.1).mono ?_
  rintro e w1 ⟨rfl, h1, o1⟩
  go_wp2
  go_end0
  exact ⟨rfl, h1, S0.out.2.1.trans o1⟩
theorem inner_12 {b : Nat} {c d : CS} {w : World} (h : CurT 83 w b c) (hc : c.ok) (deep : Int)
    (HE : Hid (∀ w, CurT 83 w b c → Calls Tryd.prog 84 #[plV b deep, .func (.func 87) #[] #[]] w fun e w' => e = .returned (.tuple #[]) ∧ CurT 83 w' b d ∧ Only b w w')) :
    Calls Tryd.prog 80 #[.pointer (some ⟨b, 0, none⟩), .int .u8 12, .int .i64 deep] w fun e w' => e = .returned (.tuple #[]) ∧ CurT 83 w' b d ∧ Only b w w' := by
  have HX := Lib.hid (fun w (h : CurT 83 w b c) => HE.out w h)
  have S0 := Lib.hid (pl_start h deep)
  clear hc h
  unfold plV at *
  go_enter Tryd.func80, Tryd.ntmps80
  have g0 := S0.out.2.2.2.c0
  have g1 := S0.out.2.2.2.c1
  go_wp2_with fail
  with_reducible refine (HX.out _ S0.out.1).mono ?_
  rintro e w1 ⟨rfl, h1, o1⟩
  go_wp2
  go_end0
  exact ⟨rfl, h1, S0.out.2.1.trans o1⟩
set_option maxHeartbeats 1000000 in
theorem inner_no {b : Nat} {c : CS} {w : World} (h : CurT 83 w b c) (hc : c.ok) (deep : Int) (k : Nat) (hk : ¬ (1 ≤ k ∧ k ≤ 12)) :
    Calls Tryd.prog 80 #[.pointer (some ⟨b, 0, none⟩), .int .u8 (k : Nat), .int .i64 deep] w fun e w' => e = .returned (.tuple #[]) ∧ CurT 83 w' b (c.fail 7) ∧ Only b w w' := by
  have HX := Lib.hid (fun w (h : CurT 83 w b c) => fail_any h 7)
  have S0 := Lib.hid (pl_start h deep)
  have p1 : ((k : Int) == 1) = false := beq_eq_false_iff_ne.mpr (by omega)
  have q1 : (k == 1) = false := beq_eq_false_iff_ne.mpr (by omega)
  have p2 : ((k : Int) == 2) = false := beq_eq_false_iff_ne.mpr (by omega)
  have q2 : (k == 2) = false := beq_eq_false_iff_ne.mpr (by omega)
  have p3 : ((k : Int) == 3) = false := beq_eq_false_iff_ne.mpr (by omega)
  have q3 : (k == 3) = false := beq_eq_false_iff_ne.mpr (by omega)
  have p4 : ((k : Int) == 4) = false := beq_eq_false_iff_ne.mpr (by omega)
  have q4 : (k == 4) = false := beq_eq_false_iff_ne.mpr (by omega)
  have p5 : ((k : Int) == 5) = false := beq_eq_false_iff_ne.mpr (by omega)
  have q5 : (k == 5) = false := beq_eq_false_iff_ne.mpr (by omega)
  have p6 : ((k : Int) == 6) = false := beq_eq_false_iff_ne.mpr (by omega)
  have q6 : (k == 6) = false := beq_eq_false_iff_ne.mpr (by omega)
  have p7 : ((k : Int) == 7) = false := beq_eq_false_iff_ne.mpr (by omega)
  have q7 : (k == 7) = false := beq_eq_false_iff_ne.mpr (by omega)
  have p8 : ((k : Int) == 8) = false := beq_eq_false_iff_ne.mpr (by omega)
  have q8 : (k == 8) = false := beq_eq_false_iff_ne.mpr (by omega)
  have p9 : ((k : Int) == 9) = false := beq_eq_false_iff_ne.mpr (by omega)
  have q9 : (k == 9) = false := beq_eq_false_iff_ne.mpr (by omega)
  have p10 : ((k : Int) == 10) = false := beq_eq_false_iff_ne.mpr (by omega)
  have q10 : (k == 10) = false := beq_eq_false_iff_ne.mpr (by omega)
  have p11 : ((k : Int) == 11) = false := beq_eq_false_iff_ne.mpr (by omega)
  have q11 : (k == 11) = false := beq_eq_false_iff_ne.mpr (by omega)
  have p12 : ((k : Int) == 12) = false := beq_eq_false_iff_ne.mpr (by omega)
  have q12 : (k == 12) = false := beq_eq_false_iff_ne.mpr (by omega)
  clear hk
  clear hc h
  unfold plV at *
  go_enter Tryd.func80, Tryd.ntmps80
  have g0 := S0.out.2.2.2.c0
  have g1 := S0.out.2.2.2.c1
  go_wp2_with fail
  with_reducible refine (HX.out _ S0.out.1).mono ?_
  rintro e w1 ⟨rfl, h1, o1⟩
  go_wp2
  go_end0
  exact ⟨rfl, h1, S0.out.2.1.trans o1⟩
/-- Inner, of what stands within so many others. -/
theorem inner_step {deep : Int} (h0 : 0 ≤ deep) {r : Nat} (hr : (32 - deep).toNat = r) (hI : ∀ m, r = m + 1 → InR (deep + 1) (inTo m)) : InR deep (inTo r) := by
  intro k b c w hk h hc
  have hflat : ∀ j, hdK j = false → inTo r j c = flatTo j c := fun j hj => inTo_flat hj r c
  have hh : ∀ (j : Nat) (F : FuncId) (hj : hdK j = true) (hF : F = 85 ∨ F = 86 ∨ F = 87)
      (hP : ∀ m, r = m + 1 → ∀ w, CurT 83 w b c → Calls Tryd.prog F #[plV b (deep + 1)] w fun e w' => e = .returned (.tuple #[]) ∧ CurT 83 w' b (holdTo (inTo m) j c) ∧ Only b w w'),
      Hid (∀ w, CurT 83 w b c → Calls Tryd.prog 84 #[plV b deep, .func (.func F) #[] #[]] w fun e w' => e = .returned (.tuple #[]) ∧ CurT 83 w' b (inTo r j c) ∧ Only b w w') := by
    intro j F hj hF hP
    refine Lib.hid fun w h => ?_
    cases r with
    | zero =>
      rw [inTo_deep hj]
      exact enter_deep h deep (by omega) _
    | succ m =>
      rw [inTo_hold hj]
      exact enter_in h deep ⟨h0, by omega⟩ F hF (Lib.hid (hP m rfl))
  have hs : ∀ m k, Std (inTo m k) := in_std
  by_cases hk12 : 1 ≤ k ∧ k ≤ 12
  · have hcase : k = 1 ∨ k = 2 ∨ k = 3 ∨ k = 4 ∨ k = 5 ∨ k = 6 ∨ k = 7 ∨ k = 8 ∨ k = 9 ∨ k = 10 ∨ k = 11 ∨ k = 12 := by omega
    rcases hcase with rfl | rfl | rfl | rfl | rfl | rfl | rfl | rfl | rfl | rfl | rfl | rfl
    · rw [hflat 1 rfl]; exact inner_1 h hc deep
    · rw [hflat 2 rfl]; exact inner_2 h hc deep
    · rw [hflat 3 rfl]; exact inner_3 h hc deep
    · rw [hflat 4 rfl]; exact inner_4 h hc deep
    · rw [hflat 5 rfl]; exact inner_5 h hc deep
    · rw [hflat 6 rfl]; exact inner_6 h hc deep
    · rw [hflat 7 rfl]; exact inner_7 h hc deep
    · rw [hflat 8 rfl]; exact inner_8 h hc deep
    · exact inner_9 h hc deep (hh 9 _ rfl (.inl rfl) fun m hm w h => passlist_any (hI m hm) (hs m) h hc)
    · exact inner_10 h hc deep (hh 10 _ rfl (.inl rfl) fun m hm w h => passlist_any (hI m hm) (hs m) h hc)
    · exact inner_11 h hc deep (hh 11 _ rfl (.inr (.inl rfl)) fun m hm w h => passmap_any (hI m hm) (hs m) h hc)
    · exact inner_12 h hc deep (hh 12 _ rfl (.inr (.inr rfl)) fun m hm w h => passstruct_any (hI m hm) (hs m) h hc)
  · have hk9 : hdK k = false := by
      unfold hdK
      rcases Nat.lt_or_ge k 1 with h | h
      · rw [decide_eq_false (by omega)]; rfl
      · rw [decide_eq_false (show ¬ k ≤ 12 by omega), Bool.and_false]
    rw [hflat k hk9]
    have hfl : flatTo k c = c.fail 7 := by
      unfold flatTo
      rw [if_neg (by unfold trB; simp; omega), if_neg (by omega), if_neg (by omega), if_neg (by omega), if_neg (by omega)]
    rw [hfl]
    exact inner_no h hc deep k hk12
theorem inner_any : ∀ (r : Nat) (deep : Int), 0 ≤ deep → (32 - deep).toNat = r → InR deep (inTo r)
  | 0, deep, h0, hr => inner_step h0 hr fun m h => absurd h (by omega)
  | r + 1, deep, h0, hr => inner_step h0 hr fun m h => by
    obtain rfl : m = r := by omega
    exact inner_any m (deep + 1) (by omega) (by omega)
theorem skip_inner (k : Nat) (deep : Int) (h0 : 0 ≤ deep) {b : Nat} {c : CS} {w : World} (hk : k < 256) (h : CurT 83 w b c) (hc : c.ok) :
    Calls Tryd.prog 80 #[.pointer (some ⟨b, 0, none⟩), .int .u8 (k : Nat), .int .i64 deep] w fun e w' => e = .returned (.tuple #[]) ∧ CurT 83 w' b (inTo (32 - deep).toNat k c) ∧ Only b w w' :=
  inner_any _ deep h0 rfl k b c w hk h hc
theorem skip_value (k : Nat) (deep : Int) (h0 : 0 ≤ deep) {b : Nat} {c : CS} {w : World} (hk : k < 256) (h : CurT 83 w b c) (hc : c.ok) :
    Calls Tryd.prog 73 #[.pointer (some ⟨b, 0, none⟩), .int .u8 (k : Nat), .int .i64 deep] w fun e w' => e = .returned (.tuple #[]) ∧ CurT 83 w' b (valTo (inTo (32 - deep).toNat) k c) ∧ Only b w w' :=
  value_of (inner_any _ deep h0 rfl) k b c w hk h hc
end Go.Proofs.YtmiagebcobcaiaaDoor
