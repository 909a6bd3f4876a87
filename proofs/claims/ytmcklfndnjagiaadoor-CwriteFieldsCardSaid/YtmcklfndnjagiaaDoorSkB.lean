/- Package cskip: passEach, passList, passMap, passStruct, where going past a thing within is known. -/
import Derived.Test.YtmcklfndnjagiaaDoorSkA
namespace Go.Proofs.YtmcklfndnjagiaaDoor
open Go Go.RowKit
set_option linter.unusedVariables false

/-- Inner, of things that stand within so many: what it makes of a cursor. -/
def InR (deep : Int) (f : Nat → CS → CS) : Prop := ∀ (k : Nat) (b : Nat) (c : CS) (w : World), k < 256 → CurT 105 w b c → c.ok →
  Calls Tryd.prog 92 #[.pointer (some ⟨b, 0, none⟩), .int .u8 (k : Nat), .int .i64 deep] w fun e w' => e = .returned (.tuple #[]) ∧ CurT 105 w' b (f k c) ∧ Only b w w'
/-- Value, likewise. -/
def VaR (deep : Int) (f : Nat → CS → CS) : Prop := ∀ (k : Nat) (b : Nat) (c : CS) (w : World), k < 256 → CurT 105 w b c → c.ok →
  Calls Tryd.prog 84 #[.pointer (some ⟨b, 0, none⟩), .int .u8 (k : Nat), .int .i64 deep] w fun e w' => e = .returned (.tuple #[]) ∧ CurT 105 w' b (valTo f k c) ∧ Only b w w'

theorem same_true (k : Nat) (w : World) :
    Calls Tryd.prog 69 #[.int .u8 (k : Nat), .int .u8 1] w fun e w' => e = .returned (.bool (trB k)) ∧ w' = w := by
  have := same_any k 1 w
  have e : sameB k 1 = trB k := by
    unfold sameB trB
    by_cases h : k = 1
    · subst h; rfl
    · rw [decide_eq_false h]; simp
  rw [e] at this
  exact this
theorem value_of {deep : Int} {f : Nat → CS → CS} (hI : InR deep f) : VaR deep f := by
  intro k b c w hk h hc
  have HS := Lib.hid (fun w => same_true k w)
  have HI := Lib.hid (fun w (h : CurT 105 w b c) => hI k b c w hk h hc)
  rcases Bool.eq_false_or_eq_true (trB k) with ht | ht
  · have HR := Lib.hid (show valTo f k c = c by unfold valTo; rw [if_pos ht])
    rw [ht] at HS
    clear ht hI hk hc
    go_enter Tryd.func84, Tryd.ntmps84
    go_wp2_with fail
    with_reducible refine (HS.out _).mono ?_
    rintro e w1 ⟨rfl, rfl⟩
    go_wp2
    refine bodyPost_ret (results_none rfl _ _ _) rfl ?_
    exact ⟨rfl, by rw [HR.out]; exact h, Only.refl _ _⟩
  · have HR := Lib.hid (show valTo f k c = f k c by unfold valTo; rw [if_neg (by rw [ht]; decide)])
    rw [ht] at HS
    clear ht hI hk hc
    go_enter Tryd.func84, Tryd.ntmps84
    go_wp2_with fail
    with_reducible refine (HS.out _).mono ?_
    rintro e w1 ⟨rfl, rfl⟩
    go_wp2_with fail
    with_reducible refine (HI.out _ h).mono ?_
    rintro e w2 ⟨rfl, h2, o2⟩
    go_wp2
    go_end0
    exact ⟨rfl, by rw [HR.out]; exact h2, o2⟩

/-- Kinds in memory, in a block of their own. -/
def KsT (w : World) (g : Nat) (ks : List Nat) : Prop := g < w.heap.size ∧ ∀ j (h : j < ks.length), w.cell? ⟨g, j, none⟩ = some (.int .u8 (ks[j] : Nat))
theorem cell_block {w w' : World} {g j : Nat} (h : w'.heap[g]? = w.heap[g]?) : w'.cell? ⟨g, j, none⟩ = w.cell? ⟨g, j, none⟩ := by simp only [World.cell?]; rw [h]
theorem KsT.only {w w' : World} {g k : Nat} {ks : List Nat} (h : KsT w g ks) (ho : Only k w w') (hk : g ≠ k) : KsT w' g ks :=
  ⟨Nat.lt_of_lt_of_le h.1 ho.size, fun j hj => (cell_block (ho.block g h.1 hk)).trans (h.2 j hj)⟩
theorem KsT.alloc {w : World} {g : Nat} {ks : List Nat} (h : KsT w g ks) (o : Obj) : KsT (w.alloc o) g ks :=
  ⟨by simp; have := h.1; omega, fun j hj => (cell_block (Below.heap_alloc _ _ _ h.1)).trans (h.2 j hj)⟩

def EaRel (f : Nat → CS → CS) (ks : List Nat) (R : CS) (g P b n : Nat) (deep : Int) (w : World) (i : Value) (wr : World) : Prop :=
  ∃ (j : Nat) (c : CS), j ≤ n ∧ i = .int .i64 j ∧ c.ok ∧ eachTo f ks (n - j) c = R ∧ CurT 105 wr b c ∧ KsT wr g ks ∧ PlT wr P b deep ∧ Only b w wr
def EiRel (f : Nat → CS → CS) (ks : List Nat) (D : CS) (g P b : Nat) (deep : Int) (w : World) (i : Value) (wr : World) : Prop :=
  ∃ (j : Nat) (c : CS), j ≤ ks.length ∧ i = .int .i64 j ∧ c.ok ∧ (ks.drop j).foldl (fun c k => f k c) c = D ∧ CurT 105 wr b c ∧ KsT wr g ks ∧ PlT wr P b deep ∧ Only b w wr
set_option maxHeartbeats 1000000 in
theorem each_any {deep : Int} {f : Nat → CS → CS} (hI : InR deep f) (hf : ∀ k, Std (f k)) {ks : List Nat} (hks : ∀ k ∈ ks, k < 256) (hkl : ks.length ≤ 2) {b g n : Nat} {c : CS} {w : World} (hn : n ≤ 2147483647) (h : CurT 105 w b c) (hc : c.ok) (hK : KsT w g ks) (hgb : g ≠ b) (cap : Nat) :
    Calls Tryd.prog 101 #[plV b deep, .int .i64 (n : Nat), .slice (some ⟨g, 0, none⟩) ks.length cap] w fun e w' => e = .returned (.tuple #[]) ∧ CurT 105 w' b (eachTo f ks n c) ∧ Only b w w' := by
  obtain ⟨R, hR⟩ : ∃ R, R = eachTo f ks n c := ⟨_, rfl⟩
  rw [← hR]
  obtain ⟨P, hP⟩ : ∃ P, P = w.heap.size := ⟨_, rfl⟩
  have S0 := pl_start h deep
  rw [← hP] at S0
  have hPb := S0.2.2.1
  have HR0 := Lib.hid (show EaRel f ks R g P b n deep w (.int .i64 0) _ from ⟨0, c, Nat.zero_le _, rfl, hc, by rw [Nat.sub_zero]; exact hR.symm, S0.1, hK.alloc _, S0.2.2.2, S0.2.1⟩)
  have HI := Lib.hid hI
  have HF := Lib.hid hf
  have HKS := Lib.hid hks
  unfold plV
  clear S0 hR h hc hK hI hf hks
  go_enter Tryd.func101, Tryd.ntmps101
  go_wp2_with fail
  rw [← hP]
  clear hP
  generalize w.alloc (.cells #[.pointer (some ⟨b, 0, none⟩), .int .i64 deep] 122) = w0 at HR0 ⊢
  go_loopw [9] (fun i wr => EaRel f ks R g P b n deep w i wr) (fun i _ => n - (intOf i).toNat)
  case atStart => exact HR0.out
  case round =>
    obtain ⟨i, c1, hi, rfl, hok, hE, q1, q2, q3, o1⟩ := hrel
    by_cases hlt : i < n
    · have p1 : decide ((i : Int) < (n : Int)) = true := decide_eq_true (by omega)
      have p1' : decide (i < n) = true := decide_eq_true hlt
      obtain ⟨D, hD⟩ : ∃ D, D = ks.foldl (fun c k => f k c) c1 := ⟨_, rfl⟩
      have hE2 : eachTo f ks (n - (i + 1)) D = R := by
        rw [← hE, show n - i = (n - (i + 1)) + 1 by omega, eachTo, hD]
      have HR1 := Lib.hid (show EiRel f ks D g P b deep w (.int .i64 0) wr from ⟨0, c1, Nat.zero_le _, rfl, hok, by rw [List.drop_zero]; exact hD.symm, q1, q2, q3, o1⟩)
      have HE2 := Lib.hid hE2
      have HLT := Lib.hid hlt
      clear q1 q2 q3 o1 hE hE2 hD hok hi
      go_wp2_with fail
      go_loopw [13] (fun i wr => EiRel f ks D g P b deep w i wr) (fun i _ => ks.length - (intOf i).toNat)
      case atStart => exact HR1.out
      case round =>
        obtain ⟨j, c2, hj, rfl, hok2, hD2, q1, q2, q3, o1⟩ := hrel
        by_cases hjl : j < ks.length
        · have p2 : decide ((j : Int) < (ks.length : Int)) = true := decide_eq_true (by omega)
          have p2' : decide (j < ks.length) = true := decide_eq_true hjl
          obtain ⟨k, hk⟩ : ∃ k, k = ks[j] := ⟨_, rfl⟩
          have hk256 : k < 256 := by rw [hk]; exact HKS.out _ (List.getElem_mem hjl)
          have cK := q2.2 j hjl
          rw [← hk] at cK
          have c0 := q3.c0
          have c1' := q3.c1
          have HC := Lib.hid (fun w (h : CurT 105 w b c2) => HI.out k b c2 w hk256 h hok2)
          have hD3 : (ks.drop (j + 1)).foldl (fun c k => f k c) (f k c2) = D := by
            rw [← hD2, List.drop_eq_getElem_cons hjl, List.foldl_cons, hk]
          have HOK := Lib.hid (HF.out k c2 hok2).1
          have Q := Lib.hid (And.intro q2 (And.intro q3 o1))
          have HD3 := Lib.hid hD3
          have HJ := Lib.hid hjl
          clear q2 q3 o1 hD2 hD3 hok2 hk hk256 hj hjl
          go_wp2_with fail
          with_reducible refine (HC.out _ q1).mono ?_
          rintro e w2 ⟨rfl, h2, o2⟩
          have HN := Lib.hid (show EiRel f ks D g P b deep w (.int .i64 ((j + 1 : Nat) : Int)) w2 from ⟨j + 1, f k c2, HJ.out, rfl, HOK.out, HD3.out, h2, Q.out.1.only o2 hgb, Q.out.2.1.only o2 hPb, Q.out.2.2.trans o2⟩)
          clear h2 o2 Q c0 c1' cK
          go_wp2
          go_roundw
          case rel =>
            have := HN.out
            rwa [show ((j + 1 : Nat) : Int) = (j : Int) + 1 by omega] at this
          case measure => have := HJ.out; simp [intOf]; omega
        · have p2 : decide ((j : Int) < (ks.length : Int)) = false := decide_eq_false (by omega)
          have p2' : decide (j < ks.length) = false := decide_eq_false hjl
          have hDc : c2 = D := by rw [← hD2, List.drop_eq_nil_of_le (by omega)]; rfl
          subst hDc
          have c0 := q3.c0
          have HE := Lib.hid (fun w (h : CurT 105 w b c2) => err_any h)
          by_cases he : c2.er = 0
          · have p3 : (c2.er != 0) = false := by rw [he]; rfl
            have HN := Lib.hid (fun (v : Value) (hv : v = .int .i64 ((i + 1 : Nat) : Int)) => show EaRel f ks R g P b n deep w v _ from ⟨i + 1, c2, HLT.out, hv, hok2, HE2.out, q1, q2, q3, o1⟩)
            clear q2 q3 o1 hD2 hok2 he
            go_wp2_with fail
            with_reducible refine (HE.out _ q1).mono ?_
            rintro e w2 ⟨rfl, rfl⟩
            go_wp2
            go_roundw
            case rel =>
              have := HLT.out
              exact HN.out _ (by go_num)
            case measure => have := HLT.out; simp [intOf]; omega
          · have p3 : (c2.er != 0) = true := by simp [he]
            have HX := Lib.hid (show c2 = R by rw [← HE2.out]; exact (each_bad HF.out hok2 he ks _).symm)
            clear q2 q3 hD2 hok2 he
            go_wp2_with fail
            with_reducible refine (HE.out _ q1).mono ?_
            rintro e w2 ⟨rfl, rfl⟩
            go_wp2
            refine bodyPost_ret (results_none rfl _ _ _) rfl ?_
            exact ⟨rfl, by rw [← HX.out]; exact q1, o1⟩
    · have p1 : decide ((i : Int) < (n : Int)) = false := decide_eq_false (by omega)
      have p1' : decide (i < n) = false := decide_eq_false hlt
      have HX := Lib.hid (show c1 = R by rw [← hE, show n - i = 0 by omega, eachTo])
      go_wp2
      go_end0
      exact ⟨rfl, by rw [← HX.out]; exact q1, o1⟩
theorem kb_lt {k : Nat} (h : k ≤ 255) : k < 256 := by omega
theorem list_more {f : Nat → CS → CS} {c : CS} {k : Nat} (h1 : ¬ k = 12) (h2 : ¬ k = 11) : holdTo f k c = eachTo f [c.lKd] c.lCt c.lTo := by unfold holdTo; rw [if_neg h1, if_neg h2]
theorem CS.lCt_le (c : CS) : c.lCt ≤ 2147483647 := by
  unfold CS.lCt
  split
  · rename_i h0
    unfold CS.lTo at h0
    by_cases hn : c.lN ≤ 2147483647
    · exact hn
    · rw [decide_eq_false hn] at h0
      by_cases hc : c.lC.er = 0
      · rw [CS.want_no, CS.fail_er hc] at h0; exact absurd (show (4 : Int) = 0 from h0) (by decide)
      · rw [CS.want_no, CS.fail_fail hc] at h0; exact absurd h0 hc
  · exact Nat.zero_le _
theorem CS.lKd_le (c : CS) : c.lKd < 256 := by
  unfold CS.lKd; split
  · omega
  · omega
theorem CS.mCt_le (c : CS) : c.mCt ≤ 2147483647 := by
  unfold CS.mCt
  split
  · exact Nat.zero_le _
  · split
    · rename_i h0
      by_cases hn : c.vVal ≤ 2147483647
      · exact hn
      · exfalso
        have hs : ¬ c.sTo.er = 0 := by
          unfold CS.sTo
          rw [decide_eq_false hn, CS.want_no]
          by_cases hv : c.vTo.er = 0
          · rw [CS.fail_er hv]; exact show ¬ (4 : Int) = 0 by decide
          · rw [CS.fail_fail hv]; exact hv
        exact hs (by
          have h1 : c.sTo.byte.er = 0 := by
            by_cases h1 : c.sTo.byte.er = 0
            · exact h1
            · unfold CS.mK at h0; rw [CS.want_bad h1] at h0; exact absurd h0 h1
          by_cases h2 : c.sTo.er = 0
          · exact h2
          · exfalso
            have : c.sTo.byte.er = c.sTo.er := by
              unfold CS.byte CS.take CS.why
              rw [if_pos h2, if_neg h2]
            rw [this] at h1; exact h2 h1)
    · exact Nat.zero_le _
theorem CS.mKy_le (c : CS) : c.mKy < 256 ∧ c.mVl < 256 := by
  have := (CS.peekB_nat c.sTo).2
  unfold CS.mKy CS.mVl
  constructor
  · split
    · omega
    · split <;> omega
  · split
    · omega
    · split <;> omega
theorem CS.hKd_le (c : CS) (last : Int) : c.hKd last < 256 := by
  unfold CS.hKd; split
  · omega
  · split <;> omega
theorem CS.hId_numb (c : CS) (last : Int) : numB (c.hId last) = true := by
  unfold CS.hId
  split
  · rfl
  · rename_i hp
    split
    · rename_i h0
      unfold CS.hTo at h0
      rw [if_neg hp] at h0
      rcases Bool.eq_false_or_eq_true (numB (c.hN last)) with hx | hx
      · exact hx
      · rw [hx, CS.want_no] at h0
        by_cases hc : c.hC.er = 0
        · rw [CS.fail_er hc] at h0; exact absurd (show (4 : Int) = 0 from h0) (by decide)
        · rw [CS.fail_fail hc] at h0; exact absurd h0 hc
    · rfl
end Go.Proofs.YtmcklfndnjagiaaDoor
