/- Plain facts, of no program: what a cursor went past it goes past again, whatever stands behind; of less, bytes lack. -/
import Derived.Test.YtmcklfndnjagiaaDoorSkNum
namespace Go.Proofs.YtmcklfndnjagiaaDoor
open Go Go.RowKit
set_option linter.unusedVariables false

/-- Heads, as steps one behind the other. -/
theorem Loc.head (last : Int) : Loc (fun c => c.hTo last) (fun c => (c.hId last, c.hKd last)) := by
  have h1 : ∀ p : Nat, Loc (fun c => if p = 0 then c else if 0 < p / 16 then (c.want (kB (p % 16)) 7).want (numB (last + (p / 16 : Nat))) 4 else (c.want (kB (p % 16)) 7).vTo.want (numB (zagI ((c.want (kB (p % 16)) 7).vVal : Nat))) 4)
      (fun c => if p = 0 then ((0 : Int), 0) else if 0 < p / 16 then (last + (p / 16 : Nat), p % 16) else (zagI ((c.want (kB (p % 16)) 7).vVal : Nat), p % 16)) := by
    intro p
    refine Loc.ite (Loc.ret _) (Loc.ite ?_ ?_)
    · exact (Loc.want (kB (p % 16)) (k := 7) (by decide) ()).bind fun _ => Loc.want (numB (last + (p / 16 : Nat))) (k := 4) (by decide) (last + (p / 16 : Nat), p % 16)
    · exact (Loc.want (kB (p % 16)) (k := 7) (by decide) ()).bind fun _ => Loc.num.bind fun u => Loc.want (numB (zagI (u : Nat))) (k := 4) (by decide) (zagI (u : Nat), p % 16)
  refine (Loc.byte.bind h1).cong ?_ ?_
  · intro c
    show c.hTo last = if c.pB = 0 then c.byte else if 0 < c.pB / 16 then (c.byte.want (kB (c.pB % 16)) 7).want (numB (last + (c.pB / 16 : Nat))) 4 else (c.byte.want (kB (c.pB % 16)) 7).vTo.want (numB (zagI ((c.byte.want (kB (c.pB % 16)) 7).vVal : Nat))) 4
    unfold CS.hTo CS.hC CS.hN CS.hK
    by_cases h0 : c.pB = 0
    · rw [if_pos h0, if_pos h0]
    · rw [if_neg h0, if_neg h0]
      by_cases hq : 0 < c.pB / 16
      · simp only [if_pos hq]
      · simp only [if_neg hq]
  · intro c hc h0
    show (c.hId last, c.hKd last) = if c.pB = 0 then ((0 : Int), 0) else if 0 < c.pB / 16 then (last + (c.pB / 16 : Nat), c.pB % 16) else (zagI ((c.byte.want (kB (c.pB % 16)) 7).vVal : Nat), c.pB % 16)
    have hT : c.hTo last = if c.pB = 0 then c.byte else if 0 < c.pB / 16 then (c.byte.want (kB (c.pB % 16)) 7).want (numB (last + (c.pB / 16 : Nat))) 4 else (c.byte.want (kB (c.pB % 16)) 7).vTo.want (numB (zagI ((c.byte.want (kB (c.pB % 16)) 7).vVal : Nat))) 4 := by
      unfold CS.hTo CS.hC CS.hN CS.hK
      by_cases h0 : c.pB = 0
      · rw [if_pos h0, if_pos h0]
      · rw [if_neg h0, if_neg h0]
        by_cases hq : 0 < c.pB / 16
        · simp only [if_pos hq]
        · simp only [if_neg hq]
    have h0' : (c.hTo last).er = 0 := by rw [hT]; exact h0
    unfold CS.hId CS.hKd
    by_cases hp : c.pB = 0
    · rw [if_pos hp, if_pos hp, if_pos hp]
    · rw [if_neg hp, if_neg hp, if_neg hp, if_pos h0', if_pos h0']
      unfold CS.hN CS.hK
      by_cases hq : 0 < c.pB / 16
      · rw [if_pos hq, if_pos hq]
      · rw [if_neg hq, if_neg hq]
theorem Loc.list : Loc (fun c => c.lTo) (fun c => (c.lCt, c.lKd)) := by
  have h1 : ∀ p : Nat, Loc (fun c => if p / 16 = 15 then (c.want (kB (p % 16)) 7).vTo.want (decide ((c.want (kB (p % 16)) 7).vVal ≤ 2147483647)) 4 else (c.want (kB (p % 16)) 7).want (decide (p / 16 ≤ 2147483647)) 4)
      (fun c => if p / 16 = 15 then ((c.want (kB (p % 16)) 7).vVal, p % 16) else (p / 16, p % 16)) := by
    intro p
    refine Loc.ite ?_ ?_
    · exact (Loc.want (kB (p % 16)) (k := 7) (by decide) ()).bind fun _ => Loc.num.bind fun u => Loc.want (decide (u ≤ 2147483647)) (k := 4) (by decide) (u, p % 16)
    · exact (Loc.want (kB (p % 16)) (k := 7) (by decide) ()).bind fun _ => Loc.want (decide (p / 16 ≤ 2147483647)) (k := 4) (by decide) (p / 16, p % 16)
  have hT : ∀ c : CS, c.lTo = if c.pB / 16 = 15 then (c.byte.want (kB (c.pB % 16)) 7).vTo.want (decide ((c.byte.want (kB (c.pB % 16)) 7).vVal ≤ 2147483647)) 4 else (c.byte.want (kB (c.pB % 16)) 7).want (decide (c.pB / 16 ≤ 2147483647)) 4 := by
    intro c
    unfold CS.lTo CS.lC CS.lN CS.hK
    by_cases hq : c.pB / 16 = 15
    · simp only [if_pos hq]
    · simp only [if_neg hq]
  refine (Loc.byte.bind h1).cong hT ?_
  intro c hc h0
  show (c.lCt, c.lKd) = if c.pB / 16 = 15 then ((c.byte.want (kB (c.pB % 16)) 7).vVal, c.pB % 16) else (c.pB / 16, c.pB % 16)
  have h0' : c.lTo.er = 0 := by rw [hT]; exact h0
  unfold CS.lCt CS.lKd
  rw [if_pos h0', if_pos h0']
  unfold CS.lN CS.hK
  by_cases hq : c.pB / 16 = 15
  · rw [if_pos hq, if_pos hq]
  · rw [if_neg hq, if_neg hq]
theorem Loc.map : Loc (fun c => c.mTo) (fun c => (c.mCt, c.mKy, c.mVl)) := by
  have h1 : ∀ u : Nat, Loc (fun c => if u = 0 then c.want (decide (u ≤ 2147483647)) 4 else (c.want (decide (u ≤ 2147483647)) 4).byte.want (kB ((c.want (decide (u ≤ 2147483647)) 4).pB / 16) && kB ((c.want (decide (u ≤ 2147483647)) 4).pB % 16)) 7)
      (fun c => if u = 0 then (0, 0, 0) else (u, (c.want (decide (u ≤ 2147483647)) 4).pB / 16, (c.want (decide (u ≤ 2147483647)) 4).pB % 16)) := by
    intro u
    refine Loc.ite (Loc.want _ (by decide) _) ?_
    exact (Loc.want (decide (u ≤ 2147483647)) (k := 4) (by decide) ()).bind fun _ => Loc.byte.bind fun p => Loc.want (kB (p / 16) && kB (p % 16)) (k := 7) (by decide) (u, p / 16, p % 16)
  have hT : ∀ c : CS, c.mTo = if c.vVal = 0 then c.vTo.want (decide (c.vVal ≤ 2147483647)) 4 else (c.vTo.want (decide (c.vVal ≤ 2147483647)) 4).byte.want (kB ((c.vTo.want (decide (c.vVal ≤ 2147483647)) 4).pB / 16) && kB ((c.vTo.want (decide (c.vVal ≤ 2147483647)) 4).pB % 16)) 7 := fun c => rfl
  refine (Loc.num.bind h1).cong hT ?_
  intro c hc h0
  show (c.mCt, c.mKy, c.mVl) = if c.vVal = 0 then (0, 0, 0) else (c.vVal, (c.vTo.want (decide (c.vVal ≤ 2147483647)) 4).pB / 16, (c.vTo.want (decide (c.vVal ≤ 2147483647)) 4).pB % 16)
  have h0' : c.mTo.er = 0 := by rw [hT]; exact h0
  unfold CS.mCt CS.mKy CS.mVl
  by_cases hz : c.vVal = 0
  · simp only [if_pos hz]
  · have hK : c.mK.er = 0 := by unfold CS.mTo at h0'; rwa [if_neg hz] at h0'
    simp only [if_neg hz, if_pos hK]
    rfl
theorem Loc.txt : Loc (fun c => c.txt) (fun _ => ()) := by
  refine Loc.num.bind (g := txTo) (u := fun _ _ => ()) fun u => ?_
  have hT := Loc.take u ()
  have hS : Std (txTo u) := by
    intro c hc
    unfold txTo
    split
    · exact Std.take u c hc
    · exact Std.fail 1 c hc
  refine ⟨hS, fun c hc h0 => ?_⟩
  have hle : u ≤ c.lf := by
    by_cases hle : u ≤ c.lf
    · exact hle
    · exfalso
      unfold txTo at h0
      rw [if_neg hle] at h0
      unfold CS.fail at h0
      split at h0
      · exact absurd (show (1 : Int) = 0 from h0) (by decide)
      · rename_i h; exact h h0
  have e1 : txTo u c = c.take (u : Nat) := by unfold txTo; rw [if_pos hle]
  rw [e1] at h0 ⊢
  obtain ⟨n, hn, hfn, hN⟩ := hT.good c hc h0
  have hl := CS.rest_length hc
  have hun : n = u := by
    have hw : c.why u = 0 := CS.why_mk (hS.er hc (by rw [e1]; exact h0)) (by omega) (by unfold CS.lf at hle; have := hc.1; omega)
    have h2 : c.take (u : Nat) = c.past n := hfn
    have h3 := take_yes hw
    rw [Int.toNat_natCast, h2] at h3
    have := congrArg CS.at_ h3
    have g1 : (c.past n).at_ = c.at_ + n := rfl
    have g2 : (c.past u).at_ = c.at_ + u := rfl
    omega
  subst hun
  refine ⟨n, hn, hfn, fun c' hc' he' => ⟨fun hl' ht => ⟨?_, rfl⟩, fun hlt ht => ?_⟩⟩
  · have h2 : n ≤ c'.lf := by have := CS.rest_length hc'; unfold CS.lf; omega
    have e2 : txTo n c' = c'.take (n : Nat) := by unfold txTo; rw [if_pos h2]
    rw [e2]; exact ((hN c' hc' he').1 hl' ht).1
  · have h2 : ¬ n ≤ c'.lf := by have := CS.rest_length hc'; unfold CS.lf; omega
    unfold txTo
    rw [if_neg h2, CS.fail_er he']
theorem Loc.tru : Loc (fun c => c.tru) (fun _ => ()) :=
  Loc.byte.bind (g := fun p c => c.want (decide (p ≤ 2)) 3) (u := fun _ _ => ()) fun p => Loc.want (decide (p ≤ 2)) (k := 3) (by decide) ()
theorem Loc.flat (k : Nat) : Loc (flatTo k) (fun _ => ()) := by
  unfold flatTo
  split
  · exact Loc.tru
  · split
    · exact Loc.byte.unit
    · split
      · exact Loc.num.unit
      · split
        · exact Loc.take 8 ()
        · split
          · exact Loc.txt
          · exact Loc.fail (by decide) _
theorem Loc.fold {f : Nat → CS → CS} (hf : ∀ k, Loc (f k) fun _ => ()) : ∀ ks : List Nat, Loc (fun c => ks.foldl (fun c k => f k c) c) fun _ => ()
  | [] => Loc.ret ()
  | k :: ks => (hf k).bind (g := fun _ c => ks.foldl (fun c k => f k c) c) (u := fun _ _ => ()) fun _ => Loc.fold hf ks
theorem Loc.each {f : Nat → CS → CS} (hf : ∀ k, Loc (f k) fun _ => ()) (ks : List Nat) : ∀ n, Loc (eachTo f ks n) fun _ => ()
  | 0 => Loc.ret ()
  | n + 1 => (Loc.fold hf ks).bind (g := fun _ c => eachTo f ks n c) (u := fun _ _ => ()) fun _ => Loc.each hf ks n
theorem Loc.val {f : Nat → CS → CS} (hf : ∀ k, Loc (f k) fun _ => ()) (k : Nat) : Loc (valTo f k) fun _ => () := by
  unfold valTo
  split
  · exact Loc.ret ()
  · exact hf k
theorem Loc.fields {f : Nat → CS → CS} (hf : ∀ k, Loc (f k) fun _ => ()) : ∀ (n : Nat) (last : Int), Loc (fldTo f n last) fun _ => ()
  | 0, _ => Loc.ret ()
  | n + 1, last => by
    refine ((Loc.head last).bind (g := fun (p : Int × Nat) c => if p.2 = 0 then c else fldTo f n p.1 (valTo f p.2 c)) (u := fun _ _ => ()) fun p => ?_).cong (fun c => rfl) (fun _ _ _ => rfl)
    have := Loc.ite (p := p.2 = 0) (Loc.ret ()) ((Loc.val hf p.2).bind (g := fun _ c => fldTo f n p.1 c) (u := fun _ _ => ()) fun _ => Loc.fields hf n p.1)
    exact this.unit
theorem Loc.hold {f : Nat → CS → CS} (hf : ∀ k, Loc (f k) fun _ => ()) (k : Nat) : Loc (holdTo f k) fun _ => () := by
  unfold holdTo
  split
  · exact Loc.fields hf _ _
  · split
    · exact Loc.map.bind (g := fun (p : Nat × Nat × Nat) c => eachTo f [p.2.1, p.2.2] p.1 c) (u := fun _ _ => ()) fun p => Loc.each hf _ _
    · exact Loc.list.bind (g := fun (p : Nat × Nat) c => eachTo f [p.2] p.1 c) (u := fun _ _ => ()) fun p => Loc.each hf _ _
theorem Loc.inner : ∀ (d k : Nat), Loc (inTo d k) fun _ => ()
  | 0, k => by
    rcases Bool.eq_false_or_eq_true (hdK k) with h | h
    · exact (Loc.fail (k := 33) (by decide) fun _ => ()).cong (inTo_deep h) fun _ _ _ => rfl
    · exact (Loc.flat k).cong (inTo_flat h 0) fun _ _ _ => rfl
  | d + 1, k => by
    rcases Bool.eq_false_or_eq_true (hdK k) with h | h
    · exact (Loc.hold (Loc.inner d) k).cong (inTo_hold h d) fun _ _ _ => rfl
    · exact (Loc.flat k).cong (inTo_flat h (d + 1)) fun _ _ _ => rfl
theorem Loc.value (d k : Nat) : Loc (valTo (inTo d) k) fun _ => () := Loc.val (Loc.inner d) k
theorem in_std (d k : Nat) : Std (inTo d k) := (Loc.inner d k).std
theorem val_std (d k : Nat) : Std (valTo (inTo d) k) := (Loc.value d k).std
theorem head_std (last : Int) : Std fun c => c.hTo last := (Loc.head last).std

/-- Behind an error nothing is gone past; a field's head takes a byte. -/
theorem fold_bad {f : Nat → CS → CS} (hf : ∀ k, Std (f k)) {c : CS} (hc : c.ok) (h : ¬ c.er = 0) : ∀ ks : List Nat, ks.foldl (fun c k => f k c) c = c
  | [] => rfl
  | k :: ks => by rw [List.foldl_cons, (hf k c hc).2.2.2.2 h]; exact fold_bad hf hc h ks
theorem each_bad {f : Nat → CS → CS} (hf : ∀ k, Std (f k)) {c : CS} (hc : c.ok) (h : ¬ c.er = 0) (ks : List Nat) : ∀ n, eachTo f ks n c = c
  | 0 => rfl
  | n + 1 => by rw [eachTo, fold_bad hf hc h]; exact each_bad hf hc h ks n
theorem head_more {c : CS} (hc : c.ok) {last : Int} (h : ¬ c.hKd last = 0) : (c.hTo last).er = 0 ∧ c.at_ + 1 ≤ (c.hTo last).at_ ∧ c.er = 0 := by
  have hp : ¬ c.pB = 0 := fun hp => h (CS.h_end hp last).2.2
  have h0 : (c.hTo last).er = 0 := by
    by_cases h0 : (c.hTo last).er = 0
    · exact h0
    · exact absurd (by unfold CS.hKd; rw [if_neg hp, if_neg h0]) h
  obtain ⟨b1, b2, b3⟩ := CS.byte_good hp
  refine ⟨h0, ?_, b1⟩
  have hB := CS.byte_yes b3
  have hat : c.byte.at_ = c.at_ + 1 := by rw [hB]
  rw [← hat]
  have s1 : Std fun c => c.want (kB 0) 7 := Std.want _ _
  have hok := CS.byte_ok hc
  have hk := (Std.want (kB (c.pB % 16)) 7 c.byte hok)
  have hC : c.hK.at_ ≤ c.hC.at_ := by
    unfold CS.hC
    split
    · exact Nat.le_refl _
    · exact (Std.num c.hK (CS.hK_ok hc)).2.2.2.1
  have hW := (Std.want (numB (c.hN last)) 4 c.hC (CS.hC_ok hc)).2.2.2.1
  have hT : c.hTo last = c.hC.want (numB (c.hN last)) 4 := by unfold CS.hTo; rw [if_neg hp]
  rw [hT]
  exact Nat.le_trans hk.2.2.2.1 (Nat.le_trans hC hW)
theorem lf_less {c d : CS} (hc : c.ok) (hd : d.ok) (he : d.en = c.en) (ha : c.at_ + 1 ≤ d.at_) : d.lf < c.lf := by
  unfold CS.lf; have := hd.1; omega
theorem lf_fuel {c : CS} (hc : c.ok) : c.lf < fuelN := by
  obtain ⟨h1, h2, h3⟩ := hc
  unfold CS.lf fuelN; omega
end Go.Proofs.YtmcklfndnjagiaaDoor
