/- Characters, as UTF-8 has them, strictly: their bytes, which character begins bytes, how a text goes from character to character. Of no program. -/
import Derived.Test.YteakcfgjjlocjaaDoorBts
namespace Go.Proofs.YteakcfgjjlocjaaDoor
open Go Go.RowKit
set_option linter.unusedVariables false

def b8 (n : Nat) : UInt8 := UInt8.ofNat n
theorem b8_toNat {n : Nat} (h : n < 256) : (b8 n).toNat = n := by
  unfold b8; rw [UInt8.toNat_ofNat']; omega
theorem b8_of (b : UInt8) {n : Nat} (h : n = b.toNat) : b8 n = b := by
  subst h; unfold b8; exact UInt8.ofNat_toNat
/-- 5.1. -/
def uIs (r : Int) : Bool := decide (0 ≤ r ∧ r ≤ 1114111 ∧ ¬ (55296 ≤ r ∧ r ≤ 57343))
def uB (r : Nat) : List UInt8 :=
  if r < 128 then [b8 r] else if r < 2048 then [b8 (192 + r / 64), b8 (128 + r % 64)]
  else if r < 65536 then [b8 (224 + r / 4096), b8 (128 + r / 64 % 64), b8 (128 + r % 64)]
  else [b8 (240 + r / 262144), b8 (128 + r / 4096 % 64), b8 (128 + r / 64 % 64), b8 (128 + r % 64)]
def uW (r : Int) : Nat := if uIs r = true then (if r < 128 then 1 else if r < 2048 then 2 else if r < 65536 then 3 else 4) else 0
def uAnn (c : Nat) : Nat := if c < 128 then 1 else if c < 192 then 0 else if c < 224 then 2 else if c < 240 then 3 else if c < 248 then 4 else 0
def uHead (k : Nat) : Nat := if k = 2 then 192 else if k = 3 then 224 else if k = 4 then 240 else 0
def uCont (b : UInt8) : Bool := decide (128 ≤ b.toNat ∧ b.toNat < 192)
def uFold (r : Nat) (t : List UInt8) : Nat := t.foldl (fun r b => r * 64 + (b.toNat - 128)) r
/-- The character that bytes begin with, and how many bytes it has; 0 and 0, if there is none. -/
def uDec : List UInt8 → Nat × Nat
  | [] => (0, 0)
  | c :: t => if uAnn c.toNat = 0 ∨ t.length + 1 < uAnn c.toNat then (0, 0)
    else if (t.take (uAnn c.toNat - 1)).all uCont = true then
      (if uW (uFold (c.toNat - uHead (uAnn c.toNat)) (t.take (uAnn c.toNat - 1)) : Nat) = uAnn c.toNat then (uFold (c.toNat - uHead (uAnn c.toNat)) (t.take (uAnn c.toNat - 1)), uAnn c.toNat) else (0, 0))
    else (0, 0)

theorem uIs_iff {r : Int} : uIs r = true ↔ (0 ≤ r ∧ r ≤ 1114111 ∧ ¬ (55296 ≤ r ∧ r ≤ 57343)) := by unfold uIs; exact decide_eq_true_iff
theorem uIs_no {r : Int} : uIs r = false ↔ ¬ (0 ≤ r ∧ r ≤ 1114111 ∧ ¬ (55296 ≤ r ∧ r ≤ 57343)) := by unfold uIs; exact decide_eq_false_iff_not
theorem uW_is {r : Int} (h : uW r ≠ 0) : uIs r = true := by
  unfold uW at h
  by_cases h1 : uIs r = true
  · exact h1
  · rw [if_neg h1] at h; exact absurd rfl h
theorem uW_len {r : Nat} (h : uIs r = true) : uW r = (uB r).length := by
  unfold uW uB
  rw [if_pos h]
  by_cases h1 : r < 128
  · rw [if_pos (by omega), if_pos h1]; rfl
  · by_cases h2 : r < 2048
    · rw [if_neg (by omega), if_pos (by omega), if_neg h1, if_pos h2]; rfl
    · by_cases h3 : r < 65536
      · rw [if_neg (by omega), if_neg (by omega), if_pos (by omega), if_neg h1, if_neg h2, if_pos h3]; rfl
      · rw [if_neg (by omega), if_neg (by omega), if_neg (by omega), if_neg h1, if_neg h2, if_neg h3]; rfl
theorem uB_pos (r : Nat) : 0 < (uB r).length ∧ (uB r).length ≤ 4 := by
  unfold uB
  split
  · simp
  · split
    · simp
    · split <;> simp

theorem ann_lt {c : Nat} (h : uAnn c ≠ 0) : 1 ≤ uAnn c ∧ uAnn c ≤ 4 := by
  unfold uAnn at *
  split
  · omega
  · split
    · rename_i h1 h2; rw [if_neg h1, if_pos h2] at h; omega
    · split
      · omega
      · split
        · omega
        · split
          · omega
          · rename_i h1 h2 h3 h4 h5; rw [if_neg h1, if_neg h2, if_neg h3, if_neg h4, if_neg h5] at h; omega
theorem cont_iff {b : UInt8} : uCont b = true ↔ 128 ≤ b.toNat ∧ b.toNat < 192 := by unfold uCont; exact decide_eq_true_iff

theorem dec1 (c : UInt8) (t : List UInt8) (h : c.toNat < 128) : uDec (c :: t) = (c.toNat, 1) := by
  have e : uAnn c.toNat = 1 := by unfold uAnn; rw [if_pos h]
  have hw : uW (c.toNat : Nat) = 1 := by
    unfold uW; rw [if_pos (uIs_iff.mpr (by omega)), if_pos (by omega)]
  simp only [uDec, e, Nat.sub_self, List.take_zero, List.all_nil, uFold, List.foldl_nil, uHead]
  simp [hw]
theorem dec0 (c : UInt8) (t : List UInt8) (h : uAnn c.toNat = 0) : uDec (c :: t) = (0, 0) := by
  simp [uDec, h]
theorem decN (c : UInt8) (t : List UInt8) (k : Nat) (e : uAnn c.toNat = k + 1) : uDec (c :: t) = if t.length < k then (0, 0) else if (t.take k).all uCont = true ∧ uW (uFold (c.toNat - uHead (k + 1)) (t.take k) : Nat) = k + 1 then (uFold (c.toNat - uHead (k + 1)) (t.take k), k + 1) else (0, 0) := by
  have ek : k + 1 - 1 = k := by omega
  simp only [uDec, e, ek]
  by_cases h1 : t.length < k
  · rw [if_pos h1, if_pos (by omega)]
  · rw [if_neg h1, if_neg (by omega)]
    by_cases h2 : (t.take k).all uCont = true
    · rw [if_pos h2]
      by_cases h3 : uW (uFold (c.toNat - uHead (k + 1)) (t.take k) : Nat) = k + 1
      · rw [if_pos h3, if_pos ⟨h2, h3⟩]
      · rw [if_neg h3, if_neg (fun h => h3 h.2)]
    · rw [if_neg h2, if_neg (fun h => h2 h.1)]
theorem ann2 {c : Nat} (h1 : 192 ≤ c) (h2 : c < 224) : uAnn c = 1 + 1 := by unfold uAnn; rw [if_neg (by omega), if_neg (by omega), if_pos h2]
theorem ann3 {c : Nat} (h1 : 224 ≤ c) (h2 : c < 240) : uAnn c = 2 + 1 := by unfold uAnn; rw [if_neg (by omega), if_neg (by omega), if_neg (by omega), if_pos h2]
theorem ann4 {c : Nat} (h1 : 240 ≤ c) (h2 : c < 248) : uAnn c = 3 + 1 := by unfold uAnn; rw [if_neg (by omega), if_neg (by omega), if_neg (by omega), if_neg (by omega), if_pos h2]
theorem annX {c : Nat} (h : ¬ c < 128) (h' : c < 192 ∨ 248 ≤ c) : uAnn c = 0 := by
  unfold uAnn; rw [if_neg h]
  by_cases h1 : c < 192
  · rw [if_pos h1]
  · rw [if_neg h1, if_neg (by omega), if_neg (by omega), if_neg (by omega)]

theorem uW2 {r : Nat} (h : 128 ≤ r) (h2 : r < 2048) : uW r = 2 := by
  unfold uW; rw [if_pos (uIs_iff.mpr (by omega)), if_neg (by omega), if_pos (by omega)]
theorem uW3 {r : Nat} (h : 2048 ≤ r) (h2 : r < 65536) (h3 : ¬ (55296 ≤ r ∧ r ≤ 57343)) : uW r = 3 := by
  unfold uW; rw [if_pos (uIs_iff.mpr (by omega)), if_neg (by omega), if_neg (by omega), if_pos (by omega)]
theorem uW4 {r : Nat} (h : 65536 ≤ r) (h2 : r ≤ 1114111) : uW r = 4 := by
  unfold uW; rw [if_pos (uIs_iff.mpr (by omega)), if_neg (by omega), if_neg (by omega), if_neg (by omega)]

theorem dec2 (c a : UInt8) (t : List UInt8) (h1 : 192 ≤ c.toNat) (h2 : c.toNat < 224) : uDec (c :: a :: t) = if uCont a = true ∧ uW (((c.toNat - 192) * 64 + (a.toNat - 128) : Nat) : Int) = 2 then ((c.toNat - 192) * 64 + (a.toNat - 128), 2) else (0, 0) := by
  rw [decN _ _ 1 (ann2 h1 h2), if_neg (by simp)]
  simp only [List.take_succ_cons, List.take_zero, uFold, List.foldl_cons, List.foldl_nil, List.all_cons, List.all_nil, Bool.and_true, show uHead (1 + 1) = 192 from rfl]
theorem dec3 (c a b : UInt8) (t : List UInt8) (h1 : 224 ≤ c.toNat) (h2 : c.toNat < 240) : uDec (c :: a :: b :: t) = if (uCont a && uCont b) = true ∧ uW ((((c.toNat - 224) * 64 + (a.toNat - 128)) * 64 + (b.toNat - 128) : Nat) : Int) = 3 then (((c.toNat - 224) * 64 + (a.toNat - 128)) * 64 + (b.toNat - 128), 3) else (0, 0) := by
  rw [decN _ _ 2 (ann3 h1 h2), if_neg (by simp)]
  simp only [List.take_succ_cons, List.take_zero, uFold, List.foldl_cons, List.foldl_nil, List.all_cons, List.all_nil, Bool.and_true, show uHead (2 + 1) = 224 from rfl]
theorem dec4 (c a b d : UInt8) (t : List UInt8) (h1 : 240 ≤ c.toNat) (h2 : c.toNat < 248) : uDec (c :: a :: b :: d :: t) = if (uCont a && (uCont b && uCont d)) = true ∧ uW (((((c.toNat - 240) * 64 + (a.toNat - 128)) * 64 + (b.toNat - 128)) * 64 + (d.toNat - 128) : Nat) : Int) = 4 then ((((c.toNat - 240) * 64 + (a.toNat - 128)) * 64 + (b.toNat - 128)) * 64 + (d.toNat - 128), 4) else (0, 0) := by
  rw [decN _ _ 3 (ann4 h1 h2), if_neg (by simp)]
  simp only [List.take_succ_cons, List.take_zero, uFold, List.foldl_cons, List.foldl_nil, List.all_cons, List.all_nil, Bool.and_true, show uHead (3 + 1) = 240 from rfl]

/-- A character's bytes are read as it, whatever stands behind. -/
theorem dec_put {r : Nat} (m : List UInt8) (h : uIs r = true) : uDec (uB r ++ m) = (r, (uB r).length) := by
  have hr := uIs_iff.mp h
  unfold uB
  by_cases h1 : r < 128
  · rw [if_pos h1]
    have e := b8_toNat (n := r) (by omega)
    show uDec (b8 r :: m) = (r, 1)
    rw [dec1 _ _ (by omega), e]
  · rw [if_neg h1]
    by_cases h2 : r < 2048
    · rw [if_pos h2]
      have e0 := b8_toNat (n := 192 + r / 64) (by omega)
      have e1 := b8_toNat (n := 128 + r % 64) (by omega)
      show uDec (b8 (192 + r / 64) :: b8 (128 + r % 64) :: m) = (r, 2)
      generalize b8 (192 + r / 64) = c at *
      generalize b8 (128 + r % 64) = a at *
      have hs : (c.toNat - 192) * 64 + (a.toNat - 128) = r := by omega
      rw [dec2 _ _ _ (by omega) (by omega), hs, if_pos ⟨cont_iff.mpr (by omega), uW2 (by omega) h2⟩]
    · rw [if_neg h2]
      by_cases h3 : r < 65536
      · rw [if_pos h3]
        have e0 := b8_toNat (n := 224 + r / 4096) (by omega)
        have e1 := b8_toNat (n := 128 + r / 64 % 64) (by omega)
        have e2 := b8_toNat (n := 128 + r % 64) (by omega)
        show uDec (b8 (224 + r / 4096) :: b8 (128 + r / 64 % 64) :: b8 (128 + r % 64) :: m) = (r, 3)
        generalize b8 (224 + r / 4096) = c at *
        generalize b8 (128 + r / 64 % 64) = a at *
        generalize b8 (128 + r % 64) = b at *
        have hs : ((c.toNat - 224) * 64 + (a.toNat - 128)) * 64 + (b.toNat - 128) = r := by
          have : r / 64 / 64 = r / 4096 := Nat.div_div_eq_div_mul r 64 64
          omega
        rw [dec3 _ _ _ _ (by omega) (by omega), hs, if_pos ⟨by rw [Bool.and_eq_true]; exact ⟨cont_iff.mpr (by omega), cont_iff.mpr (by omega)⟩, uW3 (by omega) h3 (by omega)⟩]
      · rw [if_neg h3]
        have e0 := b8_toNat (n := 240 + r / 262144) (by omega)
        have e1 := b8_toNat (n := 128 + r / 4096 % 64) (by omega)
        have e2 := b8_toNat (n := 128 + r / 64 % 64) (by omega)
        have e3 := b8_toNat (n := 128 + r % 64) (by omega)
        show uDec (b8 (240 + r / 262144) :: b8 (128 + r / 4096 % 64) :: b8 (128 + r / 64 % 64) :: b8 (128 + r % 64) :: m) = (r, 4)
        generalize b8 (240 + r / 262144) = c at *
        generalize b8 (128 + r / 4096 % 64) = a at *
        generalize b8 (128 + r / 64 % 64) = b at *
        generalize b8 (128 + r % 64) = d at *
        have hs : (((c.toNat - 240) * 64 + (a.toNat - 128)) * 64 + (b.toNat - 128)) * 64 + (d.toNat - 128) = r := by
          have : r / 64 / 64 = r / 4096 := Nat.div_div_eq_div_mul r 64 64
          have : r / 4096 / 64 = r / 262144 := Nat.div_div_eq_div_mul r 4096 64
          omega
        rw [dec4 _ _ _ _ _ (by omega) (by omega), hs, if_pos ⟨by rw [Bool.and_eq_true, Bool.and_eq_true]; exact ⟨cont_iff.mpr (by omega), cont_iff.mpr (by omega), cont_iff.mpr (by omega)⟩, uW4 (by omega) (by omega)⟩]

theorem uW_two {r : Nat} (h : uW r = 2) : 128 ≤ r ∧ r < 2048 := by
  have h0 := uW_is (r := r) (by omega)
  unfold uW at h
  rw [if_pos h0] at h
  by_cases h1 : (r : Int) < 128
  · rw [if_pos h1] at h; omega
  · rw [if_neg h1] at h
    by_cases h2 : (r : Int) < 2048
    · omega
    · rw [if_neg h2] at h; split at h <;> omega
theorem uW_three {r : Nat} (h : uW r = 3) : 2048 ≤ r ∧ r < 65536 := by
  have h0 := uW_is (r := r) (by omega)
  unfold uW at h
  rw [if_pos h0] at h
  by_cases h1 : (r : Int) < 128
  · rw [if_pos h1] at h; omega
  · rw [if_neg h1] at h
    by_cases h2 : (r : Int) < 2048
    · rw [if_pos h2] at h; omega
    · rw [if_neg h2] at h; split at h <;> omega
theorem uW_four {r : Nat} (h : uW r = 4) : 65536 ≤ r ∧ r ≤ 1114111 := by
  have h0 := uW_is (r := r) (by omega)
  have hr := uIs_iff.mp h0
  unfold uW at h
  rw [if_pos h0] at h
  by_cases h1 : (r : Int) < 128
  · rw [if_pos h1] at h; omega
  · rw [if_neg h1] at h
    by_cases h2 : (r : Int) < 2048
    · rw [if_pos h2] at h; omega
    · rw [if_neg h2] at h; split at h <;> omega

/-- Where a character is read, it is one, and its bytes stand there. -/
theorem dec_inv {l : List UInt8} (h : 0 < (uDec l).2) : uIs (uDec l).1 = true ∧ l = uB (uDec l).1 ++ l.drop (uDec l).2 ∧ (uDec l).2 = (uB (uDec l).1).length := by
  match l, h with
  | c :: t, h =>
    by_cases h1 : c.toNat < 128
    · rw [dec1 c t h1]
      refine ⟨uIs_iff.mpr (by simp only; omega), ?_, ?_⟩
      · simp only [uB, if_pos h1, List.drop_succ_cons, List.drop_zero, b8_of c rfl]; rfl
      · simp only [uB, if_pos h1]; rfl
    · by_cases hx : c.toNat < 192 ∨ 248 ≤ c.toNat
      · rw [dec0 c t (annX h1 hx)] at h; exact absurd h (by simp)
      · by_cases h2 : c.toNat < 224
        · match t, h with
          | [], h => rw [decN c [] 1 (ann2 (by omega) h2), if_pos (by simp)] at h; simp at h
          | a :: t, h =>
            rw [dec2 c a t (by omega) h2] at h ⊢
            by_cases hc : uCont a = true ∧ uW (((c.toNat - 192) * 64 + (a.toNat - 128) : Nat) : Int) = 2
            · rw [if_pos hc]
              obtain ⟨ha, hw⟩ := hc
              have ha' := cont_iff.mp ha
              have hw' := uW_two hw
              refine ⟨uW_is (by rw [hw]; omega), ?_, ?_⟩
              · simp only
                generalize hR : (c.toNat - 192) * 64 + (a.toNat - 128) = R at *
                unfold uB
                rw [if_neg (by omega), if_pos (by omega), b8_of c (by omega), b8_of a (by omega)]; rfl
              · simp only
                generalize hR : (c.toNat - 192) * 64 + (a.toNat - 128) = R at *
                unfold uB
                rw [if_neg (by omega), if_pos (by omega)]; rfl
            · rw [if_neg hc] at h; simp at h
        · by_cases h3 : c.toNat < 240
          · match t, h with
            | [], h => rw [decN c [] 2 (ann3 (by omega) h3), if_pos (by simp)] at h; simp at h
            | [a], h => rw [decN c [a] 2 (ann3 (by omega) h3), if_pos (by simp)] at h; simp at h
            | a :: b :: t, h =>
              rw [dec3 c a b t (by omega) h3] at h ⊢
              by_cases hc : (uCont a && uCont b) = true ∧ uW ((((c.toNat - 224) * 64 + (a.toNat - 128)) * 64 + (b.toNat - 128) : Nat) : Int) = 3
              · rw [if_pos hc]
                obtain ⟨ha, hw⟩ := hc
                rw [Bool.and_eq_true] at ha
                have ha' := cont_iff.mp ha.1
                have hb' := cont_iff.mp ha.2
                have hw' := uW_three hw
                refine ⟨uW_is (by rw [hw]; omega), ?_, ?_⟩
                · simp only
                  generalize hR : ((c.toNat - 224) * 64 + (a.toNat - 128)) * 64 + (b.toNat - 128) = R at *
                  unfold uB
                  have : R / 64 / 64 = R / 4096 := Nat.div_div_eq_div_mul R 64 64
                  rw [if_neg (by omega), if_neg (by omega), if_pos (by omega), b8_of c (by omega), b8_of a (by omega), b8_of b (by omega)]; rfl
                · simp only
                  generalize hR : ((c.toNat - 224) * 64 + (a.toNat - 128)) * 64 + (b.toNat - 128) = R at *
                  unfold uB
                  rw [if_neg (by omega), if_neg (by omega), if_pos (by omega)]; rfl
              · rw [if_neg hc] at h; simp at h
          · match t, h with
            | [], h => rw [decN c [] 3 (ann4 (by omega) (by omega)), if_pos (by simp)] at h; simp at h
            | [a], h => rw [decN c [a] 3 (ann4 (by omega) (by omega)), if_pos (by simp)] at h; simp at h
            | [a, b], h => rw [decN c [a, b] 3 (ann4 (by omega) (by omega)), if_pos (by simp)] at h; simp at h
            | a :: b :: d :: t, h =>
              rw [dec4 c a b d t (by omega) (by omega)] at h ⊢
              by_cases hc : (uCont a && (uCont b && uCont d)) = true ∧ uW (((((c.toNat - 240) * 64 + (a.toNat - 128)) * 64 + (b.toNat - 128)) * 64 + (d.toNat - 128) : Nat) : Int) = 4
              · rw [if_pos hc]
                obtain ⟨ha, hw⟩ := hc
                rw [Bool.and_eq_true, Bool.and_eq_true] at ha
                have ha' := cont_iff.mp ha.1
                have hb' := cont_iff.mp ha.2.1
                have hd' := cont_iff.mp ha.2.2
                have hw' := uW_four hw
                refine ⟨uW_is (by rw [hw]; omega), ?_, ?_⟩
                · simp only
                  generalize hR : (((c.toNat - 240) * 64 + (a.toNat - 128)) * 64 + (b.toNat - 128)) * 64 + (d.toNat - 128) = R at *
                  unfold uB
                  have : R / 64 / 64 = R / 4096 := Nat.div_div_eq_div_mul R 64 64
                  have : R / 4096 / 64 = R / 262144 := Nat.div_div_eq_div_mul R 4096 64
                  rw [if_neg (by omega), if_neg (by omega), if_neg (by omega), b8_of c (by omega), b8_of a (by omega), b8_of b (by omega), b8_of d (by omega)]; rfl
                · simp only
                  generalize hR : (((c.toNat - 240) * 64 + (a.toNat - 128)) * 64 + (b.toNat - 128)) * 64 + (d.toNat - 128) = R at *
                  unfold uB
                  rw [if_neg (by omega), if_neg (by omega), if_neg (by omega)]; rfl
              · rw [if_neg hc] at h; simp at h
theorem dec_le {l : List UInt8} (h : 0 < (uDec l).2) : (uDec l).2 ≤ l.length := by
  obtain ⟨_, h2, h3⟩ := dec_inv h
  have := congrArg List.length h2
  rw [List.length_append] at this
  omega
/-- Only the character's own bytes count. -/
theorem dec_loc {a b : List UInt8} (h : 0 < (uDec a).2) (hb : b.take (uDec a).2 = a.take (uDec a).2) : uDec b = uDec a := by
  obtain ⟨h1, h2, h3⟩ := dec_inv h
  have h4 : a.take (uDec a).2 = uB (uDec a).1 := by
    have : a.take (uDec a).2 = (uB (uDec a).1 ++ a.drop (uDec a).2).take (uDec a).2 := congrArg (List.take _) h2
    rw [this, h3, List.take_left']
    rfl
  have h5 : b = uB (uDec a).1 ++ b.drop (uDec a).2 := by
    rw [← h4, ← hb, List.take_append_drop]
  rw [h5, dec_put _ h1, ← h3]
theorem dec_none {l : List UInt8} (h : (uDec l).2 = 0) : uDec l = (0, 0) := by
  match l, h with
  | [], _ => rfl
  | c :: t, h =>
    rcases Nat.eq_zero_or_pos (uAnn c.toNat) with h0 | h0
    · exact dec0 c t h0
    · obtain ⟨k, hk⟩ : ∃ k, uAnn c.toNat = k + 1 := ⟨uAnn c.toNat - 1, by omega⟩
      rw [decN c t k hk] at h ⊢
      by_cases h1 : t.length < k
      · rw [if_pos h1]
      · rw [if_neg h1] at h ⊢
        by_cases h2 : (t.take k).all uCont = true ∧ uW (uFold (c.toNat - uHead (k + 1)) (t.take k) : Nat) = k + 1
        · rw [if_pos h2] at h; simp at h
        · rw [if_neg h2]
end Go.Proofs.YteakcfgjjlocjaaDoor
