/- Several texts in one (UNum, UText, UIs, URune, UWalk, ULay, UPut, Hds): each begins with its own words. -/
import Derived.Test.YtfighopfgllneaaGreatDoorZA
import Derived.BigQuiet
import Derived.Deep.QuietTactic
import Derived.Handy
/- Characters, as UTF-8 has them, strictly: their bytes, which character begins bytes, how a text goes from character to character. Of no program. -/
namespace Go.Proofs.YtfighopfgllneaaGreatDoor
open Go Go.RowKit
set_option linter.unusedVariables false

def b8 (n : Nat) : UInt8 := UInt8.ofNat n
theorem b8_toNat {n : Nat} (h : n < 256) : (b8 n).toNat = n := by
  unfold b8; rw [UInt8.toNat_ofNat']; omega
theorem b8_of (b : UInt8) {n : Nat} (h : n = b.toNat) : b8 n = b := by
  subst h; unfold b8; exact UInt8.ofNat_toNat
/-- 5.1. -/
def uIs (r : Int) : Bool := decide (0 ≤ r ∧ r ≤ 1114111 ∧ ¬ (55296 ≤ r ∧ r ≤ 57343))
def uB (r : Nat) : List UInt8 :=
  if r < 128 then [b8 r] else if r < 2048 then [b8 (192 + r / 64), b8 (128 + r % 64)]
  else if r < 65536 then [b8 (224 + r / 4096), b8 (128 + r / 64 % 64), b8 (128 + r % 64)]
  else [b8 (240 + r / 262144), b8 (128 + r / 4096 % 64), b8 (128 + r / 64 % 64), b8 (128 + r % 64)]
def uW (r : Int) : Nat := if uIs r = true then (if r < 128 then 1 else if r < 2048 then 2 else if r < 65536 then 3 else 4) else 0
def uAnn (c : Nat) : Nat := if c < 128 then 1 else if c < 192 then 0 else if c < 224 then 2 else if c < 240 then 3 else if c < 248 then 4 else 0
def uHead (k : Nat) : Nat := if k = 2 then 192 else if k = 3 then 224 else if k = 4 then 240 else 0
def uCont (b : UInt8) : Bool := decide (128 ≤ b.toNat ∧ b.toNat < 192)
def uFold (r : Nat) (t : List UInt8) : Nat := t.foldl (fun r b => r * 64 + (b.toNat - 128)) r
/-- The character that bytes begin with, and how many bytes it has; 0 and 0, if there is none. -/
def uDec : List UInt8 → Nat × Nat
  | [] => (0, 0)
  | c :: t => if uAnn c.toNat = 0 ∨ t.length + 1 < uAnn c.toNat then (0, 0)
    else if (t.take (uAnn c.toNat - 1)).all uCont = true then
      (if uW (uFold (c.toNat - uHead (uAnn c.toNat)) (t.take (uAnn c.toNat - 1)) : Nat) = uAnn c.toNat then (uFold (c.toNat - uHead (uAnn c.toNat)) (t.take (uAnn c.toNat - 1)), uAnn c.toNat) else (0, 0))
    else (0, 0)

theorem uIs_iff {r : Int} : uIs r = true ↔ (0 ≤ r ∧ r ≤ 1114111 ∧ ¬ (55296 ≤ r ∧ r ≤ 57343)) := by unfold uIs; exact decide_eq_true_iff
theorem uIs_no {r : Int} : uIs r = false ↔ ¬ (0 ≤ r ∧ r ≤ 1114111 ∧ ¬ (55296 ≤ r ∧ r ≤ 57343)) := by unfold uIs; exact decide_eq_false_iff_not
theorem uW_is {r : Int} (h : uW r ≠ 0) : uIs r = true := by
  unfold uW at h
  by_cases h1 : uIs r = true
  · exact h1
  · rw [if_neg h1] at h; exact absurd rfl h
theorem uW_len {r : Nat} (h : uIs r = true) : uW r = (uB r).length := by
  unfold uW uB
  rw [if_pos h]
  by_cases h1 : r < 128
  · rw [if_pos (by omega), if_pos h1]; rfl
  · by_cases h2 : r < 2048
    · rw [if_neg (by omega), if_pos (by omega), if_neg h1, if_pos h2]; rfl
    · by_cases h3 : r < 65536
      · rw [if_neg (by omega), if_neg (by omega), if_pos (by omega), if_neg h1, if_neg h2, if_pos h3]; rfl
      · rw [if_neg (by omega), if_neg (by omega), if_neg (by omega), if_neg h1, if_neg h2, if_neg h3]; rfl
theorem uB_pos (r : Nat) : 0 < (uB r).length ∧ (uB r).length ≤ 4 := by
  unfold uB
  split
  · simp
  · split
    · simp
    · split <;> simp

theorem ann_lt {c : Nat} (h : uAnn c ≠ 0) : 1 ≤ uAnn c ∧ uAnn c ≤ 4 := by
  unfold uAnn at *
  split
  · omega
  · split
    · rename_i h1 h2; rw [if_neg h1, if_pos h2] at h; omega
    · split
      · omega
      · split
        · omega
        · split
          · omega
          · rename_i h1 h2 h3 h4 h5; rw [if_neg h1, if_neg h2, if_neg h3, if_neg h4, if_neg h5] at h; omega
theorem cont_iff {b : UInt8} : uCont b = true ↔ 128 ≤ b.toNat ∧ b.toNat < 192 := by unfold uCont; exact decide_eq_true_iff

theorem dec1 (c : UInt8) (t : List UInt8) (h : c.toNat < 128) : uDec (c :: t) = (c.toNat, 1) := by
  have e : uAnn c.toNat = 1 := by unfold uAnn; rw [if_pos h]
  have hw : uW (c.toNat : Nat) = 1 := by
    unfold uW; rw [if_pos (uIs_iff.mpr (by omega)), if_pos (by omega)]
  simp only [uDec, e, Nat.sub_self, List.take_zero, List.all_nil, uFold, List.foldl_nil, uHead]
  simp [hw]
theorem dec0 (c : UInt8) (t : List UInt8) (h : uAnn c.toNat = 0) : uDec (c :: t) = (0, 0) := by
  simp [uDec, h]
theorem decN (c : UInt8) (t : List UInt8) (k : Nat) (e : uAnn c.toNat = k + 1) : uDec (c :: t) = if t.length < k then (0, 0) else if (t.take k).all uCont = true ∧ uW (uFold (c.toNat - uHead (k + 1)) (t.take k) : Nat) = k + 1 then (uFold (c.toNat - uHead (k + 1)) (t.take k), k + 1) else (0, 0) := by
  have ek : k + 1 - 1 = k := by omega
  simp only [uDec, e, ek]
  by_cases h1 : t.length < k
  · rw [if_pos h1, if_pos (by omega)]
  · rw [if_neg h1, if_neg (by omega)]
    by_cases h2 : (t.take k).all uCont = true
    · rw [if_pos h2]
      by_cases h3 : uW (uFold (c.toNat - uHead (k + 1)) (t.take k) : Nat) = k + 1
      · rw [if_pos h3, if_pos ⟨h2, h3⟩]
      · rw [if_neg h3, if_neg (fun h => h3 h.2)]
    · rw [if_neg h2, if_neg (fun h => h2 h.1)]
theorem ann2 {c : Nat} (h1 : 192 ≤ c) (h2 : c < 224) : uAnn c = 1 + 1 := by unfold uAnn; rw [if_neg (by omega), if_neg (by omega), if_pos h2]
theorem ann3 {c : Nat} (h1 : 224 ≤ c) (h2 : c < 240) : uAnn c = 2 + 1 := by unfold uAnn; rw [if_neg (by omega), if_neg (by omega), if_neg (by omega), if_pos h2]
theorem ann4 {c : Nat} (h1 : 240 ≤ c) (h2 : c < 248) : uAnn c = 3 + 1 := by unfold uAnn; rw [if_neg (by omega), if_neg (by omega), if_neg (by omega), if_neg (by omega), if_pos h2]
theorem annX {c : Nat} (h : ¬ c < 128) (h' : c < 192 ∨ 248 ≤ c) : uAnn c = 0 := by
  unfold uAnn; rw [if_neg h]
  by_cases h1 : c < 192
  · rw [if_pos h1]
  · rw [if_neg h1, if_neg (by omega), if_neg (by omega), if_neg (by omega)]

theorem uW2 {r : Nat} (h : 128 ≤ r) (h2 : r < 2048) : uW r = 2 := by
  unfold uW; rw [if_pos (uIs_iff.mpr (by omega)), if_neg (by omega), if_pos (by omega)]
theorem uW3 {r : Nat} (h : 2048 ≤ r) (h2 : r < 65536) (h3 : ¬ (55296 ≤ r ∧ r ≤ 57343)) : uW r = 3 := by
  unfold uW; rw [if_pos (uIs_iff.mpr (by omega)), if_neg (by omega), if_neg (by omega), if_pos (by omega)]
theorem uW4 {r : Nat} (h : 65536 ≤ r) (h2 : r ≤ 1114111) : uW r = 4 := by
  unfold uW; rw [if_pos (uIs_iff.mpr (by omega)), if_neg (by omega), if_neg (by omega), if_neg (by omega)]

theorem dec2 (c a : UInt8) (t : List UInt8) (h1 : 192 ≤ c.toNat) (h2 : c.toNat < 224) : uDec (c :: a :: t) = if uCont a = true ∧ uW (((c.toNat - 192) * 64 + (a.toNat - 128) : Nat) : Int) = 2 then ((c.toNat - 192) * 64 + (a.toNat - 128), 2) else (0, 0) := by
  rw [decN _ _ 1 (ann2 h1 h2), if_neg (by simp)]
  simp only [List.take_succ_cons, List.take_zero, uFold, List.foldl_cons, List.foldl_nil, List.all_cons, List.all_nil, Bool.and_true, show uHead (1 + 1) = 192 from rfl]
theorem dec3 (c a b : UInt8) (t : List UInt8) (h1 : 224 ≤ c.toNat) (h2 : c.toNat < 240) : uDec (c :: a :: b :: t) = if (uCont a && uCont b) = true ∧ uW ((((c.toNat - 224) * 64 + (a.toNat - 128)) * 64 + (b.toNat - 128) : Nat) : Int) = 3 then (((c.toNat - 224) * 64 + (a.toNat - 128)) * 64 + (b.toNat - 128), 3) else (0, 0) := by
  rw [decN _ _ 2 (ann3 h1 h2), if_neg (by simp)]
  simp only [List.take_succ_cons, List.take_zero, uFold, List.foldl_cons, List.foldl_nil, List.all_cons, List.all_nil, Bool.and_true, show uHead (2 + 1) = 224 from rfl]
theorem dec4 (c a b d : UInt8) (t : List UInt8) (h1 : 240 ≤ c.toNat) (h2 : c.toNat < 248) : uDec (c :: a :: b :: d :: t) = if (uCont a && (uCont b && uCont d)) = true ∧ uW (((((c.toNat - 240) * 64 + (a.toNat - 128)) * 64 + (b.toNat - 128)) * 64 + (d.toNat - 128) : Nat) : Int) = 4 then ((((c.toNat - 240) * 64 + (a.toNat - 128)) * 64 + (b.toNat - 128)) * 64 + (d.toNat - 128), 4) else (0, 0) := by
  rw [decN _ _ 3 (ann4 h1 h2), if_neg (by simp)]
  simp only [List.take_succ_cons, List.take_zero, uFold, List.foldl_cons, List.foldl_nil, List.all_cons, List.all_nil, Bool.and_true, show uHead (3 + 1) = 240 from rfl]

/-- A character's bytes are read as it, whatever stands behind. -/
theorem dec_put {r : Nat} (m : List UInt8) (h : uIs r = true) : uDec (uB r ++ m) = (r, (uB r).length) := by
  have hr := uIs_iff.mp h
  unfold uB
  by_cases h1 : r < 128
  · rw [if_pos h1]
    have e := b8_toNat (n := r) (by omega)
    show uDec (b8 r :: m) = (r, 1)
    rw [dec1 _ _ (by omega), e]
  · rw [if_neg h1]
    by_cases h2 : r < 2048
    · rw [if_pos h2]
      have e0 := b8_toNat (n := 192 + r / 64) (by omega)
      have e1 := b8_toNat (n := 128 + r % 64) (by omega)
      show uDec (b8 (192 + r / 64) :: b8 (128 + r % 64) :: m) = (r, 2)
      generalize b8 (192 + r / 64) = c at *
      generalize b8 (128 + r % 64) = a at *
      have hs : (c.toNat - 192) * 64 + (a.toNat - 128) = r := by omega
      rw [dec2 _ _ _ (by omega) (by omega), hs, if_pos ⟨cont_iff.mpr (by omega), uW2 (by omega) h2⟩]
    · rw [if_neg h2]
      by_cases h3 : r < 65536
      · rw [if_pos h3]
        have e0 := b8_toNat (n := 224 + r / 4096) (by omega)
        have e1 := b8_toNat (n := 128 + r / 64 % 64) (by omega)
        have e2 := b8_toNat (n := 128 + r % 64) (by omega)
        show uDec (b8 (224 + r / 4096) :: b8 (128 + r / 64 % 64) :: b8 (128 + r % 64) :: m) = (r, 3)
        generalize b8 (224 + r / 4096) = c at *
        generalize b8 (128 + r / 64 % 64) = a at *
        generalize b8 (128 + r % 64) = b at *
        have hs : ((c.toNat - 224) * 64 + (a.toNat - 128)) * 64 + (b.toNat - 128) = r := by
          have : r / 64 / 64 = r / 4096 := Nat.div_div_eq_div_mul r 64 64
          omega
        rw [dec3 _ _ _ _ (by omega) (by omega), hs, if_pos ⟨by rw [Bool.and_eq_true]; exact ⟨cont_iff.mpr (by omega), cont_iff.mpr (by omega)⟩, uW3 (by omega) h3 (by omega)⟩]
      · rw [if_neg h3]
        have e0 := b8_toNat (n := 240 + r / 262144) (by omega)
        have e1 := b8_toNat (n := 128 + r / 4096 % 64) (by omega)
        have e2 := b8_toNat (n := 128 + r / 64 % 64) (by omega)
        have e3 := b8_toNat (n := 128 + r % 64) (by omega)
        show uDec (b8 (240 + r / 262144) :: b8 (128 + r / 4096 % 64) :: b8 (128 + r / 64 % 64) :: b8 (128 + r % 64) :: m) = (r, 4)
        generalize b8 (240 + r / 262144) = c at *
        generalize b8 (128 + r / 4096 % 64) = a at *
        generalize b8 (128 + r / 64 % 64) = b at *
        generalize b8 (128 + r % 64) = d at *
        have hs : (((c.toNat - 240) * 64 + (a.toNat - 128)) * 64 + (b.toNat - 128)) * 64 + (d.toNat - 128) = r := by
          have : r / 64 / 64 = r / 4096 := Nat.div_div_eq_div_mul r 64 64
          have : r / 4096 / 64 = r / 262144 := Nat.div_div_eq_div_mul r 4096 64
          omega
        rw [dec4 _ _ _ _ _ (by omega) (by omega), hs, if_pos ⟨by rw [Bool.and_eq_true, Bool.and_eq_true]; exact ⟨cont_iff.mpr (by omega), cont_iff.mpr (by omega), cont_iff.mpr (by omega)⟩, uW4 (by omega) (by omega)⟩]

theorem uW_two {r : Nat} (h : uW r = 2) : 128 ≤ r ∧ r < 2048 := by
  have h0 := uW_is (r := r) (by omega)
  unfold uW at h
  rw [if_pos h0] at h
  by_cases h1 : (r : Int) < 128
  · rw [if_pos h1] at h; omega
  · rw [if_neg h1] at h
    by_cases h2 : (r : Int) < 2048
    · omega
    · rw [if_neg h2] at h; split at h <;> omega
theorem uW_three {r : Nat} (h : uW r = 3) : 2048 ≤ r ∧ r < 65536 := by
  have h0 := uW_is (r := r) (by omega)
  unfold uW at h
  rw [if_pos h0] at h
  by_cases h1 : (r : Int) < 128
  · rw [if_pos h1] at h; omega
  · rw [if_neg h1] at h
    by_cases h2 : (r : Int) < 2048
    · rw [if_pos h2] at h; omega
    · rw [if_neg h2] at h; split at h <;> omega
theorem uW_four {r : Nat} (h : uW r = 4) : 65536 ≤ r ∧ r ≤ 1114111 := by
  have h0 := uW_is (r := r) (by omega)
  have hr := uIs_iff.mp h0
  unfold uW at h
  rw [if_pos h0] at h
  by_cases h1 : (r : Int) < 128
  · rw [if_pos h1] at h; omega
  · rw [if_neg h1] at h
    by_cases h2 : (r : Int) < 2048
    · rw [if_pos h2] at h; omega
    · rw [if_neg h2] at h; split at h <;> omega

/-- Where a character is read, it is one, and its bytes stand there. -/
theorem dec_inv {l : List UInt8} (h : 0 < (uDec l).2) : uIs (uDec l).1 = true ∧ l = uB (uDec l).1 ++ l.drop (uDec l).2 ∧ (uDec l).2 = (uB (uDec l).1).length := by
  match l, h with
  | c :: t, h =>
    by_cases h1 : c.toNat < 128
    · rw [dec1 c t h1]
      refine ⟨uIs_iff.mpr (by simp only; omega), ?_, ?_⟩
      · simp only [uB, if_pos h1, List.drop_succ_cons, List.drop_zero, b8_of c rfl]; rfl
      · simp only [uB, if_pos h1]; rfl
    · by_cases hx : c.toNat < 192 ∨ 248 ≤ c.toNat
      · rw [dec0 c t (annX h1 hx)] at h; exact absurd h (by simp)
      · by_cases h2 : c.toNat < 224
        · match t, h with
          | [], h => rw [decN c [] 1 (ann2 (by omega) h2), if_pos (by simp)] at h; simp at h
          | a :: t, h =>
            rw [dec2 c a t (by omega) h2] at h ⊢
            by_cases hc : uCont a = true ∧ uW (((c.toNat - 192) * 64 + (a.toNat - 128) : Nat) : Int) = 2
            · rw [if_pos hc]
              obtain ⟨ha, hw⟩ := hc
              have ha' := cont_iff.mp ha
              have hw' := uW_two hw
              refine ⟨uW_is (by rw [hw]; omega), ?_, ?_⟩
              · simp only
                generalize hR : (c.toNat - 192) * 64 + (a.toNat - 128) = R at *
                unfold uB
                rw [if_neg (by omega), if_pos (by omega), b8_of c (by omega), b8_of a (by omega)]; rfl
              · simp only
                generalize hR : (c.toNat - 192) * 64 + (a.toNat - 128) = R at *
                unfold uB
                rw [if_neg (by omega), if_pos (by omega)]; rfl
            · rw [if_neg hc] at h; simp at h
        · by_cases h3 : c.toNat < 240
          · match t, h with
            | [], h => rw [decN c [] 2 (ann3 (by omega) h3), if_pos (by simp)] at h; simp at h
            | [a], h => rw [decN c [a] 2 (ann3 (by omega) h3), if_pos (by simp)] at h; simp at h
            | a :: b :: t, h =>
              rw [dec3 c a b t (by omega) h3] at h ⊢
              by_cases hc : (uCont a && uCont b) = true ∧ uW ((((c.toNat - 224) * 64 + (a.toNat - 128)) * 64 + (b.toNat - 128) : Nat) : Int) = 3
              · rw [if_pos hc]
                obtain ⟨ha, hw⟩ := hc
                rw [Bool.and_eq_true] at ha
                have ha' := cont_iff.mp ha.1
                have hb' := cont_iff.mp ha.2
                have hw' := uW_three hw
                refine ⟨uW_is (by rw [hw]; omega), ?_, ?_⟩
                · simp only
                  generalize hR : ((c.toNat - 224) * 64 + (a.toNat - 128)) * 64 + (b.toNat - 128) = R at *
                  unfold uB
                  have : R / 64 / 64 = R / 4096 := Nat.div_div_eq_div_mul R 64 64
                  rw [if_neg (by omega), if_neg (by omega), if_pos (by omega), b8_of c (by omega), b8_of a (by omega), b8_of b (by omega)]; rfl
                · simp only
                  generalize hR : ((c.toNat - 224) * 64 + (a.toNat - 128)) * 64 + (b.toNat - 128) = R at *
                  unfold uB
                  rw [if_neg (by omega), if_neg (by omega), if_pos (by omega)]; rfl
              · rw [if_neg hc] at h; simp at h
          · match t, h with
            | [], h => rw [decN c [] 3 (ann4 (by omega) (by omega)), if_pos (by simp)] at h; simp at h
            | [a], h => rw [decN c [a] 3 (ann4 (by omega) (by omega)), if_pos (by simp)] at h; simp at h
            | [a, b], h => rw [decN c [a, b] 3 (ann4 (by omega) (by omega)), if_pos (by simp)] at h; simp at h
            | a :: b :: d :: t, h =>
              rw [dec4 c a b d t (by omega) (by omega)] at h ⊢
              by_cases hc : (uCont a && (uCont b && uCont d)) = true ∧ uW (((((c.toNat - 240) * 64 + (a.toNat - 128)) * 64 + (b.toNat - 128)) * 64 + (d.toNat - 128) : Nat) : Int) = 4
              · rw [if_pos hc]
                obtain ⟨ha, hw⟩ := hc
                rw [Bool.and_eq_true, Bool.and_eq_true] at ha
                have ha' := cont_iff.mp ha.1
                have hb' := cont_iff.mp ha.2.1
                have hd' := cont_iff.mp ha.2.2
                have hw' := uW_four hw
                refine ⟨uW_is (by rw [hw]; omega), ?_, ?_⟩
                · simp only
                  generalize hR : (((c.toNat - 240) * 64 + (a.toNat - 128)) * 64 + (b.toNat - 128)) * 64 + (d.toNat - 128) = R at *
                  unfold uB
                  have : R / 64 / 64 = R / 4096 := Nat.div_div_eq_div_mul R 64 64
                  have : R / 4096 / 64 = R / 262144 := Nat.div_div_eq_div_mul R 4096 64
                  rw [if_neg (by omega), if_neg (by omega), if_neg (by omega), b8_of c (by omega), b8_of a (by omega), b8_of b (by omega), b8_of d (by omega)]; rfl
                · simp only
                  generalize hR : (((c.toNat - 240) * 64 + (a.toNat - 128)) * 64 + (b.toNat - 128)) * 64 + (d.toNat - 128) = R at *
                  unfold uB
                  rw [if_neg (by omega), if_neg (by omega), if_neg (by omega)]; rfl
              · rw [if_neg hc] at h; simp at h
theorem dec_le {l : List UInt8} (h : 0 < (uDec l).2) : (uDec l).2 ≤ l.length := by
  obtain ⟨_, h2, h3⟩ := dec_inv h
  have := congrArg List.length h2
  rw [List.length_append] at this
  omega
/-- Only the character's own bytes count. -/
theorem dec_loc {a b : List UInt8} (h : 0 < (uDec a).2) (hb : b.take (uDec a).2 = a.take (uDec a).2) : uDec b = uDec a := by
  obtain ⟨h1, h2, h3⟩ := dec_inv h
  have h4 : a.take (uDec a).2 = uB (uDec a).1 := by
    have : a.take (uDec a).2 = (uB (uDec a).1 ++ a.drop (uDec a).2).take (uDec a).2 := congrArg (List.take _) h2
    rw [this, h3, List.take_left']
    rfl
  have h5 : b = uB (uDec a).1 ++ b.drop (uDec a).2 := by
    rw [← h4, ← hb, List.take_append_drop]
  rw [h5, dec_put _ h1, ← h3]
theorem dec_none {l : List UInt8} (h : (uDec l).2 = 0) : uDec l = (0, 0) := by
  match l, h with
  | [], _ => rfl
  | c :: t, h =>
    rcases Nat.eq_zero_or_pos (uAnn c.toNat) with h0 | h0
    · exact dec0 c t h0
    · obtain ⟨k, hk⟩ : ∃ k, uAnn c.toNat = k + 1 := ⟨uAnn c.toNat - 1, by omega⟩
      rw [decN c t k hk] at h ⊢
      by_cases h1 : t.length < k
      · rw [if_pos h1]
      · rw [if_neg h1] at h ⊢
        by_cases h2 : (t.take k).all uCont = true ∧ uW (uFold (c.toNat - uHead (k + 1)) (t.take k) : Nat) = k + 1
        · rw [if_pos h2] at h; simp at h
        · rw [if_neg h2]
end Go.Proofs.YtfighopfgllneaaGreatDoor
/- Texts that go from character to character; the number that the document's own reading guesses. Of no program. -/
namespace Go.Proofs.YtfighopfgllneaaGreatDoor
open Go Go.RowKit
set_option linter.unusedVariables false

/-- The character that begins at a place, and how many bytes it has. -/
def dAt (s : ByteArray) (e : Nat) : Nat × Nat := uDec (s.data.toList.drop e)
theorem dAt_le {s : ByteArray} {e : Nat} (h : 0 < (dAt s e).2) : e + (dAt s e).2 ≤ s.size := by
  have := dec_le h
  rw [List.length_drop, toList_size] at this
  unfold dAt at *
  rcases Nat.lt_or_ge e s.size with h1 | h1
  · omega
  · rw [List.drop_of_length_le (by rw [toList_size]; exact h1)] at h
    simp [uDec] at h
theorem dAt_out {s : ByteArray} {e : Nat} (h : s.size ≤ e) : dAt s e = (0, 0) := by
  unfold dAt
  rw [List.drop_of_length_le (by rw [toList_size]; exact h)]; rfl
/-- Where the characters of a text begin, one behind the other. -/
def uP (s : ByteArray) : Nat → Nat
  | 0 => 0
  | c + 1 => uP s c + (dAt s (uP s c)).2
theorem uP_step (s : ByteArray) (c : Nat) : uP s (c + 1) = uP s c + (dAt s (uP s c)).2 := rfl
theorem uP_le (s : ByteArray) (c : Nat) : uP s c ≤ s.size := by
  induction c with
  | zero => exact Nat.zero_le _
  | succ c ih =>
    rw [uP_step]
    rcases Nat.eq_zero_or_pos (dAt s (uP s c)).2 with h | h
    · omega
    · exact dAt_le h
theorem uP_mono (s : ByteArray) {c d : Nat} (h : c ≤ d) : uP s c ≤ uP s d := by
  induction d with
  | zero => rw [show c = 0 by omega]; exact Nat.le_refl _
  | succ d ih =>
    rcases Nat.lt_or_ge d c with h1 | h1
    · rw [show c = d + 1 by omega]; exact Nat.le_refl _
    · rw [uP_step]; have := ih h1; omega
theorem uP_stuck (s : ByteArray) {c d : Nat} (hk : (dAt s (uP s c)).2 = 0) (h : c ≤ d) : uP s d = uP s c := by
  induction d with
  | zero => rw [show c = 0 by omega]
  | succ d ih =>
    rcases Nat.lt_or_ge d c with h1 | h1
    · rw [show c = d + 1 by omega]
    · rw [uP_step, ih h1, hk]; rfl
/-- So far a walk has come, of what ends at n at most. -/
def WPre (s : ByteArray) (n : Int) (e c : Nat) : Prop := e = uP s c ∧ ∀ i, i < c → 0 < (dAt s (uP s i)).2 ∧ (uP s (i + 1) : Int) ≤ n
def WStop (s : ByteArray) (n : Int) (e : Nat) : Prop := (dAt s e).2 = 0 ∨ n < (e : Int) + (dAt s e).2
theorem WPre.zero (s : ByteArray) (n : Int) : WPre s n 0 0 := ⟨rfl, fun i h => by omega⟩
theorem WPre.step {s : ByteArray} {n : Int} {e c : Nat} (h : WPre s n e c) (hs : ¬ WStop s n e) : WPre s n (e + (dAt s e).2) (c + 1) := by
  obtain ⟨rfl, h2⟩ := h
  unfold WStop at hs
  refine ⟨rfl, fun i hi => ?_⟩
  rcases Nat.lt_or_ge i c with h1 | h1
  · exact h2 i h1
  · rw [show i = c by omega, uP_step]; omega
theorem WPre.le {s : ByteArray} {n : Int} {e c : Nat} (h : WPre s n e c) : e ≤ s.size := by rw [h.1]; exact uP_le s c
theorem WPre.count {s : ByteArray} {n : Int} {e c : Nat} (h : WPre s n e c) : c ≤ e := by
  obtain ⟨rfl, h2⟩ := h
  induction c with
  | zero => exact Nat.zero_le _
  | succ c ih =>
    have h3 := ih (fun i hi => h2 i (by omega))
    have h4 := (h2 c (by omega)).1
    rw [uP_step]; omega
def wGo (s : ByteArray) (n : Int) : Nat → Nat → Nat → Nat × Nat
  | 0, e, c => (e, c)
  | f + 1, e, c => if (dAt s e).2 = 0 ∨ n < (e : Int) + (dAt s e).2 then (e, c) else wGo s n f (e + (dAt s e).2) (c + 1)
/-- Where the walk ends, and how many characters it has met. -/
def wk (s : ByteArray) (n : Int) : Nat × Nat := wGo s n s.size 0 0
theorem wGo_end {s : ByteArray} {n : Int} (f e c : Nat) (h : WPre s n e c) (hf : s.size ≤ e + f) : WPre s n (wGo s n f e c).1 (wGo s n f e c).2 ∧ WStop s n (wGo s n f e c).1 := by
  induction f generalizing e c with
  | zero => exact ⟨h, .inl (by show (dAt s e).2 = 0; rw [dAt_out (by omega)])⟩
  | succ f ih =>
    unfold wGo
    by_cases hs : (dAt s e).2 = 0 ∨ n < (e : Int) + (dAt s e).2
    · rw [if_pos hs]; exact ⟨h, hs⟩
    · rw [if_neg hs]
      exact ih _ _ (h.step hs) (by omega)
theorem wk_end (s : ByteArray) (n : Int) : WPre s n (wk s n).1 (wk s n).2 ∧ WStop s n (wk s n).1 := wGo_end _ _ _ (WPre.zero s n) (by omega)
theorem walk_one {s : ByteArray} {n : Int} {e c e' c' : Nat} (h : WPre s n e c) (hs : WStop s n e) (h' : WPre s n e' c') (hs' : WStop s n e') : e = e' ∧ c = c' := by
  have key : ∀ {e c e' c' : Nat}, WPre s n e c → WStop s n e → WPre s n e' c' → ¬ c < c' := by
    intro e c e' c' h hs h' hlt
    obtain ⟨rfl, _⟩ := h
    have h3 := h'.2 c hlt
    rw [uP_step] at h3
    unfold WStop at hs
    omega
  have hc : c = c' := by
    have a := key h hs h'
    have b := key h' hs' h
    omega
  subst hc
  exact ⟨h.1.trans h'.1.symm, rfl⟩
/-- A walk that has ended has ended just there. -/
theorem wk_of {s : ByteArray} {n : Int} {e c : Nat} (h : WPre s n e c) (hs : WStop s n e) : wk s n = (e, c) := by
  obtain ⟨h1, h2⟩ := wk_end s n
  obtain ⟨h3, h4⟩ := walk_one h1 h2 h hs
  exact Prod.ext h3 h4
theorem wk_le (s : ByteArray) (n : Int) : (wk s n).1 ≤ s.size := (wk_end s n).1.le
theorem wk_max {s : ByteArray} {n : Int} {d : Nat} (h : (uP s d : Int) ≤ n) : uP s d ≤ (wk s n).1 := by
  obtain ⟨h1, h2⟩ := wk_end s n
  generalize (wk s n).1 = e at *
  generalize (wk s n).2 = c at *
  obtain ⟨rfl, h3⟩ := h1
  rcases Nat.lt_or_ge c d with hlt | hge
  · rcases h2 with h2 | h2
    · rw [uP_stuck s h2 (Nat.le_of_lt hlt)]; exact Nat.le_refl _
    · have := uP_mono s (show c + 1 ≤ d from hlt)
      rw [uP_step] at this
      omega
  · exact uP_mono s hge
theorem wk_bound (s : ByteArray) (n : Int) : ((wk s n).1 : Int) ≤ max 0 n := by
  obtain ⟨h1, h2⟩ := wk_end s n
  generalize (wk s n).1 = e at *
  generalize (wk s n).2 = c at *
  obtain ⟨rfl, h3⟩ := h1
  match c, h3 with
  | 0, _ => show ((0 : Nat) : Int) ≤ _; omega
  | c + 1, h3 => have := (h3 c (by omega)).2; omega
/-- A text is right. -/
def uOk (s : ByteArray) : Prop := (wk s s.size).1 = s.size
instance (s : ByteArray) : Decidable (uOk s) := inferInstanceAs (Decidable ((wk s s.size).1 = s.size))
def uCheck (s : ByteArray) : Int := if (wk s s.size).1 = s.size then -1 else (wk s s.size).1
def uCount (s : ByteArray) : Int := if (wk s s.size).1 = s.size then (wk s s.size).2 else -1
def uCut (s : ByteArray) (n : Int) : ByteArray := s.extract 0 (wk s n).1

theorem front_same {s t : ByteArray} {m e : Nat} (ht : t.data.toList = s.data.toList.take m) (hm : m ≤ s.size) (hk : 0 < (dAt t e).2) : dAt s e = dAt t e := by
  have hts : t.size = m := by
    have := congrArg List.length ht
    rw [toList_size, List.length_take, toList_size] at this; omega
  have hle := dAt_le hk
  have h2 := hk
  unfold dAt at *
  refine dec_loc h2 ?_
  rw [ht] at hle ⊢
  generalize (uDec (List.drop e (List.take m s.data.toList))).2 = k at *
  rw [List.drop_take, List.take_take, Nat.min_eq_left (by omega)]
theorem front_back {s t : ByteArray} {m e : Nat} (ht : t.data.toList = s.data.toList.take m) (hm : m ≤ s.size) (hk : 0 < (dAt s e).2) (hle : e + (dAt s e).2 ≤ m) : dAt t e = dAt s e := by
  have h2 := hk
  unfold dAt at *
  refine dec_loc h2 ?_
  rw [ht]
  generalize (uDec (List.drop e s.data.toList)).2 = k at *
  rw [List.drop_take, List.take_take, Nat.min_eq_left (by omega)]
theorem front_size {s t : ByteArray} {m : Nat} (ht : t.data.toList = s.data.toList.take m) (hm : m ≤ s.size) : t.size = m := by
  have := congrArg List.length ht
  rw [toList_size, List.length_take, toList_size] at this; omega
theorem ok_places {s t : ByteArray} {m : Nat} (ht : t.data.toList = s.data.toList.take m) (hm : m ≤ s.size) (h : uOk t) : ∃ c, c = (wk t t.size).2 ∧ uP s c = m ∧ uP t c = m ∧ ∀ i, i ≤ c → uP s i = uP t i := by
  obtain ⟨h1, h2⟩ := wk_end t t.size
  unfold uOk at h
  rw [h] at h1
  refine ⟨_, rfl, ?_⟩
  generalize (wk t t.size).2 = c at *
  obtain ⟨h3, h4⟩ := h1
  have key : ∀ i, i ≤ c → uP s i = uP t i := by
    intro i hi
    induction i with
    | zero => rfl
    | succ i ih =>
      have e := ih (by omega)
      rw [uP_step, uP_step, e, front_same ht hm (h4 i (by omega)).1]
  have hts := front_size ht hm
  exact ⟨by rw [key c (Nat.le_refl _), ← h3, hts], by rw [← h3, hts], key⟩
theorem least_place (s : ByteArray) (c : Nat) : ∃ d, uP s d = uP s c ∧ ∀ i, i < d → 0 < (dAt s (uP s i)).2 := by
  induction c with
  | zero => exact ⟨0, rfl, fun i h => by omega⟩
  | succ c ih =>
    obtain ⟨d, h1, h2⟩ := ih
    rcases Nat.eq_zero_or_pos (dAt s (uP s c)).2 with h | h
    · exact ⟨d, by rw [uP_step, h, h1]; rfl, h2⟩
    · refine ⟨d + 1, by rw [uP_step, uP_step, h1], fun i hi => ?_⟩
      rcases Nat.lt_or_ge i d with h3 | h3
      · exact h2 i h3
      · rw [show i = d by omega, h1]; exact h
theorem places_ok {s t : ByteArray} {m c : Nat} (ht : t.data.toList = s.data.toList.take m) (hm : m ≤ s.size) (h : uP s c = m) : uOk t := by
  obtain ⟨d, h1, h2⟩ := least_place s c
  rw [h] at h1
  have hts := front_size ht hm
  have key : ∀ i, i ≤ d → uP t i = uP s i := by
    intro i hi
    induction i with
    | zero => rfl
    | succ i ih =>
      have e := ih (by omega)
      have h3 := h2 i (by omega)
      have h4 := uP_mono s hi
      rw [uP_step] at h4
      rw [uP_step, uP_step, e, front_back ht hm h3 (by omega)]
  have hw : WPre t t.size t.size d := by
    refine ⟨by rw [key d (Nat.le_refl _), h1, hts], fun i hi => ⟨?_, by have := uP_le t (i + 1); omega⟩⟩
    have e1 := key i (by omega)
    have e2 := key (i + 1) (by omega)
    have h3 := h2 i hi
    rw [uP_step, uP_step] at e2
    omega
  have := wk_of hw (.inl (by rw [dAt_out (Nat.le_refl _)]))
  unfold uOk
  rw [this]
theorem cut_toList (s : ByteArray) (e : Nat) : (s.extract 0 e).data.toList = s.data.toList.take e := by
  rw [ByteArray.data_extract, Array.toList_extract, List.extract_eq_take_drop]; simp
/-- What is cut of a text is right. -/
theorem cut_ok (s : ByteArray) (n : Int) : uOk (uCut s n) :=
  places_ok (cut_toList s _) (wk_le s n) (wk_end s n).1.1.symm
theorem cut_size (s : ByteArray) (n : Int) : (uCut s n).size = (wk s n).1 := front_size (cut_toList s _) (wk_le s n)
/-- Whatever front of at most n bytes is right, it is no longer than what is cut. -/
theorem cut_max {s : ByteArray} {n : Int} {m : Nat} (hm : m ≤ s.size) (hn : (m : Int) ≤ n) (h : uOk (s.extract 0 m)) : m ≤ (wk s n).1 := by
  obtain ⟨c, _, h1, _⟩ := ok_places (cut_toList s m) hm h
  rw [← h1]
  exact wk_max (by rw [h1]; exact hn)
/-- Two right texts side by side. -/
theorem join_ok {s t : ByteArray} (hs : uOk s) (ht : uOk t) : uOk (s ++ t) ∧ (wk (s ++ t) (s ++ t).size).2 = (wk s s.size).2 + (wk t t.size).2 := by
  have hfs : s.data.toList = (s ++ t).data.toList.take s.size := by
    rw [toList_append, List.take_append_of_le_length (by rw [toList_size]; exact Nat.le_refl _), List.take_of_length_le (by rw [toList_size]; exact Nat.le_refl _)]
  have hsz : (s ++ t).size = s.size + t.size := ByteArray.size_append
  obtain ⟨c, hc, h1, h2, h3⟩ := ok_places (s := s ++ t) hfs (by omega) hs
  obtain ⟨d, hd, h4, h5, h6⟩ := ok_places (s := t) (t := t) (m := t.size) (by rw [List.take_of_length_le (by rw [toList_size]; exact Nat.le_refl _)]) (Nat.le_refl _) ht
  have hsh : ∀ e, dAt (s ++ t) (s.size + e) = dAt t e := by
    intro e
    unfold dAt
    rw [toList_append, show s.size + e = s.data.toList.length + e by rw [toList_size], List.drop_length_add_append]
  have key : ∀ j, uP (s ++ t) (c + j) = s.size + uP t j := by
    intro j
    induction j with
    | zero => rw [Nat.add_zero, h1]; rfl
    | succ j ih => rw [← Nat.add_assoc, uP_step, ih, hsh, uP_step]; omega
  have ws := (wk_end s s.size).1.2
  have wt := (wk_end t t.size).1.2
  rw [← hc] at ws
  rw [← hd] at wt
  have hw : WPre (s ++ t) (s ++ t).size (s ++ t).size (c + d) := by
    refine ⟨by rw [key d, h4, hsz], fun i hi => ⟨?_, by have := uP_le (s ++ t) (i + 1); omega⟩⟩
    rcases Nat.lt_or_ge i c with hlt | hge
    · have e1 := h3 i (by omega)
      have e2 := h3 (i + 1) (by omega)
      have e3 := (ws i hlt).1
      rw [uP_step, uP_step] at e2
      omega
    · obtain ⟨j, rfl⟩ : ∃ j, i = c + j := ⟨i - c, by omega⟩
      rw [key j, hsh]
      exact (wt j (by omega)).1
  have hk := wk_of hw (.inl (by rw [dAt_out (Nat.le_refl _)]))
  unfold uOk
  rw [hk]
  exact ⟨rfl, by rw [hc, hd]⟩

/-- The number that the document's own reading guesses. -/
def gK (c : Nat) : Nat := if 240 ≤ c then 3 else if 224 ≤ c then 2 else 1
def gH (c : Nat) : Nat := if 240 ≤ c then 240 else if 224 ≤ c then 224 else 192
def gFold (n : Int) (t : List UInt8) : Int := t.foldl (fun n b => 64 * n + (b.toNat : Int) - 128) n
def uGs : List UInt8 → Int
  | [] => 0
  | c :: t => if c.toNat < 128 then c.toNat else if t.length < gK c.toNat then -1 else gFold ((c.toNat : Int) - gH c.toNat) (t.take (gK c.toNat))
theorem gs1 (c : UInt8) (t : List UInt8) (h : c.toNat < 128) : uGs (c :: t) = c.toNat := by simp only [uGs]; rw [if_pos h]
theorem gsN (c : UInt8) (t : List UInt8) (k h : Nat) (h1 : ¬ c.toNat < 128) (hk : gK c.toNat = k) (hh : gH c.toNat = h) (hl : ¬ t.length < k) : uGs (c :: t) = gFold ((c.toNat : Int) - h) (t.take k) := by
  simp only [uGs]; rw [if_neg h1, hk, hh, if_neg hl]
theorem gs_put {r : Nat} (m : List UInt8) (h : uIs r = true) : uGs (uB r ++ m) = r := by
  have hr := uIs_iff.mp h
  unfold uB
  by_cases h1 : r < 128
  · rw [if_pos h1]
    have e := b8_toNat (n := r) (by omega)
    show uGs (b8 r :: m) = r
    rw [gs1 _ _ (by omega), e]
  · rw [if_neg h1]
    by_cases h2 : r < 2048
    · rw [if_pos h2]
      have e0 := b8_toNat (n := 192 + r / 64) (by omega)
      have e1 := b8_toNat (n := 128 + r % 64) (by omega)
      show uGs (b8 (192 + r / 64) :: b8 (128 + r % 64) :: m) = r
      generalize b8 (192 + r / 64) = c at *
      generalize b8 (128 + r % 64) = a at *
      rw [gsN c _ 1 192 (by omega) (by unfold gK; rw [if_neg (by omega), if_neg (by omega)]) (by unfold gH; rw [if_neg (by omega), if_neg (by omega)]) (by simp)]
      simp only [List.take_succ_cons, List.take_zero, gFold, List.foldl_cons, List.foldl_nil]
      omega
    · rw [if_neg h2]
      by_cases h3 : r < 65536
      · rw [if_pos h3]
        have e0 := b8_toNat (n := 224 + r / 4096) (by omega)
        have e1 := b8_toNat (n := 128 + r / 64 % 64) (by omega)
        have e2 := b8_toNat (n := 128 + r % 64) (by omega)
        show uGs (b8 (224 + r / 4096) :: b8 (128 + r / 64 % 64) :: b8 (128 + r % 64) :: m) = r
        generalize b8 (224 + r / 4096) = c at *
        generalize b8 (128 + r / 64 % 64) = a at *
        generalize b8 (128 + r % 64) = b at *
        have : r / 64 / 64 = r / 4096 := Nat.div_div_eq_div_mul r 64 64
        rw [gsN c _ 2 224 (by omega) (by unfold gK; rw [if_neg (by omega), if_pos (by omega)]) (by unfold gH; rw [if_neg (by omega), if_pos (by omega)]) (by simp)]
        simp only [List.take_succ_cons, List.take_zero, gFold, List.foldl_cons, List.foldl_nil]
        omega
      · rw [if_neg h3]
        have e0 := b8_toNat (n := 240 + r / 262144) (by omega)
        have e1 := b8_toNat (n := 128 + r / 4096 % 64) (by omega)
        have e2 := b8_toNat (n := 128 + r / 64 % 64) (by omega)
        have e3 := b8_toNat (n := 128 + r % 64) (by omega)
        show uGs (b8 (240 + r / 262144) :: b8 (128 + r / 4096 % 64) :: b8 (128 + r / 64 % 64) :: b8 (128 + r % 64) :: m) = r
        generalize b8 (240 + r / 262144) = c at *
        generalize b8 (128 + r / 4096 % 64) = a at *
        generalize b8 (128 + r / 64 % 64) = b at *
        generalize b8 (128 + r % 64) = d at *
        have : r / 64 / 64 = r / 4096 := Nat.div_div_eq_div_mul r 64 64
        have : r / 4096 / 64 = r / 262144 := Nat.div_div_eq_div_mul r 4096 64
        rw [gsN c _ 3 240 (by omega) (by unfold gK; rw [if_pos (by omega)]) (by unfold gH; rw [if_pos (by omega)]) (by simp)]
        simp only [List.take_succ_cons, List.take_zero, gFold, List.foldl_cons, List.foldl_nil]
        omega
/-- What is guessed is right just if its bytes stand there. -/
theorem gs_yes {l : List UInt8} {r : Nat} (h : uIs r = true) (ht : l.take (uB r).length = uB r) : uDec l = (r, (uB r).length) := by
  have : l = uB r ++ l.drop (uB r).length := by
    have := List.take_append_drop (uB r).length l
    rw [ht] at this; exact this.symm
  rw [this, dec_put _ h]
theorem gs_no {l : List UInt8} (h : ¬ (uIs (uGs l) = true ∧ l.take (uB (uGs l).toNat).length = uB (uGs l).toNat)) : uDec l = (0, 0) := by
  rcases Nat.eq_zero_or_pos (uDec l).2 with h0 | h0
  · exact dec_none h0
  · exfalso
    obtain ⟨h1, h2, h3⟩ := dec_inv h0
    have e : uGs l = (uDec l).1 := by
      have := congrArg uGs h2
      rw [gs_put _ h1] at this; exact this
    refine h ⟨by rw [e]; exact h1, ?_⟩
    rw [e, Int.toNat_natCast]
    have := congrArg (List.take (uB (uDec l).1).length) h2
    rw [List.take_left'] at this
    · exact this
    · rfl
end Go.Proofs.YtfighopfgllneaaGreatDoor
/- Package utf's Is, announced, width, and the document's own Is. -/
namespace Go.Proofs.YtfighopfgllneaaGreatDoor
open Go Go.RowKit
set_option linter.unusedVariables false

theorem uis_any (r : Int) (w : World) :
    Calls Tryz.prog 94 #[.int .i32 r] w fun e w' => e = .returned (.bool (uIs r)) ∧ w' = w := by
  by_cases h0 : 0 ≤ r
  · have p1 : decide ((0 : Int) ≤ r) = true := decide_eq_true h0
    by_cases h1 : r ≤ 1114111
    · have p2 : decide (r ≤ 1114111) = true := decide_eq_true h1
      by_cases h2 : 55296 ≤ r
      · have p3 : decide ((55296 : Int) ≤ r) = true := decide_eq_true h2
        by_cases h3 : r ≤ 57343
        · have p4 : decide (r ≤ 57343) = true := decide_eq_true h3
          have HI := Lib.hid (show uIs r = false from uIs_no.mpr (by omega))
          clear h0 h1 h2 h3
          go_enter Tryz.func94, Tryz.ntmps94
          go_wp2
          go_ret
          exact ⟨ret_b HI.out.symm, rfl⟩
        · have p4 : decide (r ≤ 57343) = false := decide_eq_false h3
          have HI := Lib.hid (show uIs r = true from uIs_iff.mpr (by omega))
          clear h0 h1 h2 h3
          go_enter Tryz.func94, Tryz.ntmps94
          go_wp2
          go_ret
          exact ⟨ret_b HI.out.symm, rfl⟩
      · have p3 : decide ((55296 : Int) ≤ r) = false := decide_eq_false h2
        have HI := Lib.hid (show uIs r = true from uIs_iff.mpr (by omega))
        clear h0 h1 h2
        go_enter Tryz.func94, Tryz.ntmps94
        go_wp2
        go_ret
        exact ⟨ret_b HI.out.symm, rfl⟩
    · have p2 : decide (r ≤ 1114111) = false := decide_eq_false h1
      have HI := Lib.hid (show uIs r = false from uIs_no.mpr (by omega))
      clear h0 h1
      go_enter Tryz.func94, Tryz.ntmps94
      go_wp2
      go_ret
      exact ⟨ret_b HI.out.symm, rfl⟩
  · have p1 : decide ((0 : Int) ≤ r) = false := decide_eq_false h0
    have HI := Lib.hid (show uIs r = false from uIs_no.mpr (by omega))
    clear h0
    go_enter Tryz.func94, Tryz.ntmps94
    go_wp2
    go_ret
    exact ⟨ret_b HI.out.symm, rfl⟩

theorem ruis_any (r : Int) (w : World) :
    Calls Tryz.prog 83 #[.int .i32 r] w fun e w' => e = .returned (.bool (uIs r)) ∧ w' = w := by
  by_cases h0 : 0 ≤ r
  · have p1 : decide ((0 : Int) ≤ r) = true := decide_eq_true h0
    by_cases h1 : r ≤ 1114111
    · have p2 : decide (r ≤ 1114111) = true := decide_eq_true h1
      by_cases h2 : r < 55296
      · have p3 : decide (r < 55296) = true := decide_eq_true h2
        have HI := Lib.hid (show uIs r = true from uIs_iff.mpr (by omega))
        clear h0 h1 h2
        go_enter Tryz.func83, Tryz.ntmps83
        go_wp2
        go_ret
        exact ⟨ret_b HI.out.symm, rfl⟩
      · have p3 : decide (r < 55296) = false := decide_eq_false h2
        by_cases h3 : 57343 < r
        · have p4 : decide (57343 < r) = true := decide_eq_true h3
          have HI := Lib.hid (show uIs r = true from uIs_iff.mpr (by omega))
          clear h0 h1 h2 h3
          go_enter Tryz.func83, Tryz.ntmps83
          go_wp2
          go_ret
          exact ⟨ret_b HI.out.symm, rfl⟩
        · have p4 : decide (57343 < r) = false := decide_eq_false h3
          have HI := Lib.hid (show uIs r = false from uIs_no.mpr (by omega))
          clear h0 h1 h2 h3
          go_enter Tryz.func83, Tryz.ntmps83
          go_wp2
          go_ret
          exact ⟨ret_b HI.out.symm, rfl⟩
    · have p2 : decide (r ≤ 1114111) = false := decide_eq_false h1
      have HI := Lib.hid (show uIs r = false from uIs_no.mpr (by omega))
      clear h0 h1
      go_enter Tryz.func83, Tryz.ntmps83
      go_wp2
      go_ret
      exact ⟨ret_b HI.out.symm, rfl⟩
  · have p1 : decide ((0 : Int) ≤ r) = false := decide_eq_false h0
    have HI := Lib.hid (show uIs r = false from uIs_no.mpr (by omega))
    clear h0
    go_enter Tryz.func83, Tryz.ntmps83
    go_wp2
    go_ret
    exact ⟨ret_b HI.out.symm, rfl⟩

theorem uwidth_any (r : Int) (w : World) :
    Calls Tryz.prog 86 #[.int .i32 r] w fun e w' => e = .returned (.int .i64 (uW r : Nat)) ∧ w' = w := by
  have hi := Lib.hid (fun w => uis_any r w)
  by_cases h0 : uIs r = true
  · rw [h0] at hi
    by_cases h1 : r < 128
    · have p1 : decide (r < 128) = true := decide_eq_true h1
      have HW := Lib.hid (show uW r = 1 by unfold uW; rw [if_pos h0, if_pos h1])
      clear h0 h1
      go_enter Tryz.func86, Tryz.ntmps86
      go_wp2_with fail
      with_reducible refine (hi.out _).mono ?_
      rintro e w' ⟨rfl, hw⟩
      rw [hw]; clear hw
      go_wp2
      go_ret
      exact ⟨ret_i (by rw [HW.out]; rfl), rfl⟩
    · have p1 : decide (r < 128) = false := decide_eq_false h1
      by_cases h2 : r < 2048
      · have p2 : decide (r < 2048) = true := decide_eq_true h2
        have HW := Lib.hid (show uW r = 2 by unfold uW; rw [if_pos h0, if_neg h1, if_pos h2])
        clear h0 h1 h2
        go_enter Tryz.func86, Tryz.ntmps86
        go_wp2_with fail
        with_reducible refine (hi.out _).mono ?_
        rintro e w' ⟨rfl, hw⟩
        rw [hw]; clear hw
        go_wp2
        go_ret
        exact ⟨ret_i (by rw [HW.out]; rfl), rfl⟩
      · have p2 : decide (r < 2048) = false := decide_eq_false h2
        by_cases h3 : r < 65536
        · have p3 : decide (r < 65536) = true := decide_eq_true h3
          have HW := Lib.hid (show uW r = 3 by unfold uW; rw [if_pos h0, if_neg h1, if_neg h2, if_pos h3])
          clear h0 h1 h2 h3
          go_enter Tryz.func86, Tryz.ntmps86
          go_wp2_with fail
          with_reducible refine (hi.out _).mono ?_
          rintro e w' ⟨rfl, hw⟩
          rw [hw]; clear hw
          go_wp2
          go_ret
          exact ⟨ret_i (by rw [HW.out]; rfl), rfl⟩
        · have p3 : decide (r < 65536) = false := decide_eq_false h3
          have HW := Lib.hid (show uW r = 4 by unfold uW; rw [if_pos h0, if_neg h1, if_neg h2, if_neg h3])
          clear h0 h1 h2 h3
          go_enter Tryz.func86, Tryz.ntmps86
          go_wp2_with fail
          with_reducible refine (hi.out _).mono ?_
          rintro e w' ⟨rfl, hw⟩
          rw [hw]; clear hw
          go_wp2
          go_ret
          exact ⟨ret_i (by rw [HW.out]; rfl), rfl⟩
  · have HW := Lib.hid (show uW r = 0 by unfold uW; rw [if_neg h0])
    rw [show uIs r = false by simpa using h0] at hi
    clear h0
    go_enter Tryz.func86, Tryz.ntmps86
    go_wp2_with fail
    with_reducible refine (hi.out _).mono ?_
    rintro e w' ⟨rfl, hw⟩
    rw [hw]; clear hw
    go_wp2
    go_ret
    exact ⟨ret_i (by rw [HW.out]; rfl), rfl⟩

theorem uann_any (c : Nat) (w : World) :
    Calls Tryz.prog 104 #[.int .u8 c] w fun e w' => e = .returned (.int .i64 (uAnn c : Nat)) ∧ w' = w := by
  by_cases h1 : c < 128
  · have p1 : decide ((c : Int) < 128) = true := decide_eq_true (by omega)
    have HW := Lib.hid (show uAnn c = 1 by unfold uAnn; rw [if_pos h1])
    clear h1
    go_enter Tryz.func104, Tryz.ntmps104
    go_wp2
    go_ret
    exact ⟨ret_i (by rw [HW.out]; rfl), rfl⟩
  · have p1 : decide ((c : Int) < 128) = false := decide_eq_false (by omega)
    by_cases h2 : c < 192
    · have p2 : decide ((c : Int) < 192) = true := decide_eq_true (by omega)
      have HW := Lib.hid (show uAnn c = 0 by unfold uAnn; rw [if_neg h1, if_pos h2])
      clear h1 h2
      go_enter Tryz.func104, Tryz.ntmps104
      go_wp2
      go_ret
      exact ⟨ret_i (by rw [HW.out]; rfl), rfl⟩
    · have p2 : decide ((c : Int) < 192) = false := decide_eq_false (by omega)
      by_cases h3 : c < 224
      · have p3 : decide ((c : Int) < 224) = true := decide_eq_true (by omega)
        have HW := Lib.hid (show uAnn c = 2 by unfold uAnn; rw [if_neg h1, if_neg h2, if_pos h3])
        clear h1 h2 h3
        go_enter Tryz.func104, Tryz.ntmps104
        go_wp2
        go_ret
        exact ⟨ret_i (by rw [HW.out]; rfl), rfl⟩
      · have p3 : decide ((c : Int) < 224) = false := decide_eq_false (by omega)
        by_cases h4 : c < 240
        · have p4 : decide ((c : Int) < 240) = true := decide_eq_true (by omega)
          have HW := Lib.hid (show uAnn c = 3 by unfold uAnn; rw [if_neg h1, if_neg h2, if_neg h3, if_pos h4])
          clear h1 h2 h3 h4
          go_enter Tryz.func104, Tryz.ntmps104
          go_wp2
          go_ret
          exact ⟨ret_i (by rw [HW.out]; rfl), rfl⟩
        · have p4 : decide ((c : Int) < 240) = false := decide_eq_false (by omega)
          by_cases h5 : c < 248
          · have p5 : decide ((c : Int) < 248) = true := decide_eq_true (by omega)
            have HW := Lib.hid (show uAnn c = 4 by unfold uAnn; rw [if_neg h1, if_neg h2, if_neg h3, if_neg h4, if_pos h5])
            clear h1 h2 h3 h4 h5
            go_enter Tryz.func104, Tryz.ntmps104
            go_wp2
            go_ret
            exact ⟨ret_i (by rw [HW.out]; rfl), rfl⟩
          · have p5 : decide ((c : Int) < 248) = false := decide_eq_false (by omega)
            have HW := Lib.hid (show uAnn c = 0 by unfold uAnn; rw [if_neg h1, if_neg h2, if_neg h3, if_neg h4, if_neg h5])
            clear h1 h2 h3 h4 h5
            go_enter Tryz.func104, Tryz.ntmps104
            go_wp2
            go_ret
            exact ⟨ret_i (by rw [HW.out]; rfl), rfl⟩
end Go.Proofs.YtfighopfgllneaaGreatDoor
/- Package utf's Rune, and the table of heads. -/
namespace Go.Proofs.YtfighopfgllneaaGreatDoor
open Go Go.RowKit
set_option linter.unusedVariables false

/-- The table of heads, where the program keeps it. -/
def Hds (w : World) : Prop := ∀ k, k < 5 → w.cell? ⟨0, k, none⟩ = some (.int .u8 (uHead k : Nat))
theorem Hds.lt {w : World} (h : Hds w) : 0 < w.heap.size := by
  have := World.block_lt_of_cell? w _ (h 0 (by omega)); exact this
theorem Hds.below {w w' : World} {N : Nat} (h : Hds w) (hb : Below N w w') (hN : 0 < N) : Hds w' := fun k hk => (hb.cell (p := ⟨0, k, none⟩) hN).trans (h k hk)
theorem Hds.drewN {w : World} (h : Hds w) (n : Nat) : Hds (w.drewN n) := h

/-- 5.2: the character that begins at any place. -/
def uR (s : ByteArray) (a : Int) : Nat × Nat := if 0 ≤ a then dAt s a.toNat else (0, 0)
theorem uR_at (s : ByteArray) (k : Nat) : uR s k = dAt s k := by unfold uR; rw [if_pos (by omega), Int.toNat_natCast]
theorem ret_r {a c b d : Int} (h : a = c) (k : b = d) : Ending.returned (.tuple #[.int .i32 a, .int .i64 b]) = .returned (.tuple #[.int .i32 c, .int .i64 d]) := by rw [h, k]
theorem uR_none {s : ByteArray} {a : Int} (h : uR s a = (0, 0)) : Ending.returned (.tuple #[.int .i32 0, .int .i64 0]) = .returned (.tuple #[.int .i32 ((uR s a).1 : Nat), .int .i64 ((uR s a).2 : Nat)]) := by rw [h]; rfl
theorem uFold_lt : ∀ (t : List UInt8) (r X : Nat), r < X → (∀ b ∈ t, uCont b = true) → uFold r t < X * 64 ^ t.length := by
  intro t
  induction t with
  | nil => intro r X hr _; simpa [uFold] using hr
  | cons b t ih =>
    intro r X hr h
    have h2 := cont_iff.mp (h b (by simp))
    have h1 := ih (r * 64 + (b.toNat - 128)) (X * 64) (by omega) (fun x hx => h x (by simp [hx]))
    have e : X * 64 ^ (b :: t).length = X * 64 * 64 ^ t.length := by
      rw [List.length_cons, Nat.pow_succ]
      generalize 64 ^ t.length = Y
      rw [Nat.mul_assoc X 64 Y, Nat.mul_comm 64 Y]
    have e2 : uFold r (b :: t) = uFold (r * 64 + (b.toNat - 128)) t := by simp only [uFold, List.foldl_cons]
    rw [e, e2]; exact h1
theorem uFold_snoc (r : Nat) (t : List UInt8) (b : UInt8) : uFold r (t ++ [b]) = uFold r t * 64 + (b.toNat - 128) := by
  unfold uFold; rw [List.foldl_append]; rfl
theorem head_le {c : Nat} (h : c < 256) : uHead (uAnn c) ≤ c ∧ (uAnn c ≠ 0 → c - uHead (uAnn c) < 128) ∧ uHead (uAnn c) < 256 := by
  by_cases h1 : c < 128
  · rw [show uAnn c = 1 by unfold uAnn; rw [if_pos h1], show uHead 1 = 0 from rfl]; omega
  · by_cases h2 : c < 192 ∨ 248 ≤ c
    · rw [annX h1 h2, show uHead 0 = 0 from rfl]; omega
    · by_cases h3 : c < 224
      · rw [ann2 (by omega) h3, show uHead (1 + 1) = 192 from rfl]; omega
      · by_cases h4 : c < 240
        · rw [ann3 (by omega) h4, show uHead (2 + 1) = 224 from rfl]; omega
        · rw [ann4 (by omega) (by omega), show uHead (3 + 1) = 240 from rfl]; omega
theorem drop_at (s : ByteArray) (k : Nat) (h : k < s.size) : s.data.toList.drop k = s[k] :: s.data.toList.drop (k + 1) := by
  have h' : k < s.data.toList.length := by rw [toList_size]; exact h
  rw [List.drop_eq_getElem_cons h', byte_at s k h h']
theorem dAt_fail {s : ByteArray} {k A : Nat} (h : k < s.size) (hA : uAnn s[k].toNat = A + 1) (hno : ¬ ((s.data.toList.drop (k + 1)).take A).all uCont = true) : dAt s k = (0, 0) := by
  unfold dAt
  rw [drop_at s k h, decN _ _ A hA]
  split
  · rfl
  · rw [if_neg (fun h => hno h.1)]

def URuneRel (s : ByteArray) (k A K R0 : Nat) (W : World) (r z i : Value) (wr : World) : Prop :=
  ∃ j R, j ≤ A ∧ z = .int .i64 (K : Nat) ∧ i = .int .i64 ((k + 1 + j : Nat) : Int) ∧ r = .int .i32 (R : Nat) ∧ Hid (R = uFold R0 ((s.data.toList.drop (k + 1)).take j) ∧ ((s.data.toList.drop (k + 1)).take j).all uCont = true ∧ R < 128 * 64 ^ j) ∧ wr = W

set_option maxRecDepth 20000 in
theorem urune_any (s : ByteArray) (a : Int) (w : World) (hs : s.size ≤ 1125899906842624) (ha1 : -9223372036854775808 ≤ a) (ha2 : a ≤ 9223372036854775807) (ht : Hds w) :
    Calls Tryz.prog 99 #[.string s, .int .i64 a] w fun e w' => e = .returned (.tuple #[.int .i32 ((uR s a).1 : Nat), .int .i64 ((uR s a).2 : Nat)]) ∧ ∃ m, w' = w.drewN m := by
  by_cases h0 : a < 0
  · have p1 : decide (a < 0) = true := decide_eq_true h0
    have HR := Lib.hid (show uR s a = (0, 0) by unfold uR; rw [if_neg (by omega)])
    clear h0 ht
    go_enter Tryz.func99, Tryz.ntmps99
    go_wp2
    go_ret2
    exact ⟨uR_none HR.out, 0, rfl⟩
  · obtain ⟨k, rfl⟩ := Int.eq_ofNat_of_zero_le (show 0 ≤ a by omega)
    have p1 : decide ((k : Int) < 0) = false := decide_eq_false h0
    rw [uR_at]
    by_cases h1 : s.size ≤ k
    · have p2 : decide (s.size ≤ k) = true := decide_eq_true h1
      have HR := Lib.hid (dAt_out h1)
      clear h0 h1 ht
      go_enter Tryz.func99, Tryz.ntmps99
      go_wp2
      go_ret2
      exact ⟨by rw [HR.out]; rfl, 0, rfl⟩
    · have hlt : k < s.size := by omega
      have p2 : decide (s.size ≤ k) = false := decide_eq_false h1
      have ik0 : (0 : Int) ≤ (k : Int) := by omega
      have ik1 : (k : Int) < (s.size : Int) := by omega
      have hB := s[k].toNat_lt
      obtain ⟨B, hBe⟩ : ∃ B, B = s[k].toNat := ⟨_, rfl⟩
      have hBi : (s[k].toNat : Int) = (B : Int) := by omega
      obtain ⟨hh1, hh2, hh3⟩ := head_le (c := B) (by omega)
      have HA := Lib.hid (fun w => uann_any B w)
      have hdec := Lib.hid (drop_at s k hlt)
      by_cases hA : uAnn B = 0
      · have HR := Lib.hid (show dAt s k = (0, 0) by unfold dAt; rw [hdec.out, dec0 _ _ (by rw [← hBe]; exact hA)])
        rw [hA] at HA
        clear h0 h1 ht hh1 hh2 hh3 hA hBe
        go_enter Tryz.func99, Tryz.ntmps99
        go_wp2_with fail
        with_reducible refine (HA.out _).mono ?_
        rintro e w' ⟨rfl, hw⟩
        rw [hw]; clear hw
        go_wp2
        go_ret2
        exact ⟨by rw [HR.out]; rfl, 0, rfl⟩
      · obtain ⟨hA1, hA2⟩ := ann_lt hA
        obtain ⟨A, hAe⟩ : ∃ A, uAnn B = A + 1 := ⟨uAnn B - 1, by omega⟩
        have HAn := Lib.hid (show uAnn s[k].toNat = A + 1 by rw [← hBe]; exact hAe)
        obtain ⟨K, hK⟩ : ∃ K, K = uAnn B := ⟨_, rfl⟩
        have hKA : K = A + 1 := hK.trans hAe
        rw [← hK] at HA hA1 hA2 hh1 hh2 hh3
        have p3 : ((K : Int) == 0) = false := beq_eq_false_iff_ne.mpr (by omega)
        have z1 : IntKind.i64.wrap ((s.size : Int) - (k : Int)) = (s.size : Int) - (k : Int) := IntWalk.i64_in _ (by omega)
        by_cases h2 : s.size - k < K
        · have p4 : decide ((s.size : Int) - (k : Int) < (K : Int)) = true := decide_eq_true (by omega)
          have HR := Lib.hid (show dAt s k = (0, 0) by
            unfold dAt
            rw [hdec.out, decN _ _ A HAn.out, if_pos (by rw [List.length_drop, toList_size]; omega)])
          clear h0 h1 ht hh1 hh2 hh3 hA hBe hAe hK hKA
          go_enter Tryz.func99, Tryz.ntmps99
          go_wp2_with fail
          with_reducible refine (HA.out _).mono ?_
          rintro e w' ⟨rfl, hw⟩
          rw [hw]; clear hw
          go_wp2
          go_ret2
          exact ⟨by rw [HR.out]; rfl, 0, rfl⟩
        · have p4 : decide ((s.size : Int) - (k : Int) < (K : Int)) = false := decide_eq_false (by omega)
          obtain ⟨h, hhe⟩ : ∃ h, h = uHead K := ⟨_, rfl⟩
          have hcell : w.cell? ⟨0, K, none⟩ = some (.int .u8 (h : Int)) := by rw [hhe]; exact ht K (by omega)
          obtain ⟨R0, hR0⟩ : ∃ R0, R0 = B - h := ⟨_, rfl⟩
          rw [← hhe] at hh1 hh2 hh3
          have hR1 : R0 < 128 := by rw [hR0]; exact hh2 (by omega)
          have z2 : IntKind.u8.wrap ((B : Int) - (h : Int)) = (R0 : Int) := by rw [IntWalk.u8_in _ (by omega)]; omega
          have z3 : IntKind.i32.wrap (R0 : Int) = (R0 : Int) := IntWalk.i32_in _ (by omega)
          have z4 : IntKind.i64.wrap ((k : Int) + 1) = (k : Int) + 1 := IntWalk.i64_in _ (by omega)
          have z5 : IntKind.i64.wrap ((k : Int) + (K : Int)) = (k : Int) + (K : Int) := IntWalk.i64_in _ (by omega)
          have iA0 : (0 : Int) ≤ (K : Int) := by omega
          have iA1 : (K : Int) < 5 := by omega
          have HF := Lib.hid (show ((s.data.toList.drop (k + 1)).take A).all uCont = true → ∀ R, R = uFold R0 ((s.data.toList.drop (k + 1)).take A) → dAt s k = if uW (R : Nat) = K then (R, K) else (0, 0) from fun hc R hR => by
            unfold dAt
            rw [hdec.out, decN _ _ A HAn.out, if_neg (by rw [List.length_drop, toList_size]; omega), ← hKA, ← hBe, ← hhe, ← hR0, ← hR]
            by_cases hw : uW (R : Nat) = K
            · rw [if_pos ⟨hc, hw⟩, if_pos hw]
            · rw [if_neg (fun h => hw h.2), if_neg hw])
          have HW := Lib.hid (fun r w => uwidth_any r w)
          have HKA := Lib.hid hKA
          have hin : k + K ≤ s.size := by omega
          have hK4 : K ≤ 4 := hA2
          clear h0 h1 h2 ht hh1 hh2 hh3 hA hBe hAe hhe hR0 hA1 hA2 hK hKA
          go_enter Tryz.func99, Tryz.ntmps99
          go_wp2_with fail
          with_reducible refine (HA.out _).mono ?_
          rintro e w' ⟨rfl, hw⟩
          rw [hw]; clear hw
          go_wp2
          go_quiet (fail)
          go_wp2
          go_loopw [4, 5, 6] (fun r z i wr => URuneRel s k A K R0 (w.drewN nq) r z i wr) (fun _ _ i _ => s.size - (intOf i).toNat)
          case atStart => exact ⟨0, R0, Nat.zero_le _, rfl, by go_num, rfl, Lib.hid ⟨by simp [uFold], by simp, by simpa using hR1⟩, rfl⟩
          case round =>
            obtain ⟨j, R, hj, rfl, rfl, rfl, hinv, rfl⟩ := hrel
            have hR2 : R < 33554432 := by
              have h1 := hinv.out.2.2
              have h2 : 64 ^ j ≤ 64 ^ 3 := Nat.pow_le_pow_right (by decide) (by have := HKA.out; omega)
              have h3 : (64 : Nat) ^ 3 = 262144 := by decide
              omega
            obtain ⟨I, hI⟩ : ∃ I, I = k + 1 + j := ⟨_, rfl⟩
            rw [← hI]
            by_cases hlt : j < A
            · have hI2 : I < k + K := by have := HKA.out; omega
              have q1 : decide ((I : Int) < (k : Int) + (K : Int)) = true := decide_eq_true (by omega)
              have jk0 : (0 : Int) ≤ (I : Int) := by omega
              have jk1 : (I : Int) < (s.size : Int) := by omega
              have hIs : I < s.size := by omega
              have hD := s[I].toNat_lt
              have hl' : j < (s.data.toList.drop (k + 1)).length := by rw [List.length_drop, toList_size]; omega
              have hget : (s.data.toList.drop (k + 1))[j] = s[I] := by
                rw [List.getElem_drop]
                have h' : I < s.data.toList.length := by rw [toList_size]; exact hIs
                rw [← byte_at s I hIs h']
                congr 1
                omega
              have htk : (s.data.toList.drop (k + 1)).take (j + 1) = (s.data.toList.drop (k + 1)).take j ++ [s[I]] := by
                rw [List.take_succ_eq_append_getElem hl', hget]
              obtain ⟨D, hDe⟩ : ∃ D, D = s[I].toNat := ⟨_, rfl⟩
              have hDi : (s[I].toNat : Int) = (D : Int) := by omega
              by_cases hc : uCont s[I] = true
              · have hc2 := cont_iff.mp hc
                obtain ⟨d, hd⟩ : ∃ d, d = D - 128 := ⟨_, rfl⟩
                obtain ⟨R2, hR3⟩ : ∃ R2, R2 = R * 64 + d := ⟨_, rfl⟩
                have hinv2 := Lib.hid (show R2 = uFold R0 ((s.data.toList.drop (k + 1)).take (j + 1)) ∧ ((s.data.toList.drop (k + 1)).take (j + 1)).all uCont = true ∧ R2 < 128 * 64 ^ (j + 1) by
                  obtain ⟨e1, e2, e3⟩ := hinv.out
                  refine ⟨?_, ?_, ?_⟩
                  · rw [htk, uFold_snoc, ← e1, hR3, hd, hDe]
                  · rw [htk, List.all_append, e2]; simp [hc]
                  · rw [Nat.pow_succ, ← Nat.mul_assoc]
                    generalize 128 * 64 ^ j = X at *
                    omega)
                have q2 : decide ((D : Int) < 128) = false := decide_eq_false (by omega)
                have q3 : decide ((192 : Int) ≤ (D : Int)) = false := decide_eq_false (by omega)
                have y0 : IntKind.i32.wrap ((R : Int) * 64) = (R : Int) * 64 := IntWalk.i32_in _ (by omega)
                have y1 : IntKind.u8.wrap ((D : Int) - 128) = (d : Int) := by rw [IntWalk.u8_in _ (by omega)]; omega
                have y2 : IntKind.i32.wrap (d : Int) = (d : Int) := IntWalk.i32_in _ (by omega)
                have y3 : IntKind.i32.wrap ((R : Int) * 64 + (d : Int)) = (R2 : Int) := by rw [IntWalk.i32_in _ (by omega)]; omega
                have y4 : IntKind.i64.wrap ((I : Int) + 1) = (I : Int) + 1 := IntWalk.i64_in _ (by omega)
                have HI := Lib.hid hI
                clear hinv hR2 hI hc hc2 htk hget hl' hDe hd hR3
                go_wp2
                go_roundw
                case rel => exact ⟨j + 1, R2, by omega, rfl, by have := HI.out; simp; omega, rfl, hinv2, rfl⟩
                case measure => simp [intOf]; omega
              · have hR := Lib.hid (dAt_fail (s := s) (k := k) (A := A) (by omega) HAn.out (fun h => hc (by
                  rw [List.all_eq_true] at h
                  refine h _ ?_
                  have h2 : s[I] ∈ (s.data.toList.drop (k + 1)).take (j + 1) := by rw [htk]; simp
                  exact (List.take_subset_take_left _ (show j + 1 ≤ A from hlt)) h2)))
                by_cases hd : D < 128
                · have q2 : decide ((D : Int) < 128) = true := decide_eq_true (by omega)
                  clear hinv hR2 hI hc htk hget hl' hDe hd
                  go_wp2
                  go_ret2
                  exact ⟨by rw [hR.out]; rfl, _, rfl⟩
                · have q2 : decide ((D : Int) < 128) = false := decide_eq_false (by omega)
                  have q3 : decide ((192 : Int) ≤ (D : Int)) = true := decide_eq_true (by
                    rw [cont_iff] at hc
                    omega)
                  clear hinv hR2 hI hc htk hget hl' hDe hd
                  go_wp2
                  go_ret2
                  exact ⟨by rw [hR.out]; rfl, _, rfl⟩
            · have hjA : j = A := by omega
              subst hjA
              have q1 : decide ((I : Int) < (k : Int) + (K : Int)) = false := decide_eq_false (by have := HKA.out; omega)
              have hR := Lib.hid (HF.out hinv.out.2.1 R hinv.out.1)
              have HWR := Lib.hid (HW.out (R : Int))
              by_cases hw : uW (R : Nat) = K
              · have hR2 := Lib.hid (hR.out.trans (if_pos hw))
                have q2 : ((uW (R : Int) : Int) != (K : Int)) = false := by rw [hw]; simp
                generalize uW (R : Int) = V at *
                clear hinv hI hw
                go_wp2_with fail
                with_reducible refine (HWR.out _).mono ?_
                rintro e w' ⟨rfl, hw⟩
                rw [hw]; clear hw
                go_wp2
                go_ret2
                exact ⟨by rw [hR2.out]; rfl, _, rfl⟩
              · have hR2 := Lib.hid (hR.out.trans (if_neg hw))
                have q2 : ((uW (R : Int) : Int) != (K : Int)) = true := bne_iff_ne.mpr (by omega)
                generalize uW (R : Int) = V at *
                clear hinv hI hw
                go_wp2_with fail
                with_reducible refine (HWR.out _).mono ?_
                rintro e w' ⟨rfl, hw⟩
                rw [hw]; clear hw
                go_wp2
                go_ret2
                exact ⟨by rw [hR2.out]; rfl, _, rfl⟩
end Go.Proofs.YtfighopfgllneaaGreatDoor
/- Package utf's walk, Check, Count, Cut. -/
namespace Go.Proofs.YtfighopfgllneaaGreatDoor
open Go Go.RowKit
set_option linter.unusedVariables false

def UWalkRel (s : ByteArray) (n : Int) (W : World) (e c : Value) (wr : World) : Prop :=
  ∃ E C m : Nat, e = .int .i64 (E : Nat) ∧ c = .int .i64 (C : Nat) ∧ WPre s n E C ∧ wr = W.drewN m
set_option maxRecDepth 20000 in
theorem uwalk_any (s : ByteArray) (n : Int) (w : World) (hs : s.size ≤ 1125899906842624) (ht : Hds w) :
    Calls Tryz.prog 93 #[.string s, .int .i64 n] w fun e w' => e = .returned (.tuple #[.int .i64 ((wk s n).1 : Nat), .int .i64 ((wk s n).2 : Nat)]) ∧ ∃ m, w' = w.drewN m := by
  have HR := Lib.hid (fun (a : Nat) (w : World) (h : a ≤ 1125899906842624) (ht : Hds w) => urune_any s a w hs (by omega) (by omega) ht)
  have HT := Lib.hid ht
  clear ht
  go_enter Tryz.func93, Tryz.ntmps93
  go_wp2_with fail
  go_loopw [4, 5] (fun e c wr => UWalkRel s n w e c wr) (fun e _ _ => s.size + 1 - (intOf e).toNat)
  case atStart => exact ⟨0, 0, 0, rfl, rfl, WPre.zero s n, rfl⟩
  case round =>
    obtain ⟨E, C, m, rfl, rfl, hp, rfl⟩ := hrel
    have hE := hp.le
    have hC := hp.count
    have HRE := Lib.hid (HR.out E (w.drewN m) (by omega) (HT.out.drewN m))
    rw [uR_at] at HRE
    have hst := Lib.hid (fun h => wk_of hp (n := n) h)
    have hnx := Lib.hid (fun h => hp.step (n := n) h)
    have hle := dAt_le (s := s) (e := E)
    unfold WStop at hst hnx
    generalize (dAt s E).1 = R at *
    obtain ⟨z, hz⟩ : ∃ z, z = (dAt s E).2 := ⟨_, rfl⟩
    rw [← hz] at HRE hst hnx hle
    clear hz
    have z1 : IntKind.i64.wrap ((E : Int) + (z : Int)) = (E : Int) + (z : Int) := IntWalk.i64_in _ (by omega)
    have z2 : IntKind.i64.wrap ((C : Int) + 1) = (C : Int) + 1 := IntWalk.i64_in _ (by omega)
    by_cases h0 : z = 0
    · have p1 : ((z : Int) == 0) = true := by rw [h0]; rfl
      have HK := Lib.hid (hst.out (.inl h0))
      clear hst hnx hle hp h0
      go_wp2_with fail
      with_reducible refine HRE.out.mono ?_
      rintro e w' ⟨rfl, m2, hw⟩
      rw [hw]; clear hw
      go_wp2
      go_ret2
      exact ⟨by rw [HK.out]; rfl, m + m2, rfl⟩
    · have p1 : ((z : Int) == 0) = false := beq_eq_false_iff_ne.mpr (by omega)
      by_cases h1 : n < (E : Int) + (z : Int)
      · have p2 : decide (n < (E : Int) + (z : Int)) = true := decide_eq_true h1
        have HK := Lib.hid (hst.out (.inr h1))
        clear hst hnx hle hp h0 h1
        go_wp2_with fail
        with_reducible refine HRE.out.mono ?_
        rintro e w' ⟨rfl, m2, hw⟩
        rw [hw]; clear hw
        go_wp2
        go_ret2
        exact ⟨by rw [HK.out]; rfl, m + m2, rfl⟩
      · have p2 : decide (n < (E : Int) + (z : Int)) = false := decide_eq_false h1
        have HP := Lib.hid (hnx.out (fun h => by rcases h with h | h <;> omega))
        have hle2 := hle (by omega)
        clear hst hnx hle hp h1
        go_wp2_with fail
        with_reducible refine HRE.out.mono ?_
        rintro e w' ⟨rfl, m2, hw⟩
        rw [hw]; clear hw
        go_wp2
        go_roundw
        case rel => exact ⟨E + z, C + 1, m + m2, by go_num, by go_num, HP.out, rfl⟩
        case measure => simp [intOf]; omega

theorem ucheck_any (s : ByteArray) (w : World) (hs : s.size ≤ 1125899906842624) (ht : Hds w) :
    Calls Tryz.prog 85 #[.string s] w fun e w' => e = .returned (.int .i64 (uCheck s)) ∧ ∃ m, w' = w.drewN m := by
  have HK := Lib.hid (uwalk_any s s.size w hs ht)
  have hle := wk_le s s.size
  by_cases h : (wk s s.size).1 = s.size
  · have hC := Lib.hid (show uCheck s = -1 by unfold uCheck; rw [if_pos h])
    rw [h] at HK
    generalize (wk s s.size).2 = C at *
    clear h hle ht
    go_enter Tryz.func85, Tryz.ntmps85
    go_wp2_with fail
    with_reducible refine HK.out.mono ?_
    rintro e w' ⟨rfl, m2, hw⟩
    rw [hw]; clear hw
    go_wp2
    go_ret
    exact ⟨by rw [hC.out]; rfl, _, rfl⟩
  · have hC := Lib.hid (show uCheck s = (wk s s.size).1 by unfold uCheck; rw [if_neg h])
    generalize (wk s s.size).2 = C at *
    generalize (wk s s.size).1 = E at *
    have p1 : ((E : Int) == (s.size : Int)) = false := beq_eq_false_iff_ne.mpr (by omega)
    clear h hle ht
    go_enter Tryz.func85, Tryz.ntmps85
    go_wp2_with fail
    with_reducible refine HK.out.mono ?_
    rintro e w' ⟨rfl, m2, hw⟩
    rw [hw]; clear hw
    go_wp2
    go_ret
    exact ⟨by rw [hC.out]; rfl, _, rfl⟩


end Go.Proofs.YtfighopfgllneaaGreatDoor
/- Package utf's lay. -/
namespace Go.Proofs.YtfighopfgllneaaGreatDoor
open Go Go.RowKit
set_option linter.unusedVariables false

/-- Block g is just the bytes L. -/
def Blk (t : TypeId) (w : World) (g : Nat) (L : List UInt8) : Prop := w.heap[g]? = some (.cells (bV L).toArray t (0, 0))
theorem Blk.lt {t : TypeId} {w : World} {g : Nat} {L : List UInt8} (h : Blk t w g L) : g < w.heap.size := lt_of_block h
theorem Blk.c {t : TypeId} {w : World} {g : Nat} {L : List UInt8} (h : Blk t w g L) (j : Nat) (hj : j < L.length) : w.cell? ⟨g, j, none⟩ = some (.int .u8 (L[j].toNat : Int)) := by
  unfold Blk at h
  simp only [World.cell?, h]
  show (bV L).toArray[j]? = _
  rw [List.getElem?_toArray, bV_get L j hj]
theorem Blk.fr {t : TypeId} {w : World} {g : Nat} {L : List UInt8} (h : Blk t w g L) (o : Nat) : w.frozen? ⟨g, o, none⟩ = false := by unfold Blk at h; simp [World.frozen?, h]
theorem Blk.set {t : TypeId} {w : World} {g : Nat} {L : List UInt8} (h : Blk t w g L) (j : Nat) {z : Int} {b : UInt8} (hz : z = (b.toNat : Int)) : Blk t (w.setCell ⟨g, j, none⟩ (.int .u8 z)) g (L.set j b) := by
  subst hz
  unfold Blk
  rw [heap_setCell_block h]
  congr 2
  apply Array.toList_inj.mp
  simp only [Array.toList_setIfInBounds, bV, List.map_set]
theorem Blk.drewN {t : TypeId} {w : World} {g : Nat} {L : List UInt8} (h : Blk t w g L) (n : Nat) : Blk t (w.drewN n) g L := h
theorem Hds.only {w w' : World} {g : Nat} (h : Hds w) (ho : Only g w w') (hg : 0 ≠ g) : Hds w' := fun k hk => by
  rw [World.cell?_of_block (w := w) (ho.block _ h.lt hg)]; exact h k hk

set_option maxRecDepth 20000 in
theorem ulay_none (a : Option Addr) (cap : Nat) (r : Int) (w : World) :
    Calls Tryz.prog 87 #[.slice a 0 cap, .int .i32 r] w fun e w' => e = .returned (.tuple #[]) ∧ w' = w := by
  go_enter Tryz.func87, Tryz.ntmps87
  go_wp2
  go_end0
  exact ⟨rfl, rfl⟩

theorem set_behind (l X : List UInt8) (p j : Nat) (b : UInt8) (hp : l.length = p) : (l ++ X).set (p + j) b = l ++ X.set j b := by
  subst hp
  rw [List.set_append_right _ _ (by omega)]
  congr 2
  omega
theorem set_behind0 (l X : List UInt8) (p : Nat) (b : UInt8) (hp : l.length = p) : (l ++ X).set p b = l ++ X.set 0 b := set_behind l X p 0 b hp
theorem ofb {z : Int} {n : Nat} (h : n < 256) (hz : z = n) : z = ((b8 n).toNat : Int) := by rw [b8_toNat h]; exact hz
set_option maxRecDepth 20000 in
theorem ulay_four (g p : Nat) (cap : Nat) (l X : List UInt8) (r : Nat) (w : World) (hp : l.length = p) (hX : X.length = 4) (hr : r ≤ 1114111) (hr2 : 65536 ≤ r) (hb : Blk 5 w g (l ++ X)) (ht : Hds w) (hg : 0 ≠ g) :
    Calls Tryz.prog 87 #[.slice (some ⟨g, p, none⟩) 4 cap, .int .i32 (r : Nat)] w fun e w' => e = .returned (.tuple #[]) ∧ Blk 5 w' g (l ++ uB r) ∧ Only g w w' := by
  have hlen : (l ++ X).length = p + 4 := by rw [List.length_append, hp, hX]
  have c3 : ∃ v, w.cell? ⟨g, p + 3, none⟩ = some v := ⟨_, hb.c (p + 3) (by omega)⟩
  obtain ⟨v3, c3⟩ := c3
  have f3 := hb.fr (p + 3)
  have c2 : ∃ v, w.cell? ⟨g, p + 2, none⟩ = some v := ⟨_, hb.c (p + 2) (by omega)⟩
  obtain ⟨v2, c2⟩ := c2
  have f2 := hb.fr (p + 2)
  have c1 : ∃ v, w.cell? ⟨g, p + 1, none⟩ = some v := ⟨_, hb.c (p + 1) (by omega)⟩
  obtain ⟨v1, c1⟩ := c1
  have f1 := hb.fr (p + 1)
  have c0 : ∃ v, w.cell? ⟨g, p, none⟩ = some v := ⟨_, hb.c (p) (by omega)⟩
  obtain ⟨v0, c0⟩ := c0
  have f0 := hb.fr (p)
  have hh : w.cell? ⟨0, 4, none⟩ = some (.int .u8 240) := ht 4 (by omega)
  have HB := Lib.hid hb
  have HL := Lib.hid (And.intro hp hX)
  clear hb ht hX hp hlen
  go_enter Tryz.func87, Tryz.ntmps87
  go_wp2
  go_end0
  have e1 : r / 64 / 64 = r / 4096 := Nat.div_div_eq_div_mul r 64 64
  have e2 : r / 4096 / 64 = r / 262144 := Nat.div_div_eq_div_mul r 4096 64
  have H := ((((HB.out.set (p + 3) (z := 128 + (r : Int) % 64) (ofb (n := 128 + r % 64) (by omega) (by omega))).set (p + 2) (z := 128 + (r : Int) / 64 % 64) (ofb (n := 128 + r / 64 % 64) (by omega) (by omega))).set (p + 1) (z := 128 + (r : Int) / 64 / 64 % 64) (ofb (n := 128 + r / 4096 % 64) (by omega) (by omega))).set p (z := 240 + (r : Int) / 64 / 64 / 64) (ofb (n := 240 + r / 262144) (by omega) (by omega)))
  have HE : (((((l ++ X).set (p + 3) (b8 (128 + r % 64))).set (p + 2) (b8 (128 + r / 64 % 64))).set (p + 1) (b8 (128 + r / 4096 % 64))).set p (b8 (240 + r / 262144))) = l ++ uB r := by
    have hp := HL.out.1
    have hX := HL.out.2
    match X, hX with
    | [x0, x1, x2, x3], _ =>
      rw [set_behind _ _ _ 3 _ hp, set_behind _ _ _ 2 _ hp, set_behind _ _ _ 1 _ hp, set_behind0 _ _ _ _ hp]
      simp only [List.set_cons_succ, List.set_cons_zero]
      unfold uB
      rw [if_neg (by omega), if_neg (by omega), if_neg (by omega)]
  rw [HE] at H
  exact ⟨rfl, H, (((((Only.refl g w).setCell _ _).setCell _ _).setCell _ _).setCell _ _)⟩
set_option maxRecDepth 20000 in
theorem ulay_three (g p : Nat) (cap : Nat) (l X : List UInt8) (r : Nat) (w : World) (hp : l.length = p) (hX : X.length = 3) (hr : r < 65536) (hr2 : 2048 ≤ r) (hb : Blk 5 w g (l ++ X)) (ht : Hds w) (hg : 0 ≠ g) :
    Calls Tryz.prog 87 #[.slice (some ⟨g, p, none⟩) 3 cap, .int .i32 (r : Nat)] w fun e w' => e = .returned (.tuple #[]) ∧ Blk 5 w' g (l ++ uB r) ∧ Only g w w' := by
  have hlen : (l ++ X).length = p + 3 := by rw [List.length_append, hp, hX]
  have c2 : ∃ v, w.cell? ⟨g, p + 2, none⟩ = some v := ⟨_, hb.c (p + 2) (by omega)⟩
  obtain ⟨v2, c2⟩ := c2
  have f2 := hb.fr (p + 2)
  have c1 : ∃ v, w.cell? ⟨g, p + 1, none⟩ = some v := ⟨_, hb.c (p + 1) (by omega)⟩
  obtain ⟨v1, c1⟩ := c1
  have f1 := hb.fr (p + 1)
  have c0 : ∃ v, w.cell? ⟨g, p, none⟩ = some v := ⟨_, hb.c (p) (by omega)⟩
  obtain ⟨v0, c0⟩ := c0
  have f0 := hb.fr (p)
  have hh : w.cell? ⟨0, 3, none⟩ = some (.int .u8 224) := ht 3 (by omega)
  have HB := Lib.hid hb
  have HL := Lib.hid (And.intro hp hX)
  clear hb ht hX hp hlen
  go_enter Tryz.func87, Tryz.ntmps87
  go_wp2
  go_end0
  have e1 : r / 64 / 64 = r / 4096 := Nat.div_div_eq_div_mul r 64 64
  have e2 : r / 4096 / 64 = r / 262144 := Nat.div_div_eq_div_mul r 4096 64
  have H := (((HB.out.set (p + 2) (z := 128 + (r : Int) % 64) (ofb (n := 128 + r % 64) (by omega) (by omega))).set (p + 1) (z := 128 + (r : Int) / 64 % 64) (ofb (n := 128 + r / 64 % 64) (by omega) (by omega))).set p (z := 224 + (r : Int) / 64 / 64) (ofb (n := 224 + r / 4096) (by omega) (by omega)))
  have HE : ((((l ++ X).set (p + 2) (b8 (128 + r % 64))).set (p + 1) (b8 (128 + r / 64 % 64))).set p (b8 (224 + r / 4096))) = l ++ uB r := by
    have hp := HL.out.1
    have hX := HL.out.2
    match X, hX with
    | [x0, x1, x2], _ =>
      rw [set_behind _ _ _ 2 _ hp, set_behind _ _ _ 1 _ hp, set_behind0 _ _ _ _ hp]
      simp only [List.set_cons_succ, List.set_cons_zero]
      unfold uB
      rw [if_neg (by omega), if_neg (by omega), if_pos (by omega)]
  rw [HE] at H
  exact ⟨rfl, H, ((((Only.refl g w).setCell _ _).setCell _ _).setCell _ _)⟩
set_option maxRecDepth 20000 in
theorem ulay_two (g p : Nat) (cap : Nat) (l X : List UInt8) (r : Nat) (w : World) (hp : l.length = p) (hX : X.length = 2) (hr : r < 2048) (hr2 : 128 ≤ r) (hb : Blk 5 w g (l ++ X)) (ht : Hds w) (hg : 0 ≠ g) :
    Calls Tryz.prog 87 #[.slice (some ⟨g, p, none⟩) 2 cap, .int .i32 (r : Nat)] w fun e w' => e = .returned (.tuple #[]) ∧ Blk 5 w' g (l ++ uB r) ∧ Only g w w' := by
  have hlen : (l ++ X).length = p + 2 := by rw [List.length_append, hp, hX]
  have c1 : ∃ v, w.cell? ⟨g, p + 1, none⟩ = some v := ⟨_, hb.c (p + 1) (by omega)⟩
  obtain ⟨v1, c1⟩ := c1
  have f1 := hb.fr (p + 1)
  have c0 : ∃ v, w.cell? ⟨g, p, none⟩ = some v := ⟨_, hb.c (p) (by omega)⟩
  obtain ⟨v0, c0⟩ := c0
  have f0 := hb.fr (p)
  have hh : w.cell? ⟨0, 2, none⟩ = some (.int .u8 192) := ht 2 (by omega)
  have HB := Lib.hid hb
  have HL := Lib.hid (And.intro hp hX)
  clear hb ht hX hp hlen
  go_enter Tryz.func87, Tryz.ntmps87
  go_wp2
  go_end0
  have e1 : r / 64 / 64 = r / 4096 := Nat.div_div_eq_div_mul r 64 64
  have e2 : r / 4096 / 64 = r / 262144 := Nat.div_div_eq_div_mul r 4096 64
  have H := ((HB.out.set (p + 1) (z := 128 + (r : Int) % 64) (ofb (n := 128 + r % 64) (by omega) (by omega))).set p (z := 192 + (r : Int) / 64) (ofb (n := 192 + r / 64) (by omega) (by omega)))
  have HE : (((l ++ X).set (p + 1) (b8 (128 + r % 64))).set p (b8 (192 + r / 64))) = l ++ uB r := by
    have hp := HL.out.1
    have hX := HL.out.2
    match X, hX with
    | [x0, x1], _ =>
      rw [set_behind _ _ _ 1 _ hp, set_behind0 _ _ _ _ hp]
      simp only [List.set_cons_succ, List.set_cons_zero]
      unfold uB
      rw [if_neg (by omega), if_pos (by omega)]
  rw [HE] at H
  exact ⟨rfl, H, (((Only.refl g w).setCell _ _).setCell _ _)⟩
set_option maxRecDepth 20000 in
theorem ulay_one (g p : Nat) (cap : Nat) (l X : List UInt8) (r : Nat) (w : World) (hp : l.length = p) (hX : X.length = 1) (hr : r < 128) (hr2 : 0 ≤ r) (hb : Blk 5 w g (l ++ X)) (ht : Hds w) (hg : 0 ≠ g) :
    Calls Tryz.prog 87 #[.slice (some ⟨g, p, none⟩) 1 cap, .int .i32 (r : Nat)] w fun e w' => e = .returned (.tuple #[]) ∧ Blk 5 w' g (l ++ uB r) ∧ Only g w w' := by
  have hlen : (l ++ X).length = p + 1 := by rw [List.length_append, hp, hX]
  have c0 : ∃ v, w.cell? ⟨g, p, none⟩ = some v := ⟨_, hb.c (p) (by omega)⟩
  obtain ⟨v0, c0⟩ := c0
  have f0 := hb.fr (p)
  have hh : w.cell? ⟨0, 1, none⟩ = some (.int .u8 0) := ht 1 (by omega)
  have HB := Lib.hid hb
  have HL := Lib.hid (And.intro hp hX)
  clear hb ht hX hp hlen
  go_enter Tryz.func87, Tryz.ntmps87
  go_wp2
  go_end0
  have e1 : r / 64 / 64 = r / 4096 := Nat.div_div_eq_div_mul r 64 64
  have e2 : r / 4096 / 64 = r / 262144 := Nat.div_div_eq_div_mul r 4096 64
  have H := (HB.out.set p (z := (r : Int)) (ofb (n := r) (by omega) (by omega)))
  have HE : ((l ++ X).set p (b8 (r))) = l ++ uB r := by
    have hp := HL.out.1
    have hX := HL.out.2
    match X, hX with
    | [x0], _ =>
      rw [set_behind0 _ _ _ _ hp]
      simp only [List.set_cons_zero]
      unfold uB
      rw [if_pos (by omega)]
  rw [HE] at H
  exact ⟨rfl, H, ((Only.refl g w).setCell _ _)⟩
end Go.Proofs.YtfighopfgllneaaGreatDoor
/- Package utf's Put. -/
namespace Go.Proofs.YtfighopfgllneaaGreatDoor
open Go Go.RowKit
set_option linter.unusedVariables false

/-- The bytes that are laid of any number. -/
def uBI (r : Int) : List UInt8 := if uIs r = true then uB r.toNat else []
theorem uBI_len (r : Int) : (uBI r).length = uW r := by
  unfold uBI
  by_cases h : uIs r = true
  · rw [if_pos h]
    obtain ⟨n, rfl⟩ := Int.eq_ofNat_of_zero_le (uIs_iff.mp h).1
    exact (uW_len h).symm
  · rw [if_neg h]; unfold uW; rw [if_neg h]; rfl
theorem uW_le (r : Int) : uW r ≤ 4 := by
  unfold uW
  split
  · split
    · omega
    · split
      · omega
      · split <;> omega
  · omega
theorem ulay_any (g p cap : Nat) (l X : List UInt8) (r : Int) (w : World) (hp : l.length = p) (hX : X.length = uW r) (a : Option Addr) (ha : uW r ≠ 0 → a = some ⟨g, p, none⟩) (hb : Blk 5 w g (l ++ X)) (ht : Hds w) (hg : 0 ≠ g) :
    Calls Tryz.prog 87 #[.slice a (uW r) cap, .int .i32 r] w fun e w' => e = .returned (.tuple #[]) ∧ Blk 5 w' g (l ++ uBI r) ∧ Only g w w' := by
  by_cases h : uIs r = true
  · obtain ⟨h1, h2, h3⟩ := uIs_iff.mp h
    obtain ⟨n, rfl⟩ := Int.eq_ofNat_of_zero_le h1
    have hU : uBI (n : Int) = uB n := by unfold uBI; rw [if_pos h, Int.toNat_natCast]
    rw [hU]
    have hW := uW_len h
    by_cases c1 : n < 128
    · have e : uW (n : Int) = 1 := by rw [hW]; unfold uB; rw [if_pos c1]; rfl
      rw [ha (by omega), e]
      exact ulay_one g p cap l X n w hp (by rw [hX, e]) c1 (Nat.zero_le _) hb ht hg
    · by_cases c2 : n < 2048
      · have e := uW2 (r := n) (by omega) c2
        rw [ha (by omega), e]
        exact ulay_two g p cap l X n w hp (by rw [hX, e]) c2 (by omega) hb ht hg
      · by_cases c3 : n < 65536
        · have e := uW3 (r := n) (by omega) c3 (by omega)
          rw [ha (by omega), e]
          exact ulay_three g p cap l X n w hp (by rw [hX, e]) c3 (by omega) hb ht hg
        · have e := uW4 (r := n) (by omega) (by omega)
          rw [ha (by omega), e]
          exact ulay_four g p cap l X n w hp (by rw [hX, e]) (by omega) (by omega) hb ht hg
  · have hU : uBI r = [] := by unfold uBI; rw [if_neg h]
    have e : uW r = 0 := by unfold uW; rw [if_neg h]
    have hX0 : X = [] := List.eq_nil_of_length_eq_zero (by rw [hX, e])
    subst hX0
    rw [hU, e]
    refine (ulay_none a cap r w).mono ?_
    rintro e w' ⟨rfl, rfl⟩
    exact ⟨rfl, hb, Only.refl _ _⟩
/-- 'make([]byte, n)'. -/
theorem make_all (n : Nat) (w : World) (hl : n ≤ 140737488355000) :
    (Instr.makeSlice 32 (.int .i64 (n : Int)) (.int .i64 (n : Int))).run Tryz.prog w = .ok (.slice (some ⟨w.heap.size, 0, none⟩) n n) (w.alloc (.cells (Array.replicate n (.int .u8 0)) 5)) := by
  have := make_bytes n 0 w (by omega)
  simpa using this
/-- What 'copy' of what came in makes of a longer list that has just been made. -/
theorem copy_all (P : Program) (t e ty : TypeId) (ht : P.underlying t = some (.slice e)) (hi : (P.info? e).map (·.size) = some 1)
    (W : World) (a : Option Addr) (cap more : Nat) (l : List UInt8) (hin : BIn W a l) :
    ∃ w2, (Builtin.copy_ #[t, t] ty #[.slice (some ⟨W.heap.size, 0, none⟩) (l.length + more) (l.length + more), .slice a l.length cap]).run P (W.alloc (.cells (Array.replicate (l.length + more) (.int .u8 0)) e)) = .ok (goInt l.length) w2 ∧
      Blk e w2 W.heap.size (l ++ List.replicate more 0) ∧ Below W.heap.size W w2 := by
  have hnew : (W.alloc (.cells (Array.replicate (l.length + more) (.int .u8 0)) e)).heap[W.heap.size]? = some (.cells (Array.replicate (l.length + more) (.int .u8 0)) e (0, 0)) := heap_alloc_new W _
  have hb1 : Below W.heap.size W (W.alloc (.cells (Array.replicate (l.length + more) (.int .u8 0)) e)) := (Below.refl _ _).alloc (Nat.le_refl _) _
  have hrep : bV (List.replicate more 0) = List.replicate more (.int .u8 0) := by simp [bV, List.map_replicate]
  by_cases h0 : l.length = 0
  · obtain rfl := List.eq_nil_of_length_eq_zero h0
    refine ⟨_, run_copy_none (P := P) _ t t ty e _ a _ _ 0 cap ht hi (Nat.zero_min _), ?_, hb1⟩
    unfold Blk
    rw [hnew, List.nil_append, hrep]
    simp
  · obtain ⟨b, off, rfl, hbl, _⟩ := hin 0 (by omega)
    have hr := run_copy_row (P := P) (W.alloc (.cells (Array.replicate (l.length + more) (.int .u8 0)) e)) t t ty e W.heap.size 0 (l.length + more) (l.length + more) ⟨b, off, none⟩ l.length cap _ e (bV l) ht hi hnew
      (by rw [bV_length]; exact (Nat.min_eq_left (Nat.le_add_right _ _)).symm) (fun j v hj => by
        have hjl : j < l.length := by
          have := (List.getElem?_eq_some_iff.1 hj).1
          rwa [bV_length] at this
        obtain ⟨b', off', he, hb', hc⟩ := hin j hjl
        obtain ⟨rfl, rfl⟩ : b = b' ∧ off = off' := by simpa using he
        rw [bV_get l j hjl] at hj
        have e1 : (Addr.mk b off none).add j = ⟨b, off + j, none⟩ := by unfold Addr.add; split <;> simp_all
        rw [e1, World.cell?_of_block (w := W) (hb1.block b hb'), hc]
        exact hj) (by simp [bV_length]) (bV_one l)
    rw [bV_length] at hr
    refine ⟨_, hr, ?_, hb1.trans ⟨rfl, rfl, rfl, by simp, fun k hk => setRow_other _ _ _ _ (by omega)⟩⟩
    unfold Blk
    rw [setRow_heap _ _ _ _ _ _ hnew, bV_append, hrep]
    simp
theorem Blk.bts {t : TypeId} {w : World} {g B n : Nat} {L : List UInt8} (h : Blk t w g L) (hn : L.length = n) (hB : B ≤ g) (hm : n ≤ maxLen) : Bts t w B (.slice (some ⟨g, 0, none⟩) n n) L := by
  subst hn
  exact ⟨by simp [bV_length], .inr ⟨_, _, _, rfl, hB, h, Nat.le_refl _, hm, by simp [bV_length], by simp [List.take_of_length_le, bV_length]⟩⟩

set_option maxRecDepth 20000 in
theorem uput_any (a : Option Addr) (cap : Nat) (l : List UInt8) (r : Int) (w : World) (hl : l.length ≤ 140737488351232) (hin : BIn w a l) (ht : Hds w) :
    Calls Tryz.prog 73 #[.slice a l.length cap, .int .i32 r] w fun e w' => ∃ v, e = .returned v ∧ Bts 5 w' w.heap.size v (l ++ uBI r) ∧ Below w.heap.size w w' := by
  have hW4 := uW_le r
  obtain ⟨N, hN⟩ : ∃ N, N = l.length + uW r := ⟨_, rfl⟩
  have hmk := Lib.hid (fun w => make_all N w (by omega))
  obtain ⟨w2, hcp0, hbt, hbel⟩ := copy_all Tryz.prog 32 5 3 Tryz.underlying32 size8 w a cap (uW r) l hin
  rw [← hN] at hcp0
  have hcp := Lib.hid hcp0
  have HWd := Lib.hid (fun w => uwidth_any r w)
  have hgl := ht.lt
  have HL := Lib.hid (fun a2 c2 ha => ulay_any w.heap.size l.length c2 l _ r w2 rfl (List.length_replicate) a2 ha hbt (ht.below hbel hgl) (by omega))
  have hU := Lib.hid (uBI_len r)
  have hmk2 := Lib.hid (show ∀ w, (Instr.makeSlice 32 (.int .i64 ((l.length : Int) + (uW r : Int))) (.int .i64 ((l.length : Int) + (uW r : Int)))).run Tryz.prog w = .ok (.slice (some ⟨w.heap.size, 0, none⟩) N N) (w.alloc (.cells (Array.replicate N (.int .u8 0)) 5)) from fun w => by
    rw [← hmk.out w, show (l.length : Int) + (uW r : Int) = (N : Int) by omega])
  have hwr : IntKind.i64.wrap ((l.length : Int) + (uW r : Int)) = (l.length : Int) + (uW r : Int) := IntWalk.i64_in _ (by omega)
  have hsl : (l.length : Int) ≤ (N : Int) := by omega
  have hN2 := Lib.hid hN
  clear hin hcp0 hbt ht hmk hN
  generalize uW r = V at *
  go_enter Tryz.func73, Tryz.ntmps73
  go_wp2_with fail
  with_reducible refine (HWd.out _).mono ?_
  rintro e w' ⟨rfl, hw⟩
  rw [hw]; clear hw
  go_wp2_with fail
  rw [hmk2.out]
  go_wp2_with fail
  rw [hcp.out]
  go_wp2_with fail
  case inl =>
    have hV0 : V = 0 := by have := hN2.out; omega
    subst hV0
    with_reducible refine (HL.out _ _ (fun h => absurd rfl h)).mono ?_
    rintro e w3 ⟨rfl, hb3, ho3⟩
    have hb4 := Lib.hid (hb3.bts (B := w.heap.size) (n := l.length) (by rw [List.length_append, hU.out]; rfl) (Nat.le_refl _) (by unfold maxLen; omega))
    have hbl := Lib.hid (hbel.trans (ho3.below (Nat.le_refl _) hbel.size))
    clear hb3 ho3 hbel
    go_wp2
    go_ret
    exact ⟨_, rfl, hb4.out, hbl.out⟩
  case inr =>
    have hNV : N - l.length = V := by have := hN2.out; omega
    rw [hNV]
    with_reducible refine (HL.out _ _ (fun h => rfl)).mono ?_
    rintro e w3 ⟨rfl, hb3, ho3⟩
    have hb4 := Lib.hid (hb3.bts (B := w.heap.size) (n := N) (by rw [List.length_append, hU.out]; exact hN2.out.symm) (Nat.le_refl _) (by have := hN2.out; unfold maxLen; omega))
    have hbl := Lib.hid (hbel.trans (ho3.below (Nat.le_refl _) hbel.size))
    clear hb3 ho3 hbel
    go_wp2
    go_ret
    exact ⟨_, rfl, hb4.out, hbl.out⟩
end Go.Proofs.YtfighopfgllneaaGreatDoor
/- What a row's condition on utf's table says of memory: 'Hds'. -/
namespace Go.Proofs.YtfighopfgllneaaGreatDoor
open Go.RowKit

theorem heads_of {laid : List (String × DataW Unit)} {W : World} (hp : (laid.all fun x => x.2.handleName?.isNone) = true) (h : laidMetH Tryz.prog laid W) (hm : ("truchman/utf.heads", Rows.laid_truchman_utf_heads) ∈ laid) : Hds W := by
  have hc := ints_of_laid (k := .u8) (zs := [0, 0, 192, 224, 240]) (g := 0) (t := 132) (e := 5) (m := 5) hp h hm rfl (by kernel_rfl) (by kernel_rfl) Tryz.underlying132 Tryz.underlying5 (by kernel_rfl)
  intro k hk
  rw [hc k hk]
  match k, hk with
  | 0, _ => rfl
  | 1, _ => rfl
  | 2, _ => rfl
  | 3, _ => rfl
  | 4, _ => rfl
end Go.Proofs.YtfighopfgllneaaGreatDoor
