/- Plain facts, of no program: what digits to the base 10 are worth ('dV'), which texts are a number's digits ('DOK'), a number's digits are read as it, and what is read as a number is its digits. -/
import Derived.Test.YtemmeoikenbmgaaDoorWordBytes
import GoSem.Op.String
import Derived.Lib.ItoaNum
import Derived.Lib.ItoaLen
namespace Go.Proofs.YtemmeoikenbmgaaDoor
open Go Go.RowKit
set_option linter.unusedVariables false

/-- A digit. -/
def dIs (b : UInt8) : Bool := decide (48 ≤ b.toNat ∧ b.toNat ≤ 57)
theorem dIs_iff {b : UInt8} : dIs b = true ↔ 48 ≤ b.toNat ∧ b.toNat ≤ 57 := by unfold dIs; rw [decide_eq_true_iff]
/-- What digits are worth. -/
def dV (l : List UInt8) : Nat := l.foldl (fun a b => 10 * a + (b.toNat - 48)) 0
/-- A number's digits, from 0 on, however great. -/
def DOK (l : List UInt8) : Prop := l ≠ [] ∧ l.all dIs = true ∧ (l.head? = some 48 → l.length = 1)
instance (l : List UInt8) : Decidable (DOK l) := by unfold DOK; infer_instance
theorem dV_snoc (l : List UInt8) (b : UInt8) : dV (l ++ [b]) = 10 * dV l + (b.toNat - 48) := by
  unfold dV; rw [List.foldl_append]; rfl
theorem dV_take (l : List UInt8) (k : Nat) (h : k < l.length) : dV (l.take (k + 1)) = 10 * dV (l.take k) + (l[k].toNat - 48) := by
  rw [List.take_succ_eq_append_getElem h, dV_snoc]
theorem dV_step (l : List UInt8) (k : Nat) : dV (l.take k) ≤ dV (l.take (k + 1)) := by
  by_cases h : k < l.length
  · rw [dV_take l k h]; omega
  · rw [List.take_of_length_le (by omega), List.take_of_length_le (by omega)]; exact Nat.le_refl _
theorem dV_mono (l : List UInt8) (k : Nat) : ∀ n, dV (l.take k) ≤ dV (l.take (k + n))
  | 0 => Nat.le_refl _
  | n + 1 => Nat.le_trans (dV_mono l k n) (dV_step l (k + n))
theorem dV_take_le (l : List UInt8) (k : Nat) : dV (l.take k) ≤ dV l := by
  have := dV_mono l k l.length
  rwa [List.take_of_length_le (l := l) (i := k + l.length) (by omega)] at this
theorem dV_foldl : ∀ (l : List UInt8) (a : Nat), l.foldl (fun a b => 10 * a + (b.toNat - 48)) a = a * 10 ^ l.length + dV l
  | [], a => by simp [dV]
  | b :: r, a => by
    unfold dV
    rw [List.foldl_cons, List.foldl_cons, dV_foldl r, dV_foldl r (10 * 0 + (b.toNat - 48)), List.length_cons, Nat.pow_succ]
    have : (10 * a + (b.toNat - 48)) * 10 ^ r.length = a * (10 ^ r.length * 10) + (b.toNat - 48) * 10 ^ r.length := by
      rw [Nat.add_mul, Nat.mul_comm 10 a, Nat.mul_assoc, Nat.mul_comm 10 (10 ^ r.length)]
    rw [this]; simp only [Nat.mul_zero, Nat.zero_add]; omega
theorem dV_cons (b : UInt8) (r : List UInt8) : dV (b :: r) = (b.toNat - 48) * 10 ^ r.length + dV r := by
  have := dV_foldl r (b.toNat - 48)
  unfold dV
  rw [List.foldl_cons, Nat.mul_zero, Nat.zero_add]
  exact this
theorem dV_lt : ∀ (l : List UInt8), l.all dIs = true → dV l < 10 ^ l.length
  | [], _ => by simp [dV]
  | b :: r, h => by
    rw [List.all_cons, Bool.and_eq_true] at h
    have h1 := dIs_iff.mp h.1
    have h2 := dV_lt r h.2
    rw [dV_cons, List.length_cons, Nat.pow_succ]
    have : (b.toNat - 48) * 10 ^ r.length ≤ 9 * 10 ^ r.length := Nat.mul_le_mul_right _ (by omega)
    omega
theorem dV_ge (b : UInt8) (r : List UInt8) (h : 49 ≤ b.toNat) : 10 ^ r.length ≤ dV (b :: r) := by
  rw [dV_cons]
  have : 1 * 10 ^ r.length ≤ (b.toNat - 48) * 10 ^ r.length := Nat.mul_le_mul_right _ (by omega)
  omega
/-- Behind a 0 nothing stands: so the head of a longer one is not 0. -/
theorem DOK.head {b : UInt8} {r : List UInt8} (h : DOK (b :: r)) (hr : r ≠ []) : 49 ≤ b.toNat := by
  obtain ⟨_, h2, h3⟩ := h
  rw [List.all_cons, Bool.and_eq_true] at h2
  have h1 := dIs_iff.mp h2.1
  rcases Nat.lt_or_ge 48 b.toNat with h | h
  · exact h
  · have e : b = 48 := UInt8.toNat_inj.mp (by show b.toNat = 48; omega)
    subst e
    have := h3 rfl
    rw [List.length_cons] at this
    exact absurd (List.eq_nil_of_length_eq_zero (by omega)) hr
theorem less_val : ∀ (l m : List UInt8), l.all dIs = true → m.all dIs = true → l.length = m.length → Op.bytesLess l m = decide (dV l < dV m)
  | [], [], _, _, _ => rfl
  | [], _ :: _, _, _, h => by simp at h
  | _ :: _, [], _, _, h => by simp at h
  | a :: x, b :: y, h1, h2, hl => by
    rw [List.all_cons, Bool.and_eq_true] at h1 h2
    have ha := dIs_iff.mp h1.1
    have hb := dIs_iff.mp h2.1
    have hl' : x.length = y.length := by simpa using hl
    have ih := less_val x y h1.2 h2.2 hl'
    have hx := dV_lt x h1.2
    have hy := dV_lt y h2.2
    rw [hl'] at hx
    have e3 : (a == b) = decide (a.toNat = b.toNat) := by
      rw [Bool.eq_iff_iff, beq_iff_eq, decide_eq_true_iff, UInt8.toNat_inj]
    have e4 : (a < b) = (a.toNat < b.toNat) := propext UInt8.lt_iff_toNat_lt
    rw [dV_cons, dV_cons, hl']
    simp only [Op.bytesLess, ih, e3]
    simp only [e4]
    rcases Nat.lt_trichotomy a.toNat b.toNat with h | h | h
    · have : (a.toNat - 48 + 1) * 10 ^ y.length ≤ (b.toNat - 48) * 10 ^ y.length := Nat.mul_le_mul_right _ (by omega)
      rw [Nat.add_mul] at this
      rw [decide_eq_true h, decide_eq_true (show (a.toNat - 48) * 10 ^ y.length + dV x < (b.toNat - 48) * 10 ^ y.length + dV y by omega)]; rfl
    · rw [decide_eq_false (show ¬ a.toNat < b.toNat by omega), decide_eq_true h, h]
      simp
    · have : (b.toNat - 48 + 1) * 10 ^ y.length ≤ (a.toNat - 48) * 10 ^ y.length := Nat.mul_le_mul_right _ (by omega)
      rw [Nat.add_mul] at this
      rw [decide_eq_false (show ¬ a.toNat < b.toNat by omega), decide_eq_false (show ¬ a.toNat = b.toNat by omega), decide_eq_false (show ¬ (a.toNat - 48) * 10 ^ y.length + dV x < (b.toNat - 48) * 10 ^ y.length + dV y by omega)]; rfl
/-- A longer number's digits are a greater number's. -/
theorem long_val {l m : List UInt8} (hl : DOK l) (hm : DOK m) (h : m.length < l.length) : dV m < dV l := by
  have hm0 : 0 < m.length := List.length_pos_iff.mpr hm.1
  match l, hl with
  | [], hl => exact absurd rfl hl.1
  | b :: r, hl =>
    rw [List.length_cons] at h
    have hr : r ≠ [] := fun e => by subst e; rw [List.length_nil] at h; omega
    have h1 := dV_ge b r (hl.head hr)
    have h2 := dV_lt m hm.2.1
    have h3 : 10 ^ m.length ≤ 10 ^ r.length := Nat.pow_le_pow_right (by decide) (by omega)
    omega
/-- The digits of a number. -/
theorem d8 {n : Nat} (h : n < 10) : (UInt8.ofNat (48 + n)).toNat = 48 + n := by rw [UInt8.toNat_ofNat']; omega
theorem dec_small {u : Nat} (h : u < 10) : Lib.decDigits u = [UInt8.ofNat (48 + u)] := by rw [Lib.decDigits, dif_pos h]
theorem dec_big {u : Nat} (h : ¬ u < 10) : Lib.decDigits u = Lib.decDigits (u / 10) ++ [UInt8.ofNat (48 + u % 10)] := by rw [Lib.decDigits, dif_neg h]
theorem dec_ne (u : Nat) : Lib.decDigits u ≠ [] := by
  by_cases h : u < 10
  · rw [dec_small h]; simp
  · rw [dec_big h]; simp
theorem dec_all (u : Nat) : (Lib.decDigits u).all dIs = true := by
  induction u using Nat.strongRecOn with
  | ind u ih =>
    by_cases h : u < 10
    · rw [dec_small h, List.all_cons, List.all_nil, Bool.and_true, dIs_iff, d8 h]; omega
    · rw [dec_big h, List.all_append, ih _ (by omega), List.all_cons, List.all_nil, Bool.and_true, Bool.true_and, dIs_iff, d8 (by omega)]; omega
theorem dV_dec (u : Nat) : dV (Lib.decDigits u) = u := by
  induction u using Nat.strongRecOn with
  | ind u ih =>
    by_cases h : u < 10
    · rw [dec_small h]; show 10 * 0 + ((UInt8.ofNat (48 + u)).toNat - 48) = u; rw [d8 h]; omega
    · rw [dec_big h, dV_snoc, ih _ (by omega), d8 (by omega)]; omega
theorem dec_head (u : Nat) : (Lib.decDigits u).head? = some 48 → u = 0 := by
  induction u using Nat.strongRecOn with
  | ind u ih =>
    by_cases h : u < 10
    · rw [dec_small h]
      intro e
      have e1 : (UInt8.ofNat (48 + u)).toNat = 48 := by rw [List.head?_cons] at e; rw [Option.some.inj e]; rfl
      rw [d8 h] at e1; omega
    · rw [dec_big h, List.head?_append]
      intro e
      obtain ⟨b, r, hb⟩ := List.exists_cons_of_ne_nil (dec_ne (u / 10))
      have := ih (u / 10) (by omega)
      rw [hb] at this e
      have := this (by simpa using e)
      omega
theorem dok_dec (u : Nat) : DOK (Lib.decDigits u) := ⟨dec_ne u, dec_all u, fun h => by
  have := dec_head u h
  subst this
  rw [dec_small (by decide)]; rfl⟩
theorem dec_dV (l : List UInt8) (h : DOK l) : Lib.decDigits (dV l) = l := by
  generalize hn : l.length = n
  induction n generalizing l with
  | zero => exact absurd (List.eq_nil_of_length_eq_zero hn) h.1
  | succ n ih =>
    obtain ⟨r, b, rfl⟩ : ∃ r b, l = r ++ [b] := ⟨l.dropLast, l.getLast h.1, (List.dropLast_concat_getLast h.1).symm⟩
    have hr : r.length = n := by simpa using hn
    have hall := h.2.1
    rw [List.all_append, Bool.and_eq_true, List.all_cons, List.all_nil, Bool.and_true] at hall
    have hb := dIs_iff.mp hall.2
    have eb : UInt8.ofNat b.toNat = b := UInt8.ofNat_toNat
    rw [dV_snoc]
    by_cases h0 : r = []
    · subst h0
      rw [dec_small (by show 10 * 0 + _ < 10; omega)]
      show [UInt8.ofNat (48 + (10 * 0 + (b.toNat - 48)))] = [b]
      rw [show 48 + (10 * 0 + (b.toNat - 48)) = b.toNat by omega, eb]
    · obtain ⟨a, s, rfl⟩ := List.exists_cons_of_ne_nil h0
      have ha : 49 ≤ a.toNat := DOK.head (r := s ++ [b]) h (by simp)
      have hok : DOK (a :: s) := ⟨h0, hall.1, fun e => by
        rw [List.head?_cons] at e
        rw [Option.some.inj e] at ha
        exact absurd ha (by decide)⟩
      have hge := dV_ge a s ha
      have hp : 1 ≤ 10 ^ s.length := Nat.one_le_pow _ _ (by decide)
      rw [dec_big (by omega), show (10 * dV (a :: s) + (b.toNat - 48)) / 10 = dV (a :: s) by omega, ih _ hok hr, show (10 * dV (a :: s) + (b.toNat - 48)) % 10 = b.toNat - 48 by omega, show 48 + (b.toNat - 48) = b.toNat by omega, eb]

/-- One number's digits are a greater number than another one's: told by their lengths, and by their order as texts. -/
def dAbove (l m : List UInt8) : Bool := decide (m.length < l.length) || (decide (l.length = m.length) && (!Op.bytesLess l m && !(l == m)))
theorem above_val {l m : List UInt8} (hl : DOK l) (hm : DOK m) : dAbove l m = decide (dV m < dV l) := by
  unfold dAbove
  rcases Nat.lt_trichotomy m.length l.length with h | h | h
  · rw [decide_eq_true h, decide_eq_true (long_val hl hm h)]; rfl
  · have e : (l == m) = decide (dV l = dV m) := by
      rw [Bool.eq_iff_iff, beq_iff_eq, decide_eq_true_iff]
      exact ⟨fun e => by rw [e], fun e => by rw [← dec_dV l hl, ← dec_dV m hm, e]⟩
    rw [decide_eq_false (show ¬ m.length < l.length by omega), decide_eq_true h.symm, less_val l m hl.2.1 hm.2.1 h.symm, e]
    by_cases h1 : dV m < dV l
    · rw [decide_eq_true h1, decide_eq_false (show ¬ dV l < dV m by omega), decide_eq_false (show ¬ dV l = dV m by omega)]; rfl
    · rw [decide_eq_false h1]
      by_cases h2 : dV l < dV m
      · rw [decide_eq_true h2]; rfl
      · rw [decide_eq_true (show dV l = dV m by omega)]; simp
  · have := long_val hm hl h
    rw [decide_eq_false (show ¬ m.length < l.length by omega), decide_eq_false (show ¬ l.length = m.length by omega), decide_eq_false (show ¬ dV m < dV l by omega)]; rfl

/-- What a text is as a number from 0 on: the number and the code. -/
def uEnd (l : List UInt8) : Int × Int := if DOK l then (if dV l < 18446744073709551616 then ((dV l : Int), 0) else (0, 4)) else (0, 3)
/-- .. as a whole number: digits from a lowest worth on, a sign ahead. -/
def iEnd (l : List UInt8) : Int × Int := if DOK l then (if dV l ≤ 9223372036854775807 then ((dV l : Int), 0) else (0, 4)) else (0, 3)
def nEnd (l : List UInt8) : Int × Int := if DOK l then (if dV l ≤ 9223372036854775808 then (-(dV l : Int), 0) else (0, 4)) else (0, 3)
def sEnd (l : List UInt8) : Int × Int := if l.head? = some 45 then (if l.drop 1 = [48] then (0, 3) else nEnd (l.drop 1)) else iEnd l
theorem uEnd_dec {u : Nat} (h : u < 18446744073709551616) : uEnd (Lib.decDigits u) = ((u : Int), 0) := by
  unfold uEnd; rw [if_pos (dok_dec u), dV_dec, if_pos h]
theorem not45 {l : List UInt8} (h : l.all dIs = true) : l.head? ≠ some 45 := by
  intro e
  match l, h, e with
  | b :: r, h, e =>
    rw [List.all_cons, Bool.and_eq_true] at h
    have := dIs_iff.mp h.1
    rw [List.head?_cons] at e
    rw [Option.some.inj e] at this
    exact absurd this (by decide)
theorem sEnd_itoa {n : Int} (h0 : -9223372036854775808 ≤ n) (h1 : n ≤ 9223372036854775807) : sEnd (Lib.itoa n) = (n, 0) := by
  unfold sEnd Lib.itoa
  by_cases h : n < 0
  · rw [if_pos h, if_pos (show (45 :: Lib.decDigits n.natAbs).head? = some 45 from rfl)]
    show (if Lib.decDigits n.natAbs = [48] then ((0 : Int), (3 : Int)) else nEnd (Lib.decDigits n.natAbs)) = _
    rw [if_neg (fun e => by have := dV_dec n.natAbs; rw [e] at this; have : (0 : Nat) = n.natAbs := this; omega)]
    unfold nEnd
    rw [if_pos (dok_dec _), dV_dec, if_pos (by omega), show -(n.natAbs : Int) = n by omega]
  · rw [if_neg h, if_neg (not45 (dec_all _))]
    unfold iEnd
    rw [if_pos (dok_dec _), dV_dec, if_pos (by omega), show (n.toNat : Int) = n by omega]
theorem itoa_sEnd {l : List UInt8} {n : Int} (h : sEnd l = (n, 0)) : Lib.itoa n = l := by
  unfold sEnd at h
  by_cases h45 : l.head? = some 45
  · rw [if_pos h45] at h
    obtain ⟨r, rfl⟩ : ∃ r, l = 45 :: r := by
      match l, h45 with
      | b :: r, e => exact ⟨r, by rw [List.head?_cons] at e; rw [Option.some.inj e]⟩
    rw [List.drop_one, List.tail_cons] at h
    by_cases hz : r = [48]
    · rw [if_pos hz] at h; exact absurd (congrArg Prod.snd h) (by simp)
    · rw [if_neg hz] at h
      unfold nEnd at h
      by_cases hd : DOK r
      · rw [if_pos hd] at h
        by_cases hm : dV r ≤ 9223372036854775808
        · rw [if_pos hm] at h
          have e : -(dV r : Int) = n := congrArg Prod.fst h
          subst e
          have h1 : 1 ≤ dV r := by
            rcases Nat.eq_zero_or_pos (dV r) with h | h
            · have := dec_dV r hd
              rw [h, dec_small (by decide)] at this
              exact absurd this.symm hz
            · exact h
          unfold Lib.itoa
          rw [if_pos (by omega), show (-(dV r : Int)).natAbs = dV r by omega, dec_dV r hd]
        · rw [if_neg hm] at h; exact absurd (congrArg Prod.snd h) (by simp)
      · rw [if_neg hd] at h; exact absurd (congrArg Prod.snd h) (by simp)
  · rw [if_neg h45] at h
    unfold iEnd at h
    by_cases hd : DOK l
    · rw [if_pos hd] at h
      by_cases hm : dV l ≤ 9223372036854775807
      · rw [if_pos hm] at h
        have e : (dV l : Int) = n := congrArg Prod.fst h
        subst e
        unfold Lib.itoa
        rw [if_neg (by omega), show (dV l : Int).toNat = dV l by omega, dec_dV l hd]
      · rw [if_neg hm] at h; exact absurd (congrArg Prod.snd h) (by simp)
    · rw [if_neg hd] at h; exact absurd (congrArg Prod.snd h) (by simp)
/-- What is read is a number of its kind, and a code. -/
theorem sEnd_in (l : List UInt8) : -9223372036854775808 ≤ (sEnd l).1 ∧ (sEnd l).1 ≤ 9223372036854775807 := by
  unfold sEnd nEnd iEnd
  split
  · split
    · simp
    · split
      · split
        · dsimp only; omega
        · simp
      · simp
  · split
    · split
      · dsimp only; omega
      · simp
    · simp
theorem dec_len (u : Nat) (h : u < 18446744073709551616) : (Lib.decDigits u).length ≤ 20 := by
  rw [Lib.decDigits_length]; exact Lib.nDigits_le20 u h
theorem itoa_len (n : Int) (h0 : -9223372036854775808 ≤ n) (h1 : n ≤ 9223372036854775807) : (Lib.itoa n).length ≤ 21 := Lib.itoa_length_le n h0 h1
end Go.Proofs.YtemmeoikenbmgaaDoor
