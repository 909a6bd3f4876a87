/- Several texts in one (DNum, JnNum, JnPer, JnRd): each begins with its own words. -/
import Derived.Test.YtfighopfgllneaaGreatDoorZA
import GoSem.Op.String
import Derived.Lib.ItoaNum
import Derived.Lib.ItoaLen
import Derived.Test.YtfighopfgllneaaGreatDoorZB
import Derived.Test.YtfighopfgllneaaGreatDoorShelf
import Derived.WalkMore
import Derived.ScopeJumps
import Derived.Deep.Cut
import Derived.Lib.IndexAny
/- Plain facts, of no program: what digits to the base 10 are worth ('dV'), which texts are a number's digits ('DOK'), a number's digits are read as it, and what is read as a number is its digits. -/
namespace Go.Proofs.YtfighopfgllneaaGreatDoor
open Go Go.RowKit
set_option linter.unusedVariables false

/-- A digit. -/
def dIs (b : UInt8) : Bool := decide (48 ≤ b.toNat ∧ b.toNat ≤ 57)
theorem dIs_iff {b : UInt8} : dIs b = true ↔ 48 ≤ b.toNat ∧ b.toNat ≤ 57 := by unfold dIs; rw [decide_eq_true_iff]
/-- What digits are worth. -/
def dV (l : List UInt8) : Nat := l.foldl (fun a b => 10 * a + (b.toNat - 48)) 0
/-- A number's digits, from 0 on, however great. -/
def DOK (l : List UInt8) : Prop := l ≠ [] ∧ l.all dIs = true ∧ (l.head? = some 48 → l.length = 1)
instance (l : List UInt8) : Decidable (DOK l) := by unfold DOK; infer_instance
theorem dV_snoc (l : List UInt8) (b : UInt8) : dV (l ++ [b]) = 10 * dV l + (b.toNat - 48) := by
  unfold dV; rw [List.foldl_append]; rfl
theorem dV_take (l : List UInt8) (k : Nat) (h : k < l.length) : dV (l.take (k + 1)) = 10 * dV (l.take k) + (l[k].toNat - 48) := by
  rw [List.take_succ_eq_append_getElem h, dV_snoc]
theorem dV_step (l : List UInt8) (k : Nat) : dV (l.take k) ≤ dV (l.take (k + 1)) := by
  by_cases h : k < l.length
  · rw [dV_take l k h]; omega
  · rw [List.take_of_length_le (by omega), List.take_of_length_le (by omega)]; exact Nat.le_refl _
theorem dV_mono (l : List UInt8) (k : Nat) : ∀ n, dV (l.take k) ≤ dV (l.take (k + n))
  | 0 => Nat.le_refl _
  | n + 1 => Nat.le_trans (dV_mono l k n) (dV_step l (k + n))
theorem dV_take_le (l : List UInt8) (k : Nat) : dV (l.take k) ≤ dV l := by
  have := dV_mono l k l.length
  rwa [List.take_of_length_le (l := l) (i := k + l.length) (by omega)] at this
theorem dV_foldl : ∀ (l : List UInt8) (a : Nat), l.foldl (fun a b => 10 * a + (b.toNat - 48)) a = a * 10 ^ l.length + dV l
  | [], a => by simp [dV]
  | b :: r, a => by
    unfold dV
    rw [List.foldl_cons, List.foldl_cons, dV_foldl r, dV_foldl r (10 * 0 + (b.toNat - 48)), List.length_cons, Nat.pow_succ]
    have : (10 * a + (b.toNat - 48)) * 10 ^ r.length = a * (10 ^ r.length * 10) + (b.toNat - 48) * 10 ^ r.length := by
      rw [Nat.add_mul, Nat.mul_comm 10 a, Nat.mul_assoc, Nat.mul_comm 10 (10 ^ r.length)]
    rw [this]; simp only [Nat.mul_zero, Nat.zero_add]; omega
theorem dV_cons (b : UInt8) (r : List UInt8) : dV (b :: r) = (b.toNat - 48) * 10 ^ r.length + dV r := by
  have := dV_foldl r (b.toNat - 48)
  unfold dV
  rw [List.foldl_cons, Nat.mul_zero, Nat.zero_add]
  exact this
theorem dV_lt : ∀ (l : List UInt8), l.all dIs = true → dV l < 10 ^ l.length
  | [], _ => by simp [dV]
  | b :: r, h => by
    rw [List.all_cons, Bool.and_eq_true] at h
    have h1 := dIs_iff.mp h.1
    have h2 := dV_lt r h.2
    rw [dV_cons, List.length_cons, Nat.pow_succ]
    have : (b.toNat - 48) * 10 ^ r.length ≤ 9 * 10 ^ r.length := Nat.mul_le_mul_right _ (by omega)
    omega
theorem dV_ge (b : UInt8) (r : List UInt8) (h : 49 ≤ b.toNat) : 10 ^ r.length ≤ dV (b :: r) := by
  rw [dV_cons]
  have : 1 * 10 ^ r.length ≤ (b.toNat - 48) * 10 ^ r.length := Nat.mul_le_mul_right _ (by omega)
  omega
/-- Behind a 0 nothing stands: so the head of a longer one is not 0. -/
theorem DOK.head {b : UInt8} {r : List UInt8} (h : DOK (b :: r)) (hr : r ≠ []) : 49 ≤ b.toNat := by
  obtain ⟨_, h2, h3⟩ := h
  rw [List.all_cons, Bool.and_eq_true] at h2
  have h1 := dIs_iff.mp h2.1
  rcases Nat.lt_or_ge 48 b.toNat with h | h
  · exact h
  · have e : b = 48 := UInt8.toNat_inj.mp (by show b.toNat = 48; omega)
    subst e
    have := h3 rfl
    rw [List.length_cons] at this
    exact absurd (List.eq_nil_of_length_eq_zero (by omega)) hr
theorem less_val : ∀ (l m : List UInt8), l.all dIs = true → m.all dIs = true → l.length = m.length → Op.bytesLess l m = decide (dV l < dV m)
  | [], [], _, _, _ => rfl
  | [], _ :: _, _, _, h => by simp at h
  | _ :: _, [], _, _, h => by simp at h
  | a :: x, b :: y, h1, h2, hl => by
    rw [List.all_cons, Bool.and_eq_true] at h1 h2
    have ha := dIs_iff.mp h1.1
    have hb := dIs_iff.mp h2.1
    have hl' : x.length = y.length := by simpa using hl
    have ih := less_val x y h1.2 h2.2 hl'
    have hx := dV_lt x h1.2
    have hy := dV_lt y h2.2
    rw [hl'] at hx
    have e3 : (a == b) = decide (a.toNat = b.toNat) := by
      rw [Bool.eq_iff_iff, beq_iff_eq, decide_eq_true_iff, UInt8.toNat_inj]
    have e4 : (a < b) = (a.toNat < b.toNat) := propext UInt8.lt_iff_toNat_lt
    rw [dV_cons, dV_cons, hl']
    simp only [Op.bytesLess, ih, e3]
    simp only [e4]
    rcases Nat.lt_trichotomy a.toNat b.toNat with h | h | h
    · have : (a.toNat - 48 + 1) * 10 ^ y.length ≤ (b.toNat - 48) * 10 ^ y.length := Nat.mul_le_mul_right _ (by omega)
      rw [Nat.add_mul] at this
      rw [decide_eq_true h, decide_eq_true (show (a.toNat - 48) * 10 ^ y.length + dV x < (b.toNat - 48) * 10 ^ y.length + dV y by omega)]; rfl
    · rw [decide_eq_false (show ¬ a.toNat < b.toNat by omega), decide_eq_true h, h]
      simp
    · have : (b.toNat - 48 + 1) * 10 ^ y.length ≤ (a.toNat - 48) * 10 ^ y.length := Nat.mul_le_mul_right _ (by omega)
      rw [Nat.add_mul] at this
      rw [decide_eq_false (show ¬ a.toNat < b.toNat by omega), decide_eq_false (show ¬ a.toNat = b.toNat by omega), decide_eq_false (show ¬ (a.toNat - 48) * 10 ^ y.length + dV x < (b.toNat - 48) * 10 ^ y.length + dV y by omega)]; rfl
/-- A longer number's digits are a greater number's. -/
theorem long_val {l m : List UInt8} (hl : DOK l) (hm : DOK m) (h : m.length < l.length) : dV m < dV l := by
  have hm0 : 0 < m.length := List.length_pos_iff.mpr hm.1
  match l, hl with
  | [], hl => exact absurd rfl hl.1
  | b :: r, hl =>
    rw [List.length_cons] at h
    have hr : r ≠ [] := fun e => by subst e; rw [List.length_nil] at h; omega
    have h1 := dV_ge b r (hl.head hr)
    have h2 := dV_lt m hm.2.1
    have h3 : 10 ^ m.length ≤ 10 ^ r.length := Nat.pow_le_pow_right (by decide) (by omega)
    omega
/-- The digits of a number. -/
theorem d8 {n : Nat} (h : n < 10) : (UInt8.ofNat (48 + n)).toNat = 48 + n := by rw [UInt8.toNat_ofNat']; omega
theorem dec_small {u : Nat} (h : u < 10) : Lib.decDigits u = [UInt8.ofNat (48 + u)] := by rw [Lib.decDigits, dif_pos h]
theorem dec_big {u : Nat} (h : ¬ u < 10) : Lib.decDigits u = Lib.decDigits (u / 10) ++ [UInt8.ofNat (48 + u % 10)] := by rw [Lib.decDigits, dif_neg h]
theorem dec_ne (u : Nat) : Lib.decDigits u ≠ [] := by
  by_cases h : u < 10
  · rw [dec_small h]; simp
  · rw [dec_big h]; simp
theorem dec_all (u : Nat) : (Lib.decDigits u).all dIs = true := by
  induction u using Nat.strongRecOn with
  | ind u ih =>
    by_cases h : u < 10
    · rw [dec_small h, List.all_cons, List.all_nil, Bool.and_true, dIs_iff, d8 h]; omega
    · rw [dec_big h, List.all_append, ih _ (by omega), List.all_cons, List.all_nil, Bool.and_true, Bool.true_and, dIs_iff, d8 (by omega)]; omega
theorem dV_dec (u : Nat) : dV (Lib.decDigits u) = u := by
  induction u using Nat.strongRecOn with
  | ind u ih =>
    by_cases h : u < 10
    · rw [dec_small h]; show 10 * 0 + ((UInt8.ofNat (48 + u)).toNat - 48) = u; rw [d8 h]; omega
    · rw [dec_big h, dV_snoc, ih _ (by omega), d8 (by omega)]; omega
theorem dec_head (u : Nat) : (Lib.decDigits u).head? = some 48 → u = 0 := by
  induction u using Nat.strongRecOn with
  | ind u ih =>
    by_cases h : u < 10
    · rw [dec_small h]
      intro e
      have e1 : (UInt8.ofNat (48 + u)).toNat = 48 := by rw [List.head?_cons] at e; rw [Option.some.inj e]; rfl
      rw [d8 h] at e1; omega
    · rw [dec_big h, List.head?_append]
      intro e
      obtain ⟨b, r, hb⟩ := List.exists_cons_of_ne_nil (dec_ne (u / 10))
      have := ih (u / 10) (by omega)
      rw [hb] at this e
      have := this (by simpa using e)
      omega
theorem dok_dec (u : Nat) : DOK (Lib.decDigits u) := ⟨dec_ne u, dec_all u, fun h => by
  have := dec_head u h
  subst this
  rw [dec_small (by decide)]; rfl⟩
theorem dec_dV (l : List UInt8) (h : DOK l) : Lib.decDigits (dV l) = l := by
  generalize hn : l.length = n
  induction n generalizing l with
  | zero => exact absurd (List.eq_nil_of_length_eq_zero hn) h.1
  | succ n ih =>
    obtain ⟨r, b, rfl⟩ : ∃ r b, l = r ++ [b] := ⟨l.dropLast, l.getLast h.1, (List.dropLast_concat_getLast h.1).symm⟩
    have hr : r.length = n := by simpa using hn
    have hall := h.2.1
    rw [List.all_append, Bool.and_eq_true, List.all_cons, List.all_nil, Bool.and_true] at hall
    have hb := dIs_iff.mp hall.2
    have eb : UInt8.ofNat b.toNat = b := UInt8.ofNat_toNat
    rw [dV_snoc]
    by_cases h0 : r = []
    · subst h0
      rw [dec_small (by show 10 * 0 + _ < 10; omega)]
      show [UInt8.ofNat (48 + (10 * 0 + (b.toNat - 48)))] = [b]
      rw [show 48 + (10 * 0 + (b.toNat - 48)) = b.toNat by omega, eb]
    · obtain ⟨a, s, rfl⟩ := List.exists_cons_of_ne_nil h0
      have ha : 49 ≤ a.toNat := DOK.head (r := s ++ [b]) h (by simp)
      have hok : DOK (a :: s) := ⟨h0, hall.1, fun e => by
        rw [List.head?_cons] at e
        rw [Option.some.inj e] at ha
        exact absurd ha (by decide)⟩
      have hge := dV_ge a s ha
      have hp : 1 ≤ 10 ^ s.length := Nat.one_le_pow _ _ (by decide)
      rw [dec_big (by omega), show (10 * dV (a :: s) + (b.toNat - 48)) / 10 = dV (a :: s) by omega, ih _ hok hr, show (10 * dV (a :: s) + (b.toNat - 48)) % 10 = b.toNat - 48 by omega, show 48 + (b.toNat - 48) = b.toNat by omega, eb]

/-- One number's digits are a greater number than another one's: told by their lengths, and by their order as texts. -/
def dAbove (l m : List UInt8) : Bool := decide (m.length < l.length) || (decide (l.length = m.length) && (!Op.bytesLess l m && !(l == m)))
theorem above_val {l m : List UInt8} (hl : DOK l) (hm : DOK m) : dAbove l m = decide (dV m < dV l) := by
  unfold dAbove
  rcases Nat.lt_trichotomy m.length l.length with h | h | h
  · rw [decide_eq_true h, decide_eq_true (long_val hl hm h)]; rfl
  · have e : (l == m) = decide (dV l = dV m) := by
      rw [Bool.eq_iff_iff, beq_iff_eq, decide_eq_true_iff]
      exact ⟨fun e => by rw [e], fun e => by rw [← dec_dV l hl, ← dec_dV m hm, e]⟩
    rw [decide_eq_false (show ¬ m.length < l.length by omega), decide_eq_true h.symm, less_val l m hl.2.1 hm.2.1 h.symm, e]
    by_cases h1 : dV m < dV l
    · rw [decide_eq_true h1, decide_eq_false (show ¬ dV l < dV m by omega), decide_eq_false (show ¬ dV l = dV m by omega)]; rfl
    · rw [decide_eq_false h1]
      by_cases h2 : dV l < dV m
      · rw [decide_eq_true h2]; rfl
      · rw [decide_eq_true (show dV l = dV m by omega)]; simp
  · have := long_val hm hl h
    rw [decide_eq_false (show ¬ m.length < l.length by omega), decide_eq_false (show ¬ l.length = m.length by omega), decide_eq_false (show ¬ dV m < dV l by omega)]; rfl

/-- What a text is as a number from 0 on: the number and the code. -/
def uEnd (l : List UInt8) : Int × Int := if DOK l then (if dV l < 18446744073709551616 then ((dV l : Int), 0) else (0, 4)) else (0, 3)
/-- .. as a whole number: digits from a lowest worth on, a sign ahead. -/
def iEnd (l : List UInt8) : Int × Int := if DOK l then (if dV l ≤ 9223372036854775807 then ((dV l : Int), 0) else (0, 4)) else (0, 3)
def nEnd (l : List UInt8) : Int × Int := if DOK l then (if dV l ≤ 9223372036854775808 then (-(dV l : Int), 0) else (0, 4)) else (0, 3)
def sEnd (l : List UInt8) : Int × Int := if l.head? = some 45 then (if l.drop 1 = [48] then (0, 3) else nEnd (l.drop 1)) else iEnd l
theorem uEnd_dec {u : Nat} (h : u < 18446744073709551616) : uEnd (Lib.decDigits u) = ((u : Int), 0) := by
  unfold uEnd; rw [if_pos (dok_dec u), dV_dec, if_pos h]
theorem not45 {l : List UInt8} (h : l.all dIs = true) : l.head? ≠ some 45 := by
  intro e
  match l, h, e with
  | b :: r, h, e =>
    rw [List.all_cons, Bool.and_eq_true] at h
    have := dIs_iff.mp h.1
    rw [List.head?_cons] at e
    rw [Option.some.inj e] at this
    exact absurd this (by decide)
theorem sEnd_itoa {n : Int} (h0 : -9223372036854775808 ≤ n) (h1 : n ≤ 9223372036854775807) : sEnd (Lib.itoa n) = (n, 0) := by
  unfold sEnd Lib.itoa
  by_cases h : n < 0
  · rw [if_pos h, if_pos (show (45 :: Lib.decDigits n.natAbs).head? = some 45 from rfl)]
    show (if Lib.decDigits n.natAbs = [48] then ((0 : Int), (3 : Int)) else nEnd (Lib.decDigits n.natAbs)) = _
    rw [if_neg (fun e => by have := dV_dec n.natAbs; rw [e] at this; have : (0 : Nat) = n.natAbs := this; omega)]
    unfold nEnd
    rw [if_pos (dok_dec _), dV_dec, if_pos (by omega), show -(n.natAbs : Int) = n by omega]
  · rw [if_neg h, if_neg (not45 (dec_all _))]
    unfold iEnd
    rw [if_pos (dok_dec _), dV_dec, if_pos (by omega), show (n.toNat : Int) = n by omega]
theorem itoa_sEnd {l : List UInt8} {n : Int} (h : sEnd l = (n, 0)) : Lib.itoa n = l := by
  unfold sEnd at h
  by_cases h45 : l.head? = some 45
  · rw [if_pos h45] at h
    obtain ⟨r, rfl⟩ : ∃ r, l = 45 :: r := by
      match l, h45 with
      | b :: r, e => exact ⟨r, by rw [List.head?_cons] at e; rw [Option.some.inj e]⟩
    rw [List.drop_one, List.tail_cons] at h
    by_cases hz : r = [48]
    · rw [if_pos hz] at h; exact absurd (congrArg Prod.snd h) (by simp)
    · rw [if_neg hz] at h
      unfold nEnd at h
      by_cases hd : DOK r
      · rw [if_pos hd] at h
        by_cases hm : dV r ≤ 9223372036854775808
        · rw [if_pos hm] at h
          have e : -(dV r : Int) = n := congrArg Prod.fst h
          subst e
          have h1 : 1 ≤ dV r := by
            rcases Nat.eq_zero_or_pos (dV r) with h | h
            · have := dec_dV r hd
              rw [h, dec_small (by decide)] at this
              exact absurd this.symm hz
            · exact h
          unfold Lib.itoa
          rw [if_pos (by omega), show (-(dV r : Int)).natAbs = dV r by omega, dec_dV r hd]
        · rw [if_neg hm] at h; exact absurd (congrArg Prod.snd h) (by simp)
      · rw [if_neg hd] at h; exact absurd (congrArg Prod.snd h) (by simp)
  · rw [if_neg h45] at h
    unfold iEnd at h
    by_cases hd : DOK l
    · rw [if_pos hd] at h
      by_cases hm : dV l ≤ 9223372036854775807
      · rw [if_pos hm] at h
        have e : (dV l : Int) = n := congrArg Prod.fst h
        subst e
        unfold Lib.itoa
        rw [if_neg (by omega), show (dV l : Int).toNat = dV l by omega, dec_dV l hd]
      · rw [if_neg hm] at h; exact absurd (congrArg Prod.snd h) (by simp)
    · rw [if_neg hd] at h; exact absurd (congrArg Prod.snd h) (by simp)
/-- What is read is a number of its kind, and a code. -/
theorem sEnd_in (l : List UInt8) : -9223372036854775808 ≤ (sEnd l).1 ∧ (sEnd l).1 ≤ 9223372036854775807 := by
  unfold sEnd nEnd iEnd
  split
  · split
    · simp
    · split
      · split
        · dsimp only; omega
        · simp
      · simp
  · split
    · split
      · dsimp only; omega
      · simp
    · simp
theorem dec_len (u : Nat) (h : u < 18446744073709551616) : (Lib.decDigits u).length ≤ 20 := by
  rw [Lib.decDigits_length]; exact Lib.nDigits_le20 u h
theorem itoa_len (n : Int) (h0 : -9223372036854775808 ≤ n) (h1 : n ≤ 9223372036854775807) : (Lib.itoa n).length ≤ 21 := Lib.itoa_length_le n h0 h1
end Go.Proofs.YtfighopfgllneaaGreatDoor
/- Numbers' texts of JSON over bytes: how many bytes each part has ('dL', 'pL', 'iL', 'fL', 'xL'), what is wrong first ('nCode'), the parts of a text that is a number's ('NForm'). Of no program. -/
namespace Go.Proofs.YtfighopfgllneaaGreatDoor
open Go Go.RowKit
set_option linter.unusedVariables false

/-- How many digits stand ahead; what is wrong where one has to. -/
def dL (l : List UInt8) : Nat := (l.takeWhile dIs).length
def dE (l : List UInt8) : Int := if dL l = 0 then (if l = [] then 1 else 3) else 0
/-- How many bytes (one or none) stand ahead that are one of these. -/
def pL (ts : List UInt8) : List UInt8 → Nat
  | [] => 0
  | x :: _ => if ts.contains x = true then 1 else 0
theorem pL_at (ts : List UInt8) (x : UInt8) (t : List UInt8) : pL ts (x :: t) = if ts.contains x = true then 1 else 0 := rfl
theorem pL_le (ts l : List UInt8) : pL ts l ≤ 1 := by
  match l with
  | [] => exact Nat.zero_le _
  | x :: t => rw [pL_at]; split <;> omega
theorem pL_len (ts l : List UInt8) : pL ts l ≤ l.length := by
  match l with
  | [] => exact Nat.le_refl _
  | x :: t => rw [pL_at, List.length_cons]; split <;> omega
theorem pL_one {ts l : List UInt8} (h : pL ts l = 1) : ∃ x t, l = x :: t ∧ ts.contains x = true := by
  match l, h with
  | x :: t, h =>
    rw [pL_at] at h
    by_cases hx : ts.contains x = true
    · exact ⟨x, t, rfl, hx⟩
    · rw [if_neg hx] at h; omega
theorem pL_cons {ts : List UInt8} {x : UInt8} (t : List UInt8) (h : ts.contains x = true) : pL ts (x :: t) = 1 := by rw [pL_at, if_pos h]
theorem pL_other {ts : List UInt8} {x : UInt8} (t : List UInt8) (h : ¬ ts.contains x = true) : pL ts (x :: t) = 0 := by rw [pL_at, if_neg h]
theorem dL_len (l : List UInt8) : dL l ≤ l.length := (List.takeWhile_prefix dIs).length_le
theorem take_dL (l : List UInt8) : l.take (dL l) = l.takeWhile dIs := (List.prefix_iff_eq_take.1 (List.takeWhile_prefix dIs)).symm
theorem take_dL_all (l : List UInt8) : (l.take (dL l)).all dIs = true := by rw [take_dL]; exact List.all_takeWhile
/-- No digit stands ahead. -/
def nd (R : List UInt8) : Prop := ∀ x t, R = x :: t → dIs x = false
theorem nd_nil : nd [] := fun x t h => by cases h
theorem dL_app {D R : List UInt8} (h : D.all dIs = true) (hr : nd R) : dL (D ++ R) = D.length := by
  have h1 : R.takeWhile dIs = [] := by
    match R, hr with
    | [], _ => rfl
    | x :: t, hr => rw [List.takeWhile_cons, hr x t rfl]; rfl
  unfold dL
  rw [List.takeWhile_append_of_pos (fun a ha => List.all_eq_true.mp h a ha), h1, List.append_nil]
theorem dE_zero {l : List UInt8} (h : dE l = 0) : dL l ≠ 0 := by
  unfold dE at h
  by_cases h0 : dL l = 0
  · rw [if_pos h0] at h; split at h <;> omega
  · exact h0
theorem dE_ok {l : List UInt8} (h : dL l ≠ 0) : dE l = 0 := by unfold dE; rw [if_neg h]
theorem dE_bad {l : List UInt8} (h : dE l ≠ 0) : dL l = 0 := by
  unfold dE at h
  by_cases h0 : dL l = 0
  · exact h0
  · rw [if_neg h0] at h; exact absurd rfl h

/-- The whole digits, the dot and those behind it, e and what is behind it: how many bytes, and what is wrong. -/
def iL (r : List UInt8) : Nat := if pL [48] r = 1 then 1 else dL r
def iE (r : List UInt8) : Int := if pL [48] r = 1 then 0 else dE r
def fL (r : List UInt8) : Nat := if pL [46] r = 1 then 1 + dL (r.drop 1) else 0
def fE (r : List UInt8) : Int := if pL [46] r = 1 then dE (r.drop 1) else 0
def xS (r : List UInt8) : Nat := 1 + pL [43, 45] (r.drop 1)
def xL (r : List UInt8) : Nat := if pL [101, 69] r = 1 then xS r + dL (r.drop (xS r)) else 0
def xE (r : List UInt8) : Int := if pL [101, 69] r = 1 then dE (r.drop (xS r)) else 0
def nA (l : List UInt8) : Nat := pL [45] l
def nB (l : List UInt8) : Nat := nA l + iL (l.drop (nA l))
def nC (l : List UInt8) : Nat := nB l + fL (l.drop (nB l))
def nE (l : List UInt8) : Nat := nC l + xL (l.drop (nC l))
def eB (l : List UInt8) : Int := iE (l.drop (nA l))
def eC (l : List UInt8) : Int := if eB l = 0 then fE (l.drop (nB l)) else eB l
def nCode (l : List UInt8) : Int := if eC l = 0 then xE (l.drop (nC l)) else eC l
def wW (l : List UInt8) : List UInt8 := (l.drop (nA l)).take (iL (l.drop (nA l)))
def wB (l : List UInt8) : List UInt8 := ((l.drop (nB l)).drop 1).take (fL (l.drop (nB l)) - 1)
def wP (l : List UInt8) : List UInt8 := ((l.drop (nC l)).drop 1).take (xL (l.drop (nC l)) - 1)

theorem one_len {ts r : List UInt8} (h : pL ts r = 1) : 1 ≤ r.length := by have := pL_len ts r; omega
theorem iL_len (r : List UInt8) : iL r ≤ r.length := by
  unfold iL
  split
  · rename_i h; exact one_len h
  · exact dL_len r
theorem fL_len (r : List UInt8) : fL r ≤ r.length := by
  unfold fL
  split
  · rename_i h
    have := one_len h
    have := dL_len (r.drop 1)
    rw [List.length_drop] at this; omega
  · exact Nat.zero_le _
theorem xS_len {r : List UInt8} (h : pL [101, 69] r = 1) : xS r ≤ r.length := by
  have := one_len h
  have := pL_len [43, 45] (r.drop 1)
  rw [List.length_drop] at this
  unfold xS; omega
theorem xL_len (r : List UInt8) : xL r ≤ r.length := by
  unfold xL
  split
  · rename_i h
    have := xS_len h
    have := dL_len (r.drop (xS r))
    rw [List.length_drop] at this; omega
  · exact Nat.zero_le _
theorem nA_len (l : List UInt8) : nA l ≤ l.length := pL_len _ _
theorem nB_len (l : List UInt8) : nB l ≤ l.length := by
  have h1 := nA_len l
  have h2 := iL_len (l.drop (nA l))
  rw [List.length_drop] at h2
  unfold nB; omega
theorem nC_len (l : List UInt8) : nC l ≤ l.length := by
  have h1 := nB_len l
  have h2 := fL_len (l.drop (nB l))
  rw [List.length_drop] at h2
  unfold nC; omega
theorem nE_len (l : List UInt8) : nE l ≤ l.length := by
  have h1 := nC_len l
  have h2 := xL_len (l.drop (nC l))
  rw [List.length_drop] at h2
  unfold nE; omega

/-- A number's text, and its parts. -/
structure NForm (L sg W F B X P : List UInt8) : Prop where
  eq : L = sg ++ (W ++ (F ++ X))
  sign : sg = [] ∨ sg = [45]
  digs : W.all dIs = true
  lead : W = [48] ∨ ∃ x t, W = x :: t ∧ x ≠ 48
  frac : (F = [] ∧ B = []) ∨ (F = 46 :: B ∧ B ≠ [] ∧ B.all dIs = true)
  expo : (X = [] ∧ P = []) ∨ ∃ e s D, (e = 101 ∨ e = 69) ∧ X = e :: P ∧ P = s ++ D ∧ (s = [] ∨ s = [43] ∨ s = [45]) ∧ D ≠ [] ∧ D.all dIs = true

theorem not_digit (b : UInt8) (h : b = 43 ∨ b = 45 ∨ b = 46 ∨ b = 101 ∨ b = 69) : dIs b = false := by
  rcases h with h | h | h | h | h <;> (subst h; decide)
theorem digit_ne {x : UInt8} (h : dIs x = true) (ts : List UInt8) (ht : ∀ t ∈ ts, t = 43 ∨ t = 45 ∨ t = 46 ∨ t = 101 ∨ t = 69) : ts.contains x = false := by
  rw [Bool.eq_false_iff]
  intro hc
  have := not_digit x (ht x (List.contains_iff_mem.mp hc))
  rw [h] at this; exact absurd this (by decide)
theorem contains_one {x y : UInt8} (h : [y].contains x = true) : x = y := by simpa using h
theorem contains_two {x y z : UInt8} (h : [y, z].contains x = true) : x = y ∨ x = z := by simpa using h
theorem head_of {D : List UInt8} (h : D ≠ []) (ha : D.all dIs = true) : ∃ x t, D = x :: t ∧ dIs x = true := by
  obtain ⟨x, t, rfl⟩ := List.exists_cons_of_ne_nil h
  exact ⟨x, t, rfl, List.all_eq_true.mp ha x List.mem_cons_self⟩

theorem int_parts {r : List UInt8} (h : iE r = 0) : (r.take (iL r)).all dIs = true ∧ (r.take (iL r) = [48] ∨ ∃ x t, r.take (iL r) = x :: t ∧ x ≠ 48) := by
  unfold iE at h
  unfold iL
  by_cases h1 : pL [48] r = 1
  · rw [if_pos h1]
    obtain ⟨x, t, rfl, hx⟩ := pL_one h1
    obtain rfl := contains_one hx
    exact ⟨rfl, .inl rfl⟩
  · rw [if_neg h1] at h
    rw [if_neg h1]
    have h0 := dE_zero h
    refine ⟨take_dL_all r, .inr ?_⟩
    match r, h0, h1 with
    | [], h0, _ => exact absurd rfl h0
    | x :: t, h0, h1 =>
      obtain ⟨k, hk⟩ : ∃ k, dL (x :: t) = k + 1 := ⟨dL (x :: t) - 1, by omega⟩
      rw [hk]
      exact ⟨x, t.take k, rfl, fun e => h1 (pL_cons t (by rw [e]; rfl))⟩
theorem frac_parts {r : List UInt8} (h : fE r = 0) : (r.take (fL r) = [] ∧ (r.drop 1).take (fL r - 1) = []) ∨ (r.take (fL r) = 46 :: (r.drop 1).take (fL r - 1) ∧ (r.drop 1).take (fL r - 1) ≠ [] ∧ ((r.drop 1).take (fL r - 1)).all dIs = true) := by
  unfold fE at h
  unfold fL
  by_cases h1 : pL [46] r = 1
  · rw [if_pos h1] at h
    rw [if_pos h1]
    obtain ⟨x, t, rfl, hx⟩ := pL_one h1
    obtain rfl := contains_one hx
    have h0 := dE_zero h
    rw [List.drop_one, List.tail_cons] at h0 ⊢
    rw [Nat.add_comm 1, Nat.add_sub_cancel]
    refine .inr ⟨rfl, fun e => ?_, take_dL_all t⟩
    have := congrArg List.length e
    rw [List.length_take, List.length_nil] at this
    have := dL_len t
    omega
  · rw [if_neg h1]; exact .inl ⟨rfl, rfl⟩
theorem exp_parts {r : List UInt8} (h : xE r = 0) : (r.take (xL r) = [] ∧ (r.drop 1).take (xL r - 1) = []) ∨ ∃ e s D, (e = (101 : UInt8) ∨ e = 69) ∧ r.take (xL r) = e :: (r.drop 1).take (xL r - 1) ∧ (r.drop 1).take (xL r - 1) = s ++ D ∧ (s = [] ∨ s = [(43 : UInt8)] ∨ s = [45]) ∧ D ≠ [] ∧ D.all dIs = true := by
  unfold xE at h
  unfold xL
  by_cases h1 : pL [101, 69] r = 1
  · rw [if_pos h1] at h
    rw [if_pos h1]
    obtain ⟨x, t, rfl, hx⟩ := pL_one h1
    have h0 := dE_zero h
    have hS : xS (x :: t) = 1 + pL [43, 45] t := rfl
    rw [hS] at h0 ⊢
    have hd : (x :: t).drop (1 + pL [43, 45] t) = t.drop (pL [43, 45] t) := by rw [Nat.add_comm]; rfl
    rw [hd] at h0 ⊢
    have e1 : 1 + pL [43, 45] t + dL (t.drop (pL [43, 45] t)) - 1 = pL [43, 45] t + dL (t.drop (pL [43, 45] t)) := by omega
    have e2 : 1 + pL [43, 45] t + dL (t.drop (pL [43, 45] t)) = (pL [43, 45] t + dL (t.drop (pL [43, 45] t))) + 1 := by omega
    rw [e1, e2, List.drop_one, List.tail_cons, List.take_succ_cons]
    refine .inr ⟨x, t.take (pL [43, 45] t), (t.drop (pL [43, 45] t)).take (dL (t.drop (pL [43, 45] t))), contains_two hx, rfl, List.take_add, ?_, fun e => ?_, take_dL_all _⟩
    · have := pL_le [43, 45] t
      rcases Nat.lt_or_ge (pL [43, 45] t) 1 with h2 | h2
      · rw [show pL [43, 45] t = 0 by omega]; exact .inl rfl
      · obtain ⟨y, u, rfl, hy⟩ := pL_one (show pL [43, 45] t = 1 by omega)
        rw [pL_cons u hy]
        rcases contains_two hy with rfl | rfl
        · exact .inr (.inl rfl)
        · exact .inr (.inr rfl)
    · have := congrArg List.length e
      rw [List.length_take, List.length_nil] at this
      have := dL_len (t.drop (pL [43, 45] t))
      omega
  · rw [if_neg h1]; exact .inl ⟨rfl, rfl⟩
theorem codes {l : List UInt8} (h : nCode l = 0) : eB l = 0 ∧ eC l = 0 ∧ iE (l.drop (nA l)) = 0 ∧ fE (l.drop (nB l)) = 0 ∧ xE (l.drop (nC l)) = 0 := by
  unfold nCode at h
  by_cases h1 : eC l = 0
  · rw [if_pos h1] at h
    have h2 := h1
    unfold eC at h2
    by_cases h3 : eB l = 0
    · rw [if_pos h3] at h2; exact ⟨h3, h1, h3, h2, h⟩
    · rw [if_neg h3] at h2; exact absurd h2 h3
  · rw [if_neg h1] at h; exact absurd h h1
theorem take_parts (l : List UInt8) : l.take (nE l) = l.take (nA l) ++ (wW l ++ ((l.drop (nB l)).take (fL (l.drop (nB l))) ++ (l.drop (nC l)).take (xL (l.drop (nC l))))) := by
  have h1 : l.take (nE l) = l.take (nC l) ++ (l.drop (nC l)).take (xL (l.drop (nC l))) := List.take_add
  have h2 : l.take (nC l) = l.take (nB l) ++ (l.drop (nB l)).take (fL (l.drop (nB l))) := List.take_add
  have h3 : l.take (nB l) = l.take (nA l) ++ wW l := List.take_add
  rw [h1, h2, h3, List.append_assoc, List.append_assoc]
theorem form_of {l : List UInt8} (h : nCode l = 0) (hl : nE l = l.length) : NForm l (l.take (nA l)) (wW l) ((l.drop (nB l)).take (fL (l.drop (nB l)))) (wB l) ((l.drop (nC l)).take (xL (l.drop (nC l)))) (wP l) := by
  obtain ⟨_, _, h1, h2, h3⟩ := codes h
  refine ⟨?_, ?_, (int_parts h1).1, (int_parts h1).2, frac_parts h2, exp_parts h3⟩
  · rw [← take_parts, hl, List.take_length]
  · have := pL_le [45] l
    rcases Nat.lt_or_ge (pL [45] l) 1 with h4 | h4
    · rw [show nA l = 0 from (by unfold nA; omega)]; exact .inl rfl
    · obtain ⟨x, t, rfl, hx⟩ := pL_one (show pL [45] l = 1 by omega)
      obtain rfl := contains_one hx
      exact .inr rfl

theorem int_to {W R : List UInt8} (hd : W.all dIs = true) (hl : W = [48] ∨ ∃ x t, W = x :: t ∧ x ≠ 48) (hR : nd R) : iL (W ++ R) = W.length ∧ iE (W ++ R) = 0 := by
  rcases hl with rfl | ⟨x, t, rfl, hx⟩
  · have : pL [48] ([48] ++ R) = 1 := rfl
    unfold iL iE
    rw [if_pos this, if_pos this]; exact ⟨rfl, rfl⟩
  · have h1 : ¬ pL [48] (x :: t ++ R) = 1 := by
      rw [List.cons_append, pL_other _ (fun h => hx (contains_one h))]; omega
    unfold iL iE
    rw [if_neg h1, if_neg h1]
    have h2 := dL_app hd hR
    exact ⟨h2, dE_ok (by rw [h2, List.length_cons]; omega)⟩
theorem frac_to {F B R : List UInt8} (h : (F = [] ∧ B = []) ∨ (F = 46 :: B ∧ B ≠ [] ∧ B.all dIs = true)) (hR : nd R) (h46 : pL [46] R = 0) : fL (F ++ R) = F.length ∧ fE (F ++ R) = 0 ∧ ((F ++ R).drop 1).take (fL (F ++ R) - 1) = B := by
  rcases h with ⟨rfl, rfl⟩ | ⟨rfl, h1, h2⟩
  · have h3 : ¬ pL [46] R = 1 := by omega
    have h4 : fL R = 0 := by unfold fL; rw [if_neg h3]
    rw [List.nil_append, h4]
    exact ⟨rfl, by unfold fE; rw [if_neg h3], rfl⟩
  · have h3 : pL [46] (46 :: B ++ R) = 1 := rfl
    have h5 := dL_app h2 hR
    have h4 : fL (46 :: B ++ R) = B.length + 1 := by
      unfold fL; rw [if_pos h3]
      show 1 + dL (B ++ R) = _
      rw [h5, Nat.add_comm]
    refine ⟨h4, ?_, ?_⟩
    · unfold fE; rw [if_pos h3]
      exact dE_ok (by show dL (B ++ R) ≠ 0; rw [h5]; exact fun e => h1 (List.eq_nil_of_length_eq_zero e))
    · rw [h4, Nat.add_sub_cancel]
      show (B ++ R).take B.length = B
      rw [List.take_left']; rfl
theorem exp_to {X P : List UInt8} (h : (X = [] ∧ P = []) ∨ ∃ e s D, (e = (101 : UInt8) ∨ e = 69) ∧ X = e :: P ∧ P = s ++ D ∧ (s = [] ∨ s = [(43 : UInt8)] ∨ s = [45]) ∧ D ≠ [] ∧ D.all dIs = true) : xL X = X.length ∧ xE X = 0 ∧ (X.drop 1).take (xL X - 1) = P ∧ nd X ∧ pL [46] X = 0 := by
  rcases h with ⟨rfl, rfl⟩ | ⟨e, s, D, he, rfl, rfl, hs, hD, hd⟩
  · exact ⟨rfl, rfl, rfl, nd_nil, rfl⟩
  · have h1 : pL [101, 69] (e :: (s ++ D)) = 1 := pL_cons _ (by rcases he with rfl | rfl <;> rfl)
    have h5 : dL D = D.length := by have := dL_app hd nd_nil; rwa [List.append_nil] at this
    obtain ⟨x, t, hx, hx2⟩ := head_of hD hd
    have h2 : pL [43, 45] (s ++ D) = s.length := by
      rcases hs with rfl | rfl | rfl
      · rw [List.nil_append, hx, pL_other _ (by rw [digit_ne hx2 _ (by simp)]; decide)]; rfl
      · rfl
      · rfl
    have h3 : xS (e :: (s ++ D)) = s.length + 1 := by
      unfold xS; show 1 + pL [43, 45] (s ++ D) = _; rw [h2, Nat.add_comm]
    have h6 : (e :: (s ++ D)).drop (xS (e :: (s ++ D))) = D := by
      rw [h3, List.drop_succ_cons, List.drop_left']; rfl
    have h4 : xL (e :: (s ++ D)) = (s ++ D).length + 1 := by
      unfold xL; rw [if_pos h1, h6, h5, h3, List.length_append]; omega
    refine ⟨h4, ?_, ?_, ?_, ?_⟩
    · unfold xE; rw [if_pos h1, h6]
      exact dE_ok (by rw [h5]; exact fun e => hD (List.eq_nil_of_length_eq_zero e))
    · rw [h4, Nat.add_sub_cancel]
      show (s ++ D).take (s ++ D).length = _
      rw [List.take_length]
    · intro y u hy
      rw [← (List.cons.inj hy).1]
      rcases he with rfl | rfl <;> decide
    · exact pL_other _ (by rcases he with rfl | rfl <;> decide)
theorem form_to {L sg W F B X P : List UInt8} (h : NForm L sg W F B X P) : nCode L = 0 ∧ nE L = L.length ∧ L.take (nA L) = sg ∧ wW L = W ∧ wB L = B ∧ wP L = P ∧ L.drop (nA L) = W ++ (F ++ X) ∧ nA L = sg.length := by
  obtain ⟨h1, h2, h3, h4, h5, h6⟩ := h
  obtain ⟨x1, x2, x3, x4, x5⟩ := exp_to h6
  obtain ⟨f1, f2, f3⟩ := frac_to h5 x4 x5
  have hnd : nd (F ++ X) := by
    rcases h5 with ⟨rfl, rfl⟩ | ⟨rfl, _, _⟩
    · exact x4
    · intro y u hy
      rw [← (List.cons.inj hy).1]; decide
  obtain ⟨i1, i2⟩ := int_to h3 h4 hnd
  have a1 : nA L = sg.length := by
    subst h1
    rcases h2 with rfl | rfl
    · have hW : ∃ x t, W = x :: t ∧ dIs x = true := head_of (by rcases h4 with rfl | ⟨x, t, rfl, _⟩ <;> simp) h3
      obtain ⟨x, t, rfl, hx⟩ := hW
      exact pL_other _ (by rw [digit_ne hx _ (by simp)]; decide)
    · rfl
  have a2 : L.drop (nA L) = W ++ (F ++ X) := by rw [a1, h1, List.drop_left']; rfl
  have b1 : nB L = sg.length + W.length := by unfold nB; rw [a2, i1, a1]
  have b2 : L.drop (nB L) = F ++ X := by
    rw [b1, ← List.drop_drop, ← a1, a2, List.drop_left']; rfl
  have c1 : nC L = sg.length + W.length + F.length := by unfold nC; rw [b2, f1, b1]
  have c2 : L.drop (nC L) = X := by
    rw [c1, ← List.drop_drop, ← b1, b2, List.drop_left']; rfl
  have e1 : eB L = 0 := by unfold eB; rw [a2]; exact i2
  have e2 : eC L = 0 := by unfold eC; rw [if_pos e1, b2]; exact f2
  refine ⟨?_, ?_, ?_, ?_, ?_, ?_, a2, a1⟩
  · unfold nCode; rw [if_pos e2, c2]; exact x2
  · unfold nE; rw [c2, x1, c1, h1]; simp only [List.length_append]; omega
  · rw [a1, h1, List.take_left']; rfl
  · unfold wW; rw [a2, i1, List.take_left']; rfl
  · unfold wB; rw [b2]; exact f3
  · unfold wP; rw [c2]; exact x3
end Go.Proofs.YtfighopfgllneaaGreatDoor
/- Package jnum's perhaps, lacks, digits. -/
namespace Go.Proofs.YtfighopfgllneaaGreatDoor
open Go Go.RowKit
set_option linter.unusedVariables false

theorem CS.cut_bs {c : CS} (h : c.ok) {k : Nat} (hk : k ≤ c.bs.length) : c.s.extract c.at_ (c.at_ + k) = bA (c.bs.take k) := by
  have hl := CS.bs_length h
  apply ByteArray.ext
  apply Array.toList_inj.mp
  rw [ext_toList, Nat.add_sub_cancel_left]
  show _ = c.bs.take k
  unfold CS.bs
  rw [List.drop_take, List.take_take, Nat.min_eq_left (by omega)]
theorem Bts.shape {t : TypeId} {w : World} {B : Nat} {v : Value} {l : List UInt8} (h : Bts t w B v l) : ∃ ad cp, v = .slice ad l.length cp := by
  rcases h.2 with ⟨h1, h2⟩ | ⟨g, cap, cur, h1, _⟩
  · exact ⟨none, 0, by rw [h1, h2]⟩
  · exact ⟨_, cap, h1⟩
/-- How many bytes (one or none) of a cursor are passed, if the next one is one of these. -/
def CS.pk (c : CS) (ts : List UInt8) : Nat := if c.er = 0 then pL ts c.bs else 0
/-- How many digits; what is wrong. -/
def CS.dk (c : CS) : Nat := if c.er = 0 then dL c.bs else 0
def CS.de (c : CS) : Int := if c.er = 0 then dE c.bs else c.er
theorem CS.pk_le (c : CS) (ts : List UInt8) : c.pk ts ≤ c.bs.length := by
  unfold CS.pk; split
  · exact pL_len _ _
  · exact Nat.zero_le _
theorem CS.pk_one (c : CS) (ts : List UInt8) : c.pk ts ≤ 1 := by
  unfold CS.pk; split
  · exact pL_le _ _
  · exact Nat.zero_le _
theorem CS.dk_le (c : CS) : c.dk ≤ c.bs.length := by
  unfold CS.dk; split
  · exact dL_len _
  · exact Nat.zero_le _
theorem ix_lt (ts : List UInt8) (x : UInt8) : decide (Lib.indexByte ts x < 0) = !ts.contains x := by
  rw [Lib.contains_iff_indexByte, Bool.eq_iff_iff]
  simp
theorem ix_byte (ts : ByteArray) (x : UInt8) (w : World) : Calls Tryz.prog 89 #[.string ts, .int .u8 (x.toNat : Int)] w fun e w' => e = .returned (.int .i64 (Lib.indexByte ts.data.toList x)) ∧ w' = w := by
  have := Any.strings_IndexByte indexByteL ts (x.toNat : Int) w
  rw [show ((x.toNat : Int)).toNat.toUInt8 = x from by rw [Int.toNat_natCast]; exact UInt8.ofNat_toNat] at this
  exact this
theorem peek_off {b : Nat} {c : CS} {w : World} (h : CurT 71 w b c) (hc : c.ok) (hp : c.peekIs = false) :
    Calls Tryz.prog 57 #[.pointer (some ⟨b, 0, none⟩)] w fun e w' => e = .returned (.tuple #[.int .u8 0, .bool false]) ∧ CurT 71 w' b c ∧ Below w.heap.size w w' := by
  have := peek_any h hc
  rw [CS.peekB_no hp, hp] at this
  refine this.mono ?_
  rintro e w' ⟨he, n, hw⟩
  rw [hw]
  exact ⟨he, h.drewN n, drew_below w n⟩
theorem take_one {b : Nat} {c : CS} {w : World} (h : CurT 71 w b c) (hc : c.ok) (h0 : c.er = 0) {x : UInt8} {t : List UInt8} (hb : c.bs = x :: t) :
    Calls Tryz.prog 90 #[.pointer (some ⟨b, 0, none⟩), .int .i64 1] w fun e w' => e = .returned (.string (bA [x])) ∧ CurT 71 w' b (c.past 1) ∧ Only b w w' := by
  have hl := CS.bs_length hc
  rw [hb, List.length_cons] at hl
  have hy : c.why 1 = 0 := CS.why_mk h0 (by decide) (by omega)
  have := take_any h hc 1
  rw [takeS_yes hy, take_yes hy, show (1 : Int).toNat = 1 from rfl, CS.cut_bs hc (show 1 ≤ c.bs.length by rw [hb]; simp), hb] at this
  exact this
theorem pk_off {c : CS} (hc : c.ok) (hp : c.peekIs = false) (ts : List UInt8) : c.pk ts = 0 := by
  unfold CS.pk
  by_cases h0 : c.er = 0
  · rw [if_pos h0]
    have hl := CS.bs_length hc
    have h1 := of_decide_eq_false hp
    rw [List.eq_nil_of_length_eq_zero (show c.bs.length = 0 by have : ¬ c.at_ < c.en := fun h => h1 ⟨h0, h⟩; omega)]; rfl
  · rw [if_neg h0]

set_option maxRecDepth 20000 in
theorem per_any {b : Nat} {c : CS} {w : World} (h : CurT 71 w b c) (hc : c.ok) (ts : ByteArray) :
    Calls Tryz.prog 75 #[.pointer (some ⟨b, 0, none⟩), .string ts] w fun e w' => e = .returned (.string (bA (c.bs.take (c.pk ts.data.toList)))) ∧ CurT 71 w' b (c.past (c.pk ts.data.toList)) ∧ Only b w w' := by
  cases hp : c.peekIs with
  | false =>
    have HP := Lib.hid (peek_off h hc hp)
    have HR := Lib.hid (pk_off hc hp ts.data.toList)
    have hbl := h.lt
    clear hp h
    go_enter Tryz.func75, Tryz.ntmps75
    go_wp2_with (with_reducible refine HP.out.mono ?_; rintro e w1 ⟨rfl, hq1, hb1⟩)
    go_ret
    exact ⟨by rw [HR.out]; rfl, by rw [HR.out]; exact hq1, Only.of_below hb1⟩
  | true =>
    have h0 : c.er = 0 := (of_decide_eq_true hp).1
    have hne : c.bs ≠ [] := fun e => by have := (CS.bs_none hc e).1; rw [hp] at this; exact absurd this (by decide)
    obtain ⟨x, t, hd⟩ := List.exists_cons_of_ne_nil hne
    have HP := Lib.hid (peek_next h hc h0 hd)
    have HI := Lib.hid (fun w => ix_byte ts x w)
    have HX := ix_lt ts.data.toList x
    have hbl := h.lt
    by_cases hx : ts.data.toList.contains x = true
    · rw [hx] at HX
      have HR := Lib.hid (show c.pk ts.data.toList = 1 by unfold CS.pk; rw [if_pos h0, hd, pL_cons t hx])
      have HT := Lib.hid (fun w h => take_one (w := w) (b := b) h hc h0 hd)
      have HS := Lib.hid (show bA (c.bs.take 1) = bA [x] by rw [hd]; rfl)
      clear hp h hne hx hd h0
      generalize Lib.indexByte ts.data.toList x = K at *
      rw [Bool.not_true] at HX
      go_enter Tryz.func75, Tryz.ntmps75
      go_wp2_with fail
      with_reducible refine HP.out.mono ?_
      rintro e w1 ⟨rfl, hq1, hb1⟩
      go_wp2_with (go_at_call 89; with_reducible refine (HI.out _).mono ?_; rintro e w2 ⟨rfl, hw⟩; rw [hw]; clear hw)
      with_reducible refine (HT.out _ hq1).mono ?_
      rintro e w3 ⟨rfl, hq3, ho3⟩
      go_wp2
      go_ret
      exact ⟨by rw [HR.out]; exact ret_string HS.out.symm, by rw [HR.out]; exact hq3, (Only.of_below hb1).trans ho3⟩
    · rw [show ts.data.toList.contains x = false by simpa using hx] at HX
      have HR := Lib.hid (show c.pk ts.data.toList = 0 by unfold CS.pk; rw [if_pos h0, hd, pL_other t hx])
      clear hp h hne hx hd h0
      generalize Lib.indexByte ts.data.toList x = K at *
      rw [Bool.not_false] at HX
      go_enter Tryz.func75, Tryz.ntmps75
      go_wp2_with fail
      with_reducible refine HP.out.mono ?_
      rintro e w1 ⟨rfl, hq1, hb1⟩
      go_wp2_with (go_at_call 89; with_reducible refine (HI.out _).mono ?_; rintro e w2 ⟨rfl, hw⟩; rw [hw]; clear hw)
      go_ret
      exact ⟨by rw [HR.out]; rfl, by rw [HR.out]; exact hq1, Only.of_below hb1⟩

/-- What is wrong where a digit lacks. -/
def CS.lk (c : CS) : Int := if c.er = 0 then (if c.bs = [] then 1 else 3) else c.er
theorem CS.lk_ne (c : CS) : c.lk ≠ 0 := by
  unfold CS.lk
  by_cases h : c.er = 0
  · rw [if_pos h]; split <;> decide
  · rw [if_neg h]; exact h
theorem lacks_any {b : Nat} {c : CS} {w : World} (h : CurT 71 w b c) (hc : c.ok) :
    Calls Tryz.prog 91 #[.pointer (some ⟨b, 0, none⟩)] w fun e w' => e = .returned (.tuple #[]) ∧ CurT 71 w' b (c.bad c.lk) ∧ Only b w w' := by
  have hl := CS.bs_length hc
  have HL := Lib.hid (left_any h hc)
  have hbl := h.lt
  by_cases hz : c.at_ < c.en
  · have p1 : ((c.en : Int) - c.at_ == 0) = false := by simp; omega
    have HR := Lib.hid (show c.fail 3 = c.bad c.lk by
      unfold CS.lk
      by_cases h0 : c.er = 0
      · rw [CS.fail_good h0, if_pos h0, if_neg (fun e => by rw [e, List.length_nil] at hl; omega)]
      · rw [CS.fail_bad h0, if_neg h0]; rfl)
    clear hz hl
    go_enter Tryz.func91, Tryz.ntmps91
    go_wp2_with fail
    with_reducible refine HL.out.mono ?_
    rintro e w1 ⟨rfl, n, hw⟩
    have h1 : CurT 71 w1 b c := by rw [hw]; exact h.drewN n
    have ho1 : Only b w w1 := by rw [hw]; exact (Only.refl _ _).drewN n
    clear hw
    go_wp2_with fail
    with_reducible refine (fail_any h1 3).mono ?_
    rintro e w2 ⟨rfl, hq2, ho2⟩
    go_wp2
    go_end0
    exact ⟨rfl, by rw [← HR.out]; exact hq2, ho1.trans ho2⟩
  · have p1 : ((c.en : Int) - c.at_ == 0) = true := by have := hc.1; simp; omega
    have HR := Lib.hid (show (c.fail 1).fail 3 = c.bad c.lk by
      unfold CS.lk
      by_cases h0 : c.er = 0
      · rw [CS.fail_good h0, if_pos h0, if_pos (List.eq_nil_of_length_eq_zero (by omega)), CS.fail_bad (show ¬ (c.bad 1).er = 0 by show ¬ (1 : Int) = 0; decide)]
      · rw [CS.fail_bad h0, CS.fail_bad h0, if_neg h0]; rfl)
    clear hz hl
    go_enter Tryz.func91, Tryz.ntmps91
    go_wp2_with fail
    with_reducible refine HL.out.mono ?_
    rintro e w1 ⟨rfl, n, hw⟩
    have h1 : CurT 71 w1 b c := by rw [hw]; exact h.drewN n
    have ho1 : Only b w w1 := by rw [hw]; exact (Only.refl _ _).drewN n
    clear hw
    go_wp2_with fail
    with_reducible refine (fail_any h1 1).mono ?_
    rintro e w2 ⟨rfl, hq2, ho2⟩
    go_wp2_with fail
    with_reducible refine (fail_any hq2 3).mono ?_
    rintro e w3 ⟨rfl, hq3, ho3⟩
    go_wp2
    go_end0
    exact ⟨rfl, by rw [← HR.out]; exact hq3, (ho1.trans ho2).trans ho3⟩

abbrev digs : ByteArray := ⟨#[48, 49, 50, 51, 52, 53, 54, 55, 56, 57]⟩
theorem digs_all : ∀ i : Fin 256, digs.data.toList.contains (UInt8.ofNat i.val) = dIs (UInt8.ofNat i.val) := by decide +kernel
theorem digs_is (x : UInt8) : digs.data.toList.contains x = dIs x := by
  have := digs_all ⟨x.toNat, x.toNat_lt⟩
  rwa [show UInt8.ofNat x.toNat = x from UInt8.ofNat_toNat] at this

/-- Behind the goto: k digits were passed and kept. -/
def DigJ (c : CS) (b : Nat) (W : World) (a' : Act) (wr : World) : Prop :=
  ∃ (k : Nat) (v u4 u5 u6 u7 u8 u9 u10 u11 : Value), a' = { tmps := #[.pointer (some ⟨b, 0, none⟩), undef, .string ⟨#[]⟩, v, u4, u5, u6, u7, u8, u9, u10, u11, undef, undef, undef, undef, undef, undef, undef], defers := [] } ∧ k ≤ dL c.bs ∧ Bts 5 wr W.heap.size v (c.bs.take k) ∧ CurT 71 wr b (c.past k) ∧ Only b W wr
theorem dig_next {l : List UInt8} {k : Nat} (h : k < dL l) : ∃ x t, l.drop k = x :: t ∧ dIs x = true ∧ l.take (k + 1) = l.take k ++ [x] := by
  have hl := dL_len l
  have hlt : k < l.length := by omega
  refine ⟨l[k], l.drop (k + 1), List.drop_eq_getElem_cons hlt, ?_, List.take_succ_eq_append_getElem hlt⟩
  have h1 := take_dL_all l
  have h2 : (l.take (dL l))[k]'(by rw [List.length_take]; omega) = l[k] := List.getElem_take
  rw [← h2]
  exact List.all_eq_true.mp h1 _ (List.getElem_mem _)
theorem dig_stop (l : List UInt8) : pL digs.data.toList (l.drop (dL l)) = 0 := by
  have h1 : l.drop (dL l) = l.dropWhile dIs := by
    have e : (l.takeWhile dIs ++ l.dropWhile dIs).drop (dL l) = l.dropWhile dIs := by rw [List.drop_left']; rfl
    rwa [List.takeWhile_append_dropWhile] at e
  rw [h1]
  match hd : l.dropWhile dIs with
  | [] => rfl
  | x :: t =>
    have := List.head?_dropWhile_not dIs l
    rw [hd, List.head?_cons] at this
    rw [pL_other t (by rw [digs_is]; simpa using this)]
theorem dig_none {c : CS} (h0 : c.er = 0) (h : dL c.bs = 0) : c.dk = 0 ∧ c.de = c.lk := by
  unfold CS.dk CS.de CS.lk dE
  rw [if_pos h0, if_pos h0, if_pos h0, if_pos h]; exact ⟨h, rfl⟩
theorem dig_some {c : CS} (h0 : c.er = 0) (h : dL c.bs ≠ 0) : c.dk = dL c.bs ∧ c.de = 0 := by
  unfold CS.dk CS.de dE
  rw [if_pos h0, if_pos h0, if_neg h]; exact ⟨rfl, rfl⟩
set_option maxRecDepth 20000 in
set_option maxHeartbeats 2000000 in
theorem dig_good {b : Nat} {c : CS} {w : World} (h : CurT 71 w b c) (hc : c.ok) (h0 : c.er = 0) (hs : c.s.size ≤ 140737488352256) :
    Calls Tryz.prog 76 #[.pointer (some ⟨b, 0, none⟩)] w fun e w' => e = .returned (.string (bA (c.bs.take c.dk))) ∧ (∃ c', CurT 71 w' b c' ∧ CAt c c.dk c.de c') ∧ Only b w w' := by
  obtain ⟨i0, hi, hz0, hz1, hz2⟩ := info_parts info8
  have HC := Lib.hid (And.intro hc h0)
  have hbl := h.lt
  have hmax : c.bs.length ≤ 140737488352256 := by have := CS.bs_length hc; have := hc.2.1; omega
  clear hc h0
  go_enter Tryz.func76, Tryz.ntmps76
  go_wp2
  refine wp_scope_jumps 0 (DigJ c b w) (fun _ wr => c.en + 1 - atOf b wr) rfl ?_ ?_
  · obtain ⟨k, hk0⟩ : ∃ k : Nat, k = 0 := ⟨0, rfl⟩
    have hk : k ≤ dL c.bs := by omega
    have hb : Bts 5 w w.heap.size (.slice none 0 0) (c.bs.take k) := by rw [hk0]; exact World.ownsRow_nil _ _ _ _
    have hq : CurT 71 w b (c.past k) := by rw [hk0]; exact h
    have ho : Only b w w := Only.refl _ _
    have hkl : k ≤ c.bs.length := Nat.le_trans hk (dL_len _)
    have hok := Lib.hid (CS.past_fine HC.out.1 hkl)
    have hbp := CS.bs_past c k
    have hpe : (c.past k).er = 0 := HC.out.2
    have hsz := ho.size
    have HP := Lib.hid (per_any hq hok.out digs)
    by_cases hgo : k < dL c.bs
    · obtain ⟨x, t, hd, hx, hget⟩ := dig_next hgo
      have hpk : (c.past k).pk digs.data.toList = 1 := by unfold CS.pk; rw [if_pos hpe, hbp, hd, pL_cons t (by rw [digs_is]; exact hx)]
      rw [hpk, CS.past_past, hbp, hd] at HP
      obtain ⟨V, hV⟩ : ∃ V, V = bA ((x :: t).take 1) := ⟨_, rfl⟩
      rw [← hV] at HP
      have hVl : V.data.toList = [x] := by rw [hV]; rfl
      have hVz : V.size = 1 := by rw [← toList_size, hVl]; rfl
      have pE : V.toList.isEmpty = false := by rw [isEmpty_of, hVz]; rfl
      have HG := Lib.hid (show c.bs.take (k + 1) = c.bs.take k ++ V.data.toList by rw [hVl]; exact hget)
      have hl2 : (c.bs.take k).length + V.size ≤ 140737488355328 := by rw [List.length_take, hVz]; omega
      have HEN := Lib.hid (CS.bs_length HC.out.1)
      have hlt := Lib.hid (show k + 1 ≤ c.bs.length by have := dL_len c.bs; omega)
      have hgo2 := Lib.hid (show k + 1 ≤ dL c.bs by omega)
      clear hV hVl hd hx hget hpk hbp hgo hpe hVz
      go_wp2_with fail
      go_step3
      go_wp2_with fail
      with_reducible refine HP.out.mono ?_
      rintro e w1 ⟨rfl, hq1, ho1⟩
      have hv1 := hb.only ho1 hbl
      have ho2 := ho.trans ho1
      have hs2 := ho2.size
      have HQ := Lib.hid (fun w3 (h : Below w.heap.size w1 w3) => And.intro (Below.cur h hq1 hbl) (only_then ho2 h (Nat.le_refl _)))
      clear hq1 ho1 ho hq hb
      go_wp2_with (at_builtin; go_loud (refine wpList_append_text rfl (.tmp 9) (.tmp 10) 32 9 rfl 5 i0 Tryz.underlying32 Tryz.underlying9 hi hz0 hz1 hz2 _ w1 w1 w.heap.size _ V hv1 (Below.refl _ _) hs2 rfl rfl hl2 ?_; intro v4 w4 hv4 hb4))
      have hq4 := (HQ.out _ hb4).1
      have ho4 := (HQ.out _ hb4).2
      rw [← HG.out] at hv4
      go_step3
      exact ⟨rfl, k + 1, v4, _, _, _, _, _, _, _, _, rfl, hgo2.out, hv4, hq4, ho4⟩
    · have hkn : k = dL c.bs := by omega
      have hpk : (c.past k).pk digs.data.toList = 0 := by unfold CS.pk; rw [if_pos hpe, hbp, hkn, dig_stop]
      rw [hpk, CS.past_past, Nat.add_zero, List.take_zero] at HP
      have pE : (bA []).toList.isEmpty = true := by rw [isEmpty_of]; rfl
      by_cases hz : k = 0
      · have HN := Lib.hid (dig_none HC.out.2 (show dL c.bs = 0 by omega))
        have hlck : (c.past k).lk = c.lk := by rw [hz]; rfl
        have HLK := Lib.hid (fun w h => lacks_any (w := w) (b := b) h hok.out)
        rw [hlck] at HLK
        have HA := Lib.hid (CAt.bad0 HC.out.1 0 (CS.lk_ne c))
        have HK := Lib.hid hkn
        have HZ := Lib.hid hz
        clear hbp hpk hpe hgo hz hkn hlck
        go_wp2_with fail
        go_step3
        go_wp2_with fail
        with_reducible refine HP.out.mono ?_
        rintro e w1 ⟨rfl, hq1, ho1⟩
        have hv1 := hb.only ho1 hbl
        have ho2 := ho.trans ho1
        clear ho1 ho hq hb
        go_wp2_with fail
        with_reducible refine (HLK.out _ hq1).mono ?_
        rintro e w2 ⟨rfl, hq2, ho3⟩
        have htx := Lib.hid ((hv1.only ho3 hbl).text (P := Tryz.prog) (d := 9) Tryz.underlying32 Tryz.underlying5 Tryz.underlying9)
        go_wp2_with fail
        rw [htx.out]
        go_wp2
        simp only [Exit.jump]
        go_ret
        exact ⟨by rw [HN.out.1]; exact ret_string (by first | rfl | rw [HZ.out]), ⟨_, hq2, by rw [HN.out.1, HN.out.2, HZ.out, CS.past_zero]; exact HA.out⟩, ho2.trans ho3⟩
      · exact absurd hk0 hz
  · rintro a' wr ⟨k, v, u4, u5, u6, u7, u8, u9, u10, u11, rfl, hk, hb, hq, ho⟩
    have hkl : k ≤ c.bs.length := Nat.le_trans hk (dL_len _)
    have hok := Lib.hid (CS.past_fine HC.out.1 hkl)
    have hbp := CS.bs_past c k
    have hpe : (c.past k).er = 0 := HC.out.2
    have hsz := ho.size
    have hat := Lib.hid (atOf_cur hq)
    have HP := Lib.hid (per_any hq hok.out digs)
    by_cases hgo : k < dL c.bs
    · obtain ⟨x, t, hd, hx, hget⟩ := dig_next hgo
      have hpk : (c.past k).pk digs.data.toList = 1 := by unfold CS.pk; rw [if_pos hpe, hbp, hd, pL_cons t (by rw [digs_is]; exact hx)]
      rw [hpk, CS.past_past, hbp, hd] at HP
      obtain ⟨V, hV⟩ : ∃ V, V = bA ((x :: t).take 1) := ⟨_, rfl⟩
      rw [← hV] at HP
      have hVl : V.data.toList = [x] := by rw [hV]; rfl
      have hVz : V.size = 1 := by rw [← toList_size, hVl]; rfl
      have pE : V.toList.isEmpty = false := by rw [isEmpty_of, hVz]; rfl
      have HG := Lib.hid (show c.bs.take (k + 1) = c.bs.take k ++ V.data.toList by rw [hVl]; exact hget)
      have hl2 : (c.bs.take k).length + V.size ≤ 140737488355328 := by rw [List.length_take, hVz]; omega
      have HEN := Lib.hid (CS.bs_length HC.out.1)
      have hlt := Lib.hid (show k + 1 ≤ c.bs.length by have := dL_len c.bs; omega)
      have hgo2 := Lib.hid (show k + 1 ≤ dL c.bs by omega)
      have hkk := hkl
      clear hV hVl hd hx hget hpk hbp hgo hpe hVz
      go_wp2_with fail
      with_reducible refine HP.out.mono ?_
      rintro e w1 ⟨rfl, hq1, ho1⟩
      have hv1 := hb.only ho1 hbl
      have ho2 := ho.trans ho1
      have hs2 := ho2.size
      have HQ := Lib.hid (fun w3 (h : Below w.heap.size w1 w3) => And.intro (Below.cur h hq1 hbl) (only_then ho2 h (Nat.le_refl _)))
      clear hq1 ho1 ho hq hb
      go_wp2_with (at_builtin; go_loud (refine wpList_append_text rfl (.tmp 9) (.tmp 10) 32 9 rfl 5 i0 Tryz.underlying32 Tryz.underlying9 hi hz0 hz1 hz2 _ w1 w1 w.heap.size _ V hv1 (Below.refl _ _) hs2 rfl rfl hl2 ?_; intro v4 w4 hv4 hb4))
      have hq4 := (HQ.out _ hb4).1
      have ho4 := (HQ.out _ hb4).2
      rw [← HG.out] at hv4
      go_step3
      refine ⟨rfl, ⟨k + 1, v4, _, _, _, _, _, _, _, _, rfl, hgo2.out, hv4, hq4, ho4⟩, ?_⟩
      have e1 := hat.out
      have e2 := atOf_cur hq4
      have e3 := HEN.out
      have e4 := hlt.out
      have e5 := HC.out.1.1
      have e6 : (c.past k).at_ = c.at_ + k := rfl
      have e7 : (c.past (k + 1)).at_ = c.at_ + (k + 1) := rfl
      omega
    · have hkn : k = dL c.bs := by omega
      have hpk : (c.past k).pk digs.data.toList = 0 := by unfold CS.pk; rw [if_pos hpe, hbp, hkn, dig_stop]
      rw [hpk, CS.past_past, Nat.add_zero, List.take_zero] at HP
      have pE : (bA []).toList.isEmpty = true := by rw [isEmpty_of]; rfl
      obtain ⟨ad, cp, rfl⟩ := hb.shape
      have hlk : (c.bs.take k).length = k := by rw [List.length_take]; omega
      rw [hlk] at hb ⊢
      by_cases hz : k = 0
      · have HN := Lib.hid (dig_none HC.out.2 (show dL c.bs = 0 by omega))
        have hlck : (c.past k).lk = c.lk := by rw [hz]; rfl
        have HLK := Lib.hid (fun w h => lacks_any (w := w) (b := b) h hok.out)
        rw [hlck] at HLK
        have HA := Lib.hid (CAt.bad0 HC.out.1 0 (CS.lk_ne c))
        have p1 : ((k : Int) == 0) = true := by simp [hz]
        have HK := Lib.hid hkn
        have HZ := Lib.hid hz
        clear hbp hpk hpe hgo hz hkn hlck
        go_wp2_with fail
        with_reducible refine HP.out.mono ?_
        rintro e w1 ⟨rfl, hq1, ho1⟩
        have hv1 := hb.only ho1 hbl
        have ho2 := ho.trans ho1
        clear ho1 ho hq hb
        go_wp2_with fail
        with_reducible refine (HLK.out _ hq1).mono ?_
        rintro e w2 ⟨rfl, hq2, ho3⟩
        have htx := Lib.hid ((hv1.only ho3 hbl).text (P := Tryz.prog) (d := 9) Tryz.underlying32 Tryz.underlying5 Tryz.underlying9)
        go_wp2_with fail
        rw [htx.out]
        go_wp2
        simp only [Exit.jump]
        go_ret
        exact ⟨by rw [HN.out.1]; exact ret_string (by first | rfl | rw [HZ.out]), ⟨_, hq2, by rw [HN.out.1, HN.out.2, HZ.out, CS.past_zero]; exact HA.out⟩, ho2.trans ho3⟩
      · have HN := Lib.hid (dig_some HC.out.2 (show dL c.bs ≠ 0 by omega))
        have p1 : ((k : Int) == 0) = false := beq_eq_false_iff_ne.mpr (by omega)
        have HA := Lib.hid (CAt.past HC.out.1 HC.out.2 (dL_len c.bs))
        have HK := Lib.hid hkn
        have HZ := Lib.hid hz
        clear hbp hpk hpe hgo hz hkn
        go_wp2_with fail
        with_reducible refine HP.out.mono ?_
        rintro e w1 ⟨rfl, hq1, ho1⟩
        have hv1 := hb.only ho1 hbl
        have ho2 := ho.trans ho1
        clear ho1 ho hq hb
        go_wp2_with fail
        have htx := Lib.hid (hv1.text (P := Tryz.prog) (d := 9) Tryz.underlying32 Tryz.underlying5 Tryz.underlying9)
        rw [htx.out]
        go_wp2
        simp only [Exit.jump]
        go_ret
        exact ⟨by rw [HN.out.1]; exact ret_string (by rw [HK.out]), ⟨_, hq1, by rw [HN.out.1, HN.out.2, HK.out]; exact HA.out⟩, ho2⟩
set_option maxRecDepth 20000 in
theorem dig_off {b : Nat} {c : CS} {w : World} (h : CurT 71 w b c) (hc : c.ok) (h0 : ¬ c.er = 0) :
    Calls Tryz.prog 76 #[.pointer (some ⟨b, 0, none⟩)] w fun e w' => e = .returned (.string (bA (c.bs.take c.dk))) ∧ (∃ c', CurT 71 w' b c' ∧ CAt c c.dk c.de c') ∧ Only b w w' := by
  have HP := Lib.hid (per_any h hc digs)
  have hpk : c.pk digs.data.toList = 0 := by unfold CS.pk; rw [if_neg h0]
  rw [hpk, CS.past_zero, List.take_zero] at HP
  have HLK := Lib.hid (fun w h => lacks_any (w := w) (b := b) h hc)
  have pE : (bA []).toList.isEmpty = true := by rw [isEmpty_of]; rfl
  have HN := Lib.hid (show c.dk = 0 ∧ c.de = c.lk by unfold CS.dk CS.de CS.lk; rw [if_neg h0, if_neg h0, if_neg h0]; exact ⟨rfl, rfl⟩)
  have HA := Lib.hid (CAt.bad0 hc 0 (CS.lk_ne c))
  have hbl := h.lt
  clear hpk h0 hc h
  go_enter Tryz.func76, Tryz.ntmps76
  go_wp2
  go_step3
  go_wp2
  go_step3
  go_wp2_with fail
  with_reducible refine HP.out.mono ?_
  rintro e w1 ⟨rfl, hq1, ho1⟩
  go_wp2_with fail
  with_reducible refine (HLK.out _ hq1).mono ?_
  rintro e w2 ⟨rfl, hq2, ho2⟩
  have htx := Lib.hid ((show Bts 5 w2 w.heap.size (.slice none 0 0) [] from World.ownsRow_nil _ _ _ _).text (P := Tryz.prog) (t := 32) (d := 9) Tryz.underlying32 Tryz.underlying5 Tryz.underlying9)
  go_wp2_with fail
  rw [htx.out]
  go_wp2
  try rw [Exit.noGoto_ret]
  go_ret
  exact ⟨by rw [HN.out.1]; rfl, ⟨_, hq2, by rw [HN.out.1, HN.out.2]; exact HA.out⟩, ho1.trans ho2⟩
theorem dig_any {b : Nat} {c : CS} {w : World} (h : CurT 71 w b c) (hc : c.ok) (hs : c.s.size ≤ 140737488352256) :
    Calls Tryz.prog 76 #[.pointer (some ⟨b, 0, none⟩)] w fun e w' => e = .returned (.string (bA (c.bs.take c.dk))) ∧ (∃ c', CurT 71 w' b c' ∧ CAt c c.dk c.de c') ∧ Only b w w' := by
  by_cases h0 : c.er = 0
  · exact dig_good h hc h0 hs
  · exact dig_off h hc h0
end Go.Proofs.YtfighopfgllneaaGreatDoor
/- Package jnum's Read. -/
namespace Go.Proofs.YtfighopfgllneaaGreatDoor
open Go Go.RowKit
set_option linter.unusedVariables false

def CS.eBc (c : CS) : Int := if c.er = 0 then eB c.bs else c.er
def CS.eCc (c : CS) : Int := if c.er = 0 then eC c.bs else c.er
/-- What is wrong with the number that begins here. -/
def CS.nc (c : CS) : Int := if c.er = 0 then nCode c.bs else c.er
/-- Its text. -/
def CS.nt (c : CS) : List UInt8 := if c.nc = 0 then c.bs.take (nE c.bs) else []
/-- What a stage leaves: the text so far, and where the cursor is. -/
def NRdRel (c : CS) (b : Nat) (W : World) (k : Nat) (e : Int) (N : Nat) (v : Value) (wr : World) : Prop :=
  ∃ (T : ByteArray) (c' : CS), v = .string T ∧ (e = 0 → T = bA (c.bs.take k)) ∧ T.size ≤ N ∧ CAt c k e c' ∧ CurT 71 wr b c' ∧ Only b W wr

theorem bA_two (l : List UInt8) (k d : Nat) : bA (l.take k) ++ bA ((l.drop k).take d) = bA (l.take (k + d)) := by
  rw [bA_append, ← List.take_add]
theorem pk_yes {c : CS} {ts : List UInt8} (h : c.pk ts = 1) : c.er = 0 ∧ pL ts c.bs = 1 := by
  unfold CS.pk at h
  by_cases h0 : c.er = 0
  · rw [if_pos h0] at h; exact ⟨h0, h⟩
  · rw [if_neg h0] at h; omega
theorem pk_no {c : CS} {ts : List UInt8} (h : ¬ c.pk ts = 1) (h0 : c.er = 0) : ¬ pL ts c.bs = 1 := by
  unfold CS.pk at h
  rwa [if_pos h0] at h
theorem pk_text {c : CS} {ts : List UInt8} (h : c.pk ts = 1) : (bA (c.bs.take (c.pk ts))).size = 1 := by
  have := c.pk_le ts
  rw [bA_size, List.length_take]; omega
theorem stage1_z {c : CS} (h : (c.past (c.pk [45])).pk [48] = 1) : c.er = 0 ∧ c.eBc = 0 ∧ c.pk [45] = nA c.bs ∧ nB c.bs = c.pk [45] + 1 := by
  obtain ⟨h0, h1⟩ := pk_yes h
  have h0' : c.er = 0 := h0
  have hA : c.pk [45] = nA c.bs := by unfold CS.pk nA; rw [if_pos h0']
  rw [CS.bs_past, hA] at h1
  refine ⟨h0', ?_, hA, ?_⟩
  · unfold CS.eBc eB iE; rw [if_pos h0', if_pos h1]
  · unfold nB iL; rw [if_pos h1, hA]
theorem stage1_d {c : CS} (h : ¬ (c.past (c.pk [45])).pk [48] = 1) : (c.past (c.pk [45])).de = c.eBc ∧ (c.eBc = 0 → nB c.bs = c.pk [45] + (c.past (c.pk [45])).dk) := by
  by_cases h0 : c.er = 0
  · have hA : c.pk [45] = nA c.bs := by unfold CS.pk nA; rw [if_pos h0]
    have h0' : (c.past (c.pk [45])).er = 0 := h0
    have h1 := pk_no h h0'
    rw [CS.bs_past, hA] at h1
    refine ⟨?_, fun _ => ?_⟩
    · unfold CS.de CS.eBc eB iE; rw [if_pos h0', if_pos h0, if_neg h1, CS.bs_past, hA]
    · unfold CS.dk nB iL; rw [if_pos h0', if_neg h1, CS.bs_past, hA]
  · have h0' : ¬ (c.past (c.pk [45])).er = 0 := h0
    refine ⟨?_, fun e => ?_⟩
    · unfold CS.de CS.eBc; rw [if_neg h0', if_neg h0]; rfl
    · unfold CS.eBc at e; rw [if_neg h0] at e; exact absurd e h0
theorem CAt.zero {c c' : CS} {k : Nat} {e : Int} (h : CAt c k e c') (h0 : c'.er = 0) : e = 0 ∧ c' = c.past k ∧ c.er = 0 := by
  have he : e = 0 := h.2.2.2.1.symm.trans h0
  have h1 := h.2.2.2.2 he
  exact ⟨he, h1, by rw [h1] at h0; exact h0⟩
theorem stage2_f {c c' : CS} (hA : CAt c (nB c.bs) c.eBc c') (h : c'.pk [46] = 1) : c.eBc = 0 ∧ c' = c.past (nB c.bs) ∧ (c'.past 1).de = c.eCc ∧ (c.eCc = 0 → nC c.bs = nB c.bs + (1 + (c'.past 1).dk)) := by
  obtain ⟨h0, h1⟩ := pk_yes h
  obtain ⟨e1, e2, e3⟩ := hA.zero h0
  have h0' : (c'.past 1).er = 0 := h0
  have hb : c'.bs = c.bs.drop (nB c.bs) := by rw [e2, CS.bs_past]
  have hb1 : (c'.past 1).bs = (c.bs.drop (nB c.bs)).drop 1 := by rw [CS.bs_past, hb]
  rw [hb] at h1
  have e1' := e1
  unfold CS.eBc at e1'
  rw [if_pos e3] at e1'
  refine ⟨e1, e2, ?_, fun _ => ?_⟩
  · unfold CS.de CS.eCc eC fE; rw [if_pos h0', if_pos e3, if_pos e1', if_pos h1, hb1]
  · unfold CS.dk nC fL; rw [if_pos h0', if_pos h1, hb1]
theorem stage2_n {c c' : CS} (hA : CAt c (nB c.bs) c.eBc c') (h : ¬ c'.pk [46] = 1) : CAt c (nC c.bs) c.eCc c' ∧ (c.eCc = 0 → c.eBc = 0 ∧ nC c.bs = nB c.bs) := by
  by_cases he : c.eBc = 0
  · have h1 := hA.2.2.2.2 he
    have h0 : c'.er = 0 := hA.2.2.2.1.trans he
    obtain ⟨_, _, e3⟩ := hA.zero h0
    have hn := pk_no h h0
    rw [h1, CS.bs_past] at hn
    have e1' := he
    unfold CS.eBc at e1'
    rw [if_pos e3] at e1'
    have e4 : c.eCc = c.eBc := by
      unfold CS.eCc eC fE; rw [if_pos e3, if_pos e1', if_neg hn, he]
    have e5 : nC c.bs = nB c.bs := by unfold nC fL; rw [if_neg hn]; rfl
    rw [e4, e5]; exact ⟨hA, fun _ => ⟨he, rfl⟩⟩
  · have e4 : c.eCc = c.eBc := by
      unfold CS.eCc CS.eBc eC
      by_cases h0 : c.er = 0
      · have he' := he
        unfold CS.eBc at he'
        rw [if_pos h0] at he'
        rw [if_pos h0, if_pos h0, if_neg he']
      · rw [if_neg h0, if_neg h0]
    rw [e4]
    exact ⟨hA.no he, fun e => absurd e he⟩
theorem stage3_x {c c' : CS} (hA : CAt c (nC c.bs) c.eCc c') (h : c'.pk [101, 69] = 1) : c.eCc = 0 ∧ c' = c.past (nC c.bs) ∧ ((c'.past 1).past ((c'.past 1).pk [43, 45])).de = c.nc ∧ (c.nc = 0 → nE c.bs = nC c.bs + (1 + (c'.past 1).pk [43, 45] + ((c'.past 1).past ((c'.past 1).pk [43, 45])).dk)) := by
  obtain ⟨h0, h1⟩ := pk_yes h
  obtain ⟨e1, e2, e3⟩ := hA.zero h0
  have h0' : (c'.past 1).er = 0 := h0
  have hb : c'.bs = c.bs.drop (nC c.bs) := by rw [e2, CS.bs_past]
  have hb1 : (c'.past 1).bs = (c.bs.drop (nC c.bs)).drop 1 := by rw [CS.bs_past, hb]
  rw [hb] at h1
  have hS : 1 + (c'.past 1).pk [43, 45] = xS (c.bs.drop (nC c.bs)) := by unfold CS.pk xS; rw [if_pos h0', hb1]
  have h0'' : ((c'.past 1).past ((c'.past 1).pk [43, 45])).er = 0 := h0
  have hb2 : ((c'.past 1).past ((c'.past 1).pk [43, 45])).bs = (c.bs.drop (nC c.bs)).drop (xS (c.bs.drop (nC c.bs))) := by rw [CS.past_past, CS.bs_past, hb, hS]
  have e1' := e1
  unfold CS.eCc at e1'
  rw [if_pos e3] at e1'
  refine ⟨e1, e2, ?_, fun _ => ?_⟩
  · unfold CS.de CS.nc nCode xE; rw [if_pos h0'', if_pos e3, if_pos e1', if_pos h1, hb2]
  · unfold CS.dk nE xL; rw [if_pos h0'', if_pos h1, hb2, hS]
theorem stage3_n {c c' : CS} (hA : CAt c (nC c.bs) c.eCc c') (h : ¬ c'.pk [101, 69] = 1) : CAt c (nE c.bs) c.nc c' ∧ (c.nc = 0 → c.eCc = 0 ∧ nE c.bs = nC c.bs) := by
  by_cases he : c.eCc = 0
  · have h1 := hA.2.2.2.2 he
    have h0 : c'.er = 0 := hA.2.2.2.1.trans he
    obtain ⟨_, _, e3⟩ := hA.zero h0
    have hn := pk_no h h0
    rw [h1, CS.bs_past] at hn
    have e1' := he
    unfold CS.eCc at e1'
    rw [if_pos e3] at e1'
    have e4 : c.nc = c.eCc := by
      unfold CS.nc nCode xE; rw [if_pos e3, if_pos e1', if_neg hn, he]
    have e5 : nE c.bs = nC c.bs := by unfold nE xL; rw [if_neg hn]; rfl
    rw [e4, e5]; exact ⟨hA, fun _ => ⟨he, rfl⟩⟩
  · have e4 : c.nc = c.eCc := by
      unfold CS.nc CS.eCc nCode
      by_cases h0 : c.er = 0
      · have he' := he
        unfold CS.eCc at he'
        rw [if_pos h0] at he'
        rw [if_pos h0, if_pos h0, if_neg he']
      · rw [if_neg h0, if_neg h0]
    rw [e4]
    exact ⟨hA.no he, fun e => absurd e he⟩
theorem bs_upto {c : CS} (hc : c.ok) (hs : c.s.size ≤ 140737488352256) (k : Nat) : (bA (c.bs.take k)).size ≤ 140737488352256 := by
  have := CS.bs_length hc
  have := hc.2.1
  rw [bA_size, List.length_take]; omega
set_option maxRecDepth 20000 in
set_option maxHeartbeats 4000000 in
theorem nread_any {b : Nat} {c : CS} {w : World} (h : CurT 71 w b c) (hc : c.ok) (hs : c.s.size ≤ 140737488352256) :
    Calls Tryz.prog 62 #[.pointer (some ⟨b, 0, none⟩)] w fun e w' => e = .returned (.string (bA c.nt)) ∧ (∃ c', CurT 71 w' b c' ∧ CAt c (nE c.bs) c.nc c') ∧ Only b w w' := by
  have HC := Lib.hid (And.intro hc hs)
  have HP0 : Hid (Calls Tryz.prog 75 #[.pointer (some ⟨b, 0, none⟩), .string ⟨#[45]⟩] w fun e w' => e = .returned (.string (bA (c.bs.take (c.pk [45])))) ∧ CurT 71 w' b (c.past (c.pk [45])) ∧ Only b w w') := Lib.hid (per_any h hc ⟨#[45]⟩)
  have hM1 := bs_upto hc hs (c.pk [45])
  obtain ⟨M, hM⟩ : ∃ M, M = bA (c.bs.take (c.pk [45])) := ⟨_, rfl⟩
  have HM := Lib.hid hM
  rw [← hM] at HP0 hM1
  have hok1 := CS.past_fine hc (c.pk_le [45])
  have hbl := h.lt
  have HZ1 := Lib.hid (stage1_z (c := c))
  have HD1 := Lib.hid (stage1_d (c := c))
  obtain ⟨c1, hc1⟩ : ∃ c1, c1 = c.past (c.pk [45]) := ⟨_, rfl⟩
  have HE1 := Lib.hid hc1
  have hs1 : c1.s.size ≤ 140737488352256 := by rw [hc1]; exact hs
  rw [← hc1] at HP0 hok1 HZ1 HD1
  have hZ1 := bs_upto hok1 hs1 (c1.pk [48])
  have HP1 : Hid (∀ w, CurT 71 w b c1 → Calls Tryz.prog 75 #[.pointer (some ⟨b, 0, none⟩), .string ⟨#[48]⟩] w fun e w' => e = .returned (.string (bA (c1.bs.take (c1.pk [48])))) ∧ CurT 71 w' b (c1.past (c1.pk [48])) ∧ Only b w w') := Lib.hid (fun w h => per_any h hok1 ⟨#[48]⟩)
  have HZt := Lib.hid (pk_text (c := c1) (ts := [48]))
  have HZo := Lib.hid (c1.pk_one [48])
  obtain ⟨Z, hZ⟩ : ∃ Z, Z = bA (c1.bs.take (c1.pk [48])) := ⟨_, rfl⟩
  have HZ := Lib.hid hZ
  rw [← hZ] at HP1 HZt hZ1
  have HK1 := Lib.hid (And.intro hok1 hs1)
  clear hM hc1 hZ hok1 hs1 hc h
  go_enter Tryz.func62, Tryz.ntmps62
  go_wp2_with fail
  with_reducible refine HP0.out.mono ?_
  rintro e w1 ⟨rfl, hq1, ho1⟩
  go_wp2_with fail
  with_reducible refine (HP1.out _ hq1).mono ?_
  rintro e w2 ⟨rfl, hq2, ho2⟩
  have ho3 := ho1.trans ho2
  clear HP0 HP1 hq1 ho1 ho2
  go_upto_if 12 with fail
  go_cut [3] from 7 (fun v wr => NRdRel c b w (nB c.bs) c.eBc 422212465065984 v wr)
  case first =>
    by_cases hz : c1.pk [48] = 1
    · have pE : (!Z.toList.isEmpty) = true := by rw [isEmpty_of, HZt.out hz]; rfl
      have HR := Lib.hid (HZ1.out hz)
      have HY := Lib.hid hz
      clear hz
      rw [pE]
      go_wp2_with fail
      go_meet
      case rel =>
        obtain ⟨r1, r2, r3, r4⟩ := HR.out
        have e0 : (nB c.bs) ≤ c.bs.length := nB_len _
        refine ⟨M ++ Z, _, rfl, fun _ => ?_, by rw [ByteArray.size_append]; omega, ?_, hq2, ho3⟩
        · rw [HM.out, HZ.out, HE1.out, CS.bs_past, r4]
          rw [HE1.out] at HY
          rw [HY.out, bA_two]
        · rw [HY.out, HE1.out, CS.past_past, r2, ← r4]
          exact CAt.past HC.out.1 r1 e0
    · have pE : (!Z.toList.isEmpty) = false := by
        have h1 := HZo.out
        rw [isEmpty_of, HZ.out, bA_size, List.length_take, decide_eq_true (by omega)]; rfl
      have HR := Lib.hid (HD1.out hz)
      have hpk : c1.pk [48] = 0 := by have := HZo.out; omega
      rw [hpk, CS.past_zero] at hq2
      have hD1 := bs_upto HK1.out.1 HK1.out.2 c1.dk
      have HG := Lib.hid (dig_any hq2 HK1.out.1 HK1.out.2)
      obtain ⟨D, hD⟩ : ∃ D, D = bA (c1.bs.take c1.dk) := ⟨_, rfl⟩
      rw [← hD] at HG hD1
      have HDD := Lib.hid hD
      clear hz hpk hD
      rw [pE]
      go_wp2_with fail
      with_reducible refine HG.out.mono ?_
      rintro e w3 ⟨rfl, ⟨c3, hq3, hA3⟩, ho4⟩
      go_wp2_with fail
      go_meet
      case rel =>
        obtain ⟨r1, r2⟩ := HR.out
        have hA4 : CAt c (c.pk [45] + c1.dk) c.eBc c3 := by
          rw [← r1]
          exact CAt.more (by rw [← HE1.out]; exact hA3)
        refine ⟨M ++ D, c3, rfl, fun he => ?_, by rw [ByteArray.size_append]; omega, ?_, hq3, ho3.trans ho4⟩
        · rw [HM.out, HDD.out, r2 he, HE1.out, CS.bs_past, bA_two]
        · by_cases he : c.eBc = 0
          · rw [r2 he]; exact hA4
          · exact hA4.no he
  case rest =>
    clear HZ1 HD1 HZo HZt HZ HK1 HE1 HM hM1 hZ1 hq2 ho3
    obtain ⟨T, c3, rfl, hT, hTs, hA3, hq3, ho4⟩ := hcut
    have HT := Lib.hid hT
    have hok3 := hA3.1
    have hs3 : c3.s.size ≤ 140737488352256 := by rw [hA3.2.1]; exact hs
    have HF := Lib.hid (stage2_f hA3)
    have HN := Lib.hid (stage2_n hA3)
    have hF1 := bs_upto hok3 hs3 (c3.pk [46])
    have HP3 : Hid (Calls Tryz.prog 75 #[.pointer (some ⟨b, 0, none⟩), .string ⟨#[46]⟩] wc fun e w' => e = .returned (.string (bA (c3.bs.take (c3.pk [46])))) ∧ CurT 71 w' b (c3.past (c3.pk [46])) ∧ Only b wc w') := Lib.hid (per_any hq3 hok3 ⟨#[46]⟩)
    have HFt := Lib.hid (pk_text (c := c3) (ts := [46]))
    have HFo := Lib.hid (c3.pk_one [46])
    obtain ⟨F, hF⟩ : ∃ F, F = bA (c3.bs.take (c3.pk [46])) := ⟨_, rfl⟩
    have HFF := Lib.hid hF
    rw [← hF] at HP3 HFt hF1
    have HK3 := Lib.hid (And.intro hok3 hs3)
    have HA3 := Lib.hid hA3
    clear hF hT hok3 hs3 hA3 hq3
    go_wp2_with fail
    with_reducible refine HP3.out.mono ?_
    rintro e w5 ⟨rfl, hq5, ho5⟩
    have ho6 := ho4.trans ho5
    clear HP3 ho4 ho5
    go_upto_if 23 with fail
    go_cut [3] from 7 (fun v wr => NRdRel c b w (nC c.bs) c.eCc 985162418487296 v wr)
    case first =>
      by_cases hz : c3.pk [46] = 1
      · have pE : (!F.toList.isEmpty) = true := by rw [isEmpty_of, HFt.out hz]; rfl
        have HR := Lib.hid (HF.out hz)
        rw [hz] at hq5 HFF
        have hk1 : 1 ≤ c3.bs.length := by rw [← hz]; exact c3.pk_le _
        have hok4 := CS.past_fine HK3.out.1 hk1
        have hs4 : (c3.past 1).s.size ≤ 140737488352256 := HK3.out.2
        have hD1 := bs_upto hok4 hs4 (c3.past 1).dk
        have HG := Lib.hid (dig_any hq5 hok4 hs4)
        obtain ⟨D, hD⟩ : ∃ D, D = bA ((c3.past 1).bs.take (c3.past 1).dk) := ⟨_, rfl⟩
        rw [← hD] at HG hD1
        have HDD := Lib.hid hD
        clear hz hD hk1 hok4 hs4
        rw [pE]
        go_wp2_with fail
        with_reducible refine HG.out.mono ?_
        rintro e w6 ⟨rfl, ⟨c5, hq7, hA5⟩, ho7⟩
        go_wp2_with fail
        go_meet
        case rel =>
          obtain ⟨r1, r2, r3, r4⟩ := HR.out
          have hA6 : CAt c (nB c.bs + (1 + (c3.past 1).dk)) c.eCc c5 := by
            rw [← r3, ← Nat.add_assoc]
            refine CAt.more (j := nB c.bs + 1) ?_
            have := hA5
            rw [r2, CS.past_past] at this
            rw [r2, CS.past_past]; exact this
          refine ⟨T ++ (F ++ D), c5, rfl, fun he => ?_, by rw [ByteArray.size_append, ByteArray.size_append]; omega, ?_, hq7, ho6.trans ho7⟩
          · rw [HT.out r1, HFF.out, HDD.out, r4 he, CS.bs_past, bA_two, show c3.bs = c.bs.drop (nB c.bs) by rw [r2, CS.bs_past], bA_two]
          · by_cases he : c.eCc = 0
            · rw [r4 he]; exact hA6
            · exact hA6.no he
      · have pE : (!F.toList.isEmpty) = false := by
          have h1 := HFo.out
          rw [isEmpty_of, HFF.out, bA_size, List.length_take, decide_eq_true (by omega)]; rfl
        have HR := Lib.hid (HN.out hz)
        have hpk : c3.pk [46] = 0 := by have := HFo.out; omega
        rw [hpk, CS.past_zero] at hq5
        clear hz hpk
        rw [pE]
        go_wp2_with fail
        go_meet
        case rel =>
          obtain ⟨r1, r2⟩ := HR.out
          exact ⟨T, c3, rfl, fun he => by rw [HT.out (r2 he).1, (r2 he).2], by omega, r1, hq5, ho6⟩
    case rest =>
      clear HF HN hF1 HFt HFo HFF HK3 HA3 HT hTs hq5 ho6
      obtain ⟨U, c5, rfl, hU, hUs, hA5, hq7, ho7⟩ := hcut
      have HU := Lib.hid hU
      have hok5 := hA5.1
      have hs5 : c5.s.size ≤ 140737488352256 := by rw [hA5.2.1]; exact hs
      have HX := Lib.hid (stage3_x hA5)
      have HN := Lib.hid (stage3_n hA5)
      have hX1 := bs_upto hok5 hs5 (c5.pk [101, 69])
      have HP5 : Hid (Calls Tryz.prog 75 #[.pointer (some ⟨b, 0, none⟩), .string ⟨#[101, 69]⟩] wc fun e w' => e = .returned (.string (bA (c5.bs.take (c5.pk [101, 69])))) ∧ CurT 71 w' b (c5.past (c5.pk [101, 69])) ∧ Only b wc w') := Lib.hid (per_any hq7 hok5 ⟨#[101, 69]⟩)
      have HXt := Lib.hid (pk_text (c := c5) (ts := [101, 69]))
      have HXo := Lib.hid (c5.pk_one [101, 69])
      obtain ⟨X, hX⟩ : ∃ X, X = bA (c5.bs.take (c5.pk [101, 69])) := ⟨_, rfl⟩
      have HXX := Lib.hid hX
      rw [← hX] at HP5 HXt hX1
      have HK5 := Lib.hid (And.intro hok5 hs5)
      clear hX hU hok5 hs5 hA5 hq7
      go_wp2_with fail
      with_reducible refine HP5.out.mono ?_
      rintro e w8 ⟨rfl, hq8, ho8⟩
      have ho9 := ho7.trans ho8
      clear HP5 ho7 ho8
      go_upto_if 33 with fail
      go_cut [3] from 7 (fun v wr => NRdRel c b w (nE c.bs) c.nc 1688849860263936 v wr)
      case first =>
        by_cases hz : c5.pk [101, 69] = 1
        · have pE : (!X.toList.isEmpty) = true := by rw [isEmpty_of, HXt.out hz]; rfl
          have HR := Lib.hid (HX.out hz)
          rw [hz] at hq8 HXX
          have hk1 : 1 ≤ c5.bs.length := by rw [← hz]; exact c5.pk_le _
          have hok6 := CS.past_fine HK5.out.1 hk1
          have hs6 : (c5.past 1).s.size ≤ 140737488352256 := HK5.out.2
          obtain ⟨c6, hc6⟩ : ∃ c6, c6 = c5.past 1 := ⟨_, rfl⟩
          have H6 := Lib.hid (And.intro hc6 (show c6.bs = c5.bs.drop 1 by rw [hc6]; exact CS.bs_past _ _))
          rw [← hc6] at hok6 hs6 hq8 HR
          have hS1 := bs_upto hok6 hs6 (c6.pk [43, 45])
          have HP6 : Hid (Calls Tryz.prog 75 #[.pointer (some ⟨b, 0, none⟩), .string ⟨#[43, 45]⟩] w8 fun e w' => e = .returned (.string (bA (c6.bs.take (c6.pk [43, 45])))) ∧ CurT 71 w' b (c6.past (c6.pk [43, 45])) ∧ Only b w8 w') := Lib.hid (per_any hq8 hok6 ⟨#[43, 45]⟩)
          obtain ⟨S, hS⟩ : ∃ S, S = bA (c6.bs.take (c6.pk [43, 45])) := ⟨_, rfl⟩
          have HSS := Lib.hid hS
          rw [← hS] at HP6 hS1
          have hok7 := CS.past_fine hok6 (c6.pk_le [43, 45])
          obtain ⟨c7, hc7⟩ : ∃ c7, c7 = c6.past (c6.pk [43, 45]) := ⟨_, rfl⟩
          have hs7 : c7.s.size ≤ 140737488352256 := by rw [hc7]; exact hs6
          have H7 := Lib.hid (And.intro hc7 (show c7.bs = c6.bs.drop (c6.pk [43, 45]) by rw [hc7]; exact CS.bs_past _ _))
          rw [← hc7] at hok7 HP6 HR
          have hD1 := bs_upto hok7 hs7 c7.dk
          have HG := Lib.hid (fun w h => dig_any (w := w) (b := b) h hok7 hs7)
          obtain ⟨D, hD⟩ : ∃ D, D = bA (c7.bs.take c7.dk) := ⟨_, rfl⟩
          rw [← hD] at HG hD1
          have HDD := Lib.hid hD
          clear hz hD hk1 hok6 hs6 hc6 hS hok7 hs7 hc7 hq8
          rw [pE]
          go_wp2_with fail
          with_reducible refine HP6.out.mono ?_
          rintro e w10 ⟨rfl, hq10, ho10⟩
          go_wp2_with fail
          with_reducible refine (HG.out _ hq10).mono ?_
          rintro e w11 ⟨rfl, ⟨c8, hq11, hA8⟩, ho11⟩
          go_wp2_with fail
          go_meet
          case rel =>
            obtain ⟨r1, r2, r3, r4⟩ := HR.out
            have e6 : c6 = c.past (nC c.bs + 1) := by rw [H6.out.1, r2, CS.past_past]
            have e7 : c7 = c.past (nC c.bs + 1 + c6.pk [43, 45]) := by
              have := H7.out.1
              rw [this]
              have e8 : ∀ k, c6.past k = c.past (nC c.bs + 1 + k) := fun k => by rw [e6, CS.past_past]
              exact e8 _
            have hA9 : CAt c (nC c.bs + (1 + c6.pk [43, 45] + c7.dk)) c.nc c8 := by
              rw [← r3, ← Nat.add_assoc, ← Nat.add_assoc]
              refine CAt.more (j := nC c.bs + 1 + c6.pk [43, 45]) ?_
              rw [← e7]; exact hA8
            refine ⟨U ++ (X ++ S ++ D), c8, rfl, fun he => ?_, by rw [ByteArray.size_append, ByteArray.size_append, ByteArray.size_append]; omega, ?_, hq11, (ho9.trans ho10).trans ho11⟩
            · have b5 : c5.bs = c.bs.drop (nC c.bs) := by rw [r2, CS.bs_past]
              have b7 : c7.bs = c5.bs.drop (1 + c6.pk [43, 45]) := by rw [H7.out.2, H6.out.2, List.drop_drop]
              rw [HU.out r1, HXX.out, HSS.out, HDD.out, r4 he, H6.out.2, bA_two, b7, bA_two, b5, bA_two]
            · by_cases he : c.nc = 0
              · rw [r4 he]; exact hA9
              · exact hA9.no he
        · have pE : (!X.toList.isEmpty) = false := by
            have h1 := HXo.out
            rw [isEmpty_of, HXX.out, bA_size, List.length_take, decide_eq_true (by omega)]; rfl
          have HR := Lib.hid (HN.out hz)
          have hpk : c5.pk [101, 69] = 0 := by have := HXo.out; omega
          rw [hpk, CS.past_zero] at hq8
          clear hz hpk
          rw [pE]
          go_wp2_with fail
          go_meet
          case rel =>
            obtain ⟨r1, r2⟩ := HR.out
            exact ⟨U, c5, rfl, fun he => by rw [HU.out (r2 he).1, (r2 he).2], by omega, r1, hq8, ho9⟩
      case rest =>
        clear HX HN hX1 HXt HXo HXX HK5 HU hUs hq8 ho9
        obtain ⟨V, c8, rfl, hV, hVs, hA8, hq11, ho11⟩ := hcut
        have HE := Lib.hid (err_any hq11)
        rw [hA8.2.2.2.1] at HE
        have HA8 := Lib.hid hA8
        have HV := Lib.hid hV
        clear hA8 hV
        by_cases he : c.nc = 0
        · have p1 : (c.nc != 0) = false := by simp [he]
          have HR := Lib.hid (show V = bA c.nt by unfold CS.nt; rw [if_pos he]; exact HV.out he)
          clear he
          go_wp2_with fail
          with_reducible refine HE.out.mono ?_
          rintro e w12 ⟨rfl, hw⟩
          rw [hw]; clear hw
          go_wp2
          go_ret
          exact ⟨ret_string HR.out, ⟨c8, hq11, HA8.out⟩, ho11⟩
        · have p1 : (c.nc != 0) = true := by simp [he]
          have HR := Lib.hid (show (⟨#[]⟩ : ByteArray) = bA c.nt by unfold CS.nt; rw [if_neg he]; rfl)
          clear he
          go_wp2_with fail
          with_reducible refine HE.out.mono ?_
          rintro e w12 ⟨rfl, hw⟩
          rw [hw]; clear hw
          go_wp2
          go_ret
          exact ⟨ret_string HR.out, ⟨c8, hq11, HA8.out⟩, ho11⟩
end Go.Proofs.YtfighopfgllneaaGreatDoor
