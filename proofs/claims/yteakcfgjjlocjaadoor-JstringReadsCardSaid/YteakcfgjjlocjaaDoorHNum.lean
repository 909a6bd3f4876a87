/- Plain facts, of no program: digits to the base 16 ('hd', 'hx'), what they are worth ('nibIs', 'nibV'), bytes of digits ('uh', 'hOK'). -/
import Derived.Test.YteakcfgjjlocjaaDoorWordBytes
import GoSem.Op.String
namespace Go.Proofs.YteakcfgjjlocjaaDoor
open Go Go.RowKit
set_option linter.unusedVariables false

/-- The digit of a number below 16. -/
def hd (n : Nat) : UInt8 := if n < 10 then UInt8.ofNat (48 + n) else UInt8.ofNat (87 + n)
/-- Is that a digit, and what is it worth? -/
def nibIs (c : Nat) : Bool := decide ((48 ≤ c ∧ c ≤ 57) ∨ (97 ≤ c ∧ c ≤ 102))
def nibV (c : Nat) : Nat := if 48 ≤ c ∧ c ≤ 57 then c - 48 else if 97 ≤ c ∧ c ≤ 102 then c - 87 else 0
/-- The digits of bytes. -/
def hx : List UInt8 → List UInt8
  | [] => []
  | b :: r => hd (b.toNat / 16) :: hd (b.toNat % 16) :: hx r
/-- The bytes that digits tell, whatever the digits are. -/
def uh : List UInt8 → List UInt8
  | a :: b :: r => UInt8.ofNat (16 * nibV a.toNat + nibV b.toNat) :: uh r
  | _ => []
/-- Are these digits of some bytes? -/
def hOK (l : List UInt8) : Bool := decide (l.length % 2 = 0) && l.all (fun b => nibIs b.toNat)

theorem hd_toNat {n : Nat} (h : n < 16) : (hd n).toNat = if n < 10 then 48 + n else 87 + n := by
  unfold hd
  split
  · rw [UInt8.toNat_ofNat']; omega
  · rw [UInt8.toNat_ofNat']; omega
theorem nib_hd {n : Nat} (h : n < 16) : nibIs (hd n).toNat = true ∧ nibV (hd n).toNat = n := by
  rw [hd_toNat h]
  unfold nibIs nibV
  split
  · exact ⟨decide_eq_true (by omega), by rw [if_pos (by omega)]; omega⟩
  · exact ⟨decide_eq_true (by omega), by rw [if_neg (by omega), if_pos (by omega)]; omega⟩
theorem nibV_lt (c : Nat) : nibV c < 16 := by
  unfold nibV; split
  · omega
  · split <;> omega
theorem hd_nib {c : UInt8} (h : nibIs c.toNat = true) : hd (nibV c.toNat) = c := by
  have h := of_decide_eq_true h
  apply UInt8.toNat_inj.mp
  rw [hd_toNat (nibV_lt _)]
  by_cases h1 : 48 ≤ c.toNat ∧ c.toNat ≤ 57
  · have e : nibV c.toNat = c.toNat - 48 := by unfold nibV; rw [if_pos h1]
    rw [e, if_pos (by omega)]; omega
  · have e : nibV c.toNat = c.toNat - 87 := by unfold nibV; rw [if_neg h1, if_pos (by omega)]
    rw [e, if_neg (by omega)]; omega
theorem hx_length : ∀ (l : List UInt8), (hx l).length = 2 * l.length
  | [] => rfl
  | b :: r => by simp only [hx, List.length_cons, hx_length r]; omega
theorem hx_append : ∀ (l m : List UInt8), hx (l ++ m) = hx l ++ hx m
  | [], m => rfl
  | b :: r, m => by simp only [List.cons_append, hx, hx_append r m]
theorem hx_one (b : UInt8) : hx [b] = [hd (b.toNat / 16), hd (b.toNat % 16)] := rfl
theorem hx_take (l : List UInt8) (k : Nat) (h : k < l.length) : hx (l.take (k + 1)) = hx (l.take k) ++ [hd (l[k].toNat / 16), hd (l[k].toNat % 16)] := by
  rw [List.take_succ_eq_append_getElem h, hx_append, hx_one]
theorem uh_hx : ∀ (l : List UInt8), uh (hx l) = l
  | [] => rfl
  | b :: r => by
    have h := b.toNat_lt
    rw [hx, uh, uh_hx r, (nib_hd (show b.toNat / 16 < 16 by omega)).2, (nib_hd (show b.toNat % 16 < 16 by omega)).2, show 16 * (b.toNat / 16) + b.toNat % 16 = b.toNat by omega]
    congr 1
    exact UInt8.toNat_inj.mp (by rw [UInt8.toNat_ofNat']; omega)
theorem hx_digits : ∀ (l : List UInt8), (hx l).all (fun b => nibIs b.toNat) = true
  | [] => rfl
  | b :: r => by
    have h := b.toNat_lt
    rw [hx, List.all_cons, List.all_cons, hx_digits r, (nib_hd (show b.toNat / 16 < 16 by omega)).1, (nib_hd (show b.toNat % 16 < 16 by omega)).1]; rfl
theorem hOK_hx (l : List UInt8) : hOK (hx l) = true := by
  unfold hOK; rw [hx_digits, hx_length, Bool.and_true]; exact decide_eq_true (by omega)
theorem hx_uh : ∀ (l : List UInt8), hOK l = true → hx (uh l) = l
  | [], _ => rfl
  | [a], h => by simp [hOK] at h
  | a :: b :: r, h => by
    unfold hOK at h
    rw [Bool.and_eq_true] at h
    obtain ⟨h1, h2⟩ := h
    rw [List.all_cons, List.all_cons, Bool.and_eq_true, Bool.and_eq_true] at h2
    obtain ⟨h3, h4, h5⟩ := h2
    have h1 := of_decide_eq_true h1
    have hr : hOK r = true := by
      unfold hOK; rw [h5, Bool.and_true]; exact decide_eq_true (by simp only [List.length_cons] at h1; omega)
    have va := nibV_lt a.toNat
    have vb := nibV_lt b.toNat
    have e : (UInt8.ofNat (16 * nibV a.toNat + nibV b.toNat)).toNat = 16 * nibV a.toNat + nibV b.toNat := by rw [UInt8.toNat_ofNat']; omega
    rw [uh, hx, hx_uh r hr, e, show (16 * nibV a.toNat + nibV b.toNat) / 16 = nibV a.toNat by omega, show (16 * nibV a.toNat + nibV b.toNat) % 16 = nibV b.toNat by omega, hd_nib h3, hd_nib h4]
/-- Digits of some bytes: just what these bytes' digits are. -/
theorem hOK_iff (l : List UInt8) : hOK l = true ↔ hx (uh l) = l :=
  ⟨hx_uh l, fun h => by rw [← h]; exact hOK_hx _⟩
theorem uh_length : ∀ (l : List UInt8), 2 * (uh l).length ≤ l.length
  | [] => Nat.le_refl _
  | [a] => Nat.zero_le _
  | a :: b :: r => by have := uh_length r; simp only [uh, List.length_cons]; omega
theorem uh_even : ∀ (l : List UInt8), 2 * (uh l).length = l.length - l.length % 2
  | [] => rfl
  | [a] => rfl
  | a :: b :: r => by have := uh_even r; simp only [uh, List.length_cons]; omega
theorem uh_snoc : ∀ (l : List UInt8) (a b : UInt8), l.length % 2 = 0 → uh (l ++ [a, b]) = uh l ++ [UInt8.ofNat (16 * nibV a.toNat + nibV b.toNat)]
  | [], a, b, _ => rfl
  | [x], a, b, h => by simp at h
  | x :: y :: r, a, b, h => by
    have hr : r.length % 2 = 0 := by simp only [List.length_cons] at h; omega
    simp only [List.cons_append, uh, uh_snoc r a b hr]
theorem uh_odd : ∀ (l : List UInt8) (a : UInt8), l.length % 2 = 0 → uh (l ++ [a]) = uh l
  | [], a, _ => rfl
  | [x], a, h => by simp at h
  | x :: y :: r, a, h => by
    have hr : r.length % 2 = 0 := by simp only [List.length_cons] at h; omega
    simp only [List.cons_append, uh, uh_odd r a hr]
/-- Two digits more. -/
theorem uh_take (l : List UInt8) (k : Nat) (h : k + 1 < l.length) (he : k % 2 = 0) : uh (l.take (k + 2)) = uh (l.take k) ++ [UInt8.ofNat (16 * nibV l[k].toNat + nibV l[k + 1].toNat)] := by
  rw [List.take_succ_eq_append_getElem h, List.take_succ_eq_append_getElem (show k < l.length by omega), List.append_assoc]
  exact uh_snoc _ _ _ (by rw [List.length_take, Nat.min_eq_left (by omega)]; exact he)
theorem uh_take_odd (l : List UInt8) (k : Nat) (h : k < l.length) (he : k % 2 = 0) : uh (l.take (k + 1)) = uh (l.take k) := by
  rw [List.take_succ_eq_append_getElem h]
  exact uh_odd _ _ (by rw [List.length_take, Nat.min_eq_left (by omega)]; exact he)

/-- Digits stand in order as numbers do. -/
theorem hd_lt {m n : Nat} (hm : m < 16) (hn : n < 16) : (hd m < hd n) = (m < n) := by
  apply propext
  rw [UInt8.lt_iff_toNat_lt, hd_toNat hm, hd_toNat hn]
  split <;> split <;> omega
theorem hd_eq {m n : Nat} (hm : m < 16) (hn : n < 16) : (hd m = hd n) = (m = n) := by
  apply propext
  rw [← UInt8.toNat_inj, hd_toNat hm, hd_toNat hn]
  split <;> split <;> omega
/-- Texts of digits stand in order as the bytes do. -/
theorem hx_less : ∀ (a b : List UInt8), Op.bytesLess (hx a) (hx b) = Op.bytesLess a b
  | [], [] => rfl
  | [], b :: r => rfl
  | a :: r, [] => rfl
  | a :: x, b :: y => by
    have ha := a.toNat_lt
    have hb := b.toNat_lt
    have h1 : a.toNat / 16 < 16 := by omega
    have h2 : b.toNat / 16 < 16 := by omega
    have h3 : a.toNat % 16 < 16 := by omega
    have h4 : b.toNat % 16 < 16 := by omega
    simp only [hx, Op.bytesLess, hx_less x y, hd_lt h1 h2, hd_lt h3 h4]
    have e1 : (hd (a.toNat / 16) == hd (b.toNat / 16)) = decide (a.toNat / 16 = b.toNat / 16) := by
      rw [Bool.eq_iff_iff, beq_iff_eq, decide_eq_true_iff, hd_eq h1 h2]
    have e2 : (hd (a.toNat % 16) == hd (b.toNat % 16)) = decide (a.toNat % 16 = b.toNat % 16) := by
      rw [Bool.eq_iff_iff, beq_iff_eq, decide_eq_true_iff, hd_eq h3 h4]
    have e3 : (a == b) = decide (a.toNat = b.toNat) := by
      rw [Bool.eq_iff_iff, beq_iff_eq, decide_eq_true_iff, UInt8.toNat_inj]
    have e4 : (a < b) = (a.toNat < b.toNat) := propext UInt8.lt_iff_toNat_lt
    rw [e1, e2, e3]
    simp only [e4]
    rcases Nat.lt_trichotomy (a.toNat / 16) (b.toNat / 16) with h | h | h
    · rw [decide_eq_true h, decide_eq_true (show a.toNat < b.toNat by omega)]; rfl
    · rw [decide_eq_false (show ¬ a.toNat / 16 < b.toNat / 16 by omega), decide_eq_true h]
      rcases Nat.lt_trichotomy (a.toNat % 16) (b.toNat % 16) with k | k | k
      · rw [decide_eq_true k, decide_eq_true (show a.toNat < b.toNat by omega)]; rfl
      · rw [decide_eq_false (show ¬ a.toNat % 16 < b.toNat % 16 by omega), decide_eq_true k, decide_eq_false (show ¬ a.toNat < b.toNat by omega), decide_eq_true (show a.toNat = b.toNat by omega)]; rfl
      · rw [decide_eq_false (show ¬ a.toNat % 16 < b.toNat % 16 by omega), decide_eq_false (show ¬ a.toNat % 16 = b.toNat % 16 by omega), decide_eq_false (show ¬ a.toNat < b.toNat by omega), decide_eq_false (show ¬ a.toNat = b.toNat by omega)]; rfl
    · rw [decide_eq_false (show ¬ a.toNat / 16 < b.toNat / 16 by omega), decide_eq_false (show ¬ a.toNat / 16 = b.toNat / 16 by omega), decide_eq_false (show ¬ a.toNat < b.toNat by omega), decide_eq_false (show ¬ a.toNat = b.toNat by omega)]; rfl

/-- The digits, one by one. -/
theorem digit_all : ∀ n : Fin 16, (ByteArray.mk #[48, 49, 50, 51, 52, 53, 54, 55, 56, 57, 97, 98, 99, 100, 101, 102])[n.val]'(n.isLt) = hd n.val := by decide +kernel
theorem digit_at (n : Nat) (h : n < 16) : (ByteArray.mk #[48, 49, 50, 51, 52, 53, 54, 55, 56, 57, 97, 98, 99, 100, 101, 102])[n]'h = hd n := digit_all ⟨n, h⟩
end Go.Proofs.YteakcfgjjlocjaaDoor
