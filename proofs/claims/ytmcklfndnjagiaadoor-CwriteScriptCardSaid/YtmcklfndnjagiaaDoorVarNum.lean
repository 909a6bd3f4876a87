/- Plain facts, of no program: a number's bytes by sevens ('vB'), the number of such bytes ('vvL'), how many of a list's first bytes are 128 or more ('vlead'), what a cursor reads there. -/
import Derived.Test.YtmcklfndnjagiaaDoorPlain
import Derived.Test.YtmcklfndnjagiaaDoorWordBytes
import Derived.Laws.MathBits
namespace Go.Proofs.YtmcklfndnjagiaaDoor
open Go Go.RowKit
set_option linter.unusedVariables false

/-- A number's bytes by sevens. -/
def vB (u : Nat) : List UInt8 := if h : u < 128 then [UInt8.ofNat u] else UInt8.ofNat (128 + u % 128) :: vB (u / 128)
termination_by u
decreasing_by omega
theorem vB_small {u : Nat} (h : u < 128) : vB u = [UInt8.ofNat u] := by rw [vB, dif_pos h]
theorem vB_great {u : Nat} (h : ¬ u < 128) : vB u = UInt8.ofNat (128 + u % 128) :: vB (u / 128) := by rw [vB, dif_neg h]

/-- The number of bytes by sevens. -/
def vvL : List UInt8 → Nat
  | [] => 0
  | b :: r => b.toNat % 128 + 128 * vvL r
/-- How many bytes ahead of the first one below 128. -/
def vlead : List UInt8 → Nat
  | [] => 0
  | b :: r => if 128 ≤ b.toNat then vlead r + 1 else 0
/-- These are a number's bytes: the last one alone is below 128. -/
def VF : List UInt8 → Prop
  | [] => False
  | [b] => b.toNat < 128
  | b :: c :: r => 128 ≤ b.toNat ∧ VF (c :: r)

theorem toNat_ofNat8 {n : Nat} (h : n < 256) : (UInt8.ofNat n).toNat = n := by rw [UInt8.toNat_ofNat']; omega

theorem vB_pos (u : Nat) : 0 < (vB u).length := by
  rw [vB]; split <;> simp
theorem vB_ind {P : Nat → Prop} (hs : ∀ u, u < 128 → P u) (hg : ∀ u, ¬ u < 128 → P (u / 128) → P u) : ∀ u, P u := by
  intro u
  induction u using Nat.strongRecOn with
  | _ u ih =>
    by_cases h : u < 128
    · exact hs u h
    · exact hg u h (ih _ (by omega))
theorem vvL_vB (u : Nat) : vvL (vB u) = u := by
  refine vB_ind (P := fun u => vvL (vB u) = u) ?_ ?_ u
  · intro u h
    rw [vB_small h, vvL, vvL, toNat_ofNat8 (by omega)]; omega
  · intro u h ih
    rw [vB_great h, vvL, ih, toNat_ofNat8 (by omega)]; omega
theorem VF_vB (u : Nat) : VF (vB u) := by
  refine vB_ind (P := fun u => VF (vB u)) ?_ ?_ u
  · intro u h
    rw [vB_small h]
    show (UInt8.ofNat u).toNat < 128
    rw [toNat_ofNat8 (by omega)]; exact h
  · intro u h ih
    rw [vB_great h]
    have hp := vB_pos (u / 128)
    match hv : vB (u / 128), hp with
    | c :: r, _ =>
      rw [hv] at ih
      exact ⟨by rw [toNat_ofNat8 (by omega)]; omega, ih⟩
/-- A list of a number's bytes that has just as many as the number needs is that number's. -/
theorem vB_of_length : ∀ (l : List UInt8), VF l → (vB (vvL l)).length = l.length → vB (vvL l) = l
  | [], h, _ => h.elim
  | [b], h, _ => by
    have hb : b.toNat < 128 := h
    have e : vvL [b] = b.toNat := by simp only [vvL]; omega
    rw [e, vB_small hb]
    simp
  | b :: c :: r, h, hl => by
    obtain ⟨hb, hr⟩ := h
    have hb2 := b.toNat_lt
    have e : vvL (b :: c :: r) = b.toNat % 128 + 128 * vvL (c :: r) := rfl
    by_cases hs : vvL (b :: c :: r) < 128
    · rw [vB_small hs] at hl; simp at hl
    · rw [vB_great hs] at hl ⊢
      have e1 : vvL (b :: c :: r) / 128 = vvL (c :: r) := by omega
      have e2 : 128 + vvL (b :: c :: r) % 128 = b.toNat := by omega
      rw [e1] at hl ⊢
      rw [e2, vB_of_length (c :: r) hr (by simpa using hl)]
      simp
/-- No number's bytes are fewer than those that it needs. -/
theorem vB_least : ∀ (l : List UInt8), VF l → (vB (vvL l)).length ≤ l.length
  | [], h => h.elim
  | [b], h => by
    have hb : b.toNat < 128 := h
    have e : vvL [b] = b.toNat := by simp only [vvL]; omega
    rw [e, vB_small hb]; simp
  | b :: c :: r, h => by
    obtain ⟨hb, hr⟩ := h
    have e : vvL (b :: c :: r) = b.toNat % 128 + 128 * vvL (c :: r) := rfl
    by_cases hs : vvL (b :: c :: r) < 128
    · rw [vB_small hs]; simp
    · have e1 : vvL (b :: c :: r) / 128 = vvL (c :: r) := by have := b.toNat_lt; omega
      have := vB_least (c :: r) hr
      rw [vB_great hs, e1]
      simp only [List.length_cons] at this ⊢
      omega

theorem vvL_lt : ∀ (l : List UInt8), vvL l < 128 ^ l.length
  | [] => by simp [vvL]
  | b :: r => by
    have h1 := vvL_lt r
    rw [vvL, List.length_cons, Nat.pow_succ]
    omega
theorem vvL_snoc : ∀ (l : List UInt8) (b : UInt8), vvL (l ++ [b]) = vvL l + b.toNat % 128 * 128 ^ l.length
  | [], b => by simp [vvL]
  | a :: r, b => by
    have h : 128 * (b.toNat % 128 * 128 ^ r.length) = b.toNat % 128 * (128 ^ r.length * 128) := by rw [Nat.mul_left_comm, Nat.mul_comm 128]
    rw [List.cons_append, vvL, vvL_snoc r b, vvL, List.length_cons, Nat.pow_succ, Nat.mul_add, h, Nat.add_assoc]
theorem vvL_take (l : List UInt8) (k : Nat) (h : k < l.length) : vvL (l.take (k + 1)) = vvL (l.take k) + l[k].toNat % 128 * 128 ^ k := by
  rw [List.take_succ_eq_append_getElem h, vvL_snoc, List.length_take, Nat.min_eq_left (Nat.le_of_lt h)]

theorem vlead_le : ∀ (l : List UInt8), vlead l ≤ l.length
  | [] => Nat.le_refl _
  | b :: r => by
    have := vlead_le r
    rw [vlead, List.length_cons]
    split <;> omega
theorem vlead_ge : ∀ (l : List UInt8) (j : Nat) (h : j < l.length), j < vlead l → 128 ≤ l[j].toNat
  | b :: r, 0, _, hj => by
    rw [vlead] at hj
    split at hj
    · simpa
    · omega
  | b :: r, j + 1, h, hj => by
    rw [vlead] at hj
    split at hj
    · simpa using vlead_ge r j (by simpa using h) (by omega)
    · omega
theorem vlead_lt : ∀ (l : List UInt8) (h : vlead l < l.length), l[vlead l].toNat < 128
  | [], h => by simp at h
  | b :: r, h => by
    by_cases hb : 128 ≤ b.toNat
    · have e : vlead (b :: r) = vlead r + 1 := by rw [vlead, if_pos hb]
      have h2 : vlead r < r.length := by rw [e] at h; simpa using h
      have := vlead_lt r h2
      simp only [e, List.getElem_cons_succ]; exact this
    · have e : vlead (b :: r) = 0 := by rw [vlead, if_neg hb]
      simp only [e, List.getElem_cons_zero]; omega
/-- One byte more of 128 or more. -/
theorem vlead_more {l : List UInt8} {k : Nat} (h : k < l.length) (hk : k ≤ vlead l) (hb : 128 ≤ l[k].toNat) : k + 1 ≤ vlead l := by
  rcases Nat.lt_or_ge k (vlead l) with h1 | h1
  · omega
  · obtain rfl : k = vlead l := by omega
    have := vlead_lt l h; omega
theorem vlead_here {l : List UInt8} {k : Nat} (h : k < l.length) (hk : k ≤ vlead l) (hb : l[k].toNat < 128) : vlead l = k := by
  rcases Nat.lt_or_ge k (vlead l) with h1 | h1
  · have := vlead_ge l k h h1; omega
  · omega
theorem VF_take : ∀ (l : List UInt8), vlead l < l.length → VF (l.take (vlead l + 1))
  | [], h => by simp at h
  | b :: r, h => by
    by_cases hb : 128 ≤ b.toNat
    · have e : vlead (b :: r) = vlead r + 1 := by rw [vlead, if_pos hb]
      have h2 : vlead r < r.length := by rw [e] at h; simpa using h
      have ih := VF_take r h2
      rw [e, List.take_succ_cons]
      match hr : r.take (vlead r + 1), ih with
      | c :: q, ih => exact ⟨hb, ih⟩
    · have e : vlead (b :: r) = 0 := by rw [vlead, if_neg hb]
      rw [e]
      show b.toNat < 128
      omega
theorem vlead_VF : ∀ (l m : List UInt8), VF l → vlead (l ++ m) + 1 = l.length
  | [], _, h => h.elim
  | [b], m, h => by
    have hb : b.toNat < 128 := h
    rw [List.cons_append, vlead, if_neg (by omega)]; rfl
  | b :: c :: r, m, h => by
    obtain ⟨hb, hr⟩ := h
    have := vlead_VF (c :: r) m hr
    rw [List.cons_append, vlead, if_pos hb, this]; rfl

/-- How many bytes a number has, by its bits. -/
theorem vB_size (u : Nat) : (vB u).length = max 1 ((bitLen u + 6) / 7) := by
  refine vB_ind (P := fun u => (vB u).length = max 1 ((bitLen u + 6) / 7)) ?_ ?_ u
  · intro u h
    rw [vB_small h]
    have : bitLen u ≤ 7 := by
      unfold bitLen
      split
      · omega
      · rename_i h0
        have := (Nat.log2_lt h0).2 (show u < 2 ^ 7 from h)
        omega
    rw [List.length_singleton]; omega
  · intro u h ih
    have h0 : u / 2 ^ 7 ≠ 0 := by show u / 128 ≠ 0; omega
    have h1 := bitLen_shift u 7 h0
    have h2 : u / 2 ^ 7 = u / 128 := rfl
    rw [h2] at h1 h0
    have h3 : 1 ≤ bitLen (u / 128) := by unfold bitLen; rw [if_neg h0]; omega
    rw [vB_great h, List.length_cons, ih, h1]
    omega
theorem bitLen_le {u n : Nat} (h : u < 2 ^ n) : bitLen u ≤ n := by
  unfold bitLen
  split
  · omega
  · rename_i h0
    have := (Nat.log2_lt h0).2 h
    omega
theorem vB_le10 {u : Nat} (h : u < 18446744073709551616) : (vB u).length ≤ 10 := by
  have := bitLen_le (n := 64) h
  rw [vB_size]; omega
/-- Of ten bytes the last one is at most 1. -/
theorem vB_tenth {u : Nat} (h : u < 18446744073709551616) (hl : 9 < (vB u).length) : (vB u)[9].toNat ≤ 1 := by
  have h10 := vB_le10 h
  have hv := vvL_vB u
  have ht := vvL_take (vB u) 9 hl
  have hvf := VF_vB u
  have hle := vlead_VF (vB u) [] hvf
  rw [List.append_nil] at hle
  have hlt := vlead_lt (vB u) (by omega)
  have e9 : vlead (vB u) = 9 := by omega
  simp only [e9] at hlt
  rw [List.take_of_length_le (by omega), hv] at ht
  have : (128 : Nat) ^ 9 = 9223372036854775808 := by decide
  rw [this] at ht
  omega

/-- The bytes that a cursor has ahead. -/
def CS.rest (c : CS) : List UInt8 := (c.s.data.toList.drop c.at_).take (c.en - c.at_)
theorem CS.rest_length {c : CS} (h : c.ok) : c.rest.length = c.en - c.at_ := by
  obtain ⟨h1, h2, h3⟩ := h
  unfold CS.rest
  rw [List.length_take, List.length_drop, toList_size]; omega
theorem CS.rest_get {c : CS} (h : c.ok) (j : Nat) (hj : j < c.rest.length) (hs : c.at_ + j < c.s.size) : c.rest[j] = c.s[c.at_ + j] := by
  simp only [CS.rest, List.getElem_take, List.getElem_drop]
  exact byte_at _ _ hs _
theorem CS.rest_peek {c : CS} (h : c.ok) (h0 : c.er = 0) (j : Nat) (hj : j < c.rest.length) : ({ c with at_ := c.at_ + j } : CS).peekB = (c.rest[j].toNat : Int) := by
  have hl := CS.rest_length h
  have hs : c.at_ + j < c.s.size := by have := h.2.1; omega
  have hp : ({ c with at_ := c.at_ + j } : CS).peekIs = true := by unfold CS.peekIs; simp [h0]; omega
  unfold CS.peekB
  rw [if_pos hp, CS.rest_get h j hj hs]
  have : c.s.data[c.at_ + j]? = some c.s[c.at_ + j] := by rw [Array.getElem?_eq_getElem (by simpa using hs)]; rfl
  simp only [this]; rfl

/-- What is wrong with reading a number by sevens: 0, it is read. -/
def CS.vCode (c : CS) : Int :=
  if c.er ≠ 0 then c.er else if 9 ≤ vlead c.rest ∧ 1 < ((c.rest[9]?).getD 0).toNat then 4 else if c.rest.length ≤ vlead c.rest then 1 else 0
/-- The number that is read: 0, if something is wrong. -/
def CS.vVal (c : CS) : Nat := if c.vCode = 0 then vvL (c.rest.take (vlead c.rest + 1)) else 0
/-- The cursor behind it. -/
def CS.vTo (c : CS) : CS :=
  if c.er ≠ 0 then c else if 9 ≤ vlead c.rest ∧ 1 < ((c.rest[9]?).getD 0).toNat then { c with at_ := c.at_ + 10, er := 4 } else if c.rest.length ≤ vlead c.rest then { c with at_ := c.en, er := 1 } else { c with at_ := c.at_ + (vlead c.rest + 1) }

theorem CS.nine {c : CS} (h : 1 < ((c.rest[9]?).getD 0).toNat) : 9 < c.rest.length := by
  rcases Nat.lt_or_ge 9 c.rest.length with h1 | h1
  · exact h1
  · rw [List.getElem?_eq_none h1] at h; simp at h
theorem CS.vTo_er (c : CS) : c.vTo.er = c.vCode := by
  unfold CS.vTo CS.vCode
  split
  · rfl
  · split
    · rfl
    · split
      · rfl
      · rename_i h _ _; simpa using h
theorem CS.vTo_s (c : CS) : c.vTo.s = c.s ∧ c.vTo.en = c.en := by
  unfold CS.vTo
  split
  · exact ⟨rfl, rfl⟩
  · split
    · exact ⟨rfl, rfl⟩
    · split <;> exact ⟨rfl, rfl⟩
theorem CS.vTo_ok {c : CS} (h : c.ok) : c.vTo.ok := by
  have hl := CS.rest_length h
  have hv := vlead_le c.rest
  obtain ⟨h1, h2, h3⟩ := h
  unfold CS.vTo
  split
  · exact ⟨h1, h2, h3⟩
  · split
    · rename_i hh
      have := CS.nine hh.2
      exact ⟨by simp only; omega, h2, h3⟩
    · split
      · exact ⟨Nat.le_refl _, h2, h3⟩
      · exact ⟨by simp only; omega, h2, h3⟩
theorem CS.vTo_good {c : CS} (h : c.vCode = 0) : c.er = 0 ∧ c.vTo = { c with at_ := c.at_ + (vlead c.rest + 1) } ∧ vlead c.rest < c.rest.length ∧ vlead c.rest ≤ 9 ∧ (∀ h9 : 9 < c.rest.length, vlead c.rest = 9 → c.rest[9].toNat ≤ 1) := by
  unfold CS.vCode at h
  unfold CS.vTo
  by_cases h0 : c.er ≠ 0
  · rw [if_pos h0] at h; exact absurd h h0
  · rw [if_neg h0] at h ⊢
    by_cases h1 : 9 ≤ vlead c.rest ∧ 1 < ((c.rest[9]?).getD 0).toNat
    · rw [if_pos h1] at h; omega
    · rw [if_neg h1] at h ⊢
      by_cases h2 : c.rest.length ≤ vlead c.rest
      · rw [if_pos h2] at h; omega
      · rw [if_neg h2]
        refine ⟨by simpa using h0, rfl, by omega, ?_, ?_⟩
        · rcases Nat.lt_or_ge 9 (vlead c.rest) with h3 | h3
          · exfalso
            have h4 := vlead_ge c.rest 9 (by omega) h3
            apply h1
            rw [List.getElem?_eq_getElem (by omega)]
            exact ⟨by omega, by simp only [Option.getD_some]; omega⟩
          · exact h3
        · intro h9 he
          rcases Nat.lt_or_ge 1 (c.rest[9].toNat) with h3 | h3
          · exfalso
            apply h1
            rw [List.getElem?_eq_getElem h9]
            exact ⟨by omega, h3⟩
          · exact h3
theorem vvL_lt64 (l : List UInt8) (n : Nat) (hn : n < l.length) (h9 : n ≤ 9) (ht : ∀ h : 9 < l.length, n = 9 → l[9].toNat ≤ 1) : vvL (l.take (n + 1)) < 18446744073709551616 := by
  rw [vvL_take l n hn]
  have h1 := vvL_lt (l.take n)
  rw [List.length_take, Nat.min_eq_left (Nat.le_of_lt hn)] at h1
  rcases Nat.lt_or_ge n 9 with h | h
  · have h2 : 128 ^ n ≤ 128 ^ 8 := Nat.pow_le_pow_right (by decide) (by omega)
    have h3 : l[n].toNat % 128 * 128 ^ n ≤ 127 * 128 ^ 8 := Nat.mul_le_mul (by omega) h2
    have h4 : 128 ^ 8 + 127 * 128 ^ 8 < 18446744073709551616 := by decide
    omega
  · obtain rfl : n = 9 := by omega
    have := ht hn rfl
    have h2 : (128 : Nat) ^ 9 = 9223372036854775808 := by decide
    rw [h2] at h1 ⊢
    omega
theorem CS.vVal_lt (c : CS) : c.vVal < 18446744073709551616 := by
  unfold CS.vVal
  split
  · rename_i h
    obtain ⟨_, _, h1, h2, h3⟩ := CS.vTo_good h
    exact vvL_lt64 _ _ h1 h2 h3
  · omega
/-- A seven of bits that is shifted and laid beside those below it. -/
theorem or_seven (V b k : Nat) (hV : V < 128 ^ k) (hb : b < 128) (hk : k ≤ 9) (h9 : k = 9 → b ≤ 1) :
    bits .or .u64 (V : Int) (IntKind.u64.wrap ((b : Int) * 2 ^ (7 * k))) = ((V + b * 128 ^ k : Nat) : Int) := by
  have h1 : (128 : Nat) ^ k = 2 ^ (7 * k) := by rw [Nat.pow_mul]
  have h2 : b * 128 ^ k < 18446744073709551616 := by
    rcases Nat.lt_or_ge k 9 with h | h
    · have h3 : 128 ^ k ≤ 128 ^ 8 := Nat.pow_le_pow_right (by decide) (by omega)
      have h4 : b * 128 ^ k ≤ 127 * 128 ^ 8 := Nat.mul_le_mul (by omega) h3
      have h5 : 127 * 128 ^ 8 < 18446744073709551616 := by decide
      omega
    · obtain rfl : k = 9 := by omega
      have := h9 rfl
      have h5 : (128 : Nat) ^ 9 = 9223372036854775808 := by decide
      rw [h5]; omega
  have h6 : ((b : Int) * 2 ^ (7 * k)) = ((b * 128 ^ k : Nat) : Int) := by rw [h1, Int.natCast_mul, Int.natCast_pow]; rfl
  have h7 : V < 18446744073709551616 := by
    have h3 : 128 ^ k ≤ 128 ^ 9 := Nat.pow_le_pow_right (by decide) (by omega)
    have h5 : 128 ^ 9 < 18446744073709551616 := by decide
    omega
  rw [h6, IntWalk.u64_in _ (by omega), u64_or_nat _ _ h7 h2, h1, or_shift _ _ _ (by rw [← h1]; exact hV)]

end Go.Proofs.YtmcklfndnjagiaaDoor
