/- Several texts in one (VarNum, VarLen, VarRd, VarPut, VBkN): each begins with its own words. -/
import Derived.Test.YtjpppnfkpnfhoaaDoorZA
import Derived.Laws.MathBits
import Derived.Test.YtjpppnfkpnfhoaaDoorZB
import Derived.Lib.Strings
import Derived.Lib.Slices
import Derived.Lib.Small
import Derived.Lib.Walk
import Derived.Lib.BitFns
import Derived.Deep.Light
/- Plain facts, of no program: a number's bytes by sevens ('vB'), the number of such bytes ('vvL'), how many of a list's first bytes are 128 or more ('vlead'), what a cursor reads there. -/
namespace Go.Proofs.YtjpppnfkpnfhoaaDoor
open Go Go.RowKit
set_option linter.unusedVariables false

/-- A number's bytes by sevens. -/
def vB (u : Nat) : List UInt8 := if h : u < 128 then [UInt8.ofNat u] else UInt8.ofNat (128 + u % 128) :: vB (u / 128)
termination_by u
decreasing_by omega
theorem vB_small {u : Nat} (h : u < 128) : vB u = [UInt8.ofNat u] := by rw [vB, dif_pos h]
theorem vB_great {u : Nat} (h : ¬ u < 128) : vB u = UInt8.ofNat (128 + u % 128) :: vB (u / 128) := by rw [vB, dif_neg h]

/-- The number of bytes by sevens. -/
def vvL : List UInt8 → Nat
  | [] => 0
  | b :: r => b.toNat % 128 + 128 * vvL r
/-- How many bytes ahead of the first one below 128. -/
def vlead : List UInt8 → Nat
  | [] => 0
  | b :: r => if 128 ≤ b.toNat then vlead r + 1 else 0
/-- These are a number's bytes: the last one alone is below 128. -/
def VF : List UInt8 → Prop
  | [] => False
  | [b] => b.toNat < 128
  | b :: c :: r => 128 ≤ b.toNat ∧ VF (c :: r)

theorem toNat_ofNat8 {n : Nat} (h : n < 256) : (UInt8.ofNat n).toNat = n := by rw [UInt8.toNat_ofNat']; omega

theorem vB_pos (u : Nat) : 0 < (vB u).length := by
  rw [vB]; split <;> simp
theorem vB_ind {P : Nat → Prop} (hs : ∀ u, u < 128 → P u) (hg : ∀ u, ¬ u < 128 → P (u / 128) → P u) : ∀ u, P u := by
  intro u
  induction u using Nat.strongRecOn with
  | _ u ih =>
    by_cases h : u < 128
    · exact hs u h
    · exact hg u h (ih _ (by omega))
theorem vvL_vB (u : Nat) : vvL (vB u) = u := by
  refine vB_ind (P := fun u => vvL (vB u) = u) ?_ ?_ u
  · intro u h
    rw [vB_small h, vvL, vvL, toNat_ofNat8 (by omega)]; omega
  · intro u h ih
    rw [vB_great h, vvL, ih, toNat_ofNat8 (by omega)]; omega
theorem VF_vB (u : Nat) : VF (vB u) := by
  refine vB_ind (P := fun u => VF (vB u)) ?_ ?_ u
  · intro u h
    rw [vB_small h]
    show (UInt8.ofNat u).toNat < 128
    rw [toNat_ofNat8 (by omega)]; exact h
  · intro u h ih
    rw [vB_great h]
    have hp := vB_pos (u / 128)
    match hv : vB (u / 128), hp with
    | c :: r, _ =>
      rw [hv] at ih
      exact ⟨by rw [toNat_ofNat8 (by omega)]; omega, ih⟩
/-- A list of a number's bytes that has just as many as the number needs is that number's. -/
theorem vB_of_length : ∀ (l : List UInt8), VF l → (vB (vvL l)).length = l.length → vB (vvL l) = l
  | [], h, _ => h.elim
  | [b], h, _ => by
    have hb : b.toNat < 128 := h
    have e : vvL [b] = b.toNat := by simp only [vvL]; omega
    rw [e, vB_small hb]
    simp
  | b :: c :: r, h, hl => by
    obtain ⟨hb, hr⟩ := h
    have hb2 := b.toNat_lt
    have e : vvL (b :: c :: r) = b.toNat % 128 + 128 * vvL (c :: r) := rfl
    by_cases hs : vvL (b :: c :: r) < 128
    · rw [vB_small hs] at hl; simp at hl
    · rw [vB_great hs] at hl ⊢
      have e1 : vvL (b :: c :: r) / 128 = vvL (c :: r) := by omega
      have e2 : 128 + vvL (b :: c :: r) % 128 = b.toNat := by omega
      rw [e1] at hl ⊢
      rw [e2, vB_of_length (c :: r) hr (by simpa using hl)]
      simp
/-- No number's bytes are fewer than those that it needs. -/
theorem vB_least : ∀ (l : List UInt8), VF l → (vB (vvL l)).length ≤ l.length
  | [], h => h.elim
  | [b], h => by
    have hb : b.toNat < 128 := h
    have e : vvL [b] = b.toNat := by simp only [vvL]; omega
    rw [e, vB_small hb]; simp
  | b :: c :: r, h => by
    obtain ⟨hb, hr⟩ := h
    have e : vvL (b :: c :: r) = b.toNat % 128 + 128 * vvL (c :: r) := rfl
    by_cases hs : vvL (b :: c :: r) < 128
    · rw [vB_small hs]; simp
    · have e1 : vvL (b :: c :: r) / 128 = vvL (c :: r) := by have := b.toNat_lt; omega
      have := vB_least (c :: r) hr
      rw [vB_great hs, e1]
      simp only [List.length_cons] at this ⊢
      omega

theorem vvL_lt : ∀ (l : List UInt8), vvL l < 128 ^ l.length
  | [] => by simp [vvL]
  | b :: r => by
    have h1 := vvL_lt r
    rw [vvL, List.length_cons, Nat.pow_succ]
    omega
theorem vvL_snoc : ∀ (l : List UInt8) (b : UInt8), vvL (l ++ [b]) = vvL l + b.toNat % 128 * 128 ^ l.length
  | [], b => by simp [vvL]
  | a :: r, b => by
    have h : 128 * (b.toNat % 128 * 128 ^ r.length) = b.toNat % 128 * (128 ^ r.length * 128) := by rw [Nat.mul_left_comm, Nat.mul_comm 128]
    rw [List.cons_append, vvL, vvL_snoc r b, vvL, List.length_cons, Nat.pow_succ, Nat.mul_add, h, Nat.add_assoc]
theorem vvL_take (l : List UInt8) (k : Nat) (h : k < l.length) : vvL (l.take (k + 1)) = vvL (l.take k) + l[k].toNat % 128 * 128 ^ k := by
  rw [List.take_succ_eq_append_getElem h, vvL_snoc, List.length_take, Nat.min_eq_left (Nat.le_of_lt h)]

theorem vlead_le : ∀ (l : List UInt8), vlead l ≤ l.length
  | [] => Nat.le_refl _
  | b :: r => by
    have := vlead_le r
    rw [vlead, List.length_cons]
    split <;> omega
theorem vlead_ge : ∀ (l : List UInt8) (j : Nat) (h : j < l.length), j < vlead l → 128 ≤ l[j].toNat
  | b :: r, 0, _, hj => by
    rw [vlead] at hj
    split at hj
    · simpa
    · omega
  | b :: r, j + 1, h, hj => by
    rw [vlead] at hj
    split at hj
    · simpa using vlead_ge r j (by simpa using h) (by omega)
    · omega
theorem vlead_lt : ∀ (l : List UInt8) (h : vlead l < l.length), l[vlead l].toNat < 128
  | [], h => by simp at h
  | b :: r, h => by
    by_cases hb : 128 ≤ b.toNat
    · have e : vlead (b :: r) = vlead r + 1 := by rw [vlead, if_pos hb]
      have h2 : vlead r < r.length := by rw [e] at h; simpa using h
      have := vlead_lt r h2
      simp only [e, List.getElem_cons_succ]; exact this
    · have e : vlead (b :: r) = 0 := by rw [vlead, if_neg hb]
      simp only [e, List.getElem_cons_zero]; omega
/-- One byte more of 128 or more. -/
theorem vlead_more {l : List UInt8} {k : Nat} (h : k < l.length) (hk : k ≤ vlead l) (hb : 128 ≤ l[k].toNat) : k + 1 ≤ vlead l := by
  rcases Nat.lt_or_ge k (vlead l) with h1 | h1
  · omega
  · obtain rfl : k = vlead l := by omega
    have := vlead_lt l h; omega
theorem vlead_here {l : List UInt8} {k : Nat} (h : k < l.length) (hk : k ≤ vlead l) (hb : l[k].toNat < 128) : vlead l = k := by
  rcases Nat.lt_or_ge k (vlead l) with h1 | h1
  · have := vlead_ge l k h h1; omega
  · omega
theorem VF_take : ∀ (l : List UInt8), vlead l < l.length → VF (l.take (vlead l + 1))
  | [], h => by simp at h
  | b :: r, h => by
    by_cases hb : 128 ≤ b.toNat
    · have e : vlead (b :: r) = vlead r + 1 := by rw [vlead, if_pos hb]
      have h2 : vlead r < r.length := by rw [e] at h; simpa using h
      have ih := VF_take r h2
      rw [e, List.take_succ_cons]
      match hr : r.take (vlead r + 1), ih with
      | c :: q, ih => exact ⟨hb, ih⟩
    · have e : vlead (b :: r) = 0 := by rw [vlead, if_neg hb]
      rw [e]
      show b.toNat < 128
      omega
theorem vlead_VF : ∀ (l m : List UInt8), VF l → vlead (l ++ m) + 1 = l.length
  | [], _, h => h.elim
  | [b], m, h => by
    have hb : b.toNat < 128 := h
    rw [List.cons_append, vlead, if_neg (by omega)]; rfl
  | b :: c :: r, m, h => by
    obtain ⟨hb, hr⟩ := h
    have := vlead_VF (c :: r) m hr
    rw [List.cons_append, vlead, if_pos hb, this]; rfl

/-- How many bytes a number has, by its bits. -/
theorem vB_size (u : Nat) : (vB u).length = max 1 ((bitLen u + 6) / 7) := by
  refine vB_ind (P := fun u => (vB u).length = max 1 ((bitLen u + 6) / 7)) ?_ ?_ u
  · intro u h
    rw [vB_small h]
    have : bitLen u ≤ 7 := by
      unfold bitLen
      split
      · omega
      · rename_i h0
        have := (Nat.log2_lt h0).2 (show u < 2 ^ 7 from h)
        omega
    rw [List.length_singleton]; omega
  · intro u h ih
    have h0 : u / 2 ^ 7 ≠ 0 := by show u / 128 ≠ 0; omega
    have h1 := bitLen_shift u 7 h0
    have h2 : u / 2 ^ 7 = u / 128 := rfl
    rw [h2] at h1 h0
    have h3 : 1 ≤ bitLen (u / 128) := by unfold bitLen; rw [if_neg h0]; omega
    rw [vB_great h, List.length_cons, ih, h1]
    omega
theorem bitLen_le {u n : Nat} (h : u < 2 ^ n) : bitLen u ≤ n := by
  unfold bitLen
  split
  · omega
  · rename_i h0
    have := (Nat.log2_lt h0).2 h
    omega
theorem vB_le10 {u : Nat} (h : u < 18446744073709551616) : (vB u).length ≤ 10 := by
  have := bitLen_le (n := 64) h
  rw [vB_size]; omega
/-- Of ten bytes the last one is at most 1. -/
theorem vB_tenth {u : Nat} (h : u < 18446744073709551616) (hl : 9 < (vB u).length) : (vB u)[9].toNat ≤ 1 := by
  have h10 := vB_le10 h
  have hv := vvL_vB u
  have ht := vvL_take (vB u) 9 hl
  have hvf := VF_vB u
  have hle := vlead_VF (vB u) [] hvf
  rw [List.append_nil] at hle
  have hlt := vlead_lt (vB u) (by omega)
  have e9 : vlead (vB u) = 9 := by omega
  simp only [e9] at hlt
  rw [List.take_of_length_le (by omega), hv] at ht
  have : (128 : Nat) ^ 9 = 9223372036854775808 := by decide
  rw [this] at ht
  omega

/-- The bytes that a cursor has ahead. -/
def CS.rest (c : CS) : List UInt8 := (c.s.data.toList.drop c.at_).take (c.en - c.at_)
theorem CS.rest_length {c : CS} (h : c.ok) : c.rest.length = c.en - c.at_ := by
  obtain ⟨h1, h2, h3⟩ := h
  unfold CS.rest
  rw [List.length_take, List.length_drop, toList_size]; omega
theorem CS.rest_get {c : CS} (h : c.ok) (j : Nat) (hj : j < c.rest.length) (hs : c.at_ + j < c.s.size) : c.rest[j] = c.s[c.at_ + j] := by
  simp only [CS.rest, List.getElem_take, List.getElem_drop]
  exact byte_at _ _ hs _
theorem CS.rest_peek {c : CS} (h : c.ok) (h0 : c.er = 0) (j : Nat) (hj : j < c.rest.length) : ({ c with at_ := c.at_ + j } : CS).peekB = (c.rest[j].toNat : Int) := by
  have hl := CS.rest_length h
  have hs : c.at_ + j < c.s.size := by have := h.2.1; omega
  have hp : ({ c with at_ := c.at_ + j } : CS).peekIs = true := by unfold CS.peekIs; simp [h0]; omega
  unfold CS.peekB
  rw [if_pos hp, CS.rest_get h j hj hs]
  have : c.s.data[c.at_ + j]? = some c.s[c.at_ + j] := by rw [Array.getElem?_eq_getElem (by simpa using hs)]; rfl
  simp only [this]; rfl

/-- What is wrong with reading a number by sevens: 0, it is read. -/
def CS.vCode (c : CS) : Int :=
  if c.er ≠ 0 then c.er else if 9 ≤ vlead c.rest ∧ 1 < ((c.rest[9]?).getD 0).toNat then 4 else if c.rest.length ≤ vlead c.rest then 1 else 0
/-- The number that is read: 0, if something is wrong. -/
def CS.vVal (c : CS) : Nat := if c.vCode = 0 then vvL (c.rest.take (vlead c.rest + 1)) else 0
/-- The cursor behind it. -/
def CS.vTo (c : CS) : CS :=
  if c.er ≠ 0 then c else if 9 ≤ vlead c.rest ∧ 1 < ((c.rest[9]?).getD 0).toNat then { c with at_ := c.at_ + 10, er := 4 } else if c.rest.length ≤ vlead c.rest then { c with at_ := c.en, er := 1 } else { c with at_ := c.at_ + (vlead c.rest + 1) }

theorem CS.nine {c : CS} (h : 1 < ((c.rest[9]?).getD 0).toNat) : 9 < c.rest.length := by
  rcases Nat.lt_or_ge 9 c.rest.length with h1 | h1
  · exact h1
  · rw [List.getElem?_eq_none h1] at h; simp at h
theorem CS.vTo_er (c : CS) : c.vTo.er = c.vCode := by
  unfold CS.vTo CS.vCode
  split
  · rfl
  · split
    · rfl
    · split
      · rfl
      · rename_i h _ _; simpa using h
theorem CS.vTo_s (c : CS) : c.vTo.s = c.s ∧ c.vTo.en = c.en := by
  unfold CS.vTo
  split
  · exact ⟨rfl, rfl⟩
  · split
    · exact ⟨rfl, rfl⟩
    · split <;> exact ⟨rfl, rfl⟩
theorem CS.vTo_ok {c : CS} (h : c.ok) : c.vTo.ok := by
  have hl := CS.rest_length h
  have hv := vlead_le c.rest
  obtain ⟨h1, h2, h3⟩ := h
  unfold CS.vTo
  split
  · exact ⟨h1, h2, h3⟩
  · split
    · rename_i hh
      have := CS.nine hh.2
      exact ⟨by simp only; omega, h2, h3⟩
    · split
      · exact ⟨Nat.le_refl _, h2, h3⟩
      · exact ⟨by simp only; omega, h2, h3⟩
theorem CS.vTo_good {c : CS} (h : c.vCode = 0) : c.er = 0 ∧ c.vTo = { c with at_ := c.at_ + (vlead c.rest + 1) } ∧ vlead c.rest < c.rest.length ∧ vlead c.rest ≤ 9 ∧ (∀ h9 : 9 < c.rest.length, vlead c.rest = 9 → c.rest[9].toNat ≤ 1) := by
  unfold CS.vCode at h
  unfold CS.vTo
  by_cases h0 : c.er ≠ 0
  · rw [if_pos h0] at h; exact absurd h h0
  · rw [if_neg h0] at h ⊢
    by_cases h1 : 9 ≤ vlead c.rest ∧ 1 < ((c.rest[9]?).getD 0).toNat
    · rw [if_pos h1] at h; omega
    · rw [if_neg h1] at h ⊢
      by_cases h2 : c.rest.length ≤ vlead c.rest
      · rw [if_pos h2] at h; omega
      · rw [if_neg h2]
        refine ⟨by simpa using h0, rfl, by omega, ?_, ?_⟩
        · rcases Nat.lt_or_ge 9 (vlead c.rest) with h3 | h3
          · exfalso
            have h4 := vlead_ge c.rest 9 (by omega) h3
            apply h1
            rw [List.getElem?_eq_getElem (by omega)]
            exact ⟨by omega, by simp only [Option.getD_some]; omega⟩
          · exact h3
        · intro h9 he
          rcases Nat.lt_or_ge 1 (c.rest[9].toNat) with h3 | h3
          · exfalso
            apply h1
            rw [List.getElem?_eq_getElem h9]
            exact ⟨by omega, h3⟩
          · exact h3
theorem vvL_lt64 (l : List UInt8) (n : Nat) (hn : n < l.length) (h9 : n ≤ 9) (ht : ∀ h : 9 < l.length, n = 9 → l[9].toNat ≤ 1) : vvL (l.take (n + 1)) < 18446744073709551616 := by
  rw [vvL_take l n hn]
  have h1 := vvL_lt (l.take n)
  rw [List.length_take, Nat.min_eq_left (Nat.le_of_lt hn)] at h1
  rcases Nat.lt_or_ge n 9 with h | h
  · have h2 : 128 ^ n ≤ 128 ^ 8 := Nat.pow_le_pow_right (by decide) (by omega)
    have h3 : l[n].toNat % 128 * 128 ^ n ≤ 127 * 128 ^ 8 := Nat.mul_le_mul (by omega) h2
    have h4 : 128 ^ 8 + 127 * 128 ^ 8 < 18446744073709551616 := by decide
    omega
  · obtain rfl : n = 9 := by omega
    have := ht hn rfl
    have h2 : (128 : Nat) ^ 9 = 9223372036854775808 := by decide
    rw [h2] at h1 ⊢
    omega
theorem CS.vVal_lt (c : CS) : c.vVal < 18446744073709551616 := by
  unfold CS.vVal
  split
  · rename_i h
    obtain ⟨_, _, h1, h2, h3⟩ := CS.vTo_good h
    exact vvL_lt64 _ _ h1 h2 h3
  · omega
/-- A seven of bits that is shifted and laid beside those below it. -/
theorem or_seven (V b k : Nat) (hV : V < 128 ^ k) (hb : b < 128) (hk : k ≤ 9) (h9 : k = 9 → b ≤ 1) :
    bits .or .u64 (V : Int) (IntKind.u64.wrap ((b : Int) * 2 ^ (7 * k))) = ((V + b * 128 ^ k : Nat) : Int) := by
  have h1 : (128 : Nat) ^ k = 2 ^ (7 * k) := by rw [Nat.pow_mul]
  have h2 : b * 128 ^ k < 18446744073709551616 := by
    rcases Nat.lt_or_ge k 9 with h | h
    · have h3 : 128 ^ k ≤ 128 ^ 8 := Nat.pow_le_pow_right (by decide) (by omega)
      have h4 : b * 128 ^ k ≤ 127 * 128 ^ 8 := Nat.mul_le_mul (by omega) h3
      have h5 : 127 * 128 ^ 8 < 18446744073709551616 := by decide
      omega
    · obtain rfl : k = 9 := by omega
      have := h9 rfl
      have h5 : (128 : Nat) ^ 9 = 9223372036854775808 := by decide
      rw [h5]; omega
  have h6 : ((b : Int) * 2 ^ (7 * k)) = ((b * 128 ^ k : Nat) : Int) := by rw [h1, Int.natCast_mul, Int.natCast_pow]; rfl
  have h7 : V < 18446744073709551616 := by
    have h3 : 128 ^ k ≤ 128 ^ 9 := Nat.pow_le_pow_right (by decide) (by omega)
    have h5 : 128 ^ 9 < 18446744073709551616 := by decide
    omega
  rw [h6, IntWalk.u64_in _ (by omega), u64_or_nat _ _ h7 h2, h1, or_shift _ _ _ (by rw [← h1]; exact hV)]

end Go.Proofs.YtjpppnfkpnfhoaaDoor
/- Package varint's Size, over math/bits.Len64. -/
namespace Go.Proofs.YtjpppnfkpnfhoaaDoor
open Go Go.RowKit
set_option linter.unusedVariables false

theorem lib_len_aux : ∀ (f x : Nat), x < 2 ^ f → Lib.bitLenAux f x = bitLen x
  | 0, x, h => by
    obtain rfl : x = 0 := by simpa using h
    rfl
  | f + 1, x, h => by
    rw [Lib.bitLenAux]
    split
    · subst_vars; rfl
    · rename_i h0
      rw [lib_len_aux f (x / 2) (by rw [Nat.pow_succ] at h; omega)]
      by_cases h1 : x / 2 = 0
      · obtain rfl : x = 1 := by omega
        rfl
      · have := bitLen_shift x 1 (by show x / 2 ≠ 0; exact h1)
        rw [this]
theorem tab_get (i : Nat) (hi : i < 256) (h : i < Lib.len8tab.size) : (Lib.len8tab[i]'h).toNat = bitLen i := by
  have e1 := Lib.len8_eq ⟨i, hi⟩
  have e2 : Lib.bitLen i = bitLen i := lib_len_aux 64 i (Nat.lt_trans hi (by decide))
  have e3 : Lib.len8 (i : Int) = ((Lib.len8tab[i]'h).toNat : Int) := by
    unfold Lib.len8
    rw [Int.toNat_natCast, getElem?_pos Lib.len8tab i h]
    rfl
  simp only [e3, e2] at e1
  omega
theorem wadd (k a b : Nat) (hk : k ≤ 56) (ha : a ≤ 8) (hb : b = k + a) : wrap64 ((k : Int) + wrap64 (a : Int)) = (b : Int) := by
  unfold wrap64; omega
theorem to_lt {y : Int} (h256 : y < 256) (hn : 0 < y) : y.toNat < 256 := by omega
theorem pos_div {y : Int} {n : Nat} (hn : 0 < y) (e : y.toNat = n) : n ≠ 0 := by omega
/-- One way through Len64: what is left of x behind k bits is looked up. -/
theorem len_way (x y D : Int) (k : Nat) (h0 : 0 ≤ x) (hD : D = 2 ^ k) (hy : y = x / D) (hk : k ≤ 56) (h256 : y < 256) (hn : 0 < y) (h : y.toNat < Lib.len8tab.size) :
    wrap64 ((k : Int) + wrap64 ((Lib.len8tab[y.toNat]'h).toNat : Int)) = (bitLen x.toNat : Int) := by
  have e1 : (Lib.len8tab[y.toNat]'h).toNat = bitLen y.toNat := tab_get y.toNat (to_lt h256 hn) h
  have e2 : y.toNat = x.toNat / 2 ^ k := by
    obtain ⟨n, rfl⟩ := Int.eq_ofNat_of_zero_le h0
    have : ((n : Int) / 2 ^ k) = ((n / 2 ^ k : Nat) : Int) := by rw [Int.natCast_ediv, Int.natCast_pow]; rfl
    rw [hy, hD, this, Int.toNat_natCast]; rfl
  have e3 := bitLen_shift x.toNat k (pos_div hn e2)
  have e4 := bitLen_le8 y.toNat (to_lt h256 hn)
  rw [← e2] at e3
  rw [e1]
  exact wadd _ _ _ hk e4 e3
theorem len_way0 (x : Int) (h0 : 0 ≤ x) (h256 : x < 256) (h : x.toNat < Lib.len8tab.size) :
    wrap64 (wrap64 ((Lib.len8tab[x.toNat]'h).toNat : Int)) = (bitLen x.toNat : Int) := by
  have hx : x.toNat < 256 := by clear h; omega
  have e1 : (Lib.len8tab[x.toNat]'h).toNat = bitLen x.toNat := tab_get x.toNat hx h
  have e4 := bitLen_le8 x.toNat hx
  rw [e1]
  have := wadd 0 _ _ (by decide) e4 (Nat.zero_add _).symm
  have e : wrap64 (bitLen x.toNat : Int) = (bitLen x.toNat : Int) := by clear e1 h this; unfold wrap64; omega
  rw [e, e]

set_option maxRecDepth 100000 in
theorem len_tab : (Lib.len8tab.size : Int) = 256 := by
  have : Lib.len8tab.size = 256 := by decide
  omega

set_option maxRecDepth 1000000 in
set_option maxHeartbeats 4000000 in
theorem len64_int (x : Int) (w : World) (h0 : 0 ≤ x) (h1 : x ≤ 18446744073709551615) :
    Calls Tryd.prog 50 #[.int .u64 x] w fun e w' => e = .returned (.int .i64 (bitLen x.toNat)) ∧ w' = w := by
  have ht := Lib.hid len_tab
  go_enter Tryd.func50, Tryd.ntmps50
  go_wp2
  all_goals first
    | (go_ret; refine ⟨congrArg Ending.returned (congrArg (Value.int IntKind.i64) ?_), rfl⟩; go_light)
    | (exfalso; go_light; have := ht.out; omega)
  all_goals clear ht
  all_goals first
    | (refine len_way x _ 72057594037927936 56 h0 (by decide) ?_ (by decide) ?_ ?_ _ <;> omega)
    | (refine len_way x _ 281474976710656 48 h0 (by decide) ?_ (by decide) ?_ ?_ _ <;> omega)
    | (refine len_way x _ 1099511627776 40 h0 (by decide) ?_ (by decide) ?_ ?_ _ <;> omega)
    | (refine len_way x _ 4294967296 32 h0 (by decide) ?_ (by decide) ?_ ?_ _ <;> omega)
    | (refine len_way x _ 16777216 24 h0 (by decide) ?_ (by decide) ?_ ?_ _ <;> omega)
    | (refine len_way x _ 65536 16 h0 (by decide) ?_ (by decide) ?_ ?_ _ <;> omega)
    | (refine len_way x _ 256 8 h0 (by decide) ?_ (by decide) ?_ ?_ _ <;> omega)
    | exact len_way0 x h0 (by omega) _

theorem len64_any (u : Nat) (w : World) (hu : u < 18446744073709551616) :
    Calls Tryd.prog 50 #[.int .u64 u] w fun e w' => e = .returned (.int .i64 (bitLen u)) ∧ w' = w := by
  have := len64_int u w (by omega) (by omega)
  rw [Int.toNat_natCast] at this
  exact this

/-- Size. -/
theorem vsize_any (u : Nat) (w : World) (hu : u < 18446744073709551616) :
    Calls Tryd.prog 41 #[.int .u64 u] w fun e w' => e = .returned (.int .i64 (vB u).length) ∧ w' = w := by
  have HL := Lib.hid (fun w => len64_any u w hu)
  have HS := Lib.hid (vB_size u)
  have hb := bitLen_le (n := 64) hu
  generalize bitLen u = n at *
  go_enter Tryd.func41, Tryd.ntmps41
  go_wp2_with ((with_reducible refine (HL.out _).mono ?_); rintro e w' ⟨rfl, rfl⟩)
  go_ret
  refine ⟨congrArg Ending.returned (congrArg (Value.int IntKind.i64) ?_), rfl⟩
  rw [HS.out]
  go_light
  omega

end Go.Proofs.YtjpppnfkpnfhoaaDoor
/- Package varint's Read. -/
namespace Go.Proofs.YtjpppnfkpnfhoaaDoor
open Go Go.RowKit
set_option linter.unusedVariables false

theorem ret_u64 {a b : Int} (h : a = b) : Ending.returned (.int .u64 a) = .returned (.int .u64 b) := by rw [h]

/-- Byte, with letters for what it tells and for where the cursor stands then. -/
theorem vbyte {b : Nat} {c D : CS} {B : Int} {w : World} (hD : Hid (D = c.byte)) (hB : Hid (B = c.peekB)) (h : CurT 82 w b c) (hc : c.ok) :
    Calls Tryd.prog 54 #[.pointer (some ⟨b, 0, none⟩)] w fun e w' => e = .returned (.int .u8 B) ∧ CurT 82 w' b D ∧ Only b w w' := by
  rw [hD.out, hB.out]; exact byte_any h hc

def VRel (c : CS) (b : Nat) (W : World) (u i : Value) (wr : World) : Prop :=
  ∃ k, k ≤ 9 ∧ k ≤ vlead c.rest ∧ (c.er = 0 ∨ k = 0) ∧ i = .int .i64 (k : Nat) ∧ u = .int .u64 ((vvL (c.rest.take k) : Nat) : Int) ∧ CurT 82 wr b { c with at_ := c.at_ + k } ∧ Only b W wr

theorem CS.past_ok {c : CS} (h : c.ok) {k : Nat} (hk : k ≤ c.rest.length) : CS.ok { c with at_ := c.at_ + k } := by
  have := CS.rest_length h
  obtain ⟨h1, h2, h3⟩ := h
  exact ⟨by simp only; omega, h2, h3⟩
theorem CS.byte_more {c : CS} (h : c.ok) (h0 : c.er = 0) {k : Nat} (hk : k < c.rest.length) : ({ c with at_ := c.at_ + k } : CS).byte = { c with at_ := c.at_ + (k + 1) } := by
  have := CS.rest_length h
  rw [CS.byte_yes (by unfold CS.peekIs; simp [h0]; omega)]
  simp [Nat.add_assoc]
theorem CS.byte_cut {c : CS} (h : c.ok) (h0 : c.er = 0) {k : Nat} (hk : k = c.rest.length) : ({ c with at_ := c.at_ + k } : CS).byte = { c with at_ := c.en, er := 1 } ∧ ({ c with at_ := c.at_ + k } : CS).peekB = 0 := by
  have hl := CS.rest_length h
  have h1 := h.1
  have e : c.at_ + k = c.en := by omega
  have hp : ({ c with at_ := c.at_ + k } : CS).peekIs = false := by unfold CS.peekIs; simp; omega
  refine ⟨?_, CS.peekB_no hp⟩
  rw [CS.byte_no (CS.past_ok h (by omega)) hp]
  simp [CS.fail, h0, e]
theorem CS.byte_err {c : CS} (h : c.ok) (h0 : ¬ c.er = 0) : ({ c with at_ := c.at_ + 0 } : CS).byte = c ∧ ({ c with at_ := c.at_ + 0 } : CS).peekB = 0 := by
  have hp : c.peekIs = false := by unfold CS.peekIs; simp [h0]
  refine ⟨?_, CS.peekB_no hp⟩
  show c.byte = c
  rw [CS.byte_no h hp]
  simp [CS.fail, h0]

theorem CS.vread_err {c : CS} (h0 : ¬ c.er = 0) : c.vTo = c ∧ c.vVal = 0 := by
  have h1 : ¬ c.vCode = 0 := by unfold CS.vCode; rw [if_pos h0]; exact h0
  exact ⟨by unfold CS.vTo; rw [if_pos h0], by unfold CS.vVal; rw [if_neg h1]⟩
theorem CS.vread_cut {c : CS} (h0 : c.er = 0) {k : Nat} (hk : k ≤ vlead c.rest) (h9 : k ≤ 9) (he : ¬ k < c.rest.length) : c.vTo = { c with at_ := c.en, er := 1 } ∧ c.vVal = 0 := by
  have h1 : ¬ (9 ≤ vlead c.rest ∧ 1 < ((c.rest[9]?).getD 0).toNat) := fun h => by have := CS.nine h.2; omega
  have h2 : c.rest.length ≤ vlead c.rest := by omega
  have h3 : c.vCode = 1 := by unfold CS.vCode; rw [if_neg (by simp [h0]), if_neg h1, if_pos h2]
  exact ⟨by unfold CS.vTo; rw [if_neg (by simp [h0]), if_neg h1, if_pos h2], by unfold CS.vVal; rw [h3]; rfl⟩
theorem CS.vread_great {c : CS} (h0 : c.er = 0) {k : Nat} (hk : k ≤ vlead c.rest) (hlt : k < c.rest.length) (h9 : k = 9 ∧ 1 < c.rest[k].toNat) : c.vTo = { c with at_ := c.at_ + (k + 1), er := 4 } ∧ c.vVal = 0 := by
  obtain ⟨rfl, h9⟩ := h9
  have h1 : 9 ≤ vlead c.rest ∧ 1 < ((c.rest[9]?).getD 0).toNat := ⟨hk, by rw [List.getElem?_eq_getElem hlt]; exact h9⟩
  have h3 : c.vCode = 4 := by unfold CS.vCode; rw [if_neg (by simp [h0]), if_pos h1]
  exact ⟨by unfold CS.vTo; rw [if_neg (by simp [h0]), if_pos h1], by unfold CS.vVal; rw [h3]; rfl⟩
theorem CS.vread_good {c : CS} (h0 : c.er = 0) {k : Nat} (hk : k ≤ vlead c.rest) (h9 : k ≤ 9) (hlt : k < c.rest.length) (hb : c.rest[k].toNat < 128) (hn : ¬ (k = 9 ∧ 1 < c.rest[k].toNat)) :
    c.vTo = { c with at_ := c.at_ + (k + 1) } ∧ c.vVal = vvL (c.rest.take (k + 1)) := by
  have e := vlead_here hlt hk hb
  have h1 : ¬ (9 ≤ vlead c.rest ∧ 1 < ((c.rest[9]?).getD 0).toNat) := fun h => by
    apply hn
    obtain rfl : k = 9 := by omega
    have := h.2
    rw [List.getElem?_eq_getElem hlt] at this
    exact ⟨rfl, this⟩
  have h2 : ¬ c.rest.length ≤ vlead c.rest := by omega
  have h3 : c.vCode = 0 := by unfold CS.vCode; rw [if_neg (by simp [h0]), if_neg h1, if_neg h2]
  exact ⟨by unfold CS.vTo; rw [if_neg (by simp [h0]), if_neg h1, if_neg h2, e], by unfold CS.vVal; rw [if_pos h3, e]⟩

set_option maxHeartbeats 4000000 in
theorem vread_any {b : Nat} {c : CS} {w : World} (h : CurT 82 w b c) (hc : c.ok) :
    Calls Tryd.prog 44 #[.pointer (some ⟨b, 0, none⟩)] w fun e w' => e = .returned (.int .u64 (c.vVal : Nat)) ∧ CurT 82 w' b c.vTo ∧ Only b w w' := by
  have HC := Lib.hid hc
  clear hc
  go_enter Tryd.func44, Tryd.ntmps44
  go_wp2
  go_step3
  go_wp2
  go_step3
  go_wp2
  go_loopw [3, 6] (fun u i wr => VRel c b w u i wr) (fun _ i _ => 10 - (intOf i).toNat)
  case atStart => exact ⟨0, by omega, Nat.zero_le _, .inr rfl, rfl, rfl, h, Only.refl _ _⟩
  case round =>
    obtain ⟨k, hk9, hkl, her, rfl, rfl, hq, ho⟩ := hrel
    have hlen := vlead_le c.rest
    have hk10 : decide ((k : Int) < 10) = true := by simp; omega
    by_cases h0 : c.er = 0
    · by_cases hlt : k < c.rest.length
      · have hD := Lib.hid (CS.byte_more HC.out h0 hlt).symm
        have hB := Lib.hid (CS.rest_peek HC.out h0 k hlt).symm
        have hok := Lib.hid (CS.past_ok HC.out (Nat.le_of_lt hlt))
        have he : (c.er != 0) = false := by simp [h0]
        have hb2 := (c.rest[k]).toNat_lt
        by_cases ht : k = 9 ∧ 1 < c.rest[k].toNat
        · have HR := Lib.hid (CS.vread_great h0 hkl hlt ht)
          have t1 : ((k : Int) == 9) = true := by simp [ht.1]
          have t2 : decide (1 < (c.rest[k].toNat : Int)) = true := decide_eq_true (by have := ht.2; omega)
          have hF := Lib.hid (show (⟨c.s, c.at_ + (k + 1), c.en, c.er⟩ : CS).fail 4 = ⟨c.s, c.at_ + (k + 1), c.en, 4⟩ by unfold CS.fail; rw [if_pos h0])
          clear her hkl ht
          generalize c.rest[k].toNat = B at *
          go_wp2_with fail
          refine (vbyte hD hB hq hok.out).mono ?_
          rintro e w1 ⟨rfl, hq1, ho1⟩
          go_wp2_with fail
          refine (err_any hq1).mono ?_
          rintro e w2 ⟨rfl, rfl⟩
          go_wp2_with fail
          refine (fail_any hq1 4).mono ?_
          rintro e w3 ⟨rfl, hq3, ho3⟩
          go_wp2
          try rw [Exit.noGoto_ret]
          go_ret
          rw [hF.out] at hq3
          refine ⟨ret_u64 (by rw [HR.out.2]; rfl), by rw [HR.out.1]; exact hq3, (ho.trans ho1).trans ho3⟩
        · have hbit := Lib.hid (show bits .or .u64 ((vvL (c.rest.take k) : Nat) : Int) (IntKind.u64.wrap (((c.rest[k].toNat % 128 : Nat) : Int) * 2 ^ (7 * k))) = ((vvL (c.rest.take (k + 1)) : Nat) : Int) by
            have hV := vvL_lt (c.rest.take k)
            rw [List.length_take, Nat.min_eq_left (Nat.le_of_lt hlt)] at hV
            rw [vvL_take c.rest k hlt]
            exact or_seven (vvL (c.rest.take k)) (c.rest[k].toNat % 128) k hV (Nat.mod_lt _ (by decide)) hk9 (fun h9 => by
              rcases Nat.lt_or_ge 1 c.rest[k].toNat with h | h
              · exact absurd ⟨h9, h⟩ ht
              · exact Nat.le_trans (Nat.mod_le _ _) h))
          have hm := Lib.hid (show (c.rest[k].toNat : Int) % 128 = ((c.rest[k].toNat % 128 : Nat) : Int) by omega)
          by_cases hb : c.rest[k].toNat < 128
          · have HR := Lib.hid (CS.vread_good h0 hkl hk9 hlt hb ht)
            have t3 : decide ((c.rest[k].toNat : Int) < 128) = true := decide_eq_true (by omega)
            go_wp2_with fail
            refine (vbyte hD hB hq hok.out).mono ?_
            rintro e w1 ⟨rfl, hq1, ho1⟩
            go_wp2_with fail
            refine (err_any hq1).mono ?_
            rintro e w2 ⟨rfl, rfl⟩
            by_cases hk : k = 9
            · have t1 : ((k : Int) == 9) = true := by simp [hk]
              have t2 : decide (1 < (c.rest[k].toNat : Int)) = false := decide_eq_false (fun h => ht ⟨hk, by omega⟩)
              clear hk ht
              go_wp2_with fail
              rw [Exit.noGoto_ret]
              go_ret
              refine ⟨ret_u64 ?_, by rw [HR.out.1]; exact hq1, ho.trans ho1⟩
              rw [HR.out.2, ← hbit.out, ← hm.out]
            · have t1 : ((k : Int) == 9) = false := beq_eq_false_iff_ne.mpr (fun h => hk (by omega))
              clear hk ht
              go_wp2_with fail
              rw [Exit.noGoto_ret]
              go_ret
              refine ⟨ret_u64 ?_, by rw [HR.out.1]; exact hq1, ho.trans ho1⟩
              rw [HR.out.2, ← hbit.out, ← hm.out]
          · have t3 : decide ((c.rest[k].toNat : Int) < 128) = false := decide_eq_false (by omega)
            have hmo := vlead_more hlt hkl (by omega)
            have hk8 : k < 9 := by
              rcases Nat.lt_or_ge k 9 with h | h
              · exact h
              · exact absurd ⟨by omega, by omega⟩ ht
            have t1 : ((k : Int) == 9) = false := beq_eq_false_iff_ne.mpr (fun h => by omega)
            go_wp2_with fail
            refine (vbyte hD hB hq hok.out).mono ?_
            rintro e w1 ⟨rfl, hq1, ho1⟩
            go_wp2_with fail
            refine (err_any hq1).mono ?_
            rintro e w2 ⟨rfl, rfl⟩
            clear ht
            go_wp2_with fail
            go_roundw
            case rel => exact ⟨k + 1, by omega, hmo, .inl h0, by go_num, by rw [← hbit.out, ← hm.out], hq1, ho.trans ho1⟩
            case measure => simp [intOf]; omega
      · have hke : k = c.rest.length := by omega
        have HR := Lib.hid (CS.vread_cut h0 hkl hk9 hlt)
        have hD := Lib.hid (CS.byte_cut HC.out h0 hke).1.symm
        have hB := Lib.hid (CS.byte_cut HC.out h0 hke).2.symm
        have hok := Lib.hid (CS.past_ok HC.out (Nat.le_of_eq hke))
        clear her hkl hke hlt
        go_wp2_with fail
        refine (vbyte hD hB hq hok.out).mono ?_
        rintro e w1 ⟨rfl, hq1, ho1⟩
        go_wp2_with fail
        refine (err_any hq1).mono ?_
        rintro e w2 ⟨rfl, rfl⟩
        go_wp2
        try rw [Exit.noGoto_ret]
        go_ret
        exact ⟨ret_u64 (by rw [HR.out.2]; rfl), by rw [HR.out.1]; exact hq1, ho.trans ho1⟩
    · obtain rfl : k = 0 := by omega
      have HR := Lib.hid (CS.vread_err h0)
      have hD := Lib.hid (CS.byte_err HC.out h0).1.symm
      have hB := Lib.hid (CS.byte_err HC.out h0).2.symm
      have hok := Lib.hid (CS.past_ok HC.out (Nat.zero_le _))
      have he : (c.er != 0) = true := by simp [h0]
      clear her hkl h0
      go_wp2_with fail
      refine (vbyte hD hB hq hok.out).mono ?_
      rintro e w1 ⟨rfl, hq1, ho1⟩
      go_wp2_with fail
      refine (err_any hq1).mono ?_
      rintro e w2 ⟨rfl, rfl⟩
      go_wp2
      try rw [Exit.noGoto_ret]
      go_ret
      exact ⟨ret_u64 (by rw [HR.out.2]; rfl), by rw [HR.out.1]; exact hq1, ho.trans ho1⟩

end Go.Proofs.YtjpppnfkpnfhoaaDoor
/- Package varint's Put. -/
namespace Go.Proofs.YtjpppnfkpnfhoaaDoor
open Go Go.RowKit
set_option linter.unusedVariables false

def PutRel (t : TypeId) (W : World) (l : List UInt8) (u0 B : Nat) (u v : Value) (wr : World) : Prop :=
  ∃ (uk : Nat) (A : List UInt8), u = .int .u64 uk ∧ uk < 18446744073709551616 ∧ A ++ vB uk = vB u0 ∧ Bts t wr B v (l ++ A) ∧ Below B W wr ∧ B ≤ wr.heap.size

set_option maxRecDepth 10000 in
theorem vput_any (a : Option Addr) (cap : Nat) (l : List UInt8) (u : Nat) (w : World) (hl : l.length ≤ 140737488351232) (hu : u < 18446744073709551616) (hin : BIn w a l) :
    Calls Tryd.prog 26 #[.slice a l.length cap, .int .u64 u] w fun e w' => ∃ v, e = .returned v ∧ Bts 5 w' w.heap.size v (l ++ vB u) ∧ Below w.heap.size w w' := by
  obtain ⟨i0, hi, hz0, hz1, hz2⟩ := info_parts info8
  have h10 := vB_le10 hu
  have hmk := Lib.hid (fun w => make_bytes l.length (vB u).length w (by omega))
  have hsz := Lib.hid (fun w => vsize_any u w hu)
  obtain ⟨w2, hcp0, hbt, hbel⟩ := copy_fact Tryd.prog 35 5 3 i0 Tryd.underlying35 size8 w a cap (vB u).length l hin (by unfold maxLen; omega)
  have hcp := Lib.hid hcp0
  have hA0 := Lib.hid (show [] ++ vB u = vB u from rfl)
  clear hin hcp0
  have hw : IntKind.i64.wrap ((l.length : Int) + (vB u).length) = (l.length : Int) + (vB u).length := IntWalk.i64_in _ (by omega)
  generalize (vB u).length = n at *
  go_enter Tryd.func26, Tryd.ntmps26
  go_wp2_with ((with_reducible refine (hsz.out _).mono ?_); rintro e w' ⟨rfl, hww⟩; rw [hww]; clear hww)
  rw [hmk.out]
  go_wp2_with fail
  rw [hcp.out]
  go_wp2_with fail
  go_loopw [1, 5] (fun u' v wr => PutRel 5 w l u w.heap.size u' v wr) (fun u' _ _ => (intOf u').toNat)
  case atStart => exact ⟨u, [], rfl, hu, rfl, by rw [List.append_nil]; exact hbt, hbel, hbel.size⟩
  case round =>
    obtain ⟨uk, A, rfl, hu2, hA, hb, hbe, hB⟩ := hrel
    have hA10 : A.length ≤ 10 := by
      have := congrArg List.length hA
      rw [List.length_append] at this
      have := vB_le10 hu
      omega
    by_cases hs : uk < 128
    · have p1 : decide ((128 : Int) ≤ (uk : Int)) = false := decide_eq_false (by omega)
      have hz := Lib.hid (show (uk : Int) = ((UInt8.ofNat uk).toNat : Int) by rw [toNat_ofNat8 (by omega)])
      have hend := Lib.hid (show (l ++ A) ++ [UInt8.ofNat uk] = l ++ vB u by rw [← hA, vB_small hs, List.append_assoc])
      go_wp2_with (at_builtin; refine wpList_append_byte rfl (.tmp 28) (.tmp 31) 35 rfl 5 i0 Tryd.underlying35 hi hz0 hz1 hz2 _ w wr w.heap.size (l ++ A) hb hbe hB rfl _ _ hz.out rfl (by rw [List.length_append]; omega) ?_; intro v2 w2 hb2 hbe2)
      go_ret
      exact ⟨_, rfl, by rw [← hend.out]; exact hb2, hbe2⟩
    · have p1 : decide ((128 : Int) ≤ (uk : Int)) = true := decide_eq_true (by omega)
      have hz := Lib.hid (show (uk : Int) % 128 + 128 = ((UInt8.ofNat (128 + uk % 128)).toNat : Int) by rw [toNat_ofNat8 (by omega)]; omega)
      have hend := Lib.hid (show (A ++ [UInt8.ofNat (128 + uk % 128)]) ++ vB (uk / 128) = vB u by rw [← hA, vB_great hs, List.append_assoc]; rfl)
      have hend2 := Lib.hid (List.append_assoc l A [UInt8.ofNat (128 + uk % 128)])
      go_wp2_with (at_builtin; go_loud (refine wpList_append_byte rfl (.tmp 19) (.tmp 24) 35 rfl 5 i0 Tryd.underlying35 hi hz0 hz1 hz2 _ w wr w.heap.size (l ++ A) hb hbe hB rfl _ _ hz.out rfl (by rw [List.length_append]; omega) ?_; intro v2 w2 hb2 hbe2))
      go_roundw
      case rel => exact ⟨uk / 128, A ++ [UInt8.ofNat (128 + uk % 128)], by go_num, by omega, hend.out, by rw [← hend2.out]; exact hb2, hbe2, hbe2.size⟩
      case measure => simp [intOf]; omega
end Go.Proofs.YtjpppnfkpnfhoaaDoor
/- A number's bytes are read as that number, whatever stands behind. Of no program. -/
namespace Go.Proofs.YtjpppnfkpnfhoaaDoor
open Go Go.RowKit
set_option linter.unusedVariables false

theorem new_rest (s : ByteArray) : (CS.new s).rest = s.data.toList := by
  show (s.data.toList.drop 0).take (s.size - 0) = _
  rw [List.drop_zero, List.take_of_length_le (by rw [toList_size]; omega)]
/-- A number's bytes are read as that number, whatever stands behind. -/
theorem back_read (u : Nat) (rest : ByteArray) (hu : u < 18446744073709551616) :
    (CS.new (bA (vB u) ++ rest)).vVal = u ∧ (CS.new (bA (vB u) ++ rest)).vTo = ⟨bA (vB u) ++ rest, (vB u).length, (vB u).length + rest.size, 0⟩ := by
  have hr : (CS.new (bA (vB u) ++ rest)).rest = vB u ++ rest.data.toList := by
    rw [new_rest]; simp [bA]
  have hsz : (bA (vB u) ++ rest).size = (vB u).length + rest.size := by rw [ByteArray.size_append, bA_size]
  have hl := vlead_VF (vB u) rest.data.toList (VF_vB u)
  have h10 := vB_le10 hu
  have hg : ¬ (9 ≤ vlead (CS.new (bA (vB u) ++ rest)).rest ∧ 1 < (((CS.new (bA (vB u) ++ rest)).rest[9]?).getD 0).toNat) := by
    rw [hr]
    rintro ⟨h1, h2⟩
    have h9 : 9 < (vB u).length := by omega
    rw [List.getElem?_append_left h9, List.getElem?_eq_getElem h9] at h2
    have := vB_tenth hu h9
    simp only [Option.getD_some] at h2
    omega
  have hc : ¬ (CS.new (bA (vB u) ++ rest)).rest.length ≤ vlead (CS.new (bA (vB u) ++ rest)).rest := by
    rw [hr, List.length_append]; omega
  have he : ¬ (CS.new (bA (vB u) ++ rest)).er ≠ 0 := fun h => h rfl
  have hcode : (CS.new (bA (vB u) ++ rest)).vCode = 0 := by unfold CS.vCode; rw [if_neg he, if_neg hg, if_neg hc]
  constructor
  · unfold CS.vVal
    rw [if_pos hcode, hr, hl, List.take_left, vvL_vB]
  · unfold CS.vTo
    rw [if_neg he, if_neg hg, if_neg hc, hr, hl]
    show (⟨bA (vB u) ++ rest, 0 + (vB u).length, (bA (vB u) ++ rest).size, 0⟩ : CS) = _
    rw [hsz, Nat.zero_add]
end Go.Proofs.YtjpppnfkpnfhoaaDoor
