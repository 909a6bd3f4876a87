/- Package varint's Read. -/
import Derived.Test.YtjpppnfkpnfhoaaVarLen
namespace Go.Proofs.Ytjpppnfkpnfhoaa
open Go Go.RowKit
set_option linter.unusedVariables false

theorem ret_u64 {a b : Int} (h : a = b) : Ending.returned (.int .u64 a) = .returned (.int .u64 b) := by rw [h]



theorem CS.past_ok {c : CS} (h : c.ok) {k : Nat} (hk : k ≤ c.rest.length) : CS.ok { c with at_ := c.at_ + k } := by
  have := CS.rest_length h
  obtain ⟨h1, h2, h3⟩ := h
  exact ⟨by simp only; omega, h2, h3⟩
theorem CS.byte_more {c : CS} (h : c.ok) (h0 : c.er = 0) {k : Nat} (hk : k < c.rest.length) : ({ c with at_ := c.at_ + k } : CS).byte = { c with at_ := c.at_ + (k + 1) } := by
  have := CS.rest_length h
  rw [CS.byte_yes (by unfold CS.peekIs; simp [h0]; omega)]
  simp [Nat.add_assoc]
theorem CS.byte_cut {c : CS} (h : c.ok) (h0 : c.er = 0) {k : Nat} (hk : k = c.rest.length) : ({ c with at_ := c.at_ + k } : CS).byte = { c with at_ := c.en, er := 1 } ∧ ({ c with at_ := c.at_ + k } : CS).peekB = 0 := by
  have hl := CS.rest_length h
  have h1 := h.1
  have e : c.at_ + k = c.en := by omega
  have hp : ({ c with at_ := c.at_ + k } : CS).peekIs = false := by unfold CS.peekIs; simp; omega
  refine ⟨?_, CS.peekB_no hp⟩
  rw [CS.byte_no (CS.past_ok h (by omega)) hp]
  simp [CS.fail, h0, e]
theorem CS.byte_err {c : CS} (h : c.ok) (h0 : ¬ c.er = 0) : ({ c with at_ := c.at_ + 0 } : CS).byte = c ∧ ({ c with at_ := c.at_ + 0 } : CS).peekB = 0 := by
  have hp : c.peekIs = false := by unfold CS.peekIs; simp [h0]
  refine ⟨?_, CS.peekB_no hp⟩
  show c.byte = c
  rw [CS.byte_no h hp]
  simp [CS.fail, h0]

theorem CS.vread_err {c : CS} (h0 : ¬ c.er = 0) : c.vTo = c ∧ c.vVal = 0 := by
  have h1 : ¬ c.vCode = 0 := by unfold CS.vCode; rw [if_pos h0]; exact h0
  exact ⟨by unfold CS.vTo; rw [if_pos h0], by unfold CS.vVal; rw [if_neg h1]⟩
theorem CS.vread_cut {c : CS} (h0 : c.er = 0) {k : Nat} (hk : k ≤ vlead c.rest) (h9 : k ≤ 9) (he : ¬ k < c.rest.length) : c.vTo = { c with at_ := c.en, er := 1 } ∧ c.vVal = 0 := by
  have h1 : ¬ (9 ≤ vlead c.rest ∧ 1 < ((c.rest[9]?).getD 0).toNat) := fun h => by have := CS.nine h.2; omega
  have h2 : c.rest.length ≤ vlead c.rest := by omega
  have h3 : c.vCode = 1 := by unfold CS.vCode; rw [if_neg (by simp [h0]), if_neg h1, if_pos h2]
  exact ⟨by unfold CS.vTo; rw [if_neg (by simp [h0]), if_neg h1, if_pos h2], by unfold CS.vVal; rw [h3]; rfl⟩
theorem CS.vread_great {c : CS} (h0 : c.er = 0) {k : Nat} (hk : k ≤ vlead c.rest) (hlt : k < c.rest.length) (h9 : k = 9 ∧ 1 < c.rest[k].toNat) : c.vTo = { c with at_ := c.at_ + (k + 1), er := 4 } ∧ c.vVal = 0 := by
  obtain ⟨rfl, h9⟩ := h9
  have h1 : 9 ≤ vlead c.rest ∧ 1 < ((c.rest[9]?).getD 0).toNat := ⟨hk, by rw [List.getElem?_eq_getElem hlt]; exact h9⟩
  have h3 : c.vCode = 4 := by unfold CS.vCode; rw [if_neg (by simp [h0]), if_pos h1]
  exact ⟨by unfold CS.vTo; rw [if_neg (by simp [h0]), if_pos h1], by unfold CS.vVal; rw [h3]; rfl⟩
theorem CS.vread_good {c : CS} (h0 : c.er = 0) {k : Nat} (hk : k ≤ vlead c.rest) (h9 : k ≤ 9) (hlt : k < c.rest.length) (hb : c.rest[k].toNat < 128) (hn : ¬ (k = 9 ∧ 1 < c.rest[k].toNat)) :
    c.vTo = { c with at_ := c.at_ + (k + 1) } ∧ c.vVal = vvL (c.rest.take (k + 1)) := by
  have e := vlead_here hlt hk hb
  have h1 : ¬ (9 ≤ vlead c.rest ∧ 1 < ((c.rest[9]?).getD 0).toNat) := fun h => by
    apply hn
    obtain rfl : k = 9 := by omega
    have := h.2
    rw [List.getElem?_eq_getElem hlt] at this
    exact ⟨rfl, this⟩
  have h2 : ¬ c.rest.length ≤ vlead c.rest := by omega
  have h3 : c.vCode = 0 := by unfold CS.vCode; rw [if_neg (by simp [h0]), if_neg h1, if_neg h2]
  exact ⟨by unfold CS.vTo; rw [if_neg (by simp [h0]), if_neg h1, if_neg h2, e], by unfold CS.vVal; rw [if_pos h3, e]⟩


end Go.Proofs.Ytjpppnfkpnfhoaa
