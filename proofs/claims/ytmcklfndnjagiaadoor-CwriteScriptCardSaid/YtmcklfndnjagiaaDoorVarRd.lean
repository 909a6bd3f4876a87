/- Package varint's Read. -/
import Derived.Test.YtmcklfndnjagiaaDoorVarLen
namespace Go.Proofs.YtmcklfndnjagiaaDoor
open Go Go.RowKit
set_option linter.unusedVariables false

theorem ret_u64 {a b : Int} (h : a = b) : Ending.returned (.int .u64 a) = .returned (.int .u64 b) := by rw [h]

/-- Byte, with letters for what it tells and for where the cursor stands then. -/
theorem vbyte {b : Nat} {c D : CS} {B : Int} {w : World} (hD : Hid (D = c.byte)) (hB : Hid (B = c.peekB)) (h : CurT 105 w b c) (hc : c.ok) :
    Calls Tryd.prog 58 #[.pointer (some ⟨b, 0, none⟩)] w fun e w' => e = .returned (.int .u8 B) ∧ CurT 105 w' b D ∧ Only b w w' := by
  rw [hD.out, hB.out]; exact byte_any h hc

def VRel (c : CS) (b : Nat) (W : World) (u i : Value) (wr : World) : Prop :=
  ∃ k, k ≤ 9 ∧ k ≤ vlead c.rest ∧ (c.er = 0 ∨ k = 0) ∧ i = .int .i64 (k : Nat) ∧ u = .int .u64 ((vvL (c.rest.take k) : Nat) : Int) ∧ CurT 105 wr b { c with at_ := c.at_ + k } ∧ Only b W wr

theorem CS.past_ok {c : CS} (h : c.ok) {k : Nat} (hk : k ≤ c.rest.length) : CS.ok { c with at_ := c.at_ + k } := by
  have := CS.rest_length h
  obtain ⟨h1, h2, h3⟩ := h
  exact ⟨by simp only; omega, h2, h3⟩
theorem CS.byte_more {c : CS} (h : c.ok) (h0 : c.er = 0) {k : Nat} (hk : k < c.rest.length) : ({ c with at_ := c.at_ + k } : CS).byte = { c with at_ := c.at_ + (k + 1) } := by
  have := CS.rest_length h
  rw [CS.byte_yes (by unfold CS.peekIs; simp [h0]; omega)]
  simp [Nat.add_assoc]
theorem CS.byte_cut {c : CS} (h : c.ok) (h0 : c.er = 0) {k : Nat} (hk : k = c.rest.length) : ({ c with at_ := c.at_ + k } : CS).byte = { c with at_ := c.en, er := 1 } ∧ ({ c with at_ := c.at_ + k } : CS).peekB = 0 := by
  have hl := CS.rest_length h
  have h1 := h.1
  have e : c.at_ + k = c.en := by omega
  have hp : ({ c with at_ := c.at_ + k } : CS).peekIs = false := by unfold CS.peekIs; simp; omega
  refine ⟨?_, CS.peekB_no hp⟩
  rw [CS.byte_no (CS.past_ok h (by omega)) hp]
  simp [CS.fail, h0, e]
theorem CS.byte_err {c : CS} (h : c.ok) (h0 : ¬ c.er = 0) : ({ c with at_ := c.at_ + 0 } : CS).byte = c ∧ ({ c with at_ := c.at_ + 0 } : CS).peekB = 0 := by
  have hp : c.peekIs = false := by unfold CS.peekIs; simp [h0]
  refine ⟨?_, CS.peekB_no hp⟩
  show c.byte = c
  rw [CS.byte_no h hp]
  simp [CS.fail, h0]

theorem CS.vread_err {c : CS} (h0 : ¬ c.er = 0) : c.vTo = c ∧ c.vVal = 0 := by
  have h1 : ¬ c.vCode = 0 := by unfold CS.vCode; rw [if_pos h0]; exact h0
  exact ⟨by unfold CS.vTo; rw [if_pos h0], by unfold CS.vVal; rw [if_neg h1]⟩
theorem CS.vread_cut {c : CS} (h0 : c.er = 0) {k : Nat} (hk : k ≤ vlead c.rest) (h9 : k ≤ 9) (he : ¬ k < c.rest.length) : c.vTo = { c with at_ := c.en, er := 1 } ∧ c.vVal = 0 := by
  have h1 : ¬ (9 ≤ vlead c.rest ∧ 1 < ((c.rest[9]?).getD 0).toNat) := fun h => by have := CS.nine h.2; omega
  have h2 : c.rest.length ≤ vlead c.rest := by omega
  have h3 : c.vCode = 1 := by unfold CS.vCode; rw [if_neg (by simp [h0]), if_neg h1, if_pos h2]
  exact ⟨by unfold CS.vTo; rw [if_neg (by simp [h0]), if_neg h1, if_pos h2], by unfold CS.vVal; rw [h3]; rfl⟩
theorem CS.vread_great {c : CS} (h0 : c.er = 0) {k : Nat} (hk : k ≤ vlead c.rest) (hlt : k < c.rest.length) (h9 : k = 9 ∧ 1 < c.rest[k].toNat) : c.vTo = { c with at_ := c.at_ + (k + 1), er := 4 } ∧ c.vVal = 0 := by
  obtain ⟨rfl, h9⟩ := h9
  have h1 : 9 ≤ vlead c.rest ∧ 1 < ((c.rest[9]?).getD 0).toNat := ⟨hk, by rw [List.getElem?_eq_getElem hlt]; exact h9⟩
  have h3 : c.vCode = 4 := by unfold CS.vCode; rw [if_neg (by simp [h0]), if_pos h1]
  exact ⟨by unfold CS.vTo; rw [if_neg (by simp [h0]), if_pos h1], by unfold CS.vVal; rw [h3]; rfl⟩
theorem CS.vread_good {c : CS} (h0 : c.er = 0) {k : Nat} (hk : k ≤ vlead c.rest) (h9 : k ≤ 9) (hlt : k < c.rest.length) (hb : c.rest[k].toNat < 128) (hn : ¬ (k = 9 ∧ 1 < c.rest[k].toNat)) :
    c.vTo = { c with at_ := c.at_ + (k + 1) } ∧ c.vVal = vvL (c.rest.take (k + 1)) := by
  have e := vlead_here hlt hk hb
  have h1 : ¬ (9 ≤ vlead c.rest ∧ 1 < ((c.rest[9]?).getD 0).toNat) := fun h => by
    apply hn
    obtain rfl : k = 9 := by omega
    have := h.2
    rw [List.getElem?_eq_getElem hlt] at this
    exact ⟨rfl, this⟩
  have h2 : ¬ c.rest.length ≤ vlead c.rest := by omega
  have h3 : c.vCode = 0 := by unfold CS.vCode; rw [if_neg (by simp [h0]), if_neg h1, if_neg h2]
  exact ⟨by unfold CS.vTo; rw [if_neg (by simp [h0]), if_neg h1, if_neg h2, e], by unfold CS.vVal; rw [if_pos h3, e]⟩

set_option maxHeartbeats 4000000 in
theorem vread_any {b : Nat} {c : CS} {w : World} (h : CurT 105 w b c) (hc : c.ok) :
    Calls Tryd.prog 62 #[.pointer (some ⟨b, 0, none⟩)] w fun e w' => e = .returned (.int .u64 (c.vVal : Nat)) ∧ CurT 105 w' b c.vTo ∧ Only b w w' := by
  have HC := Lib.hid hc
  clear hc
  go_enter Tryd.func62, Tryd.ntmps62
  go_wp2
  go_step3
  go_wp2
  go_step3
  go_wp2
  go_loopw [3, 6] (fun u i wr => VRel c b w u i wr) (fun _ i _ => 10 - (intOf i).toNat)
  case atStart => exact ⟨0, by omega, Nat.zero_le _, .inr rfl, rfl, rfl, h, Only.refl _ _⟩
  case round =>
    obtain ⟨k, hk9, hkl, her, rfl, rfl, hq, ho⟩ := hrel
    have hlen := vlead_le c.rest
    have hk10 : decide ((k : Int) < 10) = true := by simp; omega
    by_cases h0 : c.er = 0
    · by_cases hlt : k < c.rest.length
      · have hD := Lib.hid (CS.byte_more HC.out h0 hlt).symm
        have hB := Lib.hid (CS.rest_peek HC.out h0 k hlt).symm
        have hok := Lib.hid (CS.past_ok HC.out (Nat.le_of_lt hlt))
        have he : (c.er != 0) = false := by simp [h0]
        have hb2 := (c.rest[k]).toNat_lt
        by_cases ht : k = 9 ∧ 1 < c.rest[k].toNat
        · have HR := Lib.hid (CS.vread_great h0 hkl hlt ht)
          have t1 : ((k : Int) == 9) = true := by simp [ht.1]
          have t2 : decide (1 < (c.rest[k].toNat : Int)) = true := decide_eq_true (by have := ht.2; omega)
          have hF := Lib.hid (show (⟨c.s, c.at_ + (k + 1), c.en, c.er⟩ : CS).fail 4 = ⟨c.s, c.at_ + (k + 1), c.en, 4⟩ by unfold CS.fail; rw [if_pos h0])
          clear her hkl ht
          generalize c.rest[k].toNat = B at *
          go_wp2_with fail
          refine (vbyte hD hB hq hok.out).mono ?_
          rintro e w1 ⟨rfl, hq1, ho1⟩
          go_wp2_with fail
          refine (err_any hq1).mono ?_
          rintro e w2 ⟨rfl, rfl⟩
          go_wp2_with fail
          refine (fail_any hq1 4).mono ?_
          rintro e w3 ⟨rfl, hq3, ho3⟩
          go_wp2
          try rw [Exit.noGoto_ret]
          go_ret
          rw [hF.out] at hq3
          refine ⟨ret_u64 (by rw [HR.out.2]; rfl), by rw [HR.out.1]; exact hq3, (ho.trans ho1).trans ho3⟩
        · have hbit := Lib.hid (show bits .or .u64 ((vvL (c.rest.take k) : Nat) : Int) (IntKind.u64.wrap (((c.rest[k].toNat % 128 : Nat) : Int) * 2 ^ (7 * k))) = ((vvL (c.rest.take (k + 1)) : Nat) : Int) by
            have hV := vvL_lt (c.rest.take k)
            rw [List.length_take, Nat.min_eq_left (Nat.le_of_lt hlt)] at hV
            rw [vvL_take c.rest k hlt]
            exact or_seven (vvL (c.rest.take k)) (c.rest[k].toNat % 128) k hV (Nat.mod_lt _ (by decide)) hk9 (fun h9 => by
              rcases Nat.lt_or_ge 1 c.rest[k].toNat with h | h
              · exact absurd ⟨h9, h⟩ ht
              · exact Nat.le_trans (Nat.mod_le _ _) h))
          have hm := Lib.hid (show (c.rest[k].toNat : Int) % 128 = ((c.rest[k].toNat % 128 : Nat) : Int) by omega)
          by_cases hb : c.rest[k].toNat < 128
          · have HR := Lib.hid (CS.vread_good h0 hkl hk9 hlt hb ht)
            have t3 : decide ((c.rest[k].toNat : Int) < 128) = true := decide_eq_true (by omega)
            go_wp2_with fail
            refine (vbyte hD hB hq hok.out).mono ?_
            rintro e w1 ⟨rfl, hq1, ho1⟩
            go_wp2_with fail
            refine (err_any hq1).mono ?_
            rintro e w2 ⟨rfl, rfl⟩
            by_cases hk : k = 9
            · have t1 : ((k : Int) == 9) = true := by simp [hk]
              have t2 : decide (1 < (c.rest[k].toNat : Int)) = false := decide_eq_false (fun h => ht ⟨hk, by omega⟩)
              clear hk ht
              go_wp2_with fail
              rw [Exit.noGoto_ret]
              go_ret
              refine ⟨ret_u64 ?_, by rw [HR.out.1]; exact hq1, ho.trans ho1⟩
              rw [HR.out.2, ← hbit.out, ← hm.out]
            · have t1 : ((k : Int) == 9) = false := beq_eq_false_iff_ne.mpr (fun h => hk (by omega))
              clear hk ht
              go_wp2_with fail
              rw [Exit.noGoto_ret]
              go_ret
              refine ⟨ret_u64 ?_, by rw [HR.out.1]; exact hq1, ho.trans ho1⟩
              rw [HR.out.2, ← hbit.out, ← hm.out]
          · have t3 : decide ((c.rest[k].toNat : Int) < 128) = false := decide_eq_false (by omega)
            have hmo := vlead_more hlt hkl (by omega)
            have hk8 : k < 9 := by
              rcases Nat.lt_or_ge k 9 with h | h
              · exact h
              · exact absurd ⟨by omega, by omega⟩ ht
            have t1 : ((k : Int) == 9) = false := beq_eq_false_iff_ne.mpr (fun h => by omega)
            go_wp2_with fail
            refine (vbyte hD hB hq hok.out).mono ?_
            rintro e w1 ⟨rfl, hq1, ho1⟩
            go_wp2_with fail
            refine (err_any hq1).mono ?_
            rintro e w2 ⟨rfl, rfl⟩
            clear ht
            go_wp2_with fail
            go_roundw
            case rel => exact ⟨k + 1, by omega, hmo, .inl h0, by go_num, by rw [← hbit.out, ← hm.out], hq1, ho.trans ho1⟩
            case measure => simp [intOf]; omega
      · have hke : k = c.rest.length := by omega
        have HR := Lib.hid (CS.vread_cut h0 hkl hk9 hlt)
        have hD := Lib.hid (CS.byte_cut HC.out h0 hke).1.symm
        have hB := Lib.hid (CS.byte_cut HC.out h0 hke).2.symm
        have hok := Lib.hid (CS.past_ok HC.out (Nat.le_of_eq hke))
        clear her hkl hke hlt
        go_wp2_with fail
        refine (vbyte hD hB hq hok.out).mono ?_
        rintro e w1 ⟨rfl, hq1, ho1⟩
        go_wp2_with fail
        refine (err_any hq1).mono ?_
        rintro e w2 ⟨rfl, rfl⟩
        go_wp2
        try rw [Exit.noGoto_ret]
        go_ret
        exact ⟨ret_u64 (by rw [HR.out.2]; rfl), by rw [HR.out.1]; exact hq1, ho.trans ho1⟩
    · obtain rfl : k = 0 := by omega
      have HR := Lib.hid (CS.vread_err h0)
      have hD := Lib.hid (CS.byte_err HC.out h0).1.symm
      have hB := Lib.hid (CS.byte_err HC.out h0).2.symm
      have hok := Lib.hid (CS.past_ok HC.out (Nat.zero_le _))
      have he : (c.er != 0) = true := by simp [h0]
      clear her hkl h0
      go_wp2_with fail
      refine (vbyte hD hB hq hok.out).mono ?_
      rintro e w1 ⟨rfl, hq1, ho1⟩
      go_wp2_with fail
      refine (err_any hq1).mono ?_
      rintro e w2 ⟨rfl, rfl⟩
      go_wp2
      try rw [Exit.noGoto_ret]
      go_ret
      exact ⟨ret_u64 (by rw [HR.out.2]; rfl), by rw [HR.out.1]; exact hq1, ho.trans ho1⟩

end Go.Proofs.YtmcklfndnjagiaaDoor
