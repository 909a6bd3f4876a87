/- More calls of package cursor: End, Peek, Byte, allows, and what reads a part (Take, Sub). -/
import Derived.Test.YtmcklfndnjagiaaDoorCur
namespace Go.Proofs.YtmcklfndnjagiaaDoor
open Go Go.RowKit
set_option linter.unusedVariables false

theorem ret_peek {a b : Int} {c d : Bool} (h : a = b) (k : c = d) : Ending.returned (.tuple #[.int .u8 a, .bool c]) = .returned (.tuple #[.int .u8 b, .bool d]) := by rw [h, k]



theorem peek_any {b : Nat} {c : CS} {w : World} (h : CurT 105 w b c) (hc : c.ok) :
    Calls Tryd.prog 80 #[.pointer (some ⟨b, 0, none⟩)] w fun e w' => e = .returned (.tuple #[.int .u8 c.peekB, .bool c.peekIs]) ∧ ∃ n, w' = w.drewN n := by
  by_cases h0 : c.er = 0
  · have hb : (c.er == 0) = true := by simp [h0]
    have hb' : (c.er != 0) = false := by simp [h0]
    by_cases h1 : c.at_ < c.en
    · have hs : c.at_ < c.s.size := Nat.lt_of_lt_of_le h1 hc.2.1
      have hd : ((c.en : Int) - c.at_ == 0) = false := by simp; omega
      have HR := Lib.hid (show c.peekB = c.s[c.at_].toNat ∧ c.peekIs = true from by
        have hp : c.peekIs = true := by unfold CS.peekIs; simp [h0, h1]
        refine ⟨?_, hp⟩
        unfold CS.peekB
        rw [if_pos hp]
        have : c.s.data[c.at_]? = some c.s[c.at_] := by rw [Array.getElem?_eq_getElem (by simpa using hs)]; rfl
        rw [this]; rfl)
      have g0 := h.c0
      have g1 := h.c1
      clear h0 h1
      go_enter Tryd.func80, Tryd.ntmps80
      go_wp2_with (first | ((with_reducible refine (err_any h).mono ?_); rintro e w' ⟨rfl, rfl⟩) | ((with_reducible refine (left_any h hc).mono ?_); rintro e w' ⟨rfl, n, rfl⟩))
      go_quiet (fail)
      go_wp2
      go_ret2
      exact ⟨ret_peek HR.out.1.symm HR.out.2.symm, _, World.drewN_drewN ..⟩
    · have hd : ((c.en : Int) - c.at_ == 0) = true := by have := hc.1; simp; omega
      have HR := Lib.hid (show c.peekB = 0 ∧ c.peekIs = false from by
        have hp : c.peekIs = false := by unfold CS.peekIs; simp [h1]
        refine ⟨?_, hp⟩
        unfold CS.peekB
        rw [if_neg (by simp [hp])])
      clear h0 h1
      go_enter Tryd.func80, Tryd.ntmps80
      go_wp2_with (first | ((with_reducible refine (err_any h).mono ?_); rintro e w' ⟨rfl, rfl⟩) | ((with_reducible refine (left_any h hc).mono ?_); rintro e w' ⟨rfl, n, rfl⟩))
      go_ret2
      exact ⟨ret_peek HR.out.1.symm HR.out.2.symm, _, rfl⟩
  · have hb : (c.er == 0) = false := by simp [h0]
    have hb' : (c.er != 0) = true := by simp [h0]
    have HR := Lib.hid (show c.peekB = 0 ∧ c.peekIs = false from by
        have hp : c.peekIs = false := by unfold CS.peekIs; simp [h0]
        refine ⟨?_, hp⟩
        unfold CS.peekB
        rw [if_neg (by simp [hp])])
    clear h0
    go_enter Tryd.func80, Tryd.ntmps80
    go_wp2_with (first | ((with_reducible refine (err_any h).mono ?_); rintro e w' ⟨rfl, rfl⟩) | ((with_reducible refine (left_any h hc).mono ?_); rintro e w' ⟨rfl, n, rfl⟩))
    go_ret2
    exact ⟨ret_peek HR.out.1.symm HR.out.2.symm, 0, rfl⟩

def CS.byte (c : CS) : CS := c.take 1

theorem CS.byte_yes {c : CS} (h : c.peekIs = true) : c.byte = { c with at_ := c.at_ + 1 } := by
  have := of_decide_eq_true h
  unfold CS.byte CS.take
  rw [if_pos (CS.why_mk this.1 (by omega) (by omega))]; rfl
theorem CS.byte_no {c : CS} (hc : c.ok) (h : c.peekIs = false) : c.byte = c.fail 1 := by
  have h' := of_decide_eq_false h
  unfold CS.byte CS.take CS.fail CS.why
  obtain ⟨k1, k2, k3⟩ := hc
  by_cases h0 : c.er = 0
  · have h1 : (c.en : Int) - c.at_ < 1 := by have : ¬ c.at_ < c.en := fun x => h' ⟨h0, x⟩; omega
    simp [h0, h1]
  · simp [h0]
theorem CS.peekB_no {c : CS} (h : c.peekIs = false) : c.peekB = 0 := by unfold CS.peekB; rw [h]; rfl

theorem byte_any {b : Nat} {c : CS} {w : World} (h : CurT 105 w b c) (hc : c.ok) :
    Calls Tryd.prog 58 #[.pointer (some ⟨b, 0, none⟩)] w fun e w' => e = .returned (.int .u8 c.peekB) ∧ CurT 105 w' b c.byte ∧ Only b w w' := by
  have HP := peek_any h hc
  cases hp : c.peekIs with
  | true =>
    have HR := Lib.hid (CS.byte_yes hp)
    have hlt := (of_decide_eq_true hp).2
    have hen := hc.2.1
    have hmx := hc.2.2
    rw [hp] at HP
    clear hp
    have g1 := h.c1
    have f1 := h.fr 1
    go_enter Tryd.func58, Tryd.ntmps58
    go_wp2_with ((with_reducible refine HP.mono ?_); rintro e w' ⟨rfl, n, rfl⟩)
    go_ret
    refine ⟨rfl, ?_, ((Only.refl _ _).drewN _).setCell _ _⟩
    rw [HR.out]
    exact (h.drewN n).setAt (c.at_ + 1)
  | false =>
    have HR := Lib.hid (CS.byte_no hc hp)
    have HB := Lib.hid (CS.peekB_no hp)
    rw [hp] at HP
    clear hp
    go_enter Tryd.func58, Tryd.ntmps58
    go_wp2_with (first | ((with_reducible refine HP.mono ?_); rintro e w' ⟨rfl, n, rfl⟩) | ((with_reducible refine (fail_any (h.drewN _) 1).mono ?_); rintro e w' ⟨rfl, hq, ho⟩))
    go_ret
    exact ⟨ret_int HB.out.symm, by rw [HR.out]; exact hq, ((Only.refl _ _).drewN _).trans ho⟩

end Go.Proofs.YtmcklfndnjagiaaDoor
