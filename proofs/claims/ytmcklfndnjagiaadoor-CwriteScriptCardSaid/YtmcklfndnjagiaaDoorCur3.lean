/- The calls of package cursor that read a part: allows, passText, passCursor, read, Take, Sub. -/
import Derived.Test.YtmcklfndnjagiaaDoorCur2
namespace Go.Proofs.YtmcklfndnjagiaaDoor
open Go Go.RowKit
set_option linter.unusedVariables false

def CS.allow (c : CS) (n : Int) : CS := { c with er := c.why n }
theorem CS.allow_ok {c : CS} (h : c.ok) (n : Int) : (c.allow n).ok := h

theorem allow_neg {c : CS} {n : Int} (h : n < 0) : c.allow n = c.fail 13 := by
  unfold CS.allow CS.fail CS.why
  by_cases h0 : c.er = 0
  · simp [h0, h]
  · simp [h0]
theorem allow_cut {c : CS} {n : Int} (h : ¬ n < 0) (h1 : (c.en : Int) - c.at_ < n) : c.allow n = c.fail 1 := by
  unfold CS.allow CS.fail CS.why
  by_cases h0 : c.er = 0
  · simp [h0, h, h1]
  · simp [h0]
theorem allow_same {c : CS} {n : Int} (h : ¬ n < 0) (h1 : ¬ (c.en : Int) - c.at_ < n) : c.allow n = c := by
  unfold CS.allow CS.why
  by_cases h0 : c.er = 0
  · rw [if_neg (by simp [h0]), if_neg h, if_neg h1, ← h0]
  · rw [if_pos h0]
theorem ret_bool {a b : Bool} (h : a = b) : Ending.returned (.bool a) = .returned (.bool b) := by rw [h]
theorem subIs_eq {c d : CS} {n : Int} (h : c.allow n = d) : (d.er == 0) = c.subIs n := by
  rw [← h]; unfold CS.subIs CS.allow; rw [Bool.eq_iff_iff]; simp

theorem allows_any {b : Nat} {c : CS} {w : World} (h : CurT 105 w b c) (hc : c.ok) (n : Int) :
    Calls Tryd.prog 93 #[.pointer (some ⟨b, 0, none⟩), .int .i64 n] w fun e w' => e = .returned (.bool (c.subIs n)) ∧ CurT 105 w' b (c.allow n) ∧ Only b w w' := by
  by_cases h0 : n < 0
  · have HR := Lib.hid (allow_neg (c := c) h0)
    have hd : decide (n < 0) = true := by simp [h0]
    clear h0
    go_enter Tryd.func93, Tryd.ntmps93
    go_wp2_with ((with_reducible refine (fail_any h 13).mono ?_); rintro e w' ⟨rfl, hq, ho⟩)
    go_wp2_with ((with_reducible refine (err_any hq).mono ?_); rintro e w' ⟨rfl, rfl⟩)
    go_ret
    exact ⟨ret_bool (subIs_eq HR.out), by rw [HR.out]; exact hq, ho⟩
  · have hd : decide (n < 0) = false := by simp [h0]
    by_cases h1 : (c.en : Int) - c.at_ < n
    · have HR := Lib.hid (allow_cut (c := c) h0 h1)
      have hd1 : decide ((c.en : Int) - c.at_ < n) = true := by simp [h1]
      clear h0 h1
      go_enter Tryd.func93, Tryd.ntmps93
      go_wp2_with ((with_reducible refine (left_any h hc).mono ?_); rintro e w' ⟨rfl, m, rfl⟩)
      go_wp2_with ((with_reducible refine (fail_any (h.drewN _) 1).mono ?_); rintro e w' ⟨rfl, hq, ho⟩)
      go_wp2_with ((with_reducible refine (err_any hq).mono ?_); rintro e w' ⟨rfl, rfl⟩)
      go_ret
      exact ⟨ret_bool (subIs_eq HR.out), by rw [HR.out]; exact hq, ((Only.refl _ _).drewN _).trans ho⟩
    · have HR := Lib.hid (allow_same (c := c) h0 h1)
      have hd1 : decide ((c.en : Int) - c.at_ < n) = false := by simp [h1]
      clear h0 h1
      go_enter Tryd.func93, Tryd.ntmps93
      go_wp2_with ((with_reducible refine (left_any h hc).mono ?_); rintro e w' ⟨rfl, m, rfl⟩)
      go_wp2_with ((with_reducible refine (err_any (h.drewN _)).mono ?_); rintro e w' ⟨rfl, rfl⟩)
      go_ret
      exact ⟨ret_bool (subIs_eq HR.out), by rw [HR.out]; exact h.drewN _, (Only.refl _ _).drewN _⟩

/-- What is read where it may be: at behind it, the error as it was. -/
def CS.past (c : CS) (n : Nat) : CS := { c with at_ := c.at_ + n }

theorem passText_any {b : Nat} {c : CS} {w : World} (h : CurT 105 w b c) (hc : c.ok) (n : Nat) (hn : c.at_ + n ≤ c.en) :
    Calls Tryd.prog 91 #[.pointer (some ⟨b, 0, none⟩), .int .i64 n] w fun e w' => e = .returned (.string (c.s.extract c.at_ (c.at_ + n))) ∧ CurT 105 w' b (c.past n) ∧ Only b w w' := by
  obtain ⟨k1, k2, k3⟩ := hc
  have h0 := h.c0
  have h1 := h.c1
  have f1 := h.fr 1
  have hq := Lib.hid (h.setAt (c.at_ + n))
  go_enter Tryd.func91, Tryd.ntmps91
  go_wp2
  go_quiet (fail)
  go_wp2
  go_ret
  exact ⟨rfl, (hq.out.drewN _ : _), ((Only.refl _ _).setCell _ _).drewN _⟩

theorem CurT.allocOld {t : TypeId} {w : World} {b : Nat} {c : CS} (h : CurT t w b c) (o : Obj) : CurT t (w.alloc o) b c := (Below.heap_alloc _ _ _ h.lt).trans h
theorem CurT.drew {t : TypeId} {w : World} {b : Nat} {c : CS} (h : CurT t w b c) : CurT t w.drew b c := h


theorem allow_yes {c : CS} {n : Int} (h : c.why n = 0) : c.allow n = c := by
  have := (CS.why_zero h).1
  unfold CS.allow; rw [h, ← this]
theorem take_yes {c : CS} {n : Int} (h : c.why n = 0) : c.take n = c.past n.toNat := by unfold CS.take CS.past; rw [if_pos h]
theorem take_no {c : CS} {n : Int} (h : ¬ c.why n = 0) : c.take n = c.allow n := by unfold CS.take CS.allow; rw [if_neg h]
theorem takeS_yes {c : CS} {n : Int} (h : c.why n = 0) : c.takeS n = c.s.extract c.at_ (c.at_ + n.toNat) := by unfold CS.takeS; rw [if_pos h]
theorem takeS_no {c : CS} {n : Int} (h : ¬ c.why n = 0) : c.takeS n = ⟨#[]⟩ := by unfold CS.takeS; rw [if_neg h]
theorem sub_yes {c : CS} {n : Int} (h : c.why n = 0) : c.sub n = ⟨c.s, c.at_, c.at_ + n.toNat, 0⟩ := by
  have := (CS.why_zero h).1
  unfold CS.sub; rw [if_pos h, ← this]
theorem ret_string {a b : ByteArray} (h : a = b) : Ending.returned (.string a) = .returned (.string b) := by rw [h]

theorem take_any {b : Nat} {c : CS} {w : World} (h : CurT 105 w b c) (hc : c.ok) (n : Int) :
    Calls Tryd.prog 83 #[.pointer (some ⟨b, 0, none⟩), .int .i64 n] w fun e w' => e = .returned (.string (c.takeS n)) ∧ CurT 105 w' b (c.take n) ∧ Only b w w' := by
  have hmf : ∀ (fn : Fn) (first cap : Array Value) (w : World), (Instr.makeFunc fn first cap).run Tryd.prog w = .ok (.func fn first cap) w := fun _ _ _ _ => rfl
  have HA := allows_any h hc n
  by_cases hy : c.why n = 0
  · obtain ⟨y1, y2, y3⟩ := CS.why_zero hy
    obtain ⟨m, rfl⟩ := Int.eq_ofNat_of_zero_le y2
    have hm : c.at_ + m ≤ c.en := by have := hc.1; omega
    have HR := Lib.hid (take_yes hy)
    have HS := Lib.hid (takeS_yes hy)
    rw [Int.toNat_natCast] at HR HS
    have hs : c.subIs (m : Int) = true := by unfold CS.subIs; simp [hy]
    rw [hs, allow_yes hy] at HA
    clear hy y1 y2 y3 hs
    go_enter Tryd.func83, Tryd.ntmps83
    go_wp2_with (first | ((with_reducible refine HA.mono ?_); rintro e w1 ⟨rfl, hq, ho⟩) | ((with_reducible refine (passText_any hq hc m hm).mono ?_); rintro e w2 ⟨rfl, hq2, ho2⟩) | go_in)
    go_ret
    exact ⟨ret_string HS.out.symm, by rw [HR.out]; exact hq2, ho.trans ho2⟩
  · have HR := Lib.hid (take_no hy)
    have HS := Lib.hid (takeS_no hy)
    have hs : c.subIs n = false := by unfold CS.subIs; simp [hy]
    rw [hs] at HA
    clear hy hs
    go_enter Tryd.func83, Tryd.ntmps83
    go_wp2_with (first | ((with_reducible refine HA.mono ?_); rintro e w1 ⟨rfl, hq, ho⟩) | go_in)
    go_ret
    exact ⟨ret_string HS.out.symm, by rw [HR.out]; exact hq, ho⟩

end Go.Proofs.YtmcklfndnjagiaaDoor
