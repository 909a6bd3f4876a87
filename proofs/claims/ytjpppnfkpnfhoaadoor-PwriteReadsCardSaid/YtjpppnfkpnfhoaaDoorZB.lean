/- Several texts in one (Cur, Cur2, Cur3, Cur4, CurB): each begins with its own words. -/
import Derived.Test.YtjpppnfkpnfhoaaDoorRows
import Derived.Test.YtjpppnfkpnfhoaaDoorZA
import Derived.Deep.QuietTactic
import Derived.BigQuiet
import Derived.Handy
import Derived.WalkSpells
import Derived.WalkLawsBesides
/- The calls of package cursor, each as a contract over the cursor's block. -/
namespace Go.Proofs.YtjpppnfkpnfhoaaDoor
open Go Go.RowKit
set_option linter.unusedVariables false

theorem ret_int {k : IntKind} {a b : Int} (h : a = b) : Ending.returned (.int k a) = .returned (.int k b) := by rw [h]

theorem new_any (s : ByteArray) (w : World) (hs : s.size ≤ 9223372036854775807) :
    Calls Tryd.prog 31 #[.string s] w fun e w' => e = .returned (.pointer (some ⟨w.heap.size, 0, none⟩)) ∧ w' = w.alloc (.cells #[.string s, .int .i64 0, .int .i64 s.size, .int .i64 0] 82) := by
  go_enter Tryd.func31, Tryd.ntmps31
  go_wp2
  go_ret
  exact ⟨rfl, rfl⟩


theorem err_any {b : Nat} {c : CS} {w : World} (h : CurT 82 w b c) :
    Calls Tryd.prog 32 #[.pointer (some ⟨b, 0, none⟩)] w fun e w' => e = .returned (.int .i64 c.er) ∧ w' = w := by
  have h1 := h.c3
  go_enter Tryd.func32, Tryd.ntmps32
  go_wp2
  go_ret
  exact ⟨rfl, rfl⟩

theorem err_nil (w : World) :
    Calls Tryd.prog 32 #[.pointer none] w fun e w' => e = .returned (.int .i64 9) ∧ w' = w := by
  go_enter Tryd.func32, Tryd.ntmps32
  go_wp2
  go_ret
  exact ⟨rfl, rfl⟩

theorem left_nil (w : World) :
    Calls Tryd.prog 33 #[.pointer none] w fun e w' => e = .returned (.int .i64 0) ∧ w' = w := by
  go_enter Tryd.func33, Tryd.ntmps33
  go_wp2
  go_ret
  exact ⟨rfl, rfl⟩

theorem left_any {b : Nat} {c : CS} {w : World} (h : CurT 82 w b c) (hc : c.ok) :
    Calls Tryd.prog 33 #[.pointer (some ⟨b, 0, none⟩)] w fun e w' => e = .returned (.int .i64 ((c.en : Int) - c.at_)) ∧ ∃ n, w' = w.drewN n := by
  obtain ⟨k1, k2, k3⟩ := hc
  have h1 := h.c1
  have h2 := h.c2
  have hw : IntKind.i64.wrap ((c.en : Int) - c.at_) = (c.en : Int) - c.at_ := IntWalk.i64_in _ (by omega)
  go_enter Tryd.func33, Tryd.ntmps33
  go_wp2
  go_quiet (fail)
  go_wp2
  go_ret
  exact ⟨rfl, _, rfl⟩

theorem fail_any {b : Nat} {c : CS} {w : World} (h : CurT 82 w b c) (k : Int) :
    Calls Tryd.prog 53 #[.pointer (some ⟨b, 0, none⟩), .int .i64 k] w fun e w' => e = .returned (.tuple #[]) ∧ CurT 82 w' b (c.fail k) ∧ Only b w w' := by
  have h3 := h.c3
  have f3 := h.fr 3
  by_cases h0 : c.er = 0
  · have hb : (c.er == 0) = true := by simp [h0]
    have HR := Lib.hid (show CurT 82 (w.setCell ⟨b, 3, none⟩ (.int .i64 k)) b (c.fail k) from by unfold CS.fail; rw [if_pos h0]; exact h.setEr k)
    clear h0
    go_enter Tryd.func53, Tryd.ntmps53
    go_wp2_with ((with_reducible refine (err_any h).mono ?_); rintro e w' ⟨rfl, rfl⟩)
    go_end0
    exact ⟨rfl, HR.out, (Only.refl _ _).setCell _ _⟩
  · have hb : (c.er == 0) = false := by simp [h0]
    have HR := Lib.hid (show CurT 82 w b (c.fail k) from by unfold CS.fail; rw [if_neg h0]; exact h)
    clear h0
    go_enter Tryd.func53, Tryd.ntmps53
    go_wp2_with ((with_reducible refine (err_any h).mono ?_); rintro e w' ⟨rfl, rfl⟩)
    go_end0
    exact ⟨rfl, HR.out, Only.refl _ _⟩

theorem fail_nil (w : World) (k : Int) :
    Calls Tryd.prog 53 #[.pointer none, .int .i64 k] w fun e w' => e = .returned (.tuple #[]) ∧ w' = w := by
  go_enter Tryd.func53, Tryd.ntmps53
  go_wp2_with ((with_reducible refine (err_nil _).mono ?_); rintro e w' ⟨rfl, rfl⟩)
  go_end0
  exact ⟨rfl, rfl⟩

end Go.Proofs.YtjpppnfkpnfhoaaDoor
/- More calls of package cursor: End, Peek, Byte, allows, and what reads a part (Take, Sub). -/
namespace Go.Proofs.YtjpppnfkpnfhoaaDoor
open Go Go.RowKit
set_option linter.unusedVariables false

theorem ret_peek {a b : Int} {c d : Bool} (h : a = b) (k : c = d) : Ending.returned (.tuple #[.int .u8 a, .bool c]) = .returned (.tuple #[.int .u8 b, .bool d]) := by rw [h, k]



theorem peek_any {b : Nat} {c : CS} {w : World} (h : CurT 82 w b c) (hc : c.ok) :
    Calls Tryd.prog 57 #[.pointer (some ⟨b, 0, none⟩)] w fun e w' => e = .returned (.tuple #[.int .u8 c.peekB, .bool c.peekIs]) ∧ ∃ n, w' = w.drewN n := by
  by_cases h0 : c.er = 0
  · have hb : (c.er == 0) = true := by simp [h0]
    have hb' : (c.er != 0) = false := by simp [h0]
    by_cases h1 : c.at_ < c.en
    · have hs : c.at_ < c.s.size := Nat.lt_of_lt_of_le h1 hc.2.1
      have hd : ((c.en : Int) - c.at_ == 0) = false := by simp; omega
      have HR := Lib.hid (show c.peekB = c.s[c.at_].toNat ∧ c.peekIs = true from by
        have hp : c.peekIs = true := by unfold CS.peekIs; simp [h0, h1]
        refine ⟨?_, hp⟩
        unfold CS.peekB
        rw [if_pos hp]
        have : c.s.data[c.at_]? = some c.s[c.at_] := by rw [Array.getElem?_eq_getElem (by simpa using hs)]; rfl
        rw [this]; rfl)
      have g0 := h.c0
      have g1 := h.c1
      clear h0 h1
      go_enter Tryd.func57, Tryd.ntmps57
      go_wp2_with (first | ((with_reducible refine (err_any h).mono ?_); rintro e w' ⟨rfl, rfl⟩) | ((with_reducible refine (left_any h hc).mono ?_); rintro e w' ⟨rfl, n, rfl⟩))
      go_quiet (fail)
      go_wp2
      go_ret2
      exact ⟨ret_peek HR.out.1.symm HR.out.2.symm, _, World.drewN_drewN ..⟩
    · have hd : ((c.en : Int) - c.at_ == 0) = true := by have := hc.1; simp; omega
      have HR := Lib.hid (show c.peekB = 0 ∧ c.peekIs = false from by
        have hp : c.peekIs = false := by unfold CS.peekIs; simp [h1]
        refine ⟨?_, hp⟩
        unfold CS.peekB
        rw [if_neg (by simp [hp])])
      clear h0 h1
      go_enter Tryd.func57, Tryd.ntmps57
      go_wp2_with (first | ((with_reducible refine (err_any h).mono ?_); rintro e w' ⟨rfl, rfl⟩) | ((with_reducible refine (left_any h hc).mono ?_); rintro e w' ⟨rfl, n, rfl⟩))
      go_ret2
      exact ⟨ret_peek HR.out.1.symm HR.out.2.symm, _, rfl⟩
  · have hb : (c.er == 0) = false := by simp [h0]
    have hb' : (c.er != 0) = true := by simp [h0]
    have HR := Lib.hid (show c.peekB = 0 ∧ c.peekIs = false from by
        have hp : c.peekIs = false := by unfold CS.peekIs; simp [h0]
        refine ⟨?_, hp⟩
        unfold CS.peekB
        rw [if_neg (by simp [hp])])
    clear h0
    go_enter Tryd.func57, Tryd.ntmps57
    go_wp2_with (first | ((with_reducible refine (err_any h).mono ?_); rintro e w' ⟨rfl, rfl⟩) | ((with_reducible refine (left_any h hc).mono ?_); rintro e w' ⟨rfl, n, rfl⟩))
    go_ret2
    exact ⟨ret_peek HR.out.1.symm HR.out.2.symm, 0, rfl⟩

def CS.byte (c : CS) : CS := c.take 1

theorem CS.byte_yes {c : CS} (h : c.peekIs = true) : c.byte = { c with at_ := c.at_ + 1 } := by
  have := of_decide_eq_true h
  unfold CS.byte CS.take
  rw [if_pos (CS.why_mk this.1 (by omega) (by omega))]; rfl
theorem CS.byte_no {c : CS} (hc : c.ok) (h : c.peekIs = false) : c.byte = c.fail 1 := by
  have h' := of_decide_eq_false h
  unfold CS.byte CS.take CS.fail CS.why
  obtain ⟨k1, k2, k3⟩ := hc
  by_cases h0 : c.er = 0
  · have h1 : (c.en : Int) - c.at_ < 1 := by have : ¬ c.at_ < c.en := fun x => h' ⟨h0, x⟩; omega
    simp [h0, h1]
  · simp [h0]
theorem CS.peekB_no {c : CS} (h : c.peekIs = false) : c.peekB = 0 := by unfold CS.peekB; rw [h]; rfl

theorem byte_any {b : Nat} {c : CS} {w : World} (h : CurT 82 w b c) (hc : c.ok) :
    Calls Tryd.prog 54 #[.pointer (some ⟨b, 0, none⟩)] w fun e w' => e = .returned (.int .u8 c.peekB) ∧ CurT 82 w' b c.byte ∧ Only b w w' := by
  have HP := peek_any h hc
  cases hp : c.peekIs with
  | true =>
    have HR := Lib.hid (CS.byte_yes hp)
    have hlt := (of_decide_eq_true hp).2
    have hen := hc.2.1
    have hmx := hc.2.2
    rw [hp] at HP
    clear hp
    have g1 := h.c1
    have f1 := h.fr 1
    go_enter Tryd.func54, Tryd.ntmps54
    go_wp2_with ((with_reducible refine HP.mono ?_); rintro e w' ⟨rfl, n, rfl⟩)
    go_ret
    refine ⟨rfl, ?_, ((Only.refl _ _).drewN _).setCell _ _⟩
    rw [HR.out]
    exact (h.drewN n).setAt (c.at_ + 1)
  | false =>
    have HR := Lib.hid (CS.byte_no hc hp)
    have HB := Lib.hid (CS.peekB_no hp)
    rw [hp] at HP
    clear hp
    go_enter Tryd.func54, Tryd.ntmps54
    go_wp2_with (first | ((with_reducible refine HP.mono ?_); rintro e w' ⟨rfl, n, rfl⟩) | ((with_reducible refine (fail_any (h.drewN _) 1).mono ?_); rintro e w' ⟨rfl, hq, ho⟩))
    go_ret
    exact ⟨ret_int HB.out.symm, by rw [HR.out]; exact hq, ((Only.refl _ _).drewN _).trans ho⟩

end Go.Proofs.YtjpppnfkpnfhoaaDoor
/- The calls of package cursor that read a part: allows, passText, passCursor, read, Take, Sub. -/
namespace Go.Proofs.YtjpppnfkpnfhoaaDoor
open Go Go.RowKit
set_option linter.unusedVariables false

def CS.allow (c : CS) (n : Int) : CS := { c with er := c.why n }
theorem CS.allow_ok {c : CS} (h : c.ok) (n : Int) : (c.allow n).ok := h

theorem allow_neg {c : CS} {n : Int} (h : n < 0) : c.allow n = c.fail 13 := by
  unfold CS.allow CS.fail CS.why
  by_cases h0 : c.er = 0
  · simp [h0, h]
  · simp [h0]
theorem allow_cut {c : CS} {n : Int} (h : ¬ n < 0) (h1 : (c.en : Int) - c.at_ < n) : c.allow n = c.fail 1 := by
  unfold CS.allow CS.fail CS.why
  by_cases h0 : c.er = 0
  · simp [h0, h, h1]
  · simp [h0]
theorem allow_same {c : CS} {n : Int} (h : ¬ n < 0) (h1 : ¬ (c.en : Int) - c.at_ < n) : c.allow n = c := by
  unfold CS.allow CS.why
  by_cases h0 : c.er = 0
  · rw [if_neg (by simp [h0]), if_neg h, if_neg h1, ← h0]
  · rw [if_pos h0]
theorem ret_bool {a b : Bool} (h : a = b) : Ending.returned (.bool a) = .returned (.bool b) := by rw [h]
theorem subIs_eq {c d : CS} {n : Int} (h : c.allow n = d) : (d.er == 0) = c.subIs n := by
  rw [← h]; unfold CS.subIs CS.allow; rw [Bool.eq_iff_iff]; simp

theorem allows_any {b : Nat} {c : CS} {w : World} (h : CurT 82 w b c) (hc : c.ok) (n : Int) :
    Calls Tryd.prog 60 #[.pointer (some ⟨b, 0, none⟩), .int .i64 n] w fun e w' => e = .returned (.bool (c.subIs n)) ∧ CurT 82 w' b (c.allow n) ∧ Only b w w' := by
  by_cases h0 : n < 0
  · have HR := Lib.hid (allow_neg (c := c) h0)
    have hd : decide (n < 0) = true := by simp [h0]
    clear h0
    go_enter Tryd.func60, Tryd.ntmps60
    go_wp2_with ((with_reducible refine (fail_any h 13).mono ?_); rintro e w' ⟨rfl, hq, ho⟩)
    go_wp2_with ((with_reducible refine (err_any hq).mono ?_); rintro e w' ⟨rfl, rfl⟩)
    go_ret
    exact ⟨ret_bool (subIs_eq HR.out), by rw [HR.out]; exact hq, ho⟩
  · have hd : decide (n < 0) = false := by simp [h0]
    by_cases h1 : (c.en : Int) - c.at_ < n
    · have HR := Lib.hid (allow_cut (c := c) h0 h1)
      have hd1 : decide ((c.en : Int) - c.at_ < n) = true := by simp [h1]
      clear h0 h1
      go_enter Tryd.func60, Tryd.ntmps60
      go_wp2_with ((with_reducible refine (left_any h hc).mono ?_); rintro e w' ⟨rfl, m, rfl⟩)
      go_wp2_with ((with_reducible refine (fail_any (h.drewN _) 1).mono ?_); rintro e w' ⟨rfl, hq, ho⟩)
      go_wp2_with ((with_reducible refine (err_any hq).mono ?_); rintro e w' ⟨rfl, rfl⟩)
      go_ret
      exact ⟨ret_bool (subIs_eq HR.out), by rw [HR.out]; exact hq, ((Only.refl _ _).drewN _).trans ho⟩
    · have HR := Lib.hid (allow_same (c := c) h0 h1)
      have hd1 : decide ((c.en : Int) - c.at_ < n) = false := by simp [h1]
      clear h0 h1
      go_enter Tryd.func60, Tryd.ntmps60
      go_wp2_with ((with_reducible refine (left_any h hc).mono ?_); rintro e w' ⟨rfl, m, rfl⟩)
      go_wp2_with ((with_reducible refine (err_any (h.drewN _)).mono ?_); rintro e w' ⟨rfl, rfl⟩)
      go_ret
      exact ⟨ret_bool (subIs_eq HR.out), by rw [HR.out]; exact h.drewN _, (Only.refl _ _).drewN _⟩

/-- What is read where it may be: at behind it, the error as it was. -/
def CS.past (c : CS) (n : Nat) : CS := { c with at_ := c.at_ + n }

theorem passText_any {b : Nat} {c : CS} {w : World} (h : CurT 82 w b c) (hc : c.ok) (n : Nat) (hn : c.at_ + n ≤ c.en) :
    Calls Tryd.prog 59 #[.pointer (some ⟨b, 0, none⟩), .int .i64 n] w fun e w' => e = .returned (.string (c.s.extract c.at_ (c.at_ + n))) ∧ CurT 82 w' b (c.past n) ∧ Only b w w' := by
  obtain ⟨k1, k2, k3⟩ := hc
  have h0 := h.c0
  have h1 := h.c1
  have f1 := h.fr 1
  have hq := Lib.hid (h.setAt (c.at_ + n))
  go_enter Tryd.func59, Tryd.ntmps59
  go_wp2
  go_quiet (fail)
  go_wp2
  go_ret
  exact ⟨rfl, (hq.out.drewN _ : _), ((Only.refl _ _).setCell _ _).drewN _⟩

theorem CurT.allocOld {t : TypeId} {w : World} {b : Nat} {c : CS} (h : CurT t w b c) (o : Obj) : CurT t (w.alloc o) b c := (Below.heap_alloc _ _ _ h.lt).trans h
theorem CurT.drew {t : TypeId} {w : World} {b : Nat} {c : CS} (h : CurT t w b c) : CurT t w.drew b c := h


theorem allow_yes {c : CS} {n : Int} (h : c.why n = 0) : c.allow n = c := by
  have := (CS.why_zero h).1
  unfold CS.allow; rw [h, ← this]
theorem take_yes {c : CS} {n : Int} (h : c.why n = 0) : c.take n = c.past n.toNat := by unfold CS.take CS.past; rw [if_pos h]
theorem take_no {c : CS} {n : Int} (h : ¬ c.why n = 0) : c.take n = c.allow n := by unfold CS.take CS.allow; rw [if_neg h]
theorem takeS_yes {c : CS} {n : Int} (h : c.why n = 0) : c.takeS n = c.s.extract c.at_ (c.at_ + n.toNat) := by unfold CS.takeS; rw [if_pos h]
theorem takeS_no {c : CS} {n : Int} (h : ¬ c.why n = 0) : c.takeS n = ⟨#[]⟩ := by unfold CS.takeS; rw [if_neg h]
theorem sub_yes {c : CS} {n : Int} (h : c.why n = 0) : c.sub n = ⟨c.s, c.at_, c.at_ + n.toNat, 0⟩ := by
  have := (CS.why_zero h).1
  unfold CS.sub; rw [if_pos h, ← this]
theorem ret_string {a b : ByteArray} (h : a = b) : Ending.returned (.string a) = .returned (.string b) := by rw [h]

theorem take_any {b : Nat} {c : CS} {w : World} (h : CurT 82 w b c) (hc : c.ok) (n : Int) :
    Calls Tryd.prog 56 #[.pointer (some ⟨b, 0, none⟩), .int .i64 n] w fun e w' => e = .returned (.string (c.takeS n)) ∧ CurT 82 w' b (c.take n) ∧ Only b w w' := by
  have hmf : ∀ (fn : Fn) (first cap : Array Value) (w : World), (Instr.makeFunc fn first cap).run Tryd.prog w = .ok (.func fn first cap) w := fun _ _ _ _ => rfl
  have HA := allows_any h hc n
  by_cases hy : c.why n = 0
  · obtain ⟨y1, y2, y3⟩ := CS.why_zero hy
    obtain ⟨m, rfl⟩ := Int.eq_ofNat_of_zero_le y2
    have hm : c.at_ + m ≤ c.en := by have := hc.1; omega
    have HR := Lib.hid (take_yes hy)
    have HS := Lib.hid (takeS_yes hy)
    rw [Int.toNat_natCast] at HR HS
    have hs : c.subIs (m : Int) = true := by unfold CS.subIs; simp [hy]
    rw [hs, allow_yes hy] at HA
    clear hy y1 y2 y3 hs
    go_enter Tryd.func56, Tryd.ntmps56
    go_wp2_with (first | ((with_reducible refine HA.mono ?_); rintro e w1 ⟨rfl, hq, ho⟩) | ((with_reducible refine (passText_any hq hc m hm).mono ?_); rintro e w2 ⟨rfl, hq2, ho2⟩) | go_in)
    go_ret
    exact ⟨ret_string HS.out.symm, by rw [HR.out]; exact hq2, ho.trans ho2⟩
  · have HR := Lib.hid (take_no hy)
    have HS := Lib.hid (takeS_no hy)
    have hs : c.subIs n = false := by unfold CS.subIs; simp [hy]
    rw [hs] at HA
    clear hy hs
    go_enter Tryd.func56, Tryd.ntmps56
    go_wp2_with (first | ((with_reducible refine HA.mono ?_); rintro e w1 ⟨rfl, hq, ho⟩) | go_in)
    go_ret
    exact ⟨ret_string HS.out.symm, by rw [HR.out]; exact hq, ho⟩

end Go.Proofs.YtjpppnfkpnfhoaaDoor
/- Sub, and the calls at a nil cursor. -/
namespace Go.Proofs.YtjpppnfkpnfhoaaDoor
open Go Go.RowKit
set_option linter.unusedVariables false



theorem allows_nil (w : World) :
    Calls Tryd.prog 60 #[.pointer none, .int .i64 0] w fun e w' => e = .returned (.bool false) ∧ w' = w := by
  go_enter Tryd.func60, Tryd.ntmps60
  go_wp2_with (first | ((with_reducible refine (left_nil _).mono ?_); rintro e w1 ⟨rfl, rfl⟩) | ((with_reducible refine (err_nil _).mono ?_); rintro e w1 ⟨rfl, rfl⟩))
  go_ret
  exact ⟨rfl, rfl⟩

theorem take_nil (w : World) :
    Calls Tryd.prog 56 #[.pointer none, .int .i64 0] w fun e w' => e = .returned (.string ⟨#[]⟩) ∧ w' = w := by
  have hmf : ∀ (fn : Fn) (first cap : Array Value) (w : World), (Instr.makeFunc fn first cap).run Tryd.prog w = .ok (.func fn first cap) w := fun _ _ _ _ => rfl
  go_enter Tryd.func56, Tryd.ntmps56
  go_wp2_with (first | ((with_reducible refine (allows_nil _).mono ?_); rintro e w1 ⟨rfl, rfl⟩) | go_in)
  go_ret
  exact ⟨rfl, rfl⟩


theorem new_cur (s : ByteArray) (w : World) (hs : s.size ≤ 9223372036854775807) :
    Calls Tryd.prog 31 #[.string s] w fun e w' => ∃ b, e = .returned (.pointer (some ⟨b, 0, none⟩)) ∧ w.heap.size ≤ b ∧ CurT 82 w' b (CS.new s) ∧ Below w.heap.size w w' := by
  refine (new_any s w hs).mono ?_
  rintro e w' ⟨rfl, rfl⟩
  exact ⟨_, rfl, Nat.le_refl _, cur_alloc (c := CS.new s) _, (Below.refl _ _).alloc (Nat.le_refl _) _⟩

end Go.Proofs.YtjpppnfkpnfhoaaDoor
/- A cursor's bytes that are left, and what its calls make of them. -/
namespace Go.Proofs.YtjpppnfkpnfhoaaDoor
open Go Go.RowKit
set_option linter.unusedVariables false

/-- The bytes that are left. -/
def CS.bs (c : CS) : List UInt8 := (c.s.data.toList.take c.en).drop c.at_
def CS.bad (c : CS) (e : Int) : CS := { c with er := e }
theorem CS.bs_length {c : CS} (h : c.ok) : c.bs.length = c.en - c.at_ := by
  obtain ⟨h1, h2, h3⟩ := h
  unfold CS.bs
  rw [List.length_drop, List.length_take, toList_size]; omega
theorem CS.bs_past (c : CS) (k : Nat) : (c.past k).bs = c.bs.drop k := by
  unfold CS.bs CS.past; rw [List.drop_drop]
theorem CS.past_past (c : CS) (j k : Nat) : (c.past j).past k = c.past (j + k) := by unfold CS.past; simp [Nat.add_assoc]
theorem CS.past_zero (c : CS) : c.past 0 = c := rfl
theorem CS.past_fine {c : CS} (h : c.ok) {k : Nat} (hk : k ≤ c.bs.length) : (c.past k).ok := by
  have := CS.bs_length h
  obtain ⟨h1, h2, h3⟩ := h
  exact ⟨by unfold CS.past; simp only; omega, h2, h3⟩
theorem CS.bad_fine {c : CS} (h : c.ok) (e : Int) : (c.bad e).ok := h
theorem CS.fail_good {c : CS} (h : c.er = 0) (k : Int) : c.fail k = c.bad k := by unfold CS.fail CS.bad; rw [if_pos h]
theorem CS.fail_bad {c : CS} (h : ¬ c.er = 0) (k : Int) : c.fail k = c := by unfold CS.fail; rw [if_neg h]
theorem CS.bs_none {c : CS} (h : c.ok) (hb : c.bs = []) : c.peekIs = false ∧ c.peekB = 0 := by
  have hl := CS.bs_length h
  rw [hb] at hl
  have hp : c.peekIs = false := by unfold CS.peekIs; simp at hl; simp; omega
  exact ⟨hp, CS.peekB_no hp⟩
theorem CS.bs_some {c : CS} (h : c.ok) (h0 : c.er = 0) {x : UInt8} {t : List UInt8} (hb : c.bs = x :: t) : c.peekIs = true ∧ c.peekB = x.toNat ∧ (c.past 1).bs = t ∧ (c.past 1).ok := by
  have hl := CS.bs_length h
  rw [hb] at hl
  simp only [List.length_cons] at hl
  have hlt : c.at_ < c.en := by omega
  have hp : c.peekIs = true := by unfold CS.peekIs; simp [h0, hlt]
  refine ⟨hp, ?_, by rw [CS.bs_past, hb]; rfl, CS.past_fine h (by rw [hb]; simp)⟩
  unfold CS.peekB
  rw [if_pos hp]
  have e : c.bs[0]? = some x := by rw [hb]; rfl
  unfold CS.bs at e
  rw [List.getElem?_drop, List.getElem?_take_of_lt (by omega), Nat.add_zero] at e
  have : c.s.data[c.at_]? = some x := by rw [← Array.getElem?_toList]; exact e
  rw [this]; rfl
theorem byte_next {b : Nat} {c : CS} {w : World} (h : CurT 82 w b c) (hc : c.ok) (h0 : c.er = 0) {x : UInt8} {t : List UInt8} (hb : c.bs = x :: t) :
    Calls Tryd.prog 54 #[.pointer (some ⟨b, 0, none⟩)] w fun e w' => e = .returned (.int .u8 (x.toNat : Int)) ∧ CurT 82 w' b (c.past 1) ∧ Only b w w' := by
  obtain ⟨h1, h2, _⟩ := CS.bs_some hc h0 hb
  have := byte_any h hc
  rw [h2, CS.byte_yes h1] at this; exact this
theorem byte_lacks {b : Nat} {c : CS} {w : World} (h : CurT 82 w b c) (hc : c.ok) (h0 : c.er = 0) (hb : c.bs = []) :
    Calls Tryd.prog 54 #[.pointer (some ⟨b, 0, none⟩)] w fun e w' => e = .returned (.int .u8 0) ∧ CurT 82 w' b (c.bad 1) ∧ Only b w w' := by
  obtain ⟨h1, h2⟩ := CS.bs_none hc hb
  have := byte_any h hc
  rw [h2, CS.byte_no hc h1, CS.fail_good h0] at this; exact this
theorem byte_bad {b : Nat} {c : CS} {w : World} (h : CurT 82 w b c) (hc : c.ok) (h0 : ¬ c.er = 0) :
    Calls Tryd.prog 54 #[.pointer (some ⟨b, 0, none⟩)] w fun e w' => e = .returned (.int .u8 0) ∧ CurT 82 w' b c ∧ Only b w w' := by
  have h1 : c.peekIs = false := by unfold CS.peekIs; simp [h0]
  have := byte_any h hc
  rw [CS.peekB_no h1, CS.byte_no hc h1, CS.fail_bad h0] at this; exact this
theorem fail_fresh {b : Nat} {c : CS} {w : World} (h : CurT 82 w b c) (h0 : c.er = 0) (k : Int) :
    Calls Tryd.prog 53 #[.pointer (some ⟨b, 0, none⟩), .int .i64 k] w fun e w' => e = .returned (.tuple #[]) ∧ CurT 82 w' b (c.bad k) ∧ Only b w w' := by
  have := fail_any h k
  rw [CS.fail_good h0] at this; exact this
theorem fail_more {b : Nat} {c : CS} {w : World} (h : CurT 82 w b c) (h0 : ¬ c.er = 0) (k : Int) :
    Calls Tryd.prog 53 #[.pointer (some ⟨b, 0, none⟩), .int .i64 k] w fun e w' => e = .returned (.tuple #[]) ∧ CurT 82 w' b c ∧ Only b w w' := by
  have := fail_any h k
  rw [CS.fail_bad h0] at this; exact this
/-- Where a cursor stands behind a part of k bytes, or with what is wrong. -/
def CAt (c : CS) (k : Nat) (e : Int) (c' : CS) : Prop := c'.ok ∧ c'.s = c.s ∧ c'.en = c.en ∧ c'.er = e ∧ (e = 0 → c' = c.past k)
theorem CAt.past {c : CS} (h : c.ok) (h0 : c.er = 0) {k : Nat} (hk : k ≤ c.bs.length) : CAt c k 0 (c.past k) := ⟨CS.past_fine h hk, rfl, rfl, h0, fun _ => rfl⟩
theorem CAt.bad {c : CS} (h : c.ok) {j : Nat} (hj : j ≤ c.bs.length) (k : Nat) {e : Int} (he : e ≠ 0) : CAt c k e ((c.past j).bad e) := ⟨CS.past_fine h hj, rfl, rfl, rfl, fun h => absurd h he⟩
theorem CAt.bad0 {c : CS} (h : c.ok) (k : Nat) {e : Int} (he : e ≠ 0) : CAt c k e (c.bad e) := ⟨h, rfl, rfl, rfl, fun h => absurd h he⟩
theorem CAt.more {c c' : CS} {j k : Nat} {e : Int} (h : CAt (c.past j) k e c') : CAt c (j + k) e c' := by
  obtain ⟨h1, h2, h3, h4, h5⟩ := h
  exact ⟨h1, h2, h3, h4, fun h => by rw [h5 h, CS.past_past]⟩
theorem CAt.no {c c' : CS} {j k : Nat} {e : Int} (h : CAt c k e c') (he : e ≠ 0) : CAt c j e c' := by
  obtain ⟨h1, h2, h3, h4, h5⟩ := h
  exact ⟨h1, h2, h3, h4, fun h => absurd h he⟩

def atOf (b : Nat) (w : World) : Nat := match w.cell? ⟨b, 1, none⟩ with
  | some (.int _ a) => a.toNat
  | _ => 0
def erOf (b : Nat) (w : World) : Int := match w.cell? ⟨b, 3, none⟩ with
  | some (.int _ a) => a
  | _ => 0
theorem atOf_cur {t : TypeId} {w : World} {b : Nat} {c : CS} (h : CurT t w b c) : atOf b w = c.at_ := by unfold atOf; rw [h.c1]; simp
theorem erOf_cur {t : TypeId} {w : World} {b : Nat} {c : CS} (h : CurT t w b c) : erOf b w = c.er := by unfold erOf; rw [h.c3]
theorem Bts.only {t : TypeId} {w w' : World} {B b : Nat} {v : Value} {l : List UInt8} (h : Bts t w B v l) (ho : Only b w w') (hb : b < B) : Bts t w' B v l := by
  refine ⟨h.1, ?_⟩
  rcases h.2 with h2 | ⟨g, cap, cur, h3, h4, h5, h6⟩
  · exact .inl h2
  · exact .inr ⟨g, cap, cur, h3, h4, (ho.block g (lt_of_block h5) (by omega)).trans h5, h6⟩
theorem only_then {b N : Nat} {w w1 w2 : World} (h : Only b w w1) (h2 : Below N w1 w2) (hN : w.heap.size ≤ N) : Only b w w2 :=
  ⟨h2.os.trans h.os, h2.tape.trans h.tape, h2.output.trans h.output, Nat.le_trans h.size h2.size, fun k hk hb => (h2.block k (by omega)).trans (h.block k hk hb)⟩
theorem tw_eq {p : UInt8 → Bool} {l : List UInt8} {k : Nat} (hk : k ≤ l.length) (h1 : ∀ x ∈ l.take k, p x = true) (h2 : ∀ x t, l.drop k = x :: t → p x = false) : l.takeWhile p = l.take k ∧ (l.takeWhile p).length = k := by
  have e : l.takeWhile p = l.take k := by
    have h3 : l = l.take k ++ l.drop k := (List.take_append_drop k l).symm
    have h4 : (l.drop k).takeWhile p = [] := by
      match hd : l.drop k with
      | [] => rfl
      | x :: t => rw [List.takeWhile_cons, h2 x t hd]; rfl
    have h5 := List.takeWhile_append_of_pos (p := p) (l₁ := l.take k) (l₂ := l.drop k) h1
    rw [List.take_append_drop, h4, List.append_nil] at h5
    exact h5
  exact ⟨e, by rw [e, List.length_take]; omega⟩
theorem peek_next {b : Nat} {c : CS} {w : World} (h : CurT 82 w b c) (hc : c.ok) (h0 : c.er = 0) {x : UInt8} {t : List UInt8} (hb : c.bs = x :: t) :
    Calls Tryd.prog 57 #[.pointer (some ⟨b, 0, none⟩)] w fun e w' => e = .returned (.tuple #[.int .u8 (x.toNat : Int), .bool true]) ∧ CurT 82 w' b c ∧ Below w.heap.size w w' := by
  obtain ⟨h1, h2, _⟩ := CS.bs_some hc h0 hb
  have := peek_any h hc
  rw [h2, h1] at this
  refine this.mono ?_
  rintro e w' ⟨he, n, hw⟩
  rw [hw]
  exact ⟨he, h.drewN n, drew_below w n⟩
theorem peek_none {b : Nat} {c : CS} {w : World} (h : CurT 82 w b c) (hc : c.ok) (hb : c.bs = []) :
    Calls Tryd.prog 57 #[.pointer (some ⟨b, 0, none⟩)] w fun e w' => e = .returned (.tuple #[.int .u8 0, .bool false]) ∧ CurT 82 w' b c ∧ Below w.heap.size w w' := by
  obtain ⟨h1, h2⟩ := CS.bs_none hc hb
  have := peek_any h hc
  rw [h2, h1] at this
  refine this.mono ?_
  rintro e w' ⟨he, n, hw⟩
  rw [hw]
  exact ⟨he, h.drewN n, drew_below w n⟩

end Go.Proofs.YtjpppnfkpnfhoaaDoor
