/- Plain facts, of no program: heads of Thrift's compact form, as read from a cursor and as laid. -/
import Derived.Test.YtmcklfndnjagiaaDoorVAlk
import Derived.Test.YtmcklfndnjagiaaDoorCurB
import Derived.Test.YtmcklfndnjagiaaDoorFoldA
namespace Go.Proofs.YtmcklfndnjagiaaDoor
open Go Go.RowKit
set_option linter.unusedVariables false

/-- A kind; a field's number; a number near behind another. -/
def kB (k : Nat) : Bool := decide (1 ≤ k) && decide (k ≤ 12)
def numB (i : Int) : Bool := decide (-32768 ≤ i) && decide (i ≤ 32767)
def cntB (i : Int) : Bool := decide (0 ≤ i) && decide (i ≤ 2147483647)
def nearB (last id : Int) : Bool := decide (-32768 ≤ last) && decide (last < id) && decide (id - last ≤ 15)
theorem kB_yes {k : Nat} (h : kB k = true) : 1 ≤ k ∧ k ≤ 12 := by unfold kB at h; simp at h; omega
theorem kB_no {k : Nat} (h : kB k = false) : ¬ (1 ≤ k ∧ k ≤ 12) := by unfold kB at h; simp at h; omega
theorem kB_zero : kB 0 = false := rfl
theorem numB_yes {k : Int} (h : numB k = true) : -32768 ≤ k ∧ k ≤ 32767 := by unfold numB at h; simp at h; omega
theorem cntB_yes {k : Int} (h : cntB k = true) : 0 ≤ k ∧ k ≤ 2147483647 := by unfold cntB at h; simp at h; omega
theorem nearB_yes {l k : Int} (h : nearB l k = true) : -32768 ≤ l ∧ l < k ∧ k - l ≤ 15 := by unfold nearB at h; simp at h; omega

/-- The next byte: 0, if there is none. -/
def CS.pB (c : CS) : Nat := c.peekB.toNat
theorem CS.peekB_nat (c : CS) : c.peekB = (c.pB : Int) ∧ c.pB < 256 := by
  unfold CS.pB CS.peekB
  split
  · have := ((c.s.data[c.at_]?).getD 0).toNat_lt
    exact ⟨by simp, by simpa using this⟩
  · exact ⟨rfl, by decide⟩
def CS.want (c : CS) (x : Bool) (k : Int) : CS := if x then c else c.fail k
theorem CS.want_yes (c : CS) (k : Int) : c.want true k = c := rfl
theorem CS.want_no (c : CS) (k : Int) : c.want false k = c.fail k := rfl
theorem CS.fail_fail {c : CS} (h : ¬ c.er = 0) (k : Int) : c.fail k = c := by unfold CS.fail; rw [if_neg h]
theorem CS.want_bad {c : CS} (h : ¬ c.er = 0) (x : Bool) (k : Int) : c.want x k = c := by
  cases x
  · exact CS.fail_fail h k
  · rfl
theorem CS.want_ok {c : CS} (h : c.ok) (x : Bool) (k : Int) : (c.want x k).ok := by
  cases x
  · exact CS.fail_ok h k
  · exact h
theorem CS.want_s (c : CS) (x : Bool) (k : Int) : (c.want x k).s = c.s := by
  cases x
  · show (c.fail k).s = c.s; unfold CS.fail; split <;> rfl
  · rfl
theorem CS.fail_er {c : CS} (h : c.er = 0) (k : Int) : c.fail k = { c with er := k } := by unfold CS.fail; rw [if_pos h]
theorem CS.byte_ok {c : CS} (h : c.ok) : c.byte.ok := CS.take_ok h 1
theorem CS.byte_s (c : CS) : c.byte.s = c.s := by unfold CS.byte CS.take; split <;> rfl
theorem CS.byte_bad {c : CS} (hc : c.ok) (h : ¬ c.er = 0) : c.byte = c ∧ c.pB = 0 := by
  have h1 : c.peekIs = false := by unfold CS.peekIs; simp [h]
  refine ⟨by rw [CS.byte_no hc h1, CS.fail_fail h], ?_⟩
  unfold CS.pB; rw [CS.peekB_no h1]; rfl
theorem CS.byte_good {c : CS} (h : ¬ c.pB = 0) : c.er = 0 ∧ c.byte.er = 0 ∧ c.peekIs = true := by
  have hp : c.peekIs = true := by
    cases hp : c.peekIs with
    | true => rfl
    | false => exact absurd (by unfold CS.pB; rw [CS.peekB_no hp]; rfl) h
  have h0 : c.er = 0 := by have := of_decide_eq_true hp; exact this.1
  exact ⟨h0, by rw [CS.byte_yes hp]; exact h0, hp⟩
theorem CS.vTo_bad {c : CS} (h : ¬ c.er = 0) : c.vTo = c ∧ c.vVal = 0 := CS.vread_err h
theorem CS.vVal_zero {c : CS} (h : ¬ c.vTo.er = 0) : c.vVal = 0 := by unfold CS.vVal; rw [if_neg (by rw [← CS.vTo_er]; exact h)]

/-- A field's head: the cursor behind it, its number, its kind. -/
def CS.hK (c : CS) : CS := c.byte.want (kB (c.pB % 16)) 7
def CS.hC (c : CS) : CS := if 0 < c.pB / 16 then c.hK else c.hK.vTo
def CS.hN (c : CS) (last : Int) : Int := if 0 < c.pB / 16 then last + (c.pB / 16 : Nat) else zagI (c.hK.vVal : Nat)
def CS.hTo (c : CS) (last : Int) : CS := if c.pB = 0 then c.byte else c.hC.want (numB (c.hN last)) 4
def CS.hId (c : CS) (last : Int) : Int := if c.pB = 0 then 0 else if (c.hTo last).er = 0 then c.hN last else 0
def CS.hKd (c : CS) (last : Int) : Nat := if c.pB = 0 then 0 else if (c.hTo last).er = 0 then c.pB % 16 else 0
/-- A list's head. -/
def CS.lC (c : CS) : CS := if c.pB / 16 = 15 then c.hK.vTo else c.hK
def CS.lN (c : CS) : Nat := if c.pB / 16 = 15 then c.hK.vVal else c.pB / 16
def CS.lTo (c : CS) : CS := c.lC.want (decide (c.lN ≤ 2147483647)) 4
def CS.lCt (c : CS) : Nat := if c.lTo.er = 0 then c.lN else 0
def CS.lKd (c : CS) : Nat := if c.lTo.er = 0 then c.pB % 16 else 0
/-- How many: a number by sevens, within bounds. -/
def CS.sTo (c : CS) : CS := c.vTo.want (decide (c.vVal ≤ 2147483647)) 4
def CS.sN (c : CS) : Nat := if c.sTo.er = 0 then c.vVal else 0
/-- A map's head. -/
def CS.mK (c : CS) : CS := c.sTo.byte.want (kB (c.sTo.pB / 16) && kB (c.sTo.pB % 16)) 7
def CS.mTo (c : CS) : CS := if c.vVal = 0 then c.sTo else c.mK
def CS.mCt (c : CS) : Nat := if c.vVal = 0 then 0 else if c.mK.er = 0 then c.vVal else 0
def CS.mKy (c : CS) : Nat := if c.vVal = 0 then 0 else if c.mK.er = 0 then c.sTo.pB / 16 else 0
def CS.mVl (c : CS) : Nat := if c.vVal = 0 then 0 else if c.mK.er = 0 then c.sTo.pB % 16 else 0

theorem CS.hK_ok {c : CS} (h : c.ok) : c.hK.ok := CS.want_ok (CS.byte_ok h) _ _
theorem CS.hC_ok {c : CS} (h : c.ok) : c.hC.ok := by
  unfold CS.hC; split
  · exact CS.hK_ok h
  · exact CS.vTo_ok (CS.hK_ok h)
theorem CS.hTo_ok {c : CS} (h : c.ok) (last : Int) : (c.hTo last).ok := by
  unfold CS.hTo; split
  · exact CS.byte_ok h
  · exact CS.want_ok (CS.hC_ok h) _ _
theorem CS.hK_s (c : CS) : c.hK.s = c.s := (CS.want_s _ _ _).trans (CS.byte_s c)
theorem CS.hC_s (c : CS) : c.hC.s = c.s := by
  unfold CS.hC; split
  · exact CS.hK_s c
  · exact (CS.vTo_s _).1.trans (CS.hK_s c)
theorem CS.hTo_s (c : CS) (last : Int) : (c.hTo last).s = c.s := by
  unfold CS.hTo; split
  · exact CS.byte_s c
  · exact (CS.want_s _ _ _).trans (CS.hC_s c)
theorem CS.lC_ok {c : CS} (h : c.ok) : c.lC.ok := by
  unfold CS.lC; split
  · exact CS.vTo_ok (CS.hK_ok h)
  · exact CS.hK_ok h
theorem CS.lTo_ok {c : CS} (h : c.ok) : c.lTo.ok := CS.want_ok (CS.lC_ok h) _ _
theorem CS.lTo_s (c : CS) : c.lTo.s = c.s := by
  unfold CS.lTo; rw [CS.want_s]; unfold CS.lC; split
  · exact (CS.vTo_s _).1.trans (CS.hK_s c)
  · exact CS.hK_s c
theorem CS.sTo_ok {c : CS} (h : c.ok) : c.sTo.ok := CS.want_ok (CS.vTo_ok h) _ _
theorem CS.sTo_s (c : CS) : c.sTo.s = c.s := (CS.want_s _ _ _).trans (CS.vTo_s c).1
theorem CS.mK_ok {c : CS} (h : c.ok) : c.mK.ok := CS.want_ok (CS.byte_ok (CS.sTo_ok h)) _ _
theorem CS.mTo_ok {c : CS} (h : c.ok) : c.mTo.ok := by
  unfold CS.mTo; split
  · exact CS.sTo_ok h
  · exact CS.mK_ok h
theorem CS.mTo_s (c : CS) : c.mTo.s = c.s := by
  unfold CS.mTo; split
  · exact CS.sTo_s c
  · unfold CS.mK; rw [CS.want_s, CS.byte_s]; exact CS.sTo_s c

theorem Alike.refl {c : CS} (h : c.ok) : Alike c c := ⟨h, h, rfl, fun _ => rfl, rfl⟩
/-- The program's cursor and the document's, behind the next byte. -/
theorem Alike.byte {c r : CS} (h : Alike c r) : Alike c.byte r.byte ∧ r.peekB = (c.pB : Int) ∧ r.byte.s = r.s := by
  obtain ⟨h1, h2, h3, h4, h5⟩ := h
  by_cases h0 : c.er = 0
  · obtain rfl := h4 h0
    exact ⟨Alike.refl (CS.byte_ok h1), (CS.peekB_nat c).1, CS.byte_s c⟩
  · have g0 : ¬ r.er = 0 := by rw [← h3]; exact h0
    rw [(CS.byte_bad h1 h0).1, (CS.byte_bad h2 g0).1, (CS.byte_bad h1 h0).2, (CS.peekB_nat r).1, (CS.byte_bad h2 g0).2]
    exact ⟨⟨h1, h2, h3, h4, h5⟩, rfl, rfl⟩
/-- A first error that the document's cursor gets where the program's does. -/
theorem Alike.fail {c r : CS} (h : Alike c r) (h0 : r.er = 0) (k : Int) : Alike (c.fail k) { r with er := k } := by
  obtain ⟨h1, h2, h3, h4, h5⟩ := h
  have g0 : c.er = 0 := by rw [h3]; exact h0
  obtain rfl := h4 g0
  rw [CS.fail_er g0]
  exact ⟨h1, h2, rfl, fun _ => rfl, rfl⟩

/-- A field's head, as it is laid. -/
def hdB (last id : Int) (k : Nat) : List UInt8 :=
  if (numB id && kB k) = true then (if nearB last id = true then [UInt8.ofNat (16 * (id - last).toNat + k)] else UInt8.ofNat k :: vB (zigI id).toNat) else []
def lsB (n : Int) (k : Nat) : List UInt8 :=
  if (cntB n && kB k) = true then (if n < 15 then [UInt8.ofNat (16 * n.toNat + k)] else UInt8.ofNat (240 + k) :: vB n.toNat) else []
def mpB (n : Int) (k v : Nat) : List UInt8 :=
  if n = 0 then [0] else if (cntB n && kB k && kB v) = true then vB n.toNat ++ [UInt8.ofNat (16 * k + v)] else []
theorem zigI_range {n : Int} (h : numB n = true) : 0 ≤ zigI n ∧ zigI n ≤ 65535 := by
  have := numB_yes h
  unfold zigI; split <;> omega
theorem zag_zig (n : Int) : zagI (zigI n) = n := by
  unfold zagI zigI; split <;> split <;> omega
end Go.Proofs.YtmcklfndnjagiaaDoor
