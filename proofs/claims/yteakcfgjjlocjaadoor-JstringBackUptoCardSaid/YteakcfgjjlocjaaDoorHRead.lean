/- Package hexa's Read. -/
import Derived.Test.YteakcfgjjlocjaaDoorHPut
import Derived.Test.YteakcfgjjlocjaaDoorIter
namespace Go.Proofs.YteakcfgjjlocjaaDoor
open Go Go.RowKit
set_option linter.unusedVariables false

/-- The bytes of digits, and what is wrong with these. -/
def hT (s : ByteArray) : ByteArray := if hOK s.data.toList then bA (uh s.data.toList) else ⟨#[]⟩
def hC (s : ByteArray) : Int := if hOK s.data.toList then 0 else 3
theorem hT_no {s : ByteArray} (h : ¬ hOK s.data.toList = true) : hT s = ⟨#[]⟩ := by unfold hT; rw [if_neg h]
theorem hC_no {s : ByteArray} (h : ¬ hOK s.data.toList = true) : hC s = 3 := by unfold hC; rw [if_neg h]
theorem hT_yes {s : ByteArray} (h : hOK s.data.toList = true) : hT s = bA (uh s.data.toList) := by unfold hT; rw [if_pos h]
theorem hC_yes {s : ByteArray} (h : hOK s.data.toList = true) : hC s = 0 := by unfold hC; rw [if_pos h]
theorem ret_read {a c : ByteArray} {b d : Int} (h : a = c) (k : b = d) : Ending.returned (.tuple #[.string a, .int .i64 b]) = .returned (.tuple #[.string c, .int .i64 d]) := by rw [h, k]
theorem hOK_no {s : ByteArray} {p : Nat} (h : p < s.size) (hn : nibIs s[p].toNat = false) : ¬ hOK s.data.toList = true := by
  intro h1
  unfold hOK at h1
  rw [Bool.and_eq_true, List.all_eq_true] at h1
  have hp : p < s.data.toList.length := by rw [toList_size]; exact h
  have h2 := h1.2 _ (List.getElem_mem hp)
  rw [byte_at s p h hp, hn] at h2
  cases h2

def HReadRel (t : TypeId) (W : World) (s : ByteArray) (v f : Value) (wr : World) : Prop :=
  ∃ pos F : Nat, pos ≤ s.size ∧ f = .int .i64 F ∧ F < 16 ∧ (pos % 2 = 1 → ∀ x, s.data.toList[pos - 1]? = some x → F = nibV x.toNat) ∧ Hid ((s.data.toList.take pos).all (fun b => nibIs b.toNat) = true) ∧
    Bts t wr W.heap.size v (uh (s.data.toList.take pos)) ∧ ItAt wr (W.heap.size + 1) s pos ∧ Below W.heap.size W wr

theorem make_bytes0 (n : Nat) (w : World) (hl : n ≤ 140737488355000) :
    (Instr.makeSlice 35 (.int .i64 0) (.int .i64 (n : Int))).run Tryd.prog w = .ok (.slice (some ⟨w.heap.size, 0, none⟩) 0 n) (w.alloc (.cells (Array.replicate n (.int .u8 0)) 5)) := by
  have := make_bytes 0 n w (by omega)
  simpa using this
theorem bts_made (t : TypeId) (n : Nat) (w : World) (hl : n ≤ maxLen) : Bts t (w.alloc (.cells (Array.replicate n (.int .u8 0)) t)) w.heap.size (.slice (some ⟨w.heap.size, 0, none⟩) 0 n) [] :=
  ⟨rfl, .inr ⟨_, _, _, rfl, Nat.le_refl _, heap_alloc_new w _, Nat.zero_le _, hl, by simp, by simp [bV]⟩⟩

end Go.Proofs.YteakcfgjjlocjaaDoor
