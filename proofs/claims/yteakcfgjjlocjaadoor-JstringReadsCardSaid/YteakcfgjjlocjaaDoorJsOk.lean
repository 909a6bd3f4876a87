/- Right bytes as a list: characters' bytes, one behind the other. Of no program. -/
import Derived.Test.YteakcfgjjlocjaaDoorUText
namespace Go.Proofs.YteakcfgjjlocjaaDoor
open Go Go.RowKit
set_option linter.unusedVariables false

/-- Characters' bytes, one behind the other. -/
inductive UOk : List UInt8 → Prop
  | nil : UOk []
  | step (r : Nat) (t : List UInt8) (h : uIs r = true) (ht : UOk t) : UOk (uB r ++ t)
theorem UOk.dec {l : List UInt8} (h : UOk l) (hn : l ≠ []) : 0 < (uDec l).2 ∧ UOk (l.drop (uDec l).2) := by
  cases h with
  | nil => exact absurd rfl hn
  | step r t h ht =>
    rw [dec_put t h]
    exact ⟨(uB_pos r).1, by rw [List.drop_left]; exact ht⟩
theorem UOk.of_dec {l : List UInt8} (h : 0 < (uDec l).2) (ht : UOk (l.drop (uDec l).2)) : UOk l := by
  obtain ⟨h1, h2, h3⟩ := dec_inv h
  have := UOk.step _ _ h1 ht
  rwa [← h2] at this
theorem uOk_some {s : ByteArray} (h : uOk s) (h0 : 0 < s.size) : 0 < (dAt s 0).2 := by
  rcases Nat.eq_zero_or_pos (dAt s 0).2 with e | e
  · have := wk_of (WPre.zero s s.size) (.inl e)
    unfold uOk at h
    rw [this] at h
    simp at h; omega
  · exact e
theorem uOk_back {s : ByteArray} (h : uOk s) (h0 : 0 < s.size) : uOk (s.extract (dAt s 0).2 s.size) := by
  have hk := uOk_some h h0
  have hle := dAt_le hk
  have hd := back_toList s (dAt s 0).2
  obtain ⟨c, _, h1, _⟩ := ok_places (s := s) (t := s) (m := s.size) (by rw [List.take_of_length_le (by rw [toList_size]; exact Nat.le_refl _)]) (Nat.le_refl _) h
  have hz : uP s 1 = (dAt s 0).2 := by rw [uP_step]; show 0 + (dAt s (uP s 0)).2 = _; rw [Nat.zero_add]; rfl
  generalize (dAt s 0).2 = k at *
  generalize hs' : s.extract k s.size = s' at *
  have hsz : s'.size = s.size - k := by
    have := congrArg List.length hd
    rw [toList_size, List.length_drop, toList_size] at this; exact this
  have hsh : ∀ e, dAt s' e = dAt s (k + e) := by
    intro e; unfold dAt; rw [hd, List.drop_drop]
  have key : ∀ j, uP s (1 + j) = k + uP s' j := by
    intro j
    induction j with
    | zero => rw [Nat.add_zero, hz]; rfl
    | succ j ih => rw [← Nat.add_assoc, uP_step, ih, uP_step, hsh]; omega
  have hc : c ≠ 0 := fun e => by
    rw [e] at h1
    have : uP s 0 = 0 := rfl
    omega
  obtain ⟨j, rfl⟩ : ∃ j, c = 1 + j := ⟨c - 1, by omega⟩
  rw [key j] at h1
  exact places_ok (s := s') (t := s') (m := s'.size) (c := j) (by rw [List.take_of_length_le (by rw [toList_size]; exact Nat.le_refl _)]) (Nat.le_refl _) (by omega)
theorem uOk_char {r : Nat} (h : uIs r = true) : uOk (bA (uB r)) := by
  have hd : dAt (bA (uB r)) 0 = (r, (uB r).length) := by
    unfold dAt
    have := dec_put [] h
    rw [List.append_nil] at this
    exact this
  have hp := (uB_pos r).1
  have hsz := bA_size (uB r)
  have h1 : WPre (bA (uB r)) (bA (uB r)).size (0 + (dAt (bA (uB r)) 0).2) (0 + 1) := by
    refine (WPre.zero _ _).step (fun h2 => ?_)
    rcases h2 with e | e
    · rw [hd] at e; exact absurd (show (uB r).length = 0 from e) (by omega)
    · rw [hd, hsz] at e; simp at e
  rw [hd] at h1
  have := wk_of h1 (.inl (by rw [dAt_out (by rw [hsz]; simp)]))
  unfold uOk
  rw [this, hsz]; simp
theorem uOk_list : ∀ {l : List UInt8}, UOk l → uOk (bA l)
  | _, .nil => by decide +kernel
  | _, .step r t h ht => by
    rw [← bA_append]
    exact (join_ok (uOk_char h) (uOk_list ht)).1
theorem list_uOk : ∀ (n : Nat) (s : ByteArray), s.size = n → uOk s → UOk s.data.toList := by
  intro n
  induction n using Nat.strongRecOn with
  | _ n ih =>
    intro s hn h
    rcases Nat.eq_zero_or_pos s.size with h0 | h0
    · have : s.data.toList = [] := List.eq_nil_of_length_eq_zero (by rw [toList_size]; exact h0)
      rw [this]; exact .nil
    · have hk := uOk_some h h0
      have hle := dAt_le hk
      have hb := uOk_back h h0
      have hd := back_toList s (dAt s 0).2
      have hsz : (s.extract (dAt s 0).2 s.size).size = s.size - (dAt s 0).2 := by
        have := congrArg List.length hd
        rw [toList_size, List.length_drop, toList_size] at this; exact this
      have := ih _ (by omega) _ hsz hb
      rw [hd] at this
      exact UOk.of_dec hk this
theorem uOk_iff (s : ByteArray) : uOk s ↔ UOk s.data.toList :=
  ⟨list_uOk _ s rfl, fun h => by have := uOk_list h; rwa [bA_of] at this⟩
theorem uOk_bA (l : List UInt8) : uOk (bA l) ↔ UOk l := uOk_iff (bA l)
end Go.Proofs.YteakcfgjjlocjaaDoor
