/- Numbers' texts of JSON over bytes: how many bytes each part has ('dL', 'pL', 'iL', 'fL', 'xL'), what is wrong first ('nCode'), the parts of a text that is a number's ('NForm'). Of no program. -/
import Derived.Test.YtemmeoikenbmgaaDoorDNum
namespace Go.Proofs.YtemmeoikenbmgaaDoor
open Go Go.RowKit
set_option linter.unusedVariables false

/-- How many digits stand ahead; what is wrong where one has to. -/
def dL (l : List UInt8) : Nat := (l.takeWhile dIs).length
def dE (l : List UInt8) : Int := if dL l = 0 then (if l = [] then 1 else 3) else 0
/-- How many bytes (one or none) stand ahead that are one of these. -/
def pL (ts : List UInt8) : List UInt8 → Nat
  | [] => 0
  | x :: _ => if ts.contains x = true then 1 else 0
theorem pL_at (ts : List UInt8) (x : UInt8) (t : List UInt8) : pL ts (x :: t) = if ts.contains x = true then 1 else 0 := rfl
theorem pL_le (ts l : List UInt8) : pL ts l ≤ 1 := by
  match l with
  | [] => exact Nat.zero_le _
  | x :: t => rw [pL_at]; split <;> omega
theorem pL_len (ts l : List UInt8) : pL ts l ≤ l.length := by
  match l with
  | [] => exact Nat.le_refl _
  | x :: t => rw [pL_at, List.length_cons]; split <;> omega
theorem pL_one {ts l : List UInt8} (h : pL ts l = 1) : ∃ x t, l = x :: t ∧ ts.contains x = true := by
  match l, h with
  | x :: t, h =>
    rw [pL_at] at h
    by_cases hx : ts.contains x = true
    · exact ⟨x, t, rfl, hx⟩
    · rw [if_neg hx] at h; omega
theorem pL_cons {ts : List UInt8} {x : UInt8} (t : List UInt8) (h : ts.contains x = true) : pL ts (x :: t) = 1 := by rw [pL_at, if_pos h]
theorem pL_other {ts : List UInt8} {x : UInt8} (t : List UInt8) (h : ¬ ts.contains x = true) : pL ts (x :: t) = 0 := by rw [pL_at, if_neg h]
theorem dL_len (l : List UInt8) : dL l ≤ l.length := (List.takeWhile_prefix dIs).length_le
theorem take_dL (l : List UInt8) : l.take (dL l) = l.takeWhile dIs := (List.prefix_iff_eq_take.1 (List.takeWhile_prefix dIs)).symm
theorem take_dL_all (l : List UInt8) : (l.take (dL l)).all dIs = true := by rw [take_dL]; exact List.all_takeWhile
/-- No digit stands ahead. -/
def nd (R : List UInt8) : Prop := ∀ x t, R = x :: t → dIs x = false
theorem nd_nil : nd [] := fun x t h => by cases h
theorem dL_app {D R : List UInt8} (h : D.all dIs = true) (hr : nd R) : dL (D ++ R) = D.length := by
  have h1 : R.takeWhile dIs = [] := by
    match R, hr with
    | [], _ => rfl
    | x :: t, hr => rw [List.takeWhile_cons, hr x t rfl]; rfl
  unfold dL
  rw [List.takeWhile_append_of_pos (fun a ha => List.all_eq_true.mp h a ha), h1, List.append_nil]
theorem dE_zero {l : List UInt8} (h : dE l = 0) : dL l ≠ 0 := by
  unfold dE at h
  by_cases h0 : dL l = 0
  · rw [if_pos h0] at h; split at h <;> omega
  · exact h0
theorem dE_ok {l : List UInt8} (h : dL l ≠ 0) : dE l = 0 := by unfold dE; rw [if_neg h]
theorem dE_bad {l : List UInt8} (h : dE l ≠ 0) : dL l = 0 := by
  unfold dE at h
  by_cases h0 : dL l = 0
  · exact h0
  · rw [if_neg h0] at h; exact absurd rfl h

/-- The whole digits, the dot and those behind it, e and what is behind it: how many bytes, and what is wrong. -/
def iL (r : List UInt8) : Nat := if pL [48] r = 1 then 1 else dL r
def iE (r : List UInt8) : Int := if pL [48] r = 1 then 0 else dE r
def fL (r : List UInt8) : Nat := if pL [46] r = 1 then 1 + dL (r.drop 1) else 0
def fE (r : List UInt8) : Int := if pL [46] r = 1 then dE (r.drop 1) else 0
def xS (r : List UInt8) : Nat := 1 + pL [43, 45] (r.drop 1)
def xL (r : List UInt8) : Nat := if pL [101, 69] r = 1 then xS r + dL (r.drop (xS r)) else 0
def xE (r : List UInt8) : Int := if pL [101, 69] r = 1 then dE (r.drop (xS r)) else 0
def nA (l : List UInt8) : Nat := pL [45] l
def nB (l : List UInt8) : Nat := nA l + iL (l.drop (nA l))
def nC (l : List UInt8) : Nat := nB l + fL (l.drop (nB l))
def nE (l : List UInt8) : Nat := nC l + xL (l.drop (nC l))
def eB (l : List UInt8) : Int := iE (l.drop (nA l))
def eC (l : List UInt8) : Int := if eB l = 0 then fE (l.drop (nB l)) else eB l
def nCode (l : List UInt8) : Int := if eC l = 0 then xE (l.drop (nC l)) else eC l
def wW (l : List UInt8) : List UInt8 := (l.drop (nA l)).take (iL (l.drop (nA l)))
def wB (l : List UInt8) : List UInt8 := ((l.drop (nB l)).drop 1).take (fL (l.drop (nB l)) - 1)
def wP (l : List UInt8) : List UInt8 := ((l.drop (nC l)).drop 1).take (xL (l.drop (nC l)) - 1)

theorem one_len {ts r : List UInt8} (h : pL ts r = 1) : 1 ≤ r.length := by have := pL_len ts r; omega
theorem iL_len (r : List UInt8) : iL r ≤ r.length := by
  unfold iL
  split
  · rename_i h; exact one_len h
  · exact dL_len r
theorem fL_len (r : List UInt8) : fL r ≤ r.length := by
  unfold fL
  split
  · rename_i h
    have := one_len h
    have := dL_len (r.drop 1)
    rw [List.length_drop] at this; omega
  · exact Nat.zero_le _
theorem xS_len {r : List UInt8} (h : pL [101, 69] r = 1) : xS r ≤ r.length := by
  have := one_len h
  have := pL_len [43, 45] (r.drop 1)
  rw [List.length_drop] at this
  unfold xS; omega
theorem xL_len (r : List UInt8) : xL r ≤ r.length := by
  unfold xL
  split
  · rename_i h
    have := xS_len h
    have := dL_len (r.drop (xS r))
    rw [List.length_drop] at this; omega
  · exact Nat.zero_le _
theorem nA_len (l : List UInt8) : nA l ≤ l.length := pL_len _ _
theorem nB_len (l : List UInt8) : nB l ≤ l.length := by
  have h1 := nA_len l
  have h2 := iL_len (l.drop (nA l))
  rw [List.length_drop] at h2
  unfold nB; omega
theorem nC_len (l : List UInt8) : nC l ≤ l.length := by
  have h1 := nB_len l
  have h2 := fL_len (l.drop (nB l))
  rw [List.length_drop] at h2
  unfold nC; omega
theorem nE_len (l : List UInt8) : nE l ≤ l.length := by
  have h1 := nC_len l
  have h2 := xL_len (l.drop (nC l))
  rw [List.length_drop] at h2
  unfold nE; omega

/-- A number's text, and its parts. -/
structure NForm (L sg W F B X P : List UInt8) : Prop where
  eq : L = sg ++ (W ++ (F ++ X))
  sign : sg = [] ∨ sg = [45]
  digs : W.all dIs = true
  lead : W = [48] ∨ ∃ x t, W = x :: t ∧ x ≠ 48
  frac : (F = [] ∧ B = []) ∨ (F = 46 :: B ∧ B ≠ [] ∧ B.all dIs = true)
  expo : (X = [] ∧ P = []) ∨ ∃ e s D, (e = 101 ∨ e = 69) ∧ X = e :: P ∧ P = s ++ D ∧ (s = [] ∨ s = [43] ∨ s = [45]) ∧ D ≠ [] ∧ D.all dIs = true

theorem not_digit (b : UInt8) (h : b = 43 ∨ b = 45 ∨ b = 46 ∨ b = 101 ∨ b = 69) : dIs b = false := by
  rcases h with h | h | h | h | h <;> (subst h; decide)
theorem digit_ne {x : UInt8} (h : dIs x = true) (ts : List UInt8) (ht : ∀ t ∈ ts, t = 43 ∨ t = 45 ∨ t = 46 ∨ t = 101 ∨ t = 69) : ts.contains x = false := by
  rw [Bool.eq_false_iff]
  intro hc
  have := not_digit x (ht x (List.contains_iff_mem.mp hc))
  rw [h] at this; exact absurd this (by decide)
theorem contains_one {x y : UInt8} (h : [y].contains x = true) : x = y := by simpa using h
theorem contains_two {x y z : UInt8} (h : [y, z].contains x = true) : x = y ∨ x = z := by simpa using h
theorem head_of {D : List UInt8} (h : D ≠ []) (ha : D.all dIs = true) : ∃ x t, D = x :: t ∧ dIs x = true := by
  obtain ⟨x, t, rfl⟩ := List.exists_cons_of_ne_nil h
  exact ⟨x, t, rfl, List.all_eq_true.mp ha x List.mem_cons_self⟩

theorem int_parts {r : List UInt8} (h : iE r = 0) : (r.take (iL r)).all dIs = true ∧ (r.take (iL r) = [48] ∨ ∃ x t, r.take (iL r) = x :: t ∧ x ≠ 48) := by
  unfold iE at h
  unfold iL
  by_cases h1 : pL [48] r = 1
  · rw [if_pos h1]
    obtain ⟨x, t, rfl, hx⟩ := pL_one h1
    obtain rfl := contains_one hx
    exact ⟨rfl, .inl rfl⟩
  · rw [if_neg h1] at h
    rw [if_neg h1]
    have h0 := dE_zero h
    refine ⟨take_dL_all r, .inr ?_⟩
    match r, h0, h1 with
    | [], h0, _ => exact absurd rfl h0
    | x :: t, h0, h1 =>
      obtain ⟨k, hk⟩ : ∃ k, dL (x :: t) = k + 1 := ⟨dL (x :: t) - 1, by omega⟩
      rw [hk]
      exact ⟨x, t.take k, rfl, fun e => h1 (pL_cons t (by rw [e]; rfl))⟩
theorem frac_parts {r : List UInt8} (h : fE r = 0) : (r.take (fL r) = [] ∧ (r.drop 1).take (fL r - 1) = []) ∨ (r.take (fL r) = 46 :: (r.drop 1).take (fL r - 1) ∧ (r.drop 1).take (fL r - 1) ≠ [] ∧ ((r.drop 1).take (fL r - 1)).all dIs = true) := by
  unfold fE at h
  unfold fL
  by_cases h1 : pL [46] r = 1
  · rw [if_pos h1] at h
    rw [if_pos h1]
    obtain ⟨x, t, rfl, hx⟩ := pL_one h1
    obtain rfl := contains_one hx
    have h0 := dE_zero h
    rw [List.drop_one, List.tail_cons] at h0 ⊢
    rw [Nat.add_comm 1, Nat.add_sub_cancel]
    refine .inr ⟨rfl, fun e => ?_, take_dL_all t⟩
    have := congrArg List.length e
    rw [List.length_take, List.length_nil] at this
    have := dL_len t
    omega
  · rw [if_neg h1]; exact .inl ⟨rfl, rfl⟩
theorem exp_parts {r : List UInt8} (h : xE r = 0) : (r.take (xL r) = [] ∧ (r.drop 1).take (xL r - 1) = []) ∨ ∃ e s D, (e = (101 : UInt8) ∨ e = 69) ∧ r.take (xL r) = e :: (r.drop 1).take (xL r - 1) ∧ (r.drop 1).take (xL r - 1) = s ++ D ∧ (s = [] ∨ s = [(43 : UInt8)] ∨ s = [45]) ∧ D ≠ [] ∧ D.all dIs = true := by
  unfold xE at h
  unfold xL
  by_cases h1 : pL [101, 69] r = 1
  · rw [if_pos h1] at h
    rw [if_pos h1]
    obtain ⟨x, t, rfl, hx⟩ := pL_one h1
    have h0 := dE_zero h
    have hS : xS (x :: t) = 1 + pL [43, 45] t := rfl
    rw [hS] at h0 ⊢
    have hd : (x :: t).drop (1 + pL [43, 45] t) = t.drop (pL [43, 45] t) := by rw [Nat.add_comm]; rfl
    rw [hd] at h0 ⊢
    have e1 : 1 + pL [43, 45] t + dL (t.drop (pL [43, 45] t)) - 1 = pL [43, 45] t + dL (t.drop (pL [43, 45] t)) := by omega
    have e2 : 1 + pL [43, 45] t + dL (t.drop (pL [43, 45] t)) = (pL [43, 45] t + dL (t.drop (pL [43, 45] t))) + 1 := by omega
    rw [e1, e2, List.drop_one, List.tail_cons, List.take_succ_cons]
    refine .inr ⟨x, t.take (pL [43, 45] t), (t.drop (pL [43, 45] t)).take (dL (t.drop (pL [43, 45] t))), contains_two hx, rfl, List.take_add, ?_, fun e => ?_, take_dL_all _⟩
    · have := pL_le [43, 45] t
      rcases Nat.lt_or_ge (pL [43, 45] t) 1 with h2 | h2
      · rw [show pL [43, 45] t = 0 by omega]; exact .inl rfl
      · obtain ⟨y, u, rfl, hy⟩ := pL_one (show pL [43, 45] t = 1 by omega)
        rw [pL_cons u hy]
        rcases contains_two hy with rfl | rfl
        · exact .inr (.inl rfl)
        · exact .inr (.inr rfl)
    · have := congrArg List.length e
      rw [List.length_take, List.length_nil] at this
      have := dL_len (t.drop (pL [43, 45] t))
      omega
  · rw [if_neg h1]; exact .inl ⟨rfl, rfl⟩
theorem codes {l : List UInt8} (h : nCode l = 0) : eB l = 0 ∧ eC l = 0 ∧ iE (l.drop (nA l)) = 0 ∧ fE (l.drop (nB l)) = 0 ∧ xE (l.drop (nC l)) = 0 := by
  unfold nCode at h
  by_cases h1 : eC l = 0
  · rw [if_pos h1] at h
    have h2 := h1
    unfold eC at h2
    by_cases h3 : eB l = 0
    · rw [if_pos h3] at h2; exact ⟨h3, h1, h3, h2, h⟩
    · rw [if_neg h3] at h2; exact absurd h2 h3
  · rw [if_neg h1] at h; exact absurd h h1
theorem take_parts (l : List UInt8) : l.take (nE l) = l.take (nA l) ++ (wW l ++ ((l.drop (nB l)).take (fL (l.drop (nB l))) ++ (l.drop (nC l)).take (xL (l.drop (nC l))))) := by
  have h1 : l.take (nE l) = l.take (nC l) ++ (l.drop (nC l)).take (xL (l.drop (nC l))) := List.take_add
  have h2 : l.take (nC l) = l.take (nB l) ++ (l.drop (nB l)).take (fL (l.drop (nB l))) := List.take_add
  have h3 : l.take (nB l) = l.take (nA l) ++ wW l := List.take_add
  rw [h1, h2, h3, List.append_assoc, List.append_assoc]
theorem form_of {l : List UInt8} (h : nCode l = 0) (hl : nE l = l.length) : NForm l (l.take (nA l)) (wW l) ((l.drop (nB l)).take (fL (l.drop (nB l)))) (wB l) ((l.drop (nC l)).take (xL (l.drop (nC l)))) (wP l) := by
  obtain ⟨_, _, h1, h2, h3⟩ := codes h
  refine ⟨?_, ?_, (int_parts h1).1, (int_parts h1).2, frac_parts h2, exp_parts h3⟩
  · rw [← take_parts, hl, List.take_length]
  · have := pL_le [45] l
    rcases Nat.lt_or_ge (pL [45] l) 1 with h4 | h4
    · rw [show nA l = 0 from (by unfold nA; omega)]; exact .inl rfl
    · obtain ⟨x, t, rfl, hx⟩ := pL_one (show pL [45] l = 1 by omega)
      obtain rfl := contains_one hx
      exact .inr rfl

theorem int_to {W R : List UInt8} (hd : W.all dIs = true) (hl : W = [48] ∨ ∃ x t, W = x :: t ∧ x ≠ 48) (hR : nd R) : iL (W ++ R) = W.length ∧ iE (W ++ R) = 0 := by
  rcases hl with rfl | ⟨x, t, rfl, hx⟩
  · have : pL [48] ([48] ++ R) = 1 := rfl
    unfold iL iE
    rw [if_pos this, if_pos this]; exact ⟨rfl, rfl⟩
  · have h1 : ¬ pL [48] (x :: t ++ R) = 1 := by
      rw [List.cons_append, pL_other _ (fun h => hx (contains_one h))]; omega
    unfold iL iE
    rw [if_neg h1, if_neg h1]
    have h2 := dL_app hd hR
    exact ⟨h2, dE_ok (by rw [h2, List.length_cons]; omega)⟩
theorem frac_to {F B R : List UInt8} (h : (F = [] ∧ B = []) ∨ (F = 46 :: B ∧ B ≠ [] ∧ B.all dIs = true)) (hR : nd R) (h46 : pL [46] R = 0) : fL (F ++ R) = F.length ∧ fE (F ++ R) = 0 ∧ ((F ++ R).drop 1).take (fL (F ++ R) - 1) = B := by
  rcases h with ⟨rfl, rfl⟩ | ⟨rfl, h1, h2⟩
  · have h3 : ¬ pL [46] R = 1 := by omega
    have h4 : fL R = 0 := by unfold fL; rw [if_neg h3]
    rw [List.nil_append, h4]
    exact ⟨rfl, by unfold fE; rw [if_neg h3], rfl⟩
  · have h3 : pL [46] (46 :: B ++ R) = 1 := rfl
    have h5 := dL_app h2 hR
    have h4 : fL (46 :: B ++ R) = B.length + 1 := by
      unfold fL; rw [if_pos h3]
      show 1 + dL (B ++ R) = _
      rw [h5, Nat.add_comm]
    refine ⟨h4, ?_, ?_⟩
    · unfold fE; rw [if_pos h3]
      exact dE_ok (by show dL (B ++ R) ≠ 0; rw [h5]; exact fun e => h1 (List.eq_nil_of_length_eq_zero e))
    · rw [h4, Nat.add_sub_cancel]
      show (B ++ R).take B.length = B
      rw [List.take_left']; rfl
theorem exp_to {X P : List UInt8} (h : (X = [] ∧ P = []) ∨ ∃ e s D, (e = (101 : UInt8) ∨ e = 69) ∧ X = e :: P ∧ P = s ++ D ∧ (s = [] ∨ s = [(43 : UInt8)] ∨ s = [45]) ∧ D ≠ [] ∧ D.all dIs = true) : xL X = X.length ∧ xE X = 0 ∧ (X.drop 1).take (xL X - 1) = P ∧ nd X ∧ pL [46] X = 0 := by
  rcases h with ⟨rfl, rfl⟩ | ⟨e, s, D, he, rfl, rfl, hs, hD, hd⟩
  · exact ⟨rfl, rfl, rfl, nd_nil, rfl⟩
  · have h1 : pL [101, 69] (e :: (s ++ D)) = 1 := pL_cons _ (by rcases he with rfl | rfl <;> rfl)
    have h5 : dL D = D.length := by have := dL_app hd nd_nil; rwa [List.append_nil] at this
    obtain ⟨x, t, hx, hx2⟩ := head_of hD hd
    have h2 : pL [43, 45] (s ++ D) = s.length := by
      rcases hs with rfl | rfl | rfl
      · rw [List.nil_append, hx, pL_other _ (by rw [digit_ne hx2 _ (by simp)]; decide)]; rfl
      · rfl
      · rfl
    have h3 : xS (e :: (s ++ D)) = s.length + 1 := by
      unfold xS; show 1 + pL [43, 45] (s ++ D) = _; rw [h2, Nat.add_comm]
    have h6 : (e :: (s ++ D)).drop (xS (e :: (s ++ D))) = D := by
      rw [h3, List.drop_succ_cons, List.drop_left']; rfl
    have h4 : xL (e :: (s ++ D)) = (s ++ D).length + 1 := by
      unfold xL; rw [if_pos h1, h6, h5, h3, List.length_append]; omega
    refine ⟨h4, ?_, ?_, ?_, ?_⟩
    · unfold xE; rw [if_pos h1, h6]
      exact dE_ok (by rw [h5]; exact fun e => hD (List.eq_nil_of_length_eq_zero e))
    · rw [h4, Nat.add_sub_cancel]
      show (s ++ D).take (s ++ D).length = _
      rw [List.take_length]
    · intro y u hy
      rw [← (List.cons.inj hy).1]
      rcases he with rfl | rfl <;> decide
    · exact pL_other _ (by rcases he with rfl | rfl <;> decide)
theorem form_to {L sg W F B X P : List UInt8} (h : NForm L sg W F B X P) : nCode L = 0 ∧ nE L = L.length ∧ L.take (nA L) = sg ∧ wW L = W ∧ wB L = B ∧ wP L = P ∧ L.drop (nA L) = W ++ (F ++ X) ∧ nA L = sg.length := by
  obtain ⟨h1, h2, h3, h4, h5, h6⟩ := h
  obtain ⟨x1, x2, x3, x4, x5⟩ := exp_to h6
  obtain ⟨f1, f2, f3⟩ := frac_to h5 x4 x5
  have hnd : nd (F ++ X) := by
    rcases h5 with ⟨rfl, rfl⟩ | ⟨rfl, _, _⟩
    · exact x4
    · intro y u hy
      rw [← (List.cons.inj hy).1]; decide
  obtain ⟨i1, i2⟩ := int_to h3 h4 hnd
  have a1 : nA L = sg.length := by
    subst h1
    rcases h2 with rfl | rfl
    · have hW : ∃ x t, W = x :: t ∧ dIs x = true := head_of (by rcases h4 with rfl | ⟨x, t, rfl, _⟩ <;> simp) h3
      obtain ⟨x, t, rfl, hx⟩ := hW
      exact pL_other _ (by rw [digit_ne hx _ (by simp)]; decide)
    · rfl
  have a2 : L.drop (nA L) = W ++ (F ++ X) := by rw [a1, h1, List.drop_left']; rfl
  have b1 : nB L = sg.length + W.length := by unfold nB; rw [a2, i1, a1]
  have b2 : L.drop (nB L) = F ++ X := by
    rw [b1, ← List.drop_drop, ← a1, a2, List.drop_left']; rfl
  have c1 : nC L = sg.length + W.length + F.length := by unfold nC; rw [b2, f1, b1]
  have c2 : L.drop (nC L) = X := by
    rw [c1, ← List.drop_drop, ← b1, b2, List.drop_left']; rfl
  have e1 : eB L = 0 := by unfold eB; rw [a2]; exact i2
  have e2 : eC L = 0 := by unfold eC; rw [if_pos e1, b2]; exact f2
  refine ⟨?_, ?_, ?_, ?_, ?_, ?_, a2, a1⟩
  · unfold nCode; rw [if_pos e2, c2]; exact x2
  · unfold nE; rw [c2, x1, c1, h1]; simp only [List.length_append]; omega
  · rw [a1, h1, List.take_left']; rfl
  · unfold wW; rw [a2, i1, List.take_left']; rfl
  · unfold wB; rw [b2]; exact f3
  · unfold wP; rw [c2]; exact x3
end Go.Proofs.YtemmeoikenbmgaaDoor
