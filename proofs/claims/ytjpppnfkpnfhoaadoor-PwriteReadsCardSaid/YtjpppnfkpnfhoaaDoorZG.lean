/- Several texts in one (PrNum, PrCs, PrMem): each begins with its own words. -/
import Derived.Test.YtjpppnfkpnfhoaaDoorZD
import Derived.Test.YtjpppnfkpnfhoaaDoorZC
import Derived.Deep.MidRow
import Derived.Laws.StructEq
import Derived.OrdersHeld
/- Fields of Protobuf over bytes: which field begins there, of how many bytes, or what is wrong; all fields of a text; two texts side by side. Of no program. -/
namespace Go.Proofs.YtjpppnfkpnfhoaaDoor
open Go Go.RowKit
set_option linter.unusedVariables false

/-- A field: its number, its wire type, Num, Text. -/
abbrev FD := Int × Int × Nat × ByteArray
def fZ : FD := (0, 0, 0, ⟨#[]⟩)
/-- What is wrong with the number by sevens that begins here (0: nothing), how many bytes it has, which it is. -/
def lvC (l : List UInt8) : Int := if 9 ≤ vlead l ∧ 1 < ((l[9]?).getD 0).toNat then 4 else if l.length ≤ vlead l then 1 else 0
def lvK (l : List UInt8) : Nat := vlead l + 1
def lvV (l : List UInt8) : Nat := if lvC l = 0 then vvL (l.take (lvK l)) else 0
/-- What stands behind a tag of wire type v: what is wrong, how many bytes, Num, Text. -/
def cRd (v : Int) (r : List UInt8) : Int × Nat × Nat × ByteArray :=
  if v = 0 then (if lvC r ≠ 0 then (lvC r, 0, 0, ⟨#[]⟩) else (0, lvK r, lvV r, ⟨#[]⟩))
  else if v = 1 then (if r.length < 8 then (1, 0, 0, ⟨#[]⟩) else (0, 8, valL (r.take 8), ⟨#[]⟩))
  else if v = 5 then (if r.length < 4 then (1, 0, 0, ⟨#[]⟩) else (0, 4, valL (r.take 4), ⟨#[]⟩))
  else if lvC r ≠ 0 then (lvC r, 0, 0, ⟨#[]⟩)
  else if r.length < lvK r + lvV r then (1, 0, 0, ⟨#[]⟩)
  else (0, lvK r + lvV r, 0, bA ((r.drop (lvK r)).take (lvV r)))
/-- The field that begins here: what is wrong, how many bytes, which. -/
def fRd (l : List UInt8) : Int × Nat × FD :=
  if lvC l ≠ 0 then (lvC l, 0, fZ)
  else if mN (lvV l) = 0 then (14, 0, fZ)
  else if (cRd (mW (lvV l) : Nat) (l.drop (lvK l))).1 ≠ 0 then ((cRd (mW (lvV l) : Nat) (l.drop (lvK l))).1, 0, fZ)
  else (0, lvK l + (cRd (mW (lvV l) : Nat) (l.drop (lvK l))).2.1, (((mN (lvV l) : Nat) : Int), ((mW (lvV l) : Nat) : Int), (cRd (mW (lvV l) : Nat) (l.drop (lvK l))).2.2))
/-- All fields, or what is wrong first. -/
def fAl : Nat → List UInt8 → List FD × Int
  | 0, _ => ([], 0)
  | f + 1, l =>
    if l = [] then ([], 0)
    else if (fRd l).1 ≠ 0 then ([], (fRd l).1)
    else if (fAl f (l.drop (fRd l).2.1)).2 ≠ 0 then ([], (fAl f (l.drop (fRd l).2.1)).2)
    else ((fRd l).2.2 :: (fAl f (l.drop (fRd l).2.1)).1, 0)
def fAll (l : List UInt8) : List FD × Int := fAl l.length l

theorem lvC_three (l : List UInt8) : lvC l = 0 ∨ lvC l = 1 ∨ lvC l = 4 := by
  unfold lvC; split
  · exact .inr (.inr rfl)
  · split
    · exact .inr (.inl rfl)
    · exact .inl rfl
theorem lvC_lt {l : List UInt8} (h : lvC l = 0) : vlead l < l.length := by
  unfold lvC at h
  split at h
  · omega
  · split at h
    · omega
    · omega
theorem lvK_le {l : List UInt8} (h : lvC l = 0) : lvK l ≤ l.length := lvC_lt h
theorem vlead_app : ∀ (l m : List UInt8), vlead l < l.length → vlead (l ++ m) = vlead l
  | [], _, h => by simp at h
  | b :: r, m, h => by
    rw [List.cons_append, vlead, vlead]
    rw [vlead] at h
    by_cases hb : 128 ≤ b.toNat
    · rw [if_pos hb] at h ⊢
      rw [if_pos hb, vlead_app r m (by simpa using h)]
    · rw [if_neg hb, if_neg hb]
theorem vlead_mono : ∀ (l m : List UInt8), vlead l ≤ vlead (l ++ m)
  | [], _ => Nat.zero_le _
  | b :: r, m => by
    rw [List.cons_append, vlead, vlead]
    have := vlead_mono r m
    split <;> omega
theorem ninth_app {l : List UInt8} (m : List UInt8) (h : 1 < ((l[9]?).getD 0).toNat) : (l ++ m)[9]? = l[9]? := by
  have : 9 < l.length := by
    rcases Nat.lt_or_ge 9 l.length with h1 | h1
    · exact h1
    · rw [List.getElem?_eq_none h1] at h; simp at h
  rw [List.getElem?_append_left this]
theorem lvC_four {l : List UInt8} (m : List UInt8) (h : lvC l = 4) : lvC (l ++ m) = 4 := by
  unfold lvC at h ⊢
  by_cases h1 : 9 ≤ vlead l ∧ 1 < ((l[9]?).getD 0).toNat
  · have := vlead_mono l m
    rw [if_pos]
    rw [ninth_app m h1.2]
    exact ⟨by omega, h1.2⟩
  · rw [if_neg h1] at h
    split at h <;> omega
theorem lv_app {l : List UInt8} (m : List UInt8) (h : lvC l = 0) : lvC (l ++ m) = 0 ∧ lvK (l ++ m) = lvK l ∧ lvV (l ++ m) = lvV l := by
  have hl := lvC_lt h
  have hv := vlead_app l m hl
  have hc : lvC (l ++ m) = 0 := by
    unfold lvC at h ⊢
    have h1 : ¬ (9 ≤ vlead l ∧ 1 < ((l[9]?).getD 0).toNat) := fun h1 => by rw [if_pos h1] at h; omega
    rw [hv, if_neg, if_neg (by rw [List.length_append]; omega)]
    rintro ⟨h2, h3⟩
    apply h1
    refine ⟨h2, ?_⟩
    rwa [List.getElem?_append_left (by omega)] at h3
  refine ⟨hc, by unfold lvK; rw [hv], ?_⟩
  unfold lvV
  rw [if_pos hc, if_pos h]
  unfold lvK
  rw [hv, List.take_append_of_le_length (by omega)]
theorem drop_app {l : List UInt8} (m : List UInt8) {k : Nat} (h : k ≤ l.length) : (l ++ m).drop k = l.drop k ++ m := List.drop_append_of_le_length h
theorem take_app {l : List UInt8} (m : List UInt8) {k : Nat} (h : k ≤ l.length) : (l ++ m).take k = l.take k := List.take_append_of_le_length h

theorem cRd_le {v : Int} {r : List UInt8} (h : (cRd v r).1 = 0) : (cRd v r).2.1 ≤ r.length := by
  unfold cRd at h ⊢
  by_cases h0 : v = 0
  · rw [if_pos h0] at h ⊢
    by_cases h1 : lvC r ≠ 0
    · rw [if_pos h1] at h; exact absurd h h1
    · rw [if_neg h1]; exact lvK_le (by simpa using h1)
  · rw [if_neg h0] at h ⊢
    by_cases h1 : v = 1
    · rw [if_pos h1] at h ⊢
      by_cases h2 : r.length < 8
      · rw [if_pos h2] at h; simp at h
      · rw [if_neg h2]; simp only; omega
    · rw [if_neg h1] at h ⊢
      by_cases h5 : v = 5
      · rw [if_pos h5] at h ⊢
        by_cases h2 : r.length < 4
        · rw [if_pos h2] at h; simp at h
        · rw [if_neg h2]; simp only; omega
      · rw [if_neg h5] at h ⊢
        by_cases h3 : lvC r ≠ 0
        · rw [if_pos h3] at h; exact absurd h h3
        · rw [if_neg h3] at h ⊢
          by_cases h4 : r.length < lvK r + lvV r
          · rw [if_pos h4] at h; simp at h
          · rw [if_neg h4]; simp only; omega
theorem cRd_app {v : Int} {r : List UInt8} (m : List UInt8) (h : (cRd v r).1 = 0) : cRd v (r ++ m) = cRd v r := by
  unfold cRd at h ⊢
  by_cases h0 : v = 0
  · rw [if_pos h0] at h ⊢
    rw [if_pos h0]
    by_cases h1 : lvC r ≠ 0
    · rw [if_pos h1] at h; exact absurd h h1
    · have h1' : lvC r = 0 := by simpa using h1
      obtain ⟨a1, a2, a3⟩ := lv_app m h1'
      rw [if_neg h1, if_neg (by rw [a1]; simp), a2, a3]
  · rw [if_neg h0] at h ⊢
    rw [if_neg h0]
    by_cases h1 : v = 1
    · rw [if_pos h1] at h ⊢
      rw [if_pos h1]
      by_cases h2 : r.length < 8
      · rw [if_pos h2] at h; simp at h
      · rw [if_neg h2, if_neg (by rw [List.length_append]; omega), take_app m (by omega)]
    · rw [if_neg h1] at h ⊢
      rw [if_neg h1]
      by_cases h5 : v = 5
      · rw [if_pos h5] at h ⊢
        rw [if_pos h5]
        by_cases h2 : r.length < 4
        · rw [if_pos h2] at h; simp at h
        · rw [if_neg h2, if_neg (by rw [List.length_append]; omega), take_app m (by omega)]
      · rw [if_neg h5] at h ⊢
        rw [if_neg h5]
        by_cases h3 : lvC r ≠ 0
        · rw [if_pos h3] at h; exact absurd h h3
        · have h3' : lvC r = 0 := by simpa using h3
          obtain ⟨a1, a2, a3⟩ := lv_app m h3'
          rw [if_neg h3] at h ⊢
          rw [if_neg (by rw [a1]; simp), a2, a3]
          by_cases h4 : r.length < lvK r + lvV r
          · rw [if_pos h4] at h; simp at h
          · have hk := lvK_le h3'
            rw [if_neg h4, if_neg (by rw [List.length_append]; omega), drop_app m hk, take_app m (by rw [List.length_drop]; omega)]
theorem cRd_err {v : Int} {r : List UInt8} (m : List UInt8) (h : (cRd v r).1 ≠ 0) (h' : (cRd v r).1 ≠ 1) : (cRd v (r ++ m)).1 = (cRd v r).1 := by
  have four : lvC r ≠ 0 → lvC r ≠ 1 → lvC r = 4 := fun a b => by rcases lvC_three r with h | h | h <;> first | exact absurd h a | exact absurd h b | exact h
  unfold cRd at h h' ⊢
  by_cases h0 : v = 0
  · rw [if_pos h0] at h h' ⊢
    rw [if_pos h0]
    by_cases h1 : lvC r ≠ 0
    · rw [if_pos h1] at h' ⊢
      have := lvC_four m (four h1 h')
      rw [if_pos (by rw [this]; decide), this, four h1 h']
    · rw [if_neg h1] at h; exact absurd rfl h
  · rw [if_neg h0] at h h' ⊢
    rw [if_neg h0]
    by_cases h1 : v = 1
    · rw [if_pos h1] at h h' ⊢
      by_cases h2 : r.length < 8
      · rw [if_pos h2] at h'; exact absurd rfl h'
      · rw [if_neg h2] at h; exact absurd rfl h
    · rw [if_neg h1] at h h' ⊢
      rw [if_neg h1]
      by_cases h5 : v = 5
      · rw [if_pos h5] at h h' ⊢
        by_cases h2 : r.length < 4
        · rw [if_pos h2] at h'; exact absurd rfl h'
        · rw [if_neg h2] at h; exact absurd rfl h
      · rw [if_neg h5] at h h' ⊢
        rw [if_neg h5]
        by_cases h3 : lvC r ≠ 0
        · rw [if_pos h3] at h' ⊢
          have := lvC_four m (four h3 h')
          rw [if_pos (by rw [this]; decide), this, four h3 h']
        · rw [if_neg h3] at h h'
          by_cases h4 : r.length < lvK r + lvV r
          · rw [if_pos h4] at h'; exact absurd rfl h'
          · rw [if_neg h4] at h; exact absurd rfl h

theorem fRd_bad {l : List UInt8} (h : (fRd l).1 ≠ 0) : (fRd l).2 = (0, fZ) := by
  unfold fRd at h ⊢
  by_cases h1 : lvC l ≠ 0
  · rw [if_pos h1]
  · rw [if_neg h1] at h ⊢
    by_cases h2 : mN (lvV l) = 0
    · rw [if_pos h2]
    · rw [if_neg h2] at h ⊢
      by_cases h3 : (cRd (mW (lvV l) : Nat) (l.drop (lvK l))).1 ≠ 0
      · rw [if_pos h3]
      · rw [if_neg h3] at h; exact absurd rfl h
theorem fRd_good {l : List UInt8} (h : (fRd l).1 = 0) : lvC l = 0 ∧ ¬ mN (lvV l) = 0 ∧ (cRd (mW (lvV l) : Nat) (l.drop (lvK l))).1 = 0 ∧
    fRd l = (0, lvK l + (cRd (mW (lvV l) : Nat) (l.drop (lvK l))).2.1, (((mN (lvV l) : Nat) : Int), ((mW (lvV l) : Nat) : Int), (cRd (mW (lvV l) : Nat) (l.drop (lvK l))).2.2)) := by
  unfold fRd at h ⊢
  by_cases h1 : lvC l ≠ 0
  · rw [if_pos h1] at h; exact absurd h h1
  · rw [if_neg h1] at h ⊢
    by_cases h2 : mN (lvV l) = 0
    · rw [if_pos h2] at h; simp at h
    · rw [if_neg h2] at h ⊢
      by_cases h3 : (cRd (mW (lvV l) : Nat) (l.drop (lvK l))).1 ≠ 0
      · rw [if_pos h3] at h; exact absurd h h3
      · rw [if_neg h3]
        exact ⟨by simpa using h1, h2, by simpa using h3, rfl⟩
theorem fRd_pos {l : List UInt8} (h : (fRd l).1 = 0) : 0 < (fRd l).2.1 ∧ (fRd l).2.1 ≤ l.length := by
  obtain ⟨h1, h2, h3, h4⟩ := fRd_good h
  have hk := lvK_le h1
  have hc := cRd_le h3
  rw [List.length_drop] at hc
  rw [h4]
  show 0 < lvK l + _ ∧ lvK l + _ ≤ _
  have : 0 < lvK l := Nat.succ_pos _
  omega
theorem fRd_app {l : List UInt8} (m : List UInt8) (h : (fRd l).1 = 0) : fRd (l ++ m) = fRd l := by
  obtain ⟨h1, h2, h3, h4⟩ := fRd_good h
  obtain ⟨a1, a2, a3⟩ := lv_app m h1
  have hd := drop_app m (lvK_le h1)
  rw [h4]
  unfold fRd
  rw [if_neg (by rw [a1]; simp), a3, a2, hd, if_neg h2, cRd_app m h3, if_neg (by rw [h3]; simp)]
theorem fRd_err {l : List UInt8} (m : List UInt8) (h : (fRd l).1 ≠ 0) (h' : (fRd l).1 ≠ 1) : (fRd (l ++ m)).1 = (fRd l).1 := by
  unfold fRd at h h' ⊢
  by_cases h1 : lvC l ≠ 0
  · rw [if_pos h1] at h' ⊢
    have h4 : lvC l = 4 := by rcases lvC_three l with x | x | x <;> first | exact absurd x h1 | exact absurd x h' | exact x
    have := lvC_four m h4
    rw [if_pos (by rw [this]; decide), this, h4]
  · rw [if_neg h1] at h h' ⊢
    have h1' : lvC l = 0 := by simpa using h1
    obtain ⟨a1, a2, a3⟩ := lv_app m h1'
    have hd := drop_app m (lvK_le h1')
    rw [if_neg (by rw [a1]; simp), a3, a2, hd]
    by_cases h2 : mN (lvV l) = 0
    · rw [if_pos h2, if_pos h2]
    · rw [if_neg h2] at h h' ⊢
      rw [if_neg h2]
      by_cases h3 : (cRd (mW (lvV l) : Nat) (l.drop (lvK l))).1 ≠ 0
      · rw [if_pos h3] at h' ⊢
        have := cRd_err m h3 h'
        rw [if_pos (by rw [this]; exact h3), this]
      · rw [if_neg h3] at h; exact absurd rfl h

theorem fAl_same : ∀ (f g : Nat) (l : List UInt8), l.length ≤ f → l.length ≤ g → fAl f l = fAl g l
  | 0, 0, _, _, _ => rfl
  | 0, g + 1, l, hf, _ => by
    obtain rfl : l = [] := List.eq_nil_of_length_eq_zero (Nat.le_zero.mp hf)
    rw [fAl, fAl, if_pos rfl]
  | f + 1, 0, l, _, hg => by
    obtain rfl : l = [] := List.eq_nil_of_length_eq_zero (Nat.le_zero.mp hg)
    rw [fAl, fAl, if_pos rfl]
  | f + 1, g + 1, l, hf, hg => by
    rw [fAl, fAl]
    by_cases h0 : l = []
    · rw [if_pos h0, if_pos h0]
    · rw [if_neg h0, if_neg h0]
      by_cases h1 : (fRd l).1 ≠ 0
      · rw [if_pos h1, if_pos h1]
      · have hp := fRd_pos (l := l) (by simpa using h1)
        rw [if_neg h1, if_neg h1, fAl_same f g (l.drop (fRd l).2.1) (by rw [List.length_drop]; omega) (by rw [List.length_drop]; omega)]
theorem fAll_nil : fAll [] = ([], 0) := rfl
theorem fAll_step {l : List UInt8} (h0 : l ≠ []) : fAll l =
    if (fRd l).1 ≠ 0 then ([], (fRd l).1)
    else if (fAll (l.drop (fRd l).2.1)).2 ≠ 0 then ([], (fAll (l.drop (fRd l).2.1)).2)
    else ((fRd l).2.2 :: (fAll (l.drop (fRd l).2.1)).1, 0) := by
  have hn : l.length = (l.length - 1) + 1 := by
    have : l.length ≠ 0 := fun e => h0 (List.eq_nil_of_length_eq_zero e)
    omega
  by_cases h1 : (fRd l).1 ≠ 0
  · rw [if_pos h1]; unfold fAll; rw [hn, fAl, if_neg h0, if_pos h1]
  · have hp := fRd_pos (l := l) (by simpa using h1)
    rw [if_neg h1]
    have e : fAl (l.length - 1) (l.drop (fRd l).2.1) = fAll (l.drop (fRd l).2.1) := fAl_same _ _ _ (by rw [List.length_drop]; omega) (Nat.le_refl _)
    rw [← e]
    show fAl l.length l = _
    rw [hn, fAl, if_neg h0, if_neg h1]
    simp
theorem fAll_bad {l : List UInt8} (h0 : l ≠ []) (h : (fRd l).1 ≠ 0) : fAll l = ([], (fRd l).1) := by rw [fAll_step h0, if_pos h]
theorem fAll_more {l : List UInt8} (h0 : l ≠ []) (h : (fRd l).1 = 0) : fAll l =
    if (fAll (l.drop (fRd l).2.1)).2 ≠ 0 then ([], (fAll (l.drop (fRd l).2.1)).2) else ((fRd l).2.2 :: (fAll (l.drop (fRd l).2.1)).1, 0) := by rw [fAll_step h0, if_neg (by rw [h]; simp)]
theorem len_ind {P : List UInt8 → Prop} (h : ∀ l, (∀ m : List UInt8, m.length < l.length → P m) → P l) : ∀ l, P l := by
  intro l
  generalize hn : l.length = n
  induction n using Nat.strongRecOn generalizing l with
  | _ n ih =>
    subst hn
    exact h l fun m hm => ih m.length hm m rfl
theorem fAll_none (l : List UInt8) : (fAll l).2 ≠ 0 → (fAll l).1 = [] := by
  by_cases h0 : l = []
  · subst h0; rw [fAll_nil]; intro h; exact absurd rfl h
  · rw [fAll_step h0]
    split
    · intro _; rfl
    · split
      · intro _; rfl
      · intro h; exact absurd rfl h
/-- No more fields than bytes. -/
theorem fAll_len (l : List UInt8) : (fAll l).1.length ≤ l.length := by
  refine len_ind (P := fun l => (fAll l).1.length ≤ l.length) ?_ l
  intro l ih
  by_cases h0 : l = []
  · subst h0; rw [fAll_nil]; simp
  · by_cases h1 : (fRd l).1 = 0
    · have hp := fRd_pos h1
      have := ih (l.drop (fRd l).2.1) (by rw [List.length_drop]; omega)
      rw [List.length_drop] at this
      rw [fAll_more h0 h1]
      split
      · simp
      · simp only [List.length_cons]; omega
    · rw [fAll_bad h0 h1]; simp
/-- Two texts side by side, the first one without a fault. -/
theorem fAll_app (m l : List UInt8) : (fAll l).2 = 0 → fAll (l ++ m) = if (fAll m).2 ≠ 0 then ([], (fAll m).2) else ((fAll l).1 ++ (fAll m).1, 0) := by
  refine len_ind (P := fun l => (fAll l).2 = 0 → fAll (l ++ m) = if (fAll m).2 ≠ 0 then ([], (fAll m).2) else ((fAll l).1 ++ (fAll m).1, 0)) ?_ l
  intro l ih h
  by_cases h0 : l = []
  · subst h0
    rw [List.nil_append, fAll_nil, List.nil_append]
    by_cases hm : (fAll m).2 ≠ 0
    · rw [if_pos hm]
      exact Prod.ext (fAll_none m hm) rfl
    · rw [if_neg hm]
      exact Prod.ext rfl (by simpa using hm)
  · have hne : l ++ m ≠ [] := by simp [h0]
    by_cases h1 : (fRd l).1 = 0
    · have hp := fRd_pos h1
      have ha := fRd_app m h1
      rw [fAll_more h0 h1] at h ⊢
      rw [fAll_more hne (by rw [ha]; exact h1), ha, drop_app m hp.2]
      by_cases h2 : (fAll (l.drop (fRd l).2.1)).2 ≠ 0
      · rw [if_pos h2] at h; exact absurd h h2
      · rw [ih (l.drop (fRd l).2.1) (by rw [List.length_drop]; omega) (by simpa using h2), if_neg h2]
        by_cases hm : (fAll m).2 ≠ 0
        · rw [if_pos hm, if_pos hm, if_pos hm]
        · rw [if_neg hm, if_neg hm, if_neg (by simp)]; rfl
    · rw [fAll_bad h0 h1] at h; exact absurd h h1
/-- .. and where something is wrong in the first one. -/
theorem fAll_wrong (m l : List UInt8) : (fAll l).2 ≠ 0 → (fAll l).2 ≠ 1 → (fAll (l ++ m)).2 = (fAll l).2 := by
  refine len_ind (P := fun l => (fAll l).2 ≠ 0 → (fAll l).2 ≠ 1 → (fAll (l ++ m)).2 = (fAll l).2) ?_ l
  intro l ih h h'
  by_cases h0 : l = []
  · subst h0; exact absurd rfl h
  · have hne : l ++ m ≠ [] := by simp [h0]
    by_cases h1 : (fRd l).1 = 0
    · have hp := fRd_pos h1
      have ha := fRd_app m h1
      rw [fAll_more h0 h1] at h h' ⊢
      rw [fAll_more hne (by rw [ha]; exact h1), ha, drop_app m hp.2]
      by_cases h2 : (fAll (l.drop (fRd l).2.1)).2 ≠ 0
      · rw [if_pos h2] at h' ⊢
        have := ih (l.drop (fRd l).2.1) (by rw [List.length_drop]; omega) h2 h'
        rw [if_pos (by rw [this]; exact h2), this]
      · rw [if_neg h2] at h; exact absurd rfl h
    · rw [fAll_bad h0 h1] at h' ⊢
      have := fRd_err m h1 h'
      rw [fAll_bad hne (by rw [this]; exact h1), this]
end Go.Proofs.YtjpppnfkpnfhoaaDoor
/- What a cursor reads as a field, and where it stands then. Of no program. -/
namespace Go.Proofs.YtjpppnfkpnfhoaaDoor
open Go Go.RowKit
set_option linter.unusedVariables false

theorem CS.vCode_l {c : CS} (h0 : c.er = 0) : c.vCode = lvC c.rest := by unfold CS.vCode lvC; rw [if_neg (by simp [h0])]
theorem CS.vVal_l {c : CS} (h0 : c.er = 0) : c.vVal = lvV c.rest := by unfold CS.vVal lvV lvK; rw [CS.vCode_l h0]
theorem CS.vTo_l {c : CS} (h0 : c.er = 0) (h : lvC c.rest = 0) : c.vTo = c.past (lvK c.rest) := (CS.vTo_good (by rw [CS.vCode_l h0]; exact h)).2.1
theorem CS.rest_past (c : CS) (k : Nat) : (c.past k).rest = c.rest.drop k := by
  show (c.s.data.toList.drop (c.at_ + k)).take (c.en - (c.at_ + k)) = ((c.s.data.toList.drop c.at_).take (c.en - c.at_)).drop k
  rw [List.drop_take, List.drop_drop, Nat.sub_sub]
theorem CS.take_l {c : CS} (h : c.ok) (h0 : c.er = 0) (n : Nat) :
    (c.rest.length < n → c.take (n : Nat) = c.bad 1 ∧ c.takeS (n : Nat) = ⟨#[]⟩) ∧ (¬ c.rest.length < n → c.take (n : Nat) = c.past n ∧ c.takeS (n : Nat) = bA (c.rest.take n)) := by
  have hl := CS.rest_length h
  obtain ⟨h1, h2, h3⟩ := h
  constructor
  · intro hn
    have hy : c.why (n : Nat) = 1 := by
      unfold CS.why; rw [if_neg (by simp [h0]), if_neg (by omega), if_pos (by omega)]
    have hy' : ¬ c.why (n : Nat) = 0 := by rw [hy]; decide
    exact ⟨by rw [take_no hy']; unfold CS.allow CS.bad; rw [hy], takeS_no hy'⟩
  · intro hn
    have hy : c.why (n : Nat) = 0 := CS.why_mk h0 (by omega) (by omega)
    refine ⟨by rw [take_yes hy, Int.toNat_natCast], ?_⟩
    rw [takeS_yes hy, Int.toNat_natCast]
    apply ByteArray.ext
    apply Array.toList_inj.mp
    rw [ext_toList]
    unfold CS.rest bA
    simp only [List.take_take]
    congr 1
    omega

/-- Behind a number of bytes, and these; the text that is read so. -/
def CS.xTo (c : CS) : CS := if c.vTo.en - c.vTo.at_ < c.vVal then c.vTo.fail 1 else c.vTo.take (c.vVal : Nat)
def CS.xTxt (c : CS) : ByteArray := if c.vTo.en - c.vTo.at_ < c.vVal then ⟨#[]⟩ else c.vTo.takeS (c.vVal : Nat)
/-- Behind what stands behind a tag of wire type v; Num and Text of it. -/
def CS.cTo (c : CS) (v : Nat) : CS := if v = 0 then c.vTo else if v = 1 then c.take (8 : Nat) else if v = 5 then c.take (4 : Nat) else c.xTo
def CS.cNum (c : CS) (v : Nat) : Nat := if v = 0 then c.vVal else if v = 1 then valL (c.takeS (8 : Nat)).data.toList else if v = 5 then valL (c.takeS (4 : Nat)).data.toList else 0
def CS.cTxt (c : CS) (v : Nat) : ByteArray := if v = 0 then ⟨#[]⟩ else if v = 1 then ⟨#[]⟩ else if v = 5 then ⟨#[]⟩ else c.xTxt
/-- Behind a field; the field. -/
def CS.fTo (c : CS) : CS := c.gTo.cTo (mW c.vVal)
def CS.fGot (c : CS) : FD := (((mN c.vVal : Nat) : Int), ((mW c.vVal : Nat) : Int), c.gTo.cNum (mW c.vVal), c.gTo.cTxt (mW c.vVal))
def CS.fVal (c : CS) : FD := if c.fTo.er = 0 then c.fGot else fZ

theorem CS.fail_s (c : CS) (k : Int) : (c.fail k).s = c.s ∧ (c.fail k).en = c.en := by unfold CS.fail; split <;> exact ⟨rfl, rfl⟩
theorem CS.take_s (c : CS) (n : Int) : (c.take n).s = c.s ∧ (c.take n).en = c.en := by unfold CS.take; split <;> exact ⟨rfl, rfl⟩
theorem CS.gTo_s (c : CS) : c.gTo.s = c.s ∧ c.gTo.en = c.en := by
  unfold CS.gTo; split
  · rw [(CS.fail_s _ _).1, (CS.fail_s _ _).2]; exact CS.vTo_s c
  · exact CS.vTo_s c
theorem CS.gTo_ok {c : CS} (h : c.ok) : c.gTo.ok := by
  unfold CS.gTo; split
  · exact CS.fail_ok (CS.vTo_ok h) _
  · exact CS.vTo_ok h
theorem CS.xTo_s (c : CS) : c.xTo.s = c.s ∧ c.xTo.en = c.en := by
  unfold CS.xTo; split
  · rw [(CS.fail_s _ _).1, (CS.fail_s _ _).2]; exact CS.vTo_s c
  · rw [(CS.take_s _ _).1, (CS.take_s _ _).2]; exact CS.vTo_s c
theorem CS.xTo_ok {c : CS} (h : c.ok) : c.xTo.ok := by
  unfold CS.xTo; split
  · exact CS.fail_ok (CS.vTo_ok h) _
  · exact CS.take_ok (CS.vTo_ok h) _
theorem CS.cTo_s (c : CS) (v : Nat) : (c.cTo v).s = c.s ∧ (c.cTo v).en = c.en := by
  unfold CS.cTo; split
  · exact CS.vTo_s c
  · split
    · exact CS.take_s _ _
    · split
      · exact CS.take_s _ _
      · exact CS.xTo_s c
theorem CS.cTo_ok {c : CS} (h : c.ok) (v : Nat) : (c.cTo v).ok := by
  unfold CS.cTo; split
  · exact CS.vTo_ok h
  · split
    · exact CS.take_ok h _
    · split
      · exact CS.take_ok h _
      · exact CS.xTo_ok h
theorem CS.fTo_s (c : CS) : c.fTo.s = c.s ∧ c.fTo.en = c.en := by
  unfold CS.fTo; rw [(CS.cTo_s _ _).1, (CS.cTo_s _ _).2]; exact CS.gTo_s c
theorem CS.fTo_ok {c : CS} (h : c.ok) : c.fTo.ok := CS.cTo_ok (CS.gTo_ok h) _
theorem CS.cNum_lt (c : CS) (v : Nat) (hc : c.ok) : c.cNum v < 18446744073709551616 := by
  have hs : ∀ n : Nat, n ≤ 8 → valL (c.takeS (n : Nat)).data.toList < 18446744073709551616 := fun n hn => by
    have h1 := valL_lt (c.takeS (n : Nat)).data.toList
    have h2 : (c.takeS (n : Nat)).data.toList.length ≤ n := by
      rw [toList_size]
      by_cases hy : c.why n = 0
      · rw [takeS_yes hy]; simp; omega
      · rw [takeS_no hy]; simp [ByteArray.size]
    have h3 : 256 ^ (c.takeS (n : Nat)).data.toList.length ≤ 256 ^ 8 := Nat.pow_le_pow_right (by decide) (by omega)
    have h4 : (256 : Nat) ^ 8 = 18446744073709551616 := by decide
    omega
  unfold CS.cNum; split
  · exact CS.vVal_lt c
  · split
    · exact hs 8 (by omega)
    · split
      · exact hs 4 (by omega)
      · omega

theorem CS.cTo_l {c : CS} (h : c.ok) (h0 : c.er = 0) (v : Nat) :
    (c.cTo v).er = (cRd (v : Nat) c.rest).1 ∧ ((cRd (v : Nat) c.rest).1 = 0 → c.cTo v = c.past (cRd (v : Nat) c.rest).2.1 ∧ c.cNum v = (cRd (v : Nat) c.rest).2.2.1 ∧ c.cTxt v = (cRd (v : Nat) c.rest).2.2.2) := by
  have ev : ∀ k : Nat, ((v : Int) = (k : Int)) = (v = k) := fun k => propext ⟨fun e => by omega, fun e => by omega⟩
  have e0 : ((v : Int) = 0) = (v = 0) := ev 0
  have e1 : ((v : Int) = 1) = (v = 1) := ev 1
  have e5 : ((v : Int) = 5) = (v = 5) := ev 5
  unfold CS.cTo CS.cNum CS.cTxt cRd
  simp only [e0, e1, e5]
  by_cases v0 : v = 0
  · simp only [if_pos v0]
    rw [CS.vTo_er, CS.vCode_l h0]
    by_cases hc : lvC c.rest ≠ 0
    · rw [if_pos hc]; exact ⟨rfl, fun e => absurd e hc⟩
    · have hc' : lvC c.rest = 0 := by simpa using hc
      rw [if_neg hc]; exact ⟨hc', fun _ => ⟨CS.vTo_l h0 hc', CS.vVal_l h0, rfl⟩⟩
  · simp only [if_neg v0]
    by_cases v1 : v = 1
    · simp only [if_pos v1]
      obtain ⟨t1, t2⟩ := CS.take_l h h0 8
      by_cases hl : c.rest.length < 8
      · rw [(t1 hl).1, if_pos hl]; exact ⟨rfl, fun e => absurd e (by decide)⟩
      · rw [(t2 hl).1, (t2 hl).2, if_neg hl]; exact ⟨h0, fun _ => ⟨rfl, by simp [bA], rfl⟩⟩
    · simp only [if_neg v1]
      by_cases v5 : v = 5
      · simp only [if_pos v5]
        obtain ⟨t1, t2⟩ := CS.take_l h h0 4
        by_cases hl : c.rest.length < 4
        · rw [(t1 hl).1, if_pos hl]; exact ⟨rfl, fun e => absurd e (by decide)⟩
        · rw [(t2 hl).1, (t2 hl).2, if_neg hl]; exact ⟨h0, fun _ => ⟨rfl, by simp [bA], rfl⟩⟩
      · simp only [if_neg v5]
        have hk := CS.vTo_ok h
        have hr := CS.rest_length hk
        have he := CS.vTo_er c
        rw [CS.vCode_l h0] at he
        unfold CS.xTo CS.xTxt
        by_cases hc : lvC c.rest ≠ 0
        · have hv : c.vVal = 0 := by unfold CS.vVal; rw [CS.vCode_l h0, if_neg hc]
          rw [if_pos hc, hv, if_neg (by omega)]
          refine ⟨?_, fun e => absurd e hc⟩
          have hy : c.vTo.why (0 : Nat) = c.vTo.er := by unfold CS.why; rw [if_pos (by rw [he]; exact hc)]
          unfold CS.take
          rw [if_neg (by rw [hy, he]; exact hc), hy]; exact he
        · have hc' : lvC c.rest = 0 := by simpa using hc
          rw [hc'] at he
          have ht := CS.vTo_l h0 hc'
          have hrl : c.vTo.rest = c.rest.drop (lvK c.rest) := by rw [ht, CS.rest_past]
          have hll := lvK_le hc'
          rw [hrl, List.length_drop] at hr
          rw [if_neg hc, ← hr, CS.vVal_l h0]
          obtain ⟨t1, t2⟩ := CS.take_l hk he (lvV c.rest)
          rw [hrl, List.length_drop] at t1 t2
          by_cases hl : c.rest.length < lvK c.rest + lvV c.rest
          · rw [if_pos hl, if_pos (by omega)]
            exact ⟨by rw [CS.fail_good he]; rfl, fun e => absurd e (by decide)⟩
          · have hn : ¬ c.rest.length - lvK c.rest < lvV c.rest := by omega
            rw [if_neg hl]
            simp only [if_neg hn]
            rw [(t2 hn).1, (t2 hn).2, ht, CS.past_past]
            exact ⟨h0, fun _ => by refine ⟨?_, ?_, ?_⟩ <;> first | rfl | trivial⟩

/-- A field, of a cursor without an error. -/
theorem CS.fTo_l {c : CS} (h : c.ok) (h0 : c.er = 0) :
    c.fTo.er = (fRd c.rest).1 ∧ ((fRd c.rest).1 = 0 → c.fTo = c.past (fRd c.rest).2.1) ∧ c.fVal = (fRd c.rest).2.2 := by
  have hv := CS.vVal_l h0
  have he := CS.vTo_er c
  rw [CS.vCode_l h0] at he
  have hz : ∀ d : CS, ¬ d.er = 0 → d.ok → (d.cTo 0) = d := fun d hd _ => (CS.vread_err hd).1
  by_cases h1 : lvC c.rest ≠ 0
  · have hV : c.vVal = 0 := by rw [hv]; unfold lvV; rw [if_neg h1]
    have hm : mN 0 = 0 ∧ mW 0 = 0 := ⟨rfl, rfl⟩
    have hg : c.gTo = c.vTo := by
      rw [CS.gTo_no (by rw [hV]; exact hm.1), CS.fail_bad (by rw [he]; exact h1)]
    have hF : c.fTo = c.vTo := by
      unfold CS.fTo; rw [hV, hm.2, hg]; exact hz _ (by rw [he]; exact h1) (CS.vTo_ok h)
    have hR : (fRd c.rest).1 = lvC c.rest := by unfold fRd; rw [if_pos h1]
    refine ⟨by rw [hF, he, hR], fun e => absurd (hR ▸ e) h1, ?_⟩
    unfold CS.fVal; rw [if_neg (by rw [hF, he]; exact h1)]
    rw [fRd_bad (by rw [hR]; exact h1)]
  · have h1' : lvC c.rest = 0 := by simpa using h1
    rw [h1'] at he
    have ht := CS.vTo_l h0 h1'
    by_cases h2 : mN (lvV c.rest) = 0
    · have hg : c.gTo = c.vTo.bad 14 := by rw [CS.gTo_no (by rw [hv]; exact h2), CS.fail_good he]
      have hw := mW_zero h2
      have hF : c.fTo = c.vTo.bad 14 := by
        unfold CS.fTo; rw [hv, hw, hg]; exact hz _ (show ¬ (14 : Int) = 0 by decide) (CS.bad_fine (CS.vTo_ok h) _)
      have hR : (fRd c.rest).1 = 14 := by unfold fRd; rw [if_neg h1, if_pos h2]
      refine ⟨by rw [hF, hR]; rfl, fun e => absurd (hR ▸ e) (by decide), ?_⟩
      unfold CS.fVal; rw [if_neg (by rw [hF]; exact (show ¬ (14 : Int) = 0 by decide))]
      rw [fRd_bad (by rw [hR]; decide)]
    · have hg : c.gTo = c.vTo := CS.gTo_yes (by rw [hv]; exact h2)
      obtain ⟨k1, k2⟩ := CS.cTo_l (CS.vTo_ok h) he (mW (lvV c.rest))
      have hrl : c.vTo.rest = c.rest.drop (lvK c.rest) := by rw [ht, CS.rest_past]
      rw [hrl] at k1 k2
      have hF : c.fTo = c.vTo.cTo (mW (lvV c.rest)) := by unfold CS.fTo; rw [hv, hg]
      by_cases h3 : (cRd (mW (lvV c.rest) : Nat) (c.rest.drop (lvK c.rest))).1 ≠ 0
      · have hR : (fRd c.rest).1 = (cRd (mW (lvV c.rest) : Nat) (c.rest.drop (lvK c.rest))).1 := by unfold fRd; rw [if_neg h1, if_neg h2, if_pos h3]
        refine ⟨by rw [hF, hR]; exact k1, fun e => absurd (hR ▸ e) h3, ?_⟩
        unfold CS.fVal; rw [if_neg (by rw [hF, k1]; exact h3)]
        rw [fRd_bad (by rw [hR]; exact h3)]
      · have h3' : (cRd (mW (lvV c.rest) : Nat) (c.rest.drop (lvK c.rest))).1 = 0 := by simpa using h3
        obtain ⟨j1, j2, j3⟩ := k2 h3'
        have hR : fRd c.rest = (0, lvK c.rest + (cRd (mW (lvV c.rest) : Nat) (c.rest.drop (lvK c.rest))).2.1, (((mN (lvV c.rest) : Nat) : Int), ((mW (lvV c.rest) : Nat) : Int), (cRd (mW (lvV c.rest) : Nat) (c.rest.drop (lvK c.rest))).2.2)) := by
          unfold fRd; rw [if_neg h1, if_neg h2, if_neg h3]
        rw [hR]
        refine ⟨by rw [hF, k1]; exact h3', fun _ => by rw [hF, j1, ht, CS.past_past], ?_⟩
        unfold CS.fVal; rw [if_pos (by rw [hF, k1]; exact h3')]
        unfold CS.fGot
        rw [hg, hv, j2, j3]
/-- .. and with one. -/
theorem CS.fTo_err {c : CS} (h0 : ¬ c.er = 0) : c.fTo = c ∧ c.fVal = fZ := by
  obtain ⟨h1, h2⟩ := CS.vread_err h0
  have hg : c.gTo = c := by rw [CS.gTo_no (by rw [h2]; rfl), h1, CS.fail_bad h0]
  have hF : c.fTo = c := by
    unfold CS.fTo; rw [h2, hg]; exact h1
  exact ⟨hF, by unfold CS.fVal; rw [hF, if_neg h0]⟩
theorem new_fTo (s : ByteArray) (h : s.size ≤ 9223372036854775807) :
    (CS.new s).fTo.er = (fRd s.data.toList).1 ∧ ((fRd s.data.toList).1 = 0 → (CS.new s).fTo = (CS.new s).past (fRd s.data.toList).2.1) ∧ (CS.new s).fVal = (fRd s.data.toList).2.2 := by
  have := CS.fTo_l (CS.new_ok h) rfl
  rw [new_rest] at this
  exact this
theorem mW_four (u : Nat) : mW u = 0 ∨ mW u = 1 ∨ mW u = 5 ∨ mW u = 2 := by
  rcases Bool.eq_false_or_eq_true (tagB (u / 8 : Nat) (u % 8 : Nat)) with h | h
  · have := tag_yes h; rw [(mN_yes h).2]; omega
  · rw [(mN_no h).2]; exact .inl rfl
end Go.Proofs.YtjpppnfkpnfhoaaDoor
/- Fields in memory: a block that is one, lists of them; 'append' of one; two compared. Of no package but the types' facts. -/
namespace Go.Proofs.YtjpppnfkpnfhoaaDoor
open Go Go.RowKit
set_option linter.unusedVariables false

def pfV (x : FD) : Value := .agg #[.int .i64 x.1, .int .i64 x.2.1, .int .u64 (x.2.2.1 : Nat), .string x.2.2.2]
/-- Block b is the field x, of type t. -/
def PfT (t : TypeId) (w : World) (b : Nat) (x : FD) : Prop := w.heap[b]? = some (.cells #[.int .i64 x.1, .int .i64 x.2.1, .int .u64 (x.2.2.1 : Nat), .string x.2.2.2] t (0, 0))
theorem PfT.lt {t : TypeId} {w : World} {b : Nat} {x : FD} (h : PfT t w b x) : b < w.heap.size := lt_of_block h
theorem PfT.c0 {t : TypeId} {w : World} {b : Nat} {x : FD} (h : PfT t w b x) : w.cell? ⟨b, 0, none⟩ = some (.int .i64 x.1) := by unfold PfT at h; simp [World.cell?, h]
theorem PfT.c1 {t : TypeId} {w : World} {b : Nat} {x : FD} (h : PfT t w b x) : w.cell? ⟨b, 1, none⟩ = some (.int .i64 x.2.1) := by unfold PfT at h; simp [World.cell?, h]
theorem PfT.c2 {t : TypeId} {w : World} {b : Nat} {x : FD} (h : PfT t w b x) : w.cell? ⟨b, 2, none⟩ = some (.int .u64 (x.2.2.1 : Nat)) := by unfold PfT at h; simp [World.cell?, h]
theorem PfT.c3 {t : TypeId} {w : World} {b : Nat} {x : FD} (h : PfT t w b x) : w.cell? ⟨b, 3, none⟩ = some (.string x.2.2.2) := by unfold PfT at h; simp [World.cell?, h]
theorem PfT.fr {t : TypeId} {w : World} {b : Nat} {x : FD} (h : PfT t w b x) (o : Nat) : w.frozen? ⟨b, o, none⟩ = false := by unfold PfT at h; simp [World.frozen?, h]
theorem PfT.drewN {t : TypeId} {w : World} {b : Nat} {x : FD} (h : PfT t w b x) (n : Nat) : PfT t (w.drewN n) b x := h
theorem PfT.drew {t : TypeId} {w : World} {b : Nat} {x : FD} (h : PfT t w b x) : PfT t w.drew b x := h
theorem PfT.below {t : TypeId} {w w' : World} {b N : Nat} {x : FD} (h : PfT t w b x) (hb : Below N w w') (hN : b < N) : PfT t w' b x := (hb.block b hN).trans h
theorem PfT.only {t : TypeId} {w w' : World} {b d : Nat} {x : FD} (h : PfT t w b x) (ho : Only d w w') (hd : b ≠ d) : PfT t w' b x := (ho.block b h.lt hd).trans h
theorem PfT.alloc {t : TypeId} {w : World} {b : Nat} {x : FD} (h : PfT t w b x) (o : Obj) : PfT t (w.alloc o) b x := (Below.heap_alloc _ _ _ h.lt).trans h
theorem fd_alloc (w : World) (x : FD) (t : TypeId) : PfT t (w.alloc (.cells #[.int .i64 x.1, .int .i64 x.2.1, .int .u64 (x.2.2.1 : Nat), .string x.2.2.2] t)) w.heap.size x := heap_alloc_new w _
theorem fd_grow (w : World) (x : FD) (t : TypeId) : Below w.heap.size w (w.alloc (.cells #[.int .i64 x.1, .int .i64 x.2.1, .int .u64 (x.2.2.1 : Nat), .string x.2.2.2] t)) := (Below.refl _ w).alloc (Nat.le_refl _) _
theorem PfT.setAll {t : TypeId} {w : World} {b : Nat} {x : FD} (h : PfT t w b x) (y : FD) :
    PfT t ((((w.setCell ⟨b, 0, none⟩ (.int .i64 y.1)).setCell ⟨b, 1, none⟩ (.int .i64 y.2.1)).setCell ⟨b, 2, none⟩ (.int .u64 (y.2.2.1 : Nat))).setCell ⟨b, 3, none⟩ (.string y.2.2.2)) b y :=
  heap_setCell_block (heap_setCell_block (heap_setCell_block (heap_setCell_block h _) _) _) _
theorem PfT.setNum {t : TypeId} {w : World} {b : Nat} {n v : Int} {u : Nat} {s : ByteArray} (h : PfT t w b (n, v, u, s)) (u' : Nat) : PfT t (w.setCell ⟨b, 2, none⟩ (.int .u64 (u' : Nat))) b (n, v, u', s) := heap_setCell_block h _
theorem PfT.setTxt {t : TypeId} {w : World} {b : Nat} {n v : Int} {u : Nat} {s : ByteArray} (h : PfT t w b (n, v, u, s)) (s' : ByteArray) : PfT t (w.setCell ⟨b, 3, none⟩ (.string s')) b (n, v, u, s') := heap_setCell_block h _
theorem Only.setFd (w : World) (b : Nat) (y : FD) : Only b w ((((w.setCell ⟨b, 0, none⟩ (.int .i64 y.1)).setCell ⟨b, 1, none⟩ (.int .i64 y.2.1)).setCell ⟨b, 2, none⟩ (.int .u64 (y.2.2.1 : Nat))).setCell ⟨b, 3, none⟩ (.string y.2.2.2)) :=
  ((((Only.refl _ _).setCell _ _).setCell _ _).setCell _ _).setCell _ _
theorem set_keeps {w W : World} {N b o : Nat} {x : Value} (h : Below N w W) (hb : N ≤ b) : Below N w (W.setCell ⟨b, o, none⟩ x) :=
  h.trans ⟨rfl, rfl, rfl, by simp [World.setCell], fun k hk => Below.heap_setCell _ _ _ _ (show k ≠ b from Nat.ne_of_lt (Nat.lt_of_lt_of_le hk hb))⟩
theorem set_only {w W : World} {c b o : Nat} {x : Value} (h : Only c w W) (hb : w.heap.size ≤ b) : Only c w (W.setCell ⟨b, o, none⟩ x) :=
  ⟨h.os, h.tape, h.output, by have := h.size; simpa [World.setCell] using this, fun k hk hc => (Below.heap_setCell _ _ _ _ (show k ≠ b from Nat.ne_of_lt (Nat.lt_of_lt_of_le hk hb))).trans (h.block k hk hc)⟩
theorem set_cur {w : World} {b k o : Nat} {x : Value} {t : TypeId} {c : CS} (h : CurT t w k c) (hk : k ≠ b) : CurT t (w.setCell ⟨b, o, none⟩ x) k c := (Below.heap_setCell _ _ _ _ hk).trans h
theorem set_fd {w : World} {b k o : Nat} {x : Value} {t : TypeId} {y : FD} (h : PfT t w k y) (hk : k ≠ b) : PfT t (w.setCell ⟨b, o, none⟩ x) k y := (Below.heap_setCell _ _ _ _ hk).trans h
theorem set_size (w : World) (a : Addr) (x : Value) : (w.setCell a x).heap.size = w.heap.size := by simp [World.setCell]

/-- Fields as cells. -/
def fV (l : List FD) : List Value := l.flatMap fun x => [.int .i64 x.1, .int .i64 x.2.1, .int .u64 (x.2.2.1 : Nat), .string x.2.2.2]
theorem fV_cons (x : FD) (l : List FD) : fV (x :: l) = .int .i64 x.1 :: .int .i64 x.2.1 :: .int .u64 (x.2.2.1 : Nat) :: .string x.2.2.2 :: fV l := rfl
theorem fV_append (l m : List FD) : fV (l ++ m) = fV l ++ fV m := List.flatMap_append
theorem fV_length : ∀ l : List FD, (fV l).length = l.length * 4
  | [] => rfl
  | x :: l => by rw [fV_cons]; simp only [List.length_cons]; rw [fV_length l]; omega
theorem fV_one (l : List FD) : ∀ v ∈ fV l, v.oneCell' = true := by
  intro v hv
  obtain ⟨x, _, hx⟩ := List.mem_flatMap.mp hv
  simp at hx
  rcases hx with rfl | rfl | rfl | rfl <;> rfl
theorem fV_get : ∀ (l : List FD) (k : Nat) (h : k < l.length), (fV l)[k * 4]? = some (.int .i64 l[k].1) ∧ (fV l)[k * 4 + 1]? = some (.int .i64 l[k].2.1) ∧ (fV l)[k * 4 + 2]? = some (.int .u64 (l[k].2.2.1 : Nat)) ∧ (fV l)[k * 4 + 3]? = some (.string l[k].2.2.2)
  | x :: l, 0, _ => ⟨rfl, rfl, rfl, rfl⟩
  | x :: l, k + 1, h => by
    have := fV_get l k (by simpa using h)
    rw [fV_cons, show (k + 1) * 4 = k * 4 + 1 + 1 + 1 + 1 by omega]
    exact this
/-- The slice v, that the call itself made, holds the fields l. -/
def FRow (e : TypeId) (w : World) (B : Nat) (v : Value) (l : List FD) : Prop := w.ownsRow B e 4 v l.length (fV l)
/-- Field x lies at place j of block b. -/
def FdAt (w : World) (b j : Nat) (x : FD) : Prop := w.cell? ⟨b, j * 4, none⟩ = some (.int .i64 x.1) ∧ w.cell? ⟨b, j * 4 + 1, none⟩ = some (.int .i64 x.2.1) ∧ w.cell? ⟨b, j * 4 + 2, none⟩ = some (.int .u64 (x.2.2.1 : Nat)) ∧ w.cell? ⟨b, j * 4 + 3, none⟩ = some (.string x.2.2.2)
theorem FdAt.below {w w' : World} {b j N : Nat} {x : FD} (h : FdAt w b j x) (hb : Below N w w') (hN : b < N) : FdAt w' b j x :=
  ⟨(hb.cell (p := ⟨b, j * 4, none⟩) hN).trans h.1, (hb.cell (p := ⟨b, j * 4 + 1, none⟩) hN).trans h.2.1, (hb.cell (p := ⟨b, j * 4 + 2, none⟩) hN).trans h.2.2.1, (hb.cell (p := ⟨b, j * 4 + 3, none⟩) hN).trans h.2.2.2⟩
/-- The slice at a, of so many fields, holds l. -/
def FIn (w : World) (a : Option Addr) (l : List FD) : Prop := ∀ j (h : j < l.length), ∃ b, a = some ⟨b, 0, none⟩ ∧ b < w.heap.size ∧ FdAt w b j l[j]
theorem FIn.below {w w' : World} {a : Option Addr} {l : List FD} {N : Nat} (h : FIn w a l) (hb : Below N w w') (hN : w.heap.size ≤ N) : FIn w' a l := fun j hj => by
  obtain ⟨b, e, hlt, h1⟩ := h j hj
  exact ⟨b, e, Nat.lt_of_lt_of_le hlt hb.size, h1.below hb (Nat.lt_of_lt_of_le hlt hN)⟩
theorem FIn.block {w : World} {a : Option Addr} {l : List FD} (h : FIn w a l) (h0 : l ≠ []) : ∃ g, a = some ⟨g, 0, none⟩ ∧ g < w.heap.size ∧ ∀ j (hj : j < l.length), FdAt w g j l[j] := by
  obtain ⟨g, e, hg, _⟩ := h 0 (Nat.pos_of_ne_zero (fun e => h0 (List.eq_nil_of_length_eq_zero e)))
  refine ⟨g, e, hg, fun j hj => ?_⟩
  obtain ⟨g', e', _, hc⟩ := h j hj
  rw [e] at e'
  obtain rfl : g = g' := by simpa using e'
  exact hc
theorem frow_nil (e : TypeId) (w : World) (B : Nat) : FRow e w B (.slice none 0 0) [] := ⟨rfl, .inl ⟨rfl, rfl⟩⟩
theorem FRow.below {e : TypeId} {w w' : World} {B N : Nat} {v : Value} {l : List FD} (h : FRow e w B v l) (hb : Below N w w') (hN : w.heap.size ≤ N) : FRow e w' B v l := by
  refine World.ownsRow.kept (row := none) h ⟨hb.os, hb.tape, hb.output, hb.size, fun k hk _ => hb.block k (by omega)⟩ ?_
  cases v.ownBlock <;> simp
theorem FRow.only {e : TypeId} {w w' : World} {B b : Nat} {v : Value} {l : List FD} (h : FRow e w B v l) (ho : Only b w w') (hb : b < B) : FRow e w' B v l := by
  obtain ⟨hl, h⟩ := h
  refine ⟨hl, ?_⟩
  rcases h with h | ⟨g, cap, cur, h1, h2, h3, h4⟩
  · exact .inl h
  · exact .inr ⟨g, cap, cur, h1, h2, (ho.block g (lt_of_block h3) (by omega)).trans h3, h4⟩
theorem FRow.base {e : TypeId} {w : World} {B N : Nat} {v : Value} {l : List FD} (h : FRow e w N v l) (hB : B ≤ N) : FRow e w B v l := by
  obtain ⟨hl, h⟩ := h
  refine ⟨hl, ?_⟩
  rcases h with h | ⟨g, cap, cur, h1, h2, h3, h4⟩
  · exact .inl h
  · exact .inr ⟨g, cap, cur, h1, by omega, h3, h4⟩
theorem FRow.inn {e : TypeId} {w : World} {B : Nat} {v : Value} {l : List FD} (h : FRow e w B v l) : ∃ a cap, v = .slice a l.length cap ∧ FIn w a l := by
  rcases h.2 with ⟨rfl, hn⟩ | ⟨g, cap, cur, rfl, _, hg, _⟩
  · have h0 : l = [] := List.eq_nil_of_length_eq_zero hn
    subst h0
    exact ⟨none, 0, rfl, fun j hj => by simp at hj⟩
  · refine ⟨_, cap, rfl, fun j hj => ⟨g, rfl, lt_of_block hg, ?_⟩⟩
    have hk := fV_get l j hj
    exact ⟨by rw [World.ownsRow.cellAt h (j * 4) (by omega), hk.1], by rw [World.ownsRow.cellAt h (j * 4 + 1) (by omega), hk.2.1], by rw [World.ownsRow.cellAt h (j * 4 + 2) (by omega), hk.2.2.1], by rw [World.ownsRow.cellAt h (j * 4 + 3) (by omega), hk.2.2.2]⟩
/-- 'append(list, x)' on a list that the call itself made. -/
theorem wpList_append_fd {P : Program} {ops : Array Oper} {rest : List Oper} {o : Oper} {a : Act} {Q : Exit → Act → World → Prop} (hgd : o.guard = none) (sl x : Operand) (t : TypeId)
    (ho : o.op = .call { callee := .builtin .append, args := #[sl, x], argTypes := #[t, t] })
    (e : TypeId) (ht : P.underlying t = some (.slice e)) (hi : (P.info? e).map (fun i => (i.zero, i.size, i.bytes)) = some (some (.agg #[.int .i64 0, .int .i64 0, .int .u64 0, .string ⟨#[]⟩]), 4, 40))
    (v : Value) (wr : World) (B : Nat) (l : List FD) (hb : FRow e wr B v l) (hB : B ≤ wr.heap.size) (hs : a.eval sl = v)
    (x0 x1 x2 : Int) (x3 : ByteArray) (y : FD) (h0 : x0 = y.1) (h1 : x1 = y.2.1) (h2 : x2 = (y.2.2.1 : Nat)) (h3 : x3 = y.2.2.2) (hx : a.eval x = .slice (some ⟨wr.heap.size, 0, none⟩) 1 1) (hlen : l.length ≤ 1099511627776)
    (h : ∀ v' w', FRow e w' B v' (l ++ [y]) → Below B wr w' → wpList P ops Q rest (a.put o.dst v') w') :
    wpList P ops Q (o :: rest) a (wr.alloc (.cells #[.int .i64 x0, .int .i64 x1, .int .u64 x2, .string x3] e)) := by
  subst h0 h1 h2 h3
  obtain ⟨i0, hi, hz, hz1, hz2⟩ := info_parts hi
  refine wpList_append_own _ hgd sl x t ho B e i0 (.agg #[.int .i64 0, .int .i64 0, .int .u64 0, .string ⟨#[]⟩]) 4 40 ht hi hz hz1 hz2 rfl (by decide) v l.length (fV l) hs (World.ownsRow.alloc hb _) ⟨wr.heap.size, 0, none⟩ 1 1 (fV [y]) hx rfl ?_ (fV_one _) (by unfold maxLen; omega) (by omega) (by simp; omega) ?_
  · intro j u hj
    have h1 := heap_alloc_new wr (.cells #[.int .i64 y.1, .int .i64 y.2.1, .int .u64 (y.2.2.1 : Nat), .string y.2.2.2] e)
    have e1 : (Addr.mk wr.heap.size 0 none).add j = ⟨wr.heap.size, j, none⟩ := by unfold Addr.add; split <;> simp_all
    rw [e1]
    simp only [World.cell?]
    rw [h1]
    match j, hj with
    | 0, hj => simpa [fV] using hj
    | 1, hj => simpa [fV] using hj
    | 2, hj => simpa [fV] using hj
    | 3, hj => simpa [fV] using hj
    | j + 4, hj => simp [fV] at hj
  · intro v' w' hown hgr _
    refine h v' w' ?_ ?_
    · unfold FRow
      rw [fV_append, List.length_append]
      exact hown
    · refine ⟨hgr.os, hgr.tape, hgr.output, by have := hgr.size; simp at this; omega, fun k hk => ?_⟩
      have hne : some k ≠ v.ownBlock := fun hk' => by
        have := (World.ownsRow.lt hb k hk'.symm).1
        omega
      rw [hgr.block k (by simp; omega) hne]
      exact Below.heap_alloc _ _ _ (by omega)
theorem ret_fd {x y : FD} (h : x = y) : Ending.returned (pfV x) = .returned (pfV y) := by rw [h]
/-- A result that is a field, in a variable of its own. -/
theorem fd_result {P : Program} {T : TypeId} {d : TypeDesc} (hu : P.underlying T = some d) (hd : (match d with | .struct _ | .array _ _ => true | _ => false) = true) (hi : (P.info? T).map (·.size) = some 4)
    {fn : Func} {p : Tmp} (h : fn.results = #[.cell p T]) {tmps : Array Value} {w : World} {g : Nat} {t : TypeId} {x : FD} (hg : PfT t w g x) (hp : tmps.getD p undef = .pointer (some ⟨g, 0, none⟩)) :
    (results fn tmps).run P w = .ok (pfV x) w :=
  results_cell_row h tmps w g t #[.int .i64 x.1, .int .i64 x.2.1, .int .u64 (x.2.2.1 : Nat), .string x.2.2.2] (0, 0) d hp hg hu hd hi
/-- Two results: a cursor and a field, each in a variable of its own. -/
theorem cfd_result {P : Program} {T U : TypeId} {d e : TypeDesc} (hu : P.underlying T = some d) (hd : (match d with | .struct _ | .array _ _ => true | _ => false) = true) (hi : (P.info? T).map (·.size) = some 4)
    (ku : P.underlying U = some e) (kd : (match e with | .struct _ | .array _ _ => true | _ => false) = true) (ki : (P.info? U).map (·.size) = some 4)
    {fn : Func} {p q : Tmp} (h : fn.results = #[.cell p T, .cell q U]) {tmps : Array Value} {w : World} {g k : Nat} {t u : TypeId} {c : CS} {x : FD} (hg : CurT t w g c) (hk : PfT u w k x) (hp : tmps.getD p undef = .pointer (some ⟨g, 0, none⟩)) (hq : tmps.getD q undef = .pointer (some ⟨k, 0, none⟩)) :
    (results fn tmps).run P w = .ok (.tuple #[c.val, pfV x]) w := by
  have h1 := run_loadVar_row (P := P) w g t T #[.string c.s, .int .i64 c.at_, .int .i64 c.en, .int .i64 c.er] (0, 0) d hg hu hd hi
  have h2 := run_loadVar_row (P := P) w k u U #[.int .i64 x.1, .int .i64 x.2.1, .int .u64 (x.2.2.1 : Nat), .string x.2.2.2] (0, 0) e hk ku kd ki
  have hp' : tmps[p]?.getD undef = .pointer (some ⟨g, 0, none⟩) := by simpa using hp
  have hq' : tmps[q]?.getD undef = .pointer (some ⟨k, 0, none⟩) := by simpa using hq
  simp [results, h, hp', hq', asAddr, h1, h2, pfV, CS.val]
theorem fd_dec (x y : FD) : (decide (x.1 = y.1) && (decide (x.2.1 = y.2.1) && (decide (x.2.2.1 = y.2.2.1) && decide (x.2.2.2 = y.2.2.2)))) = decide (x = y) := by
  obtain ⟨a, b, c, d⟩ := x
  obtain ⟨a', b', c', d'⟩ := y
  simp [Prod.mk.injEq]
theorem infoPf : (Tryd.prog.info? 38).map (fun i => (i.zero, i.size, i.bytes)) = some (some (.agg #[.int .i64 0, .int .i64 0, .int .u64 0, .string ⟨#[]⟩]), 4, 40) := by kernel_rfl
theorem sizePf : (Tryd.prog.info? 38).map (·.size) = some 4 := by kernel_rfl
theorem guardPf : Tryd.prog.eqGuardType Tryd.prog.depth 38 = false := by kernel_rfl
/-- Two fields compared. -/
theorem eqlInPf (x y : FD) (w : World) : (Op.equalIn 10000 38 (pfV x) (pfV y)).run Tryd.prog w = .ok (decide (x = y)) w := by
  have h1 : Tryd.prog.stoodInHeld 38 = false := by kernel_rfl
  have h2 : Tryd.prog.underlying 38 = some (.struct (Tryd.prog.fieldsOf 38)) := by kernel_rfl
  have p0 : ∀ z : FD, (part 3 #[.int .i64 z.1, .int .i64 z.2.1, .int .u64 (z.2.2.1 : Nat), .string z.2.2.2] 0).run Tryd.prog w = .ok (.int .i64 z.1) w := fun z => by simp [part, go_sem]
  have p1 : ∀ z : FD, (part 3 #[.int .i64 z.1, .int .i64 z.2.1, .int .u64 (z.2.2.1 : Nat), .string z.2.2.2] 1).run Tryd.prog w = .ok (.int .i64 z.2.1) w := fun z => by simp [part, go_sem]
  have p2 : ∀ z : FD, (part 26 #[.int .i64 z.1, .int .i64 z.2.1, .int .u64 (z.2.2.1 : Nat), .string z.2.2.2] 2).run Tryd.prog w = .ok (.int .u64 (z.2.2.1 : Nat)) w := fun z => by simp [part, go_sem]
  have p3 : ∀ z : FD, (part 9 #[.int .i64 z.1, .int .i64 z.2.1, .int .u64 (z.2.2.1 : Nat), .string z.2.2.2] 3).run Tryd.prog w = .ok (.string z.2.2.2) w := fun z => by simp [part, go_sem]
  unfold pfV
  rw [show (10000 : Nat) = 9999 + 1 from rfl, run_equalIn_struct w 9999 _ _ _ h2 h1]
  have q0 := run_equalIn_int (P := Tryd.prog) w 9998 3 .i64 .i64 x.1 y.1 Tryd.underlying3
  have q1 := run_equalIn_int (P := Tryd.prog) w 9998 3 .i64 .i64 x.2.1 y.2.1 Tryd.underlying3
  have q2 := run_equalIn_int (P := Tryd.prog) w 9998 26 .u64 .u64 (x.2.2.1 : Nat) (y.2.2.1 : Nat) Tryd.underlying26
  have q3 := run_equalIn_string (P := Tryd.prog) w 9998 9 x.2.2.2 y.2.2.2 Tryd.underlying9
  rw [text_eq] at q3
  rw [← fd_dec]
  simp [Program.fieldsOf, Tryd.underlying38, Op.eqFields, Sem.run_bind, p0, p1, p2, p3, Result.andThen_ok, q0, q1, q2, q3, -beq_iff_eq]
  by_cases e0 : x.1 = y.1
  · by_cases e1 : x.2.1 = y.2.1
    · by_cases e2 : x.2.2.1 = y.2.2.1
      · by_cases e3 : x.2.2.2 = y.2.2.2
        · simp [e0, e1, e2, e3]
        · simp [e0, e1, e2, e3]
      · have n2 : ¬ ((x.2.2.1 : Nat) : Int) = ((y.2.2.1 : Nat) : Int) := by omega
        simp [e0, e1, e2]
        intro h; exact absurd h n2
    · simp [e0, e1]
  · simp [e0]
theorem eqlPf (x y : FD) (w : World) : (binOp .eql 38 (pfV x) (pfV y)).run Tryd.prog w = .ok (.bool (decide (x = y))) w := by
  have h := eqlInPf x y w
  unfold pfV at h ⊢
  rw [run_eql_struct, h]; rfl
theorem neqPf (x y : FD) (w : World) : (binOp .neq 38 (pfV x) (pfV y)).run Tryd.prog w = .ok (.bool (!decide (x = y))) w := by
  have h := eqlInPf x y w
  unfold pfV at h ⊢
  rw [run_neq_struct, h]; rfl
end Go.Proofs.YtjpppnfkpnfhoaaDoor
