/- Fields of Protobuf over bytes: which field begins there, of how many bytes, or what is wrong; all fields of a text; two texts side by side. Of no program. -/
import Derived.Test.YtjpppnfkpnfhoaaPtNum
import Derived.Test.YtjpppnfkpnfhoaaVBkN
namespace Go.Proofs.Ytjpppnfkpnfhoaa
open Go Go.RowKit
set_option linter.unusedVariables false

/-- A field: its number, its wire type, Num, Text. -/
abbrev FD := Int × Int × Nat × ByteArray
def fZ : FD := (0, 0, 0, ⟨#[]⟩)
/-- What is wrong with the number by sevens that begins here (0: nothing), how many bytes it has, which it is. -/
def lvC (l : List UInt8) : Int := if 9 ≤ vlead l ∧ 1 < ((l[9]?).getD 0).toNat then 4 else if l.length ≤ vlead l then 1 else 0
def lvK (l : List UInt8) : Nat := vlead l + 1
def lvV (l : List UInt8) : Nat := if lvC l = 0 then vvL (l.take (lvK l)) else 0
/-- What stands behind a tag of wire type v: what is wrong, how many bytes, Num, Text. -/
def cRd (v : Int) (r : List UInt8) : Int × Nat × Nat × ByteArray :=
  if v = 0 then (if lvC r ≠ 0 then (lvC r, 0, 0, ⟨#[]⟩) else (0, lvK r, lvV r, ⟨#[]⟩))
  else if v = 1 then (if r.length < 8 then (1, 0, 0, ⟨#[]⟩) else (0, 8, valL (r.take 8), ⟨#[]⟩))
  else if v = 5 then (if r.length < 4 then (1, 0, 0, ⟨#[]⟩) else (0, 4, valL (r.take 4), ⟨#[]⟩))
  else if lvC r ≠ 0 then (lvC r, 0, 0, ⟨#[]⟩)
  else if r.length < lvK r + lvV r then (1, 0, 0, ⟨#[]⟩)
  else (0, lvK r + lvV r, 0, bA ((r.drop (lvK r)).take (lvV r)))
/-- The field that begins here: what is wrong, how many bytes, which. -/
def fRd (l : List UInt8) : Int × Nat × FD :=
  if lvC l ≠ 0 then (lvC l, 0, fZ)
  else if mN (lvV l) = 0 then (14, 0, fZ)
  else if (cRd (mW (lvV l) : Nat) (l.drop (lvK l))).1 ≠ 0 then ((cRd (mW (lvV l) : Nat) (l.drop (lvK l))).1, 0, fZ)
  else (0, lvK l + (cRd (mW (lvV l) : Nat) (l.drop (lvK l))).2.1, (((mN (lvV l) : Nat) : Int), ((mW (lvV l) : Nat) : Int), (cRd (mW (lvV l) : Nat) (l.drop (lvK l))).2.2))
/-- All fields, or what is wrong first. -/
def fAl : Nat → List UInt8 → List FD × Int
  | 0, _ => ([], 0)
  | f + 1, l =>
    if l = [] then ([], 0)
    else if (fRd l).1 ≠ 0 then ([], (fRd l).1)
    else if (fAl f (l.drop (fRd l).2.1)).2 ≠ 0 then ([], (fAl f (l.drop (fRd l).2.1)).2)
    else ((fRd l).2.2 :: (fAl f (l.drop (fRd l).2.1)).1, 0)
def fAll (l : List UInt8) : List FD × Int := fAl l.length l

theorem lvC_three (l : List UInt8) : lvC l = 0 ∨ lvC l = 1 ∨ lvC l = 4 := by
  unfold lvC; split
  · exact .inr (.inr rfl)
  · split
    · exact .inr (.inl rfl)
    · exact .inl rfl
theorem lvC_lt {l : List UInt8} (h : lvC l = 0) : vlead l < l.length := by
  unfold lvC at h
  split at h
  · omega
  · split at h
    · omega
    · omega
theorem lvK_le {l : List UInt8} (h : lvC l = 0) : lvK l ≤ l.length := lvC_lt h
theorem vlead_app : ∀ (l m : List UInt8), vlead l < l.length → vlead (l ++ m) = vlead l
  | [], _, h => by simp at h
  | b :: r, m, h => by
    rw [List.cons_append, vlead, vlead]
    rw [vlead] at h
    by_cases hb : 128 ≤ b.toNat
    · rw [if_pos hb] at h ⊢
      rw [if_pos hb, vlead_app r m (by simpa using h)]
    · rw [if_neg hb, if_neg hb]
theorem vlead_mono : ∀ (l m : List UInt8), vlead l ≤ vlead (l ++ m)
  | [], _ => Nat.zero_le _
  | b :: r, m => by
    rw [List.cons_append, vlead, vlead]
    have := vlead_mono r m
    split <;> omega
theorem ninth_app {l : List UInt8} (m : List UInt8) (h : 1 < ((l[9]?).getD 0).toNat) : (l ++ m)[9]? = l[9]? := by
  have : 9 < l.length := by
    rcases Nat.lt_or_ge 9 l.length with h1 | h1
    · exact h1
    · rw [List.getElem?_eq_none h1] at h; simp at h
  rw [List.getElem?_append_left this]
theorem lvC_four {l : List UInt8} (m : List UInt8) (h : lvC l = 4) : lvC (l ++ m) = 4 := by
  unfold lvC at h ⊢
  by_cases h1 : 9 ≤ vlead l ∧ 1 < ((l[9]?).getD 0).toNat
  · have := vlead_mono l m
    rw [if_pos]
    rw [ninth_app m h1.2]
    exact ⟨by omega, h1.2⟩
  · rw [if_neg h1] at h
    split at h <;> omega
theorem lv_app {l : List UInt8} (m : List UInt8) (h : lvC l = 0) : lvC (l ++ m) = 0 ∧ lvK (l ++ m) = lvK l ∧ lvV (l ++ m) = lvV l := by
  have hl := lvC_lt h
  have hv := vlead_app l m hl
  have hc : lvC (l ++ m) = 0 := by
    unfold lvC at h ⊢
    have h1 : ¬ (9 ≤ vlead l ∧ 1 < ((l[9]?).getD 0).toNat) := fun h1 => by rw [if_pos h1] at h; omega
    rw [hv, if_neg, if_neg (by rw [List.length_append]; omega)]
    rintro ⟨h2, h3⟩
    apply h1
    refine ⟨h2, ?_⟩
    rwa [List.getElem?_append_left (by omega)] at h3
  refine ⟨hc, by unfold lvK; rw [hv], ?_⟩
  unfold lvV
  rw [if_pos hc, if_pos h]
  unfold lvK
  rw [hv, List.take_append_of_le_length (by omega)]
theorem drop_app {l : List UInt8} (m : List UInt8) {k : Nat} (h : k ≤ l.length) : (l ++ m).drop k = l.drop k ++ m := List.drop_append_of_le_length h
theorem take_app {l : List UInt8} (m : List UInt8) {k : Nat} (h : k ≤ l.length) : (l ++ m).take k = l.take k := List.take_append_of_le_length h

theorem cRd_le {v : Int} {r : List UInt8} (h : (cRd v r).1 = 0) : (cRd v r).2.1 ≤ r.length := by
  unfold cRd at h ⊢
  by_cases h0 : v = 0
  · rw [if_pos h0] at h ⊢
    by_cases h1 : lvC r ≠ 0
    · rw [if_pos h1] at h; exact absurd h h1
    · rw [if_neg h1]; exact lvK_le (by simpa using h1)
  · rw [if_neg h0] at h ⊢
    by_cases h1 : v = 1
    · rw [if_pos h1] at h ⊢
      by_cases h2 : r.length < 8
      · rw [if_pos h2] at h; simp at h
      · rw [if_neg h2]; simp only; omega
    · rw [if_neg h1] at h ⊢
      by_cases h5 : v = 5
      · rw [if_pos h5] at h ⊢
        by_cases h2 : r.length < 4
        · rw [if_pos h2] at h; simp at h
        · rw [if_neg h2]; simp only; omega
      · rw [if_neg h5] at h ⊢
        by_cases h3 : lvC r ≠ 0
        · rw [if_pos h3] at h; exact absurd h h3
        · rw [if_neg h3] at h ⊢
          by_cases h4 : r.length < lvK r + lvV r
          · rw [if_pos h4] at h; simp at h
          · rw [if_neg h4]; simp only; omega
theorem cRd_app {v : Int} {r : List UInt8} (m : List UInt8) (h : (cRd v r).1 = 0) : cRd v (r ++ m) = cRd v r := by
  unfold cRd at h ⊢
  by_cases h0 : v = 0
  · rw [if_pos h0] at h ⊢
    rw [if_pos h0]
    by_cases h1 : lvC r ≠ 0
    · rw [if_pos h1] at h; exact absurd h h1
    · have h1' : lvC r = 0 := by simpa using h1
      obtain ⟨a1, a2, a3⟩ := lv_app m h1'
      rw [if_neg h1, if_neg (by rw [a1]; simp), a2, a3]
  · rw [if_neg h0] at h ⊢
    rw [if_neg h0]
    by_cases h1 : v = 1
    · rw [if_pos h1] at h ⊢
      rw [if_pos h1]
      by_cases h2 : r.length < 8
      · rw [if_pos h2] at h; simp at h
      · rw [if_neg h2, if_neg (by rw [List.length_append]; omega), take_app m (by omega)]
    · rw [if_neg h1] at h ⊢
      rw [if_neg h1]
      by_cases h5 : v = 5
      · rw [if_pos h5] at h ⊢
        rw [if_pos h5]
        by_cases h2 : r.length < 4
        · rw [if_pos h2] at h; simp at h
        · rw [if_neg h2, if_neg (by rw [List.length_append]; omega), take_app m (by omega)]
      · rw [if_neg h5] at h ⊢
        rw [if_neg h5]
        by_cases h3 : lvC r ≠ 0
        · rw [if_pos h3] at h; exact absurd h h3
        · have h3' : lvC r = 0 := by simpa using h3
          obtain ⟨a1, a2, a3⟩ := lv_app m h3'
          rw [if_neg h3] at h ⊢
          rw [if_neg (by rw [a1]; simp), a2, a3]
          by_cases h4 : r.length < lvK r + lvV r
          · rw [if_pos h4] at h; simp at h
          · have hk := lvK_le h3'
            rw [if_neg h4, if_neg (by rw [List.length_append]; omega), drop_app m hk, take_app m (by rw [List.length_drop]; omega)]
theorem cRd_err {v : Int} {r : List UInt8} (m : List UInt8) (h : (cRd v r).1 ≠ 0) (h' : (cRd v r).1 ≠ 1) : (cRd v (r ++ m)).1 = (cRd v r).1 := by
  have four : lvC r ≠ 0 → lvC r ≠ 1 → lvC r = 4 := fun a b => by rcases lvC_three r with h | h | h <;> first | exact absurd h a | exact absurd h b | exact h
  unfold cRd at h h' ⊢
  by_cases h0 : v = 0
  · rw [if_pos h0] at h h' ⊢
    rw [if_pos h0]
    by_cases h1 : lvC r ≠ 0
    · rw [if_pos h1] at h' ⊢
      have := lvC_four m (four h1 h')
      rw [if_pos (by rw [this]; decide), this, four h1 h']
    · rw [if_neg h1] at h; exact absurd rfl h
  · rw [if_neg h0] at h h' ⊢
    rw [if_neg h0]
    by_cases h1 : v = 1
    · rw [if_pos h1] at h h' ⊢
      by_cases h2 : r.length < 8
      · rw [if_pos h2] at h'; exact absurd rfl h'
      · rw [if_neg h2] at h; exact absurd rfl h
    · rw [if_neg h1] at h h' ⊢
      rw [if_neg h1]
      by_cases h5 : v = 5
      · rw [if_pos h5] at h h' ⊢
        by_cases h2 : r.length < 4
        · rw [if_pos h2] at h'; exact absurd rfl h'
        · rw [if_neg h2] at h; exact absurd rfl h
      · rw [if_neg h5] at h h' ⊢
        rw [if_neg h5]
        by_cases h3 : lvC r ≠ 0
        · rw [if_pos h3] at h' ⊢
          have := lvC_four m (four h3 h')
          rw [if_pos (by rw [this]; decide), this, four h3 h']
        · rw [if_neg h3] at h h'
          by_cases h4 : r.length < lvK r + lvV r
          · rw [if_pos h4] at h'; exact absurd rfl h'
          · rw [if_neg h4] at h; exact absurd rfl h

theorem fRd_bad {l : List UInt8} (h : (fRd l).1 ≠ 0) : (fRd l).2 = (0, fZ) := by
  unfold fRd at h ⊢
  by_cases h1 : lvC l ≠ 0
  · rw [if_pos h1]
  · rw [if_neg h1] at h ⊢
    by_cases h2 : mN (lvV l) = 0
    · rw [if_pos h2]
    · rw [if_neg h2] at h ⊢
      by_cases h3 : (cRd (mW (lvV l) : Nat) (l.drop (lvK l))).1 ≠ 0
      · rw [if_pos h3]
      · rw [if_neg h3] at h; exact absurd rfl h
theorem fRd_good {l : List UInt8} (h : (fRd l).1 = 0) : lvC l = 0 ∧ ¬ mN (lvV l) = 0 ∧ (cRd (mW (lvV l) : Nat) (l.drop (lvK l))).1 = 0 ∧
    fRd l = (0, lvK l + (cRd (mW (lvV l) : Nat) (l.drop (lvK l))).2.1, (((mN (lvV l) : Nat) : Int), ((mW (lvV l) : Nat) : Int), (cRd (mW (lvV l) : Nat) (l.drop (lvK l))).2.2)) := by
  unfold fRd at h ⊢
  by_cases h1 : lvC l ≠ 0
  · rw [if_pos h1] at h; exact absurd h h1
  · rw [if_neg h1] at h ⊢
    by_cases h2 : mN (lvV l) = 0
    · rw [if_pos h2] at h; simp at h
    · rw [if_neg h2] at h ⊢
      by_cases h3 : (cRd (mW (lvV l) : Nat) (l.drop (lvK l))).1 ≠ 0
      · rw [if_pos h3] at h; exact absurd h h3
      · rw [if_neg h3]
        exact ⟨by simpa using h1, h2, by simpa using h3, rfl⟩
theorem fRd_pos {l : List UInt8} (h : (fRd l).1 = 0) : 0 < (fRd l).2.1 ∧ (fRd l).2.1 ≤ l.length := by
  obtain ⟨h1, h2, h3, h4⟩ := fRd_good h
  have hk := lvK_le h1
  have hc := cRd_le h3
  rw [List.length_drop] at hc
  rw [h4]
  show 0 < lvK l + _ ∧ lvK l + _ ≤ _
  have : 0 < lvK l := Nat.succ_pos _
  omega
theorem fRd_app {l : List UInt8} (m : List UInt8) (h : (fRd l).1 = 0) : fRd (l ++ m) = fRd l := by
  obtain ⟨h1, h2, h3, h4⟩ := fRd_good h
  obtain ⟨a1, a2, a3⟩ := lv_app m h1
  have hd := drop_app m (lvK_le h1)
  rw [h4]
  unfold fRd
  rw [if_neg (by rw [a1]; simp), a3, a2, hd, if_neg h2, cRd_app m h3, if_neg (by rw [h3]; simp)]
theorem fRd_err {l : List UInt8} (m : List UInt8) (h : (fRd l).1 ≠ 0) (h' : (fRd l).1 ≠ 1) : (fRd (l ++ m)).1 = (fRd l).1 := by
  unfold fRd at h h' ⊢
  by_cases h1 : lvC l ≠ 0
  · rw [if_pos h1] at h' ⊢
    have h4 : lvC l = 4 := by rcases lvC_three l with x | x | x <;> first | exact absurd x h1 | exact absurd x h' | exact x
    have := lvC_four m h4
    rw [if_pos (by rw [this]; decide), this, h4]
  · rw [if_neg h1] at h h' ⊢
    have h1' : lvC l = 0 := by simpa using h1
    obtain ⟨a1, a2, a3⟩ := lv_app m h1'
    have hd := drop_app m (lvK_le h1')
    rw [if_neg (by rw [a1]; simp), a3, a2, hd]
    by_cases h2 : mN (lvV l) = 0
    · rw [if_pos h2, if_pos h2]
    · rw [if_neg h2] at h h' ⊢
      rw [if_neg h2]
      by_cases h3 : (cRd (mW (lvV l) : Nat) (l.drop (lvK l))).1 ≠ 0
      · rw [if_pos h3] at h' ⊢
        have := cRd_err m h3 h'
        rw [if_pos (by rw [this]; exact h3), this]
      · rw [if_neg h3] at h; exact absurd rfl h

theorem fAl_same : ∀ (f g : Nat) (l : List UInt8), l.length ≤ f → l.length ≤ g → fAl f l = fAl g l
  | 0, 0, _, _, _ => rfl
  | 0, g + 1, l, hf, _ => by
    obtain rfl : l = [] := List.eq_nil_of_length_eq_zero (Nat.le_zero.mp hf)
    rw [fAl, fAl, if_pos rfl]
  | f + 1, 0, l, _, hg => by
    obtain rfl : l = [] := List.eq_nil_of_length_eq_zero (Nat.le_zero.mp hg)
    rw [fAl, fAl, if_pos rfl]
  | f + 1, g + 1, l, hf, hg => by
    rw [fAl, fAl]
    by_cases h0 : l = []
    · rw [if_pos h0, if_pos h0]
    · rw [if_neg h0, if_neg h0]
      by_cases h1 : (fRd l).1 ≠ 0
      · rw [if_pos h1, if_pos h1]
      · have hp := fRd_pos (l := l) (by simpa using h1)
        rw [if_neg h1, if_neg h1, fAl_same f g (l.drop (fRd l).2.1) (by rw [List.length_drop]; omega) (by rw [List.length_drop]; omega)]
theorem fAll_nil : fAll [] = ([], 0) := rfl
theorem fAll_step {l : List UInt8} (h0 : l ≠ []) : fAll l =
    if (fRd l).1 ≠ 0 then ([], (fRd l).1)
    else if (fAll (l.drop (fRd l).2.1)).2 ≠ 0 then ([], (fAll (l.drop (fRd l).2.1)).2)
    else ((fRd l).2.2 :: (fAll (l.drop (fRd l).2.1)).1, 0) := by
  have hn : l.length = (l.length - 1) + 1 := by
    have : l.length ≠ 0 := fun e => h0 (List.eq_nil_of_length_eq_zero e)
    omega
  by_cases h1 : (fRd l).1 ≠ 0
  · rw [if_pos h1]; unfold fAll; rw [hn, fAl, if_neg h0, if_pos h1]
  · have hp := fRd_pos (l := l) (by simpa using h1)
    rw [if_neg h1]
    have e : fAl (l.length - 1) (l.drop (fRd l).2.1) = fAll (l.drop (fRd l).2.1) := fAl_same _ _ _ (by rw [List.length_drop]; omega) (Nat.le_refl _)
    rw [← e]
    show fAl l.length l = _
    rw [hn, fAl, if_neg h0, if_neg h1]
    simp
theorem fAll_bad {l : List UInt8} (h0 : l ≠ []) (h : (fRd l).1 ≠ 0) : fAll l = ([], (fRd l).1) := by rw [fAll_step h0, if_pos h]
theorem fAll_more {l : List UInt8} (h0 : l ≠ []) (h : (fRd l).1 = 0) : fAll l =
    if (fAll (l.drop (fRd l).2.1)).2 ≠ 0 then ([], (fAll (l.drop (fRd l).2.1)).2) else ((fRd l).2.2 :: (fAll (l.drop (fRd l).2.1)).1, 0) := by rw [fAll_step h0, if_neg (by rw [h]; simp)]
theorem len_ind {P : List UInt8 → Prop} (h : ∀ l, (∀ m : List UInt8, m.length < l.length → P m) → P l) : ∀ l, P l := by
  intro l
  generalize hn : l.length = n
  induction n using Nat.strongRecOn generalizing l with
  | _ n ih =>
    subst hn
    exact h l fun m hm => ih m.length hm m rfl
theorem fAll_none (l : List UInt8) : (fAll l).2 ≠ 0 → (fAll l).1 = [] := by
  by_cases h0 : l = []
  · subst h0; rw [fAll_nil]; intro h; exact absurd rfl h
  · rw [fAll_step h0]
    split
    · intro _; rfl
    · split
      · intro _; rfl
      · intro h; exact absurd rfl h
/-- No more fields than bytes. -/
theorem fAll_len (l : List UInt8) : (fAll l).1.length ≤ l.length := by
  refine len_ind (P := fun l => (fAll l).1.length ≤ l.length) ?_ l
  intro l ih
  by_cases h0 : l = []
  · subst h0; rw [fAll_nil]; simp
  · by_cases h1 : (fRd l).1 = 0
    · have hp := fRd_pos h1
      have := ih (l.drop (fRd l).2.1) (by rw [List.length_drop]; omega)
      rw [List.length_drop] at this
      rw [fAll_more h0 h1]
      split
      · simp
      · simp only [List.length_cons]; omega
    · rw [fAll_bad h0 h1]; simp
/-- Two texts side by side, the first one without a fault. -/
theorem fAll_app (m l : List UInt8) : (fAll l).2 = 0 → fAll (l ++ m) = if (fAll m).2 ≠ 0 then ([], (fAll m).2) else ((fAll l).1 ++ (fAll m).1, 0) := by
  refine len_ind (P := fun l => (fAll l).2 = 0 → fAll (l ++ m) = if (fAll m).2 ≠ 0 then ([], (fAll m).2) else ((fAll l).1 ++ (fAll m).1, 0)) ?_ l
  intro l ih h
  by_cases h0 : l = []
  · subst h0
    rw [List.nil_append, fAll_nil, List.nil_append]
    by_cases hm : (fAll m).2 ≠ 0
    · rw [if_pos hm]
      exact Prod.ext (fAll_none m hm) rfl
    · rw [if_neg hm]
      exact Prod.ext rfl (by simpa using hm)
  · have hne : l ++ m ≠ [] := by simp [h0]
    by_cases h1 : (fRd l).1 = 0
    · have hp := fRd_pos h1
      have ha := fRd_app m h1
      rw [fAll_more h0 h1] at h ⊢
      rw [fAll_more hne (by rw [ha]; exact h1), ha, drop_app m hp.2]
      by_cases h2 : (fAll (l.drop (fRd l).2.1)).2 ≠ 0
      · rw [if_pos h2] at h; exact absurd h h2
      · rw [ih (l.drop (fRd l).2.1) (by rw [List.length_drop]; omega) (by simpa using h2), if_neg h2]
        by_cases hm : (fAll m).2 ≠ 0
        · rw [if_pos hm, if_pos hm, if_pos hm]
        · rw [if_neg hm, if_neg hm, if_neg (by simp)]; rfl
    · rw [fAll_bad h0 h1] at h; exact absurd h h1
/-- .. and where something is wrong in the first one. -/
theorem fAll_wrong (m l : List UInt8) : (fAll l).2 ≠ 0 → (fAll l).2 ≠ 1 → (fAll (l ++ m)).2 = (fAll l).2 := by
  refine len_ind (P := fun l => (fAll l).2 ≠ 0 → (fAll l).2 ≠ 1 → (fAll (l ++ m)).2 = (fAll l).2) ?_ l
  intro l ih h h'
  by_cases h0 : l = []
  · subst h0; exact absurd rfl h
  · have hne : l ++ m ≠ [] := by simp [h0]
    by_cases h1 : (fRd l).1 = 0
    · have hp := fRd_pos h1
      have ha := fRd_app m h1
      rw [fAll_more h0 h1] at h h' ⊢
      rw [fAll_more hne (by rw [ha]; exact h1), ha, drop_app m hp.2]
      by_cases h2 : (fAll (l.drop (fRd l).2.1)).2 ≠ 0
      · rw [if_pos h2] at h' ⊢
        have := ih (l.drop (fRd l).2.1) (by rw [List.length_drop]; omega) h2 h'
        rw [if_pos (by rw [this]; exact h2), this]
      · rw [if_neg h2] at h; exact absurd rfl h
    · rw [fAll_bad h0 h1] at h' ⊢
      have := fRd_err m h1 h'
      rw [fAll_bad hne (by rw [this]; exact h1), this]
end Go.Proofs.Ytjpppnfkpnfhoaa
