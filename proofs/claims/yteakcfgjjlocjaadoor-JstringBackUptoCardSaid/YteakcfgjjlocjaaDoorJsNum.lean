/- JSON's texts over bytes: for what each part stands, what is read from a place on, what is written; what is written is read back. Of no program. -/
import Derived.Test.YteakcfgjjlocjaaDoorJsOk
import Derived.Test.YteakcfgjjlocjaaDoorHNum
namespace Go.Proofs.YteakcfgjjlocjaaDoor
open Go Go.RowKit
set_option linter.unusedVariables false

/-- A part's character, how many bytes it takes, what is wrong. -/
structure JA where
  r : Nat
  k : Nat
  e : Int
/-- The bytes for which some bytes stand, how many these are, what is wrong. -/
structure JT where
  t : List UInt8
  k : Nat
  e : Int
def jLow (c : Nat) : Nat := if 65 ≤ c ∧ c ≤ 70 then c + 32 else c
/-- The next digits' number. -/
def jDg : Nat → Nat → List UInt8 → Nat × Int
  | 0, n, _ => (n, 0)
  | _ + 1, _, [] => (0, 1)
  | k + 1, n, c :: t => if nibIs (jLow c.toNat) = true then jDg k (16 * n + nibV (jLow c.toNat)) t else (0, 6)
/-- The second one of a pair, whose first one is n. -/
def jPair (n : Nat) : List UInt8 → JA
  | [] => ⟨0, 0, 1⟩
  | a :: t => if a.toNat = 92 then
      (match t with
      | [] => ⟨0, 0, 1⟩
      | b :: u => if b.toNat = 117 then
          (if (jDg 4 0 u).2 = 0 then (if (jDg 4 0 u).1 < 56320 ∨ 57343 < (jDg 4 0 u).1 then ⟨0, 0, 6⟩ else ⟨65536 + 1024 * (n - 55296) + ((jDg 4 0 u).1 - 56320), 6, 0⟩) else ⟨0, 0, (jDg 4 0 u).2⟩)
        else ⟨0, 0, 6⟩)
    else ⟨0, 0, 6⟩
def jSim (c : Nat) : Nat := if c = 34 then 34 else if c = 92 then 92 else if c = 47 then 47 else if c = 98 then 8 else if c = 102 then 12 else if c = 110 then 10 else if c = 114 then 13 else if c = 116 then 9 else 0
/-- What stands behind four digits. -/
def jNum (t : List UInt8) : JA :=
  if (jDg 4 0 t).2 = 0 then
    (if uIs (jDg 4 0 t).1 = true then ⟨(jDg 4 0 t).1, 4, 0⟩
    else if 56320 ≤ (jDg 4 0 t).1 then ⟨0, 0, 6⟩
    else if (jPair (jDg 4 0 t).1 (t.drop 4)).e = 0 then ⟨(jPair (jDg 4 0 t).1 (t.drop 4)).r, (jPair (jDg 4 0 t).1 (t.drop 4)).k + 4, 0⟩ else ⟨0, 0, (jPair (jDg 4 0 t).1 (t.drop 4)).e⟩)
  else ⟨0, 0, (jDg 4 0 t).2⟩
/-- What stands behind a backslash. -/
def jEsc : List UInt8 → JA
  | [] => ⟨0, 0, 1⟩
  | b :: t => if b.toNat = 117 then (if (jNum t).e = 0 then ⟨(jNum t).r, (jNum t).k + 1, 0⟩ else ⟨0, 0, (jNum t).e⟩)
    else if jSim b.toNat = 0 then ⟨0, 0, 6⟩ else ⟨jSim b.toNat, 1, 0⟩
def jPart : List UInt8 → JT
  | [] => ⟨[], 0, 1⟩
  | c :: t => if c.toNat = 92 then (if (jEsc t).e = 0 then ⟨uB (jEsc t).r, (jEsc t).k + 1, 0⟩ else ⟨[], 0, (jEsc t).e⟩)
    else if c.toNat < 32 then ⟨[], 0, 3⟩
    else if (uDec (c :: t)).2 = 0 then ⟨[], 0, 5⟩ else ⟨(c :: t).take (uDec (c :: t)).2, (uDec (c :: t)).2, 0⟩
def JT.and (p r : JT) : JT := if r.e = 0 then ⟨p.t ++ r.t, p.k + r.k, 0⟩ else ⟨[], 0, r.e⟩
def jGo : Nat → List UInt8 → JT
  | 0, _ => ⟨[], 0, 1⟩
  | _ + 1, [] => ⟨[], 0, 1⟩
  | f + 1, c :: t => if c.toNat = 34 then ⟨[], 1, 0⟩ else if (jPart (c :: t)).e = 0 then (jPart (c :: t)).and (jGo f ((c :: t).drop (jPart (c :: t)).k)) else ⟨[], 0, (jPart (c :: t)).e⟩
/-- What is read behind the first quote. -/
def jIn (l : List UInt8) : JT := jGo l.length l

theorem jDg_len : ∀ (k n : Nat) (l : List UInt8), (jDg k n l).2 = 0 → k ≤ l.length
  | 0, _, _, _ => Nat.zero_le _
  | k + 1, _, [], h => by simp [jDg] at h
  | k + 1, n, c :: t, h => by
    simp only [jDg] at h
    split at h
    · have := jDg_len k _ t h
      simp; omega
    · simp at h
theorem jDg_lt : ∀ (k n : Nat) (l : List UInt8), (jDg k n l).2 = 0 → (jDg k n l).1 < 16 ^ k * (n + 1)
  | 0, _, _, _ => by simp [jDg]
  | k + 1, _, [], h => by simp [jDg] at h
  | k + 1, n, c :: t, h => by
    simp only [jDg] at h ⊢
    split at h
    · rename_i hn
      rw [if_pos hn]
      have h1 := jDg_lt k _ t h
      have h2 := nibV_lt (jLow c.toNat)
      have h3 : 16 ^ k * (16 * n + nibV (jLow c.toNat) + 1) ≤ 16 ^ k * (16 * (n + 1)) := Nat.mul_le_mul_left _ (by omega)
      have h4 : 16 ^ (k + 1) * (n + 1) = 16 ^ k * (16 * (n + 1)) := by rw [Nat.pow_succ, Nat.mul_assoc]
      omega
    · simp at h
theorem jDg_no : ∀ (k n : Nat) (l : List UInt8), (jDg k n l).2 ≠ 0 → (jDg k n l).1 = 0
  | 0, _, _, h => by simp [jDg] at h
  | k + 1, _, [], h => rfl
  | k + 1, n, c :: t, h => by
    simp only [jDg] at h ⊢
    split
    · rename_i hn
      rw [if_pos hn] at h
      exact jDg_no k _ t h
    · rfl
theorem jDg_more : ∀ (k n : Nat) (l m : List UInt8), k ≤ l.length → jDg k n (l ++ m) = jDg k n l
  | 0, _, _, _, _ => rfl
  | k + 1, _, [], _, h => by simp at h
  | k + 1, n, c :: t, m, h => by
    simp only [List.cons_append, jDg]
    rw [jDg_more k _ t m (by simpa using h)]
theorem jDg4_lt (l : List UInt8) : (jDg 4 0 l).1 < 65536 := by
  by_cases h : (jDg 4 0 l).2 = 0
  · have := jDg_lt 4 0 l h; simpa using this
  · rw [jDg_no 4 0 l h]; omega

theorem jPair_fine {n : Nat} {l : List UInt8} (h : (jPair n l).e = 0) (hn : 55296 ≤ n) (hn2 : n ≤ 56319) : (jPair n l).k = 6 ∧ 6 ≤ l.length ∧ 65536 ≤ (jPair n l).r ∧ (jPair n l).r ≤ 1114111 := by
  match l, h with
  | [], h => simp [jPair] at h
  | [a], h =>
    simp only [jPair] at h
    split at h <;> simp at h
  | a :: b :: u, h =>
    simp only [jPair] at h ⊢
    by_cases h1 : a.toNat = 92
    · rw [if_pos h1] at h ⊢
      by_cases h2 : b.toNat = 117
      · rw [if_pos h2] at h ⊢
        by_cases h3 : (jDg 4 0 u).2 = 0
        · rw [if_pos h3] at h ⊢
          have hl := jDg_len 4 0 u h3
          have hm := jDg4_lt u
          by_cases h4 : (jDg 4 0 u).1 < 56320 ∨ 57343 < (jDg 4 0 u).1
          · rw [if_pos h4] at h; simp at h
          · rw [if_neg h4]
            refine ⟨rfl, by simp; omega, ?_, ?_⟩
            · simp only; omega
            · simp only; omega
        · rw [if_neg h3] at h; exact absurd h h3
      · rw [if_neg h2] at h; simp at h
    · rw [if_neg h1] at h; simp at h
theorem jNum_fine {l : List UInt8} (h : (jNum l).e = 0) : uIs (jNum l).r = true ∧ 4 ≤ (jNum l).k ∧ (jNum l).k ≤ l.length := by
  unfold jNum at h ⊢
  have hm := jDg4_lt l
  by_cases h1 : (jDg 4 0 l).2 = 0
  · rw [if_pos h1] at h ⊢
    have hl := jDg_len 4 0 l h1
    by_cases h2 : uIs (jDg 4 0 l).1 = true
    · rw [if_pos h2]; exact ⟨h2, Nat.le_refl _, hl⟩
    · rw [if_neg h2] at h ⊢
      by_cases h3 : 56320 ≤ (jDg 4 0 l).1
      · rw [if_pos h3] at h; simp at h
      · rw [if_neg h3] at h ⊢
        have h2' := uIs_no.mp (by simpa using h2)
        by_cases h4 : (jPair (jDg 4 0 l).1 (l.drop 4)).e = 0
        · rw [if_pos h4]
          obtain ⟨e1, e2, e3, e4⟩ := jPair_fine h4 (by omega) (by omega)
          rw [List.length_drop] at e2
          exact ⟨uIs_iff.mpr (by simp only; omega), by simp only; omega, by simp only; omega⟩
        · rw [if_neg h4] at h; exact absurd h h4
  · rw [if_neg h1] at h; exact absurd h h1
theorem jSim_lt (c : Nat) : jSim c < 128 := by
  unfold jSim
  repeat' split
  all_goals omega
theorem uB_small {r : Nat} (h : r < 128) : uB r = [b8 r] := by unfold uB; rw [if_pos h]
theorem jEsc_fine {l : List UInt8} (h : (jEsc l).e = 0) : uIs (jEsc l).r = true ∧ (uB (jEsc l).r).length ≤ (jEsc l).k ∧ 0 < (jEsc l).k ∧ (jEsc l).k ≤ l.length := by
  match l, h with
  | [], h => simp [jEsc] at h
  | b :: t, h =>
    simp only [jEsc] at h ⊢
    by_cases h1 : b.toNat = 117
    · rw [if_pos h1] at h ⊢
      by_cases h2 : (jNum t).e = 0
      · rw [if_pos h2]
        obtain ⟨e1, e2, e3⟩ := jNum_fine h2
        have := (uB_pos (jNum t).r).2
        exact ⟨e1, by simp only; omega, by simp, by simp; omega⟩
      · rw [if_neg h2] at h; exact absurd h h2
    · rw [if_neg h1] at h ⊢
      by_cases h2 : jSim b.toNat = 0
      · rw [if_pos h2] at h; simp at h
      · rw [if_neg h2]
        have h3 := jSim_lt b.toNat
        refine ⟨uIs_iff.mpr (by simp only; omega), ?_, by simp, by simp⟩
        simp only [uB_small h3]; simp
theorem jPart_fine {l : List UInt8} (h : (jPart l).e = 0) : (∃ r : Nat, uIs r = true ∧ (jPart l).t = uB r) ∧ (jPart l).t.length ≤ (jPart l).k ∧ 0 < (jPart l).k ∧ (jPart l).k ≤ l.length := by
  match l, h with
  | [], h => simp [jPart] at h
  | c :: t, h =>
    simp only [jPart] at h ⊢
    by_cases h1 : c.toNat = 92
    · rw [if_pos h1] at h ⊢
      by_cases h2 : (jEsc t).e = 0
      · rw [if_pos h2]
        obtain ⟨e1, e2, e3, e4⟩ := jEsc_fine h2
        exact ⟨⟨_, e1, rfl⟩, by simp only; omega, by simp, by simp; omega⟩
      · rw [if_neg h2] at h; exact absurd h h2
    · rw [if_neg h1] at h ⊢
      by_cases h2 : c.toNat < 32
      · rw [if_pos h2] at h; simp at h
      · rw [if_neg h2] at h ⊢
        by_cases h3 : (uDec (c :: t)).2 = 0
        · rw [if_pos h3] at h; simp at h
        · rw [if_neg h3]
          obtain ⟨e1, e2, e3⟩ := dec_inv (l := c :: t) (by omega)
          have ht : (c :: t).take (uDec (c :: t)).2 = uB (uDec (c :: t)).1 := by
            have : (c :: t).take (uDec (c :: t)).2 = (uB (uDec (c :: t)).1 ++ (c :: t).drop (uDec (c :: t)).2).take (uDec (c :: t)).2 := congrArg (List.take _) e2
            rw [this, e3, List.take_left']
            rfl
          have hl := congrArg List.length e2
          rw [List.length_append, ← e3] at hl
          refine ⟨⟨_, e1, ht⟩, by simp only; rw [ht, e3]; exact Nat.le_refl _, by simp only; omega, by simp only; omega⟩
theorem jPart_no {l : List UInt8} (h : (jPart l).e ≠ 0) : jPart l = ⟨[], 0, (jPart l).e⟩ := by
  match l, h with
  | [], h => rfl
  | c :: t, h =>
    simp only [jPart] at h ⊢
    by_cases h1 : c.toNat = 92
    · rw [if_pos h1] at h ⊢
      by_cases h2 : (jEsc t).e = 0
      · rw [if_pos h2] at h; exact absurd rfl h
      · rw [if_neg h2]
    · rw [if_neg h1] at h ⊢
      by_cases h2 : c.toNat < 32
      · rw [if_pos h2]
      · rw [if_neg h2] at h ⊢
        by_cases h3 : (uDec (c :: t)).2 = 0
        · rw [if_pos h3]
        · rw [if_neg h3] at h; exact absurd rfl h

theorem jGo_more : ∀ (f : Nat) (l : List UInt8), l.length ≤ f → jGo f l = jGo l.length l := by
  intro f
  induction f using Nat.strongRecOn with
  | _ f ih =>
    intro l hl
    match f, l, hl with
    | 0, [], _ => rfl
    | f + 1, [], _ => rfl
    | f + 1, c :: t, hl =>
      show jGo (f + 1) (c :: t) = jGo (t.length + 1) (c :: t)
      simp only [jGo]
      by_cases h1 : c.toNat = 34
      · rw [if_pos h1, if_pos h1]
      · rw [if_neg h1, if_neg h1]
        by_cases h2 : (jPart (c :: t)).e = 0
        · rw [if_pos h2, if_pos h2]
          obtain ⟨_, _, h3, h4⟩ := jPart_fine h2
          have h5 : ((c :: t).drop (jPart (c :: t)).k).length ≤ t.length := by rw [List.length_drop]; simp; omega
          have hl' : t.length ≤ f := by simpa using hl
          rw [ih f (by omega) _ (by omega)]
          rcases Nat.lt_or_ge t.length (f + 1) with h6 | h6
          · rw [ih t.length h6 _ h5]
          · omega
        · rw [if_neg h2, if_neg h2]
theorem jIn_nil : jIn [] = ⟨[], 0, 1⟩ := rfl
theorem jIn_cons (c : UInt8) (t : List UInt8) : jIn (c :: t) = if c.toNat = 34 then ⟨[], 1, 0⟩ else if (jPart (c :: t)).e = 0 then (jPart (c :: t)).and (jIn ((c :: t).drop (jPart (c :: t)).k)) else ⟨[], 0, (jPart (c :: t)).e⟩ := by
  show jGo (t.length + 1) (c :: t) = _
  simp only [jGo]
  by_cases h1 : c.toNat = 34
  · rw [if_pos h1, if_pos h1]
  · rw [if_neg h1, if_neg h1]
    by_cases h2 : (jPart (c :: t)).e = 0
    · rw [if_pos h2, if_pos h2]
      obtain ⟨_, _, h3, h4⟩ := jPart_fine h2
      have h5 : ((c :: t).drop (jPart (c :: t)).k).length ≤ t.length := by rw [List.length_drop]; simp; omega
      rw [jGo_more t.length _ h5]; rfl
    · rw [if_neg h2, if_neg h2]
theorem JT.and_e (p r : JT) : (p.and r).e = r.e := by
  unfold JT.and
  by_cases h : r.e = 0
  · rw [if_pos h, h]
  · rw [if_neg h]
theorem JT.and_yes (p : JT) {r : JT} (h : r.e = 0) : p.and r = ⟨p.t ++ r.t, p.k + r.k, 0⟩ := if_pos h
theorem JT.and_no (p : JT) {r : JT} (h : ¬ r.e = 0) : p.and r = ⟨[], 0, r.e⟩ := if_neg h
theorem JT.and_and (p q r : JT) (h : q.e = 0) : (p.and q).and r = p.and (q.and r) := by
  by_cases h1 : r.e = 0
  · rw [JT.and_yes _ h1, JT.and_yes _ h1, JT.and_yes p h, JT.and_yes p rfl]
    simp [Nat.add_assoc]
  · rw [JT.and_no _ h1, JT.and_no _ h1, JT.and_no p (by exact h1)]
theorem jIn_no {l : List UInt8} (h : ¬ (jIn l).e = 0) : jIn l = ⟨[], 0, (jIn l).e⟩ := by
  match l, h with
  | [], _ => rfl
  | c :: t, h =>
    rw [jIn_cons] at h ⊢
    by_cases h1 : c.toNat = 34
    · rw [if_pos h1] at h; simp at h
    · rw [if_neg h1] at h ⊢
      by_cases h2 : (jPart (c :: t)).e = 0
      · rw [if_pos h2] at h ⊢
        rw [JT.and_e] at h ⊢
        exact JT.and_no _ h
      · rw [if_neg h2]
theorem nil_and (l : List UInt8) : (⟨[], 0, 0⟩ : JT).and (jIn l) = jIn l := by
  by_cases h : (jIn l).e = 0
  · rw [JT.and_yes _ h]
    generalize jIn l = r at *
    obtain ⟨t, k, e⟩ := r
    simp only at h
    subst h
    simp
  · rw [JT.and_no _ h, ← jIn_no h]
theorem jIn_quote (c : UInt8) (t : List UInt8) (h : c.toNat = 34) : jIn (c :: t) = ⟨[], 1, 0⟩ := by rw [jIn_cons, if_pos h]
theorem jIn_low (c : UInt8) (t : List UInt8) (h : c.toNat < 32) : jIn (c :: t) = ⟨[], 0, 3⟩ := by
  have e : jPart (c :: t) = ⟨[], 0, 3⟩ := by simp only [jPart]; rw [if_neg (by omega), if_pos h]
  rw [jIn_cons, if_neg (by omega), e]; rfl
theorem jIn_esc (c : UInt8) (t : List UInt8) (h : c.toNat = 92) : jIn (c :: t) = if (jEsc t).e = 0 then (⟨uB (jEsc t).r, (jEsc t).k + 1, 0⟩ : JT).and (jIn (t.drop (jEsc t).k)) else ⟨[], 0, (jEsc t).e⟩ := by
  rw [jIn_cons, if_neg (by omega)]
  by_cases h1 : (jEsc t).e = 0
  · have e : jPart (c :: t) = ⟨uB (jEsc t).r, (jEsc t).k + 1, 0⟩ := by simp only [jPart]; rw [if_pos h, if_pos h1]
    rw [e, if_pos rfl, if_pos h1, List.drop_succ_cons]
  · have e : jPart (c :: t) = ⟨[], 0, (jEsc t).e⟩ := by simp only [jPart]; rw [if_pos h, if_neg h1]
    rw [e, if_neg h1, if_neg h1]
/-- A byte that stands for itself, or is one of such a character's. -/
def jPl (b : UInt8) : Bool := decide (32 ≤ b.toNat ∧ b.toNat ≠ 34 ∧ b.toNat ≠ 92)
theorem jPl_iff {b : UInt8} : jPl b = true ↔ 32 ≤ b.toNat ∧ b.toNat ≠ 34 ∧ b.toNat ≠ 92 := decide_eq_true_iff
theorem jIn_plain (c : UInt8) (t : List UInt8) (h : jPl c = true) : jIn (c :: t) = if (uDec (c :: t)).2 = 0 then ⟨[], 0, 5⟩ else (⟨(c :: t).take (uDec (c :: t)).2, (uDec (c :: t)).2, 0⟩ : JT).and (jIn ((c :: t).drop (uDec (c :: t)).2)) := by
  obtain ⟨h1, h2, h3⟩ := jPl_iff.mp h
  rw [jIn_cons, if_neg h2]
  by_cases h4 : (uDec (c :: t)).2 = 0
  · have e : jPart (c :: t) = ⟨[], 0, 5⟩ := by simp only [jPart]; rw [if_neg h3, if_neg (by omega), if_pos h4]
    rw [e, if_pos h4]; rfl
  · have e : jPart (c :: t) = ⟨(c :: t).take (uDec (c :: t)).2, (uDec (c :: t)).2, 0⟩ := by simp only [jPart]; rw [if_neg h3, if_neg (by omega), if_neg h4]
    rw [e, if_pos rfl, if_neg h4]
end Go.Proofs.YteakcfgjjlocjaaDoor
