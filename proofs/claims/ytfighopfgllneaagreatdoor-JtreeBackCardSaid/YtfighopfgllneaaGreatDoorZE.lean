/- Several texts in one (JsOk, JsNum, JsRun, JsCur, JsHex, JsEsc): each begins with its own words. -/
import Derived.Test.YtfighopfgllneaaGreatDoorZD
import Derived.Test.YtfighopfgllneaaGreatDoorZC
import Derived.Test.YtfighopfgllneaaGreatDoorZB
/- Right bytes as a list: characters' bytes, one behind the other. Of no program. -/
namespace Go.Proofs.YtfighopfgllneaaGreatDoor
open Go Go.RowKit
set_option linter.unusedVariables false

/-- Characters' bytes, one behind the other. -/
inductive UOk : List UInt8 → Prop
  | nil : UOk []
  | step (r : Nat) (t : List UInt8) (h : uIs r = true) (ht : UOk t) : UOk (uB r ++ t)
theorem UOk.dec {l : List UInt8} (h : UOk l) (hn : l ≠ []) : 0 < (uDec l).2 ∧ UOk (l.drop (uDec l).2) := by
  cases h with
  | nil => exact absurd rfl hn
  | step r t h ht =>
    rw [dec_put t h]
    exact ⟨(uB_pos r).1, by rw [List.drop_left]; exact ht⟩
theorem UOk.of_dec {l : List UInt8} (h : 0 < (uDec l).2) (ht : UOk (l.drop (uDec l).2)) : UOk l := by
  obtain ⟨h1, h2, h3⟩ := dec_inv h
  have := UOk.step _ _ h1 ht
  rwa [← h2] at this
theorem uOk_some {s : ByteArray} (h : uOk s) (h0 : 0 < s.size) : 0 < (dAt s 0).2 := by
  rcases Nat.eq_zero_or_pos (dAt s 0).2 with e | e
  · have := wk_of (WPre.zero s s.size) (.inl e)
    unfold uOk at h
    rw [this] at h
    simp at h; omega
  · exact e
theorem uOk_back {s : ByteArray} (h : uOk s) (h0 : 0 < s.size) : uOk (s.extract (dAt s 0).2 s.size) := by
  have hk := uOk_some h h0
  have hle := dAt_le hk
  have hd := back_toList s (dAt s 0).2
  obtain ⟨c, _, h1, _⟩ := ok_places (s := s) (t := s) (m := s.size) (by rw [List.take_of_length_le (by rw [toList_size]; exact Nat.le_refl _)]) (Nat.le_refl _) h
  have hz : uP s 1 = (dAt s 0).2 := by rw [uP_step]; show 0 + (dAt s (uP s 0)).2 = _; rw [Nat.zero_add]; rfl
  generalize (dAt s 0).2 = k at *
  generalize hs' : s.extract k s.size = s' at *
  have hsz : s'.size = s.size - k := by
    have := congrArg List.length hd
    rw [toList_size, List.length_drop, toList_size] at this; exact this
  have hsh : ∀ e, dAt s' e = dAt s (k + e) := by
    intro e; unfold dAt; rw [hd, List.drop_drop]
  have key : ∀ j, uP s (1 + j) = k + uP s' j := by
    intro j
    induction j with
    | zero => rw [Nat.add_zero, hz]; rfl
    | succ j ih => rw [← Nat.add_assoc, uP_step, ih, uP_step, hsh]; omega
  have hc : c ≠ 0 := fun e => by
    rw [e] at h1
    have : uP s 0 = 0 := rfl
    omega
  obtain ⟨j, rfl⟩ : ∃ j, c = 1 + j := ⟨c - 1, by omega⟩
  rw [key j] at h1
  exact places_ok (s := s') (t := s') (m := s'.size) (c := j) (by rw [List.take_of_length_le (by rw [toList_size]; exact Nat.le_refl _)]) (Nat.le_refl _) (by omega)
theorem uOk_char {r : Nat} (h : uIs r = true) : uOk (bA (uB r)) := by
  have hd : dAt (bA (uB r)) 0 = (r, (uB r).length) := by
    unfold dAt
    have := dec_put [] h
    rw [List.append_nil] at this
    exact this
  have hp := (uB_pos r).1
  have hsz := bA_size (uB r)
  have h1 : WPre (bA (uB r)) (bA (uB r)).size (0 + (dAt (bA (uB r)) 0).2) (0 + 1) := by
    refine (WPre.zero _ _).step (fun h2 => ?_)
    rcases h2 with e | e
    · rw [hd] at e; exact absurd (show (uB r).length = 0 from e) (by omega)
    · rw [hd, hsz] at e; simp at e
  rw [hd] at h1
  have := wk_of h1 (.inl (by rw [dAt_out (by rw [hsz]; simp)]))
  unfold uOk
  rw [this, hsz]; simp
theorem uOk_list : ∀ {l : List UInt8}, UOk l → uOk (bA l)
  | _, .nil => by decide +kernel
  | _, .step r t h ht => by
    rw [← bA_append]
    exact (join_ok (uOk_char h) (uOk_list ht)).1
theorem list_uOk : ∀ (n : Nat) (s : ByteArray), s.size = n → uOk s → UOk s.data.toList := by
  intro n
  induction n using Nat.strongRecOn with
  | _ n ih =>
    intro s hn h
    rcases Nat.eq_zero_or_pos s.size with h0 | h0
    · have : s.data.toList = [] := List.eq_nil_of_length_eq_zero (by rw [toList_size]; exact h0)
      rw [this]; exact .nil
    · have hk := uOk_some h h0
      have hle := dAt_le hk
      have hb := uOk_back h h0
      have hd := back_toList s (dAt s 0).2
      have hsz : (s.extract (dAt s 0).2 s.size).size = s.size - (dAt s 0).2 := by
        have := congrArg List.length hd
        rw [toList_size, List.length_drop, toList_size] at this; exact this
      have := ih _ (by omega) _ hsz hb
      rw [hd] at this
      exact UOk.of_dec hk this
theorem uOk_iff (s : ByteArray) : uOk s ↔ UOk s.data.toList :=
  ⟨list_uOk _ s rfl, fun h => by have := uOk_list h; rwa [bA_of] at this⟩
theorem uOk_bA (l : List UInt8) : uOk (bA l) ↔ UOk l := uOk_iff (bA l)
end Go.Proofs.YtfighopfgllneaaGreatDoor
/- JSON's texts over bytes: for what each part stands, what is read from a place on, what is written; what is written is read back. Of no program. -/
namespace Go.Proofs.YtfighopfgllneaaGreatDoor
open Go Go.RowKit
set_option linter.unusedVariables false

/-- A part's character, how many bytes it takes, what is wrong. -/
structure JA where
  r : Nat
  k : Nat
  e : Int
/-- The bytes for which some bytes stand, how many these are, what is wrong. -/
structure JT where
  t : List UInt8
  k : Nat
  e : Int
def jLow (c : Nat) : Nat := if 65 ≤ c ∧ c ≤ 70 then c + 32 else c
/-- The next digits' number. -/
def jDg : Nat → Nat → List UInt8 → Nat × Int
  | 0, n, _ => (n, 0)
  | _ + 1, _, [] => (0, 1)
  | k + 1, n, c :: t => if nibIs (jLow c.toNat) = true then jDg k (16 * n + nibV (jLow c.toNat)) t else (0, 6)
/-- The second one of a pair, whose first one is n. -/
def jPair (n : Nat) : List UInt8 → JA
  | [] => ⟨0, 0, 1⟩
  | a :: t => if a.toNat = 92 then
      (match t with
      | [] => ⟨0, 0, 1⟩
      | b :: u => if b.toNat = 117 then
          (if (jDg 4 0 u).2 = 0 then (if (jDg 4 0 u).1 < 56320 ∨ 57343 < (jDg 4 0 u).1 then ⟨0, 0, 6⟩ else ⟨65536 + 1024 * (n - 55296) + ((jDg 4 0 u).1 - 56320), 6, 0⟩) else ⟨0, 0, (jDg 4 0 u).2⟩)
        else ⟨0, 0, 6⟩)
    else ⟨0, 0, 6⟩
def jSim (c : Nat) : Nat := if c = 34 then 34 else if c = 92 then 92 else if c = 47 then 47 else if c = 98 then 8 else if c = 102 then 12 else if c = 110 then 10 else if c = 114 then 13 else if c = 116 then 9 else 0
/-- What stands behind four digits. -/
def jNum (t : List UInt8) : JA :=
  if (jDg 4 0 t).2 = 0 then
    (if uIs (jDg 4 0 t).1 = true then ⟨(jDg 4 0 t).1, 4, 0⟩
    else if 56320 ≤ (jDg 4 0 t).1 then ⟨0, 0, 6⟩
    else if (jPair (jDg 4 0 t).1 (t.drop 4)).e = 0 then ⟨(jPair (jDg 4 0 t).1 (t.drop 4)).r, (jPair (jDg 4 0 t).1 (t.drop 4)).k + 4, 0⟩ else ⟨0, 0, (jPair (jDg 4 0 t).1 (t.drop 4)).e⟩)
  else ⟨0, 0, (jDg 4 0 t).2⟩
/-- What stands behind a backslash. -/
def jEsc : List UInt8 → JA
  | [] => ⟨0, 0, 1⟩
  | b :: t => if b.toNat = 117 then (if (jNum t).e = 0 then ⟨(jNum t).r, (jNum t).k + 1, 0⟩ else ⟨0, 0, (jNum t).e⟩)
    else if jSim b.toNat = 0 then ⟨0, 0, 6⟩ else ⟨jSim b.toNat, 1, 0⟩
def jPart : List UInt8 → JT
  | [] => ⟨[], 0, 1⟩
  | c :: t => if c.toNat = 92 then (if (jEsc t).e = 0 then ⟨uB (jEsc t).r, (jEsc t).k + 1, 0⟩ else ⟨[], 0, (jEsc t).e⟩)
    else if c.toNat < 32 then ⟨[], 0, 3⟩
    else if (uDec (c :: t)).2 = 0 then ⟨[], 0, 5⟩ else ⟨(c :: t).take (uDec (c :: t)).2, (uDec (c :: t)).2, 0⟩
def JT.and (p r : JT) : JT := if r.e = 0 then ⟨p.t ++ r.t, p.k + r.k, 0⟩ else ⟨[], 0, r.e⟩
def jGo : Nat → List UInt8 → JT
  | 0, _ => ⟨[], 0, 1⟩
  | _ + 1, [] => ⟨[], 0, 1⟩
  | f + 1, c :: t => if c.toNat = 34 then ⟨[], 1, 0⟩ else if (jPart (c :: t)).e = 0 then (jPart (c :: t)).and (jGo f ((c :: t).drop (jPart (c :: t)).k)) else ⟨[], 0, (jPart (c :: t)).e⟩
/-- What is read behind the first quote. -/
def jIn (l : List UInt8) : JT := jGo l.length l

theorem jDg_len : ∀ (k n : Nat) (l : List UInt8), (jDg k n l).2 = 0 → k ≤ l.length
  | 0, _, _, _ => Nat.zero_le _
  | k + 1, _, [], h => by simp [jDg] at h
  | k + 1, n, c :: t, h => by
    simp only [jDg] at h
    split at h
    · have := jDg_len k _ t h
      simp; omega
    · simp at h
theorem jDg_lt : ∀ (k n : Nat) (l : List UInt8), (jDg k n l).2 = 0 → (jDg k n l).1 < 16 ^ k * (n + 1)
  | 0, _, _, _ => by simp [jDg]
  | k + 1, _, [], h => by simp [jDg] at h
  | k + 1, n, c :: t, h => by
    simp only [jDg] at h ⊢
    split at h
    · rename_i hn
      rw [if_pos hn]
      have h1 := jDg_lt k _ t h
      have h2 := nibV_lt (jLow c.toNat)
      have h3 : 16 ^ k * (16 * n + nibV (jLow c.toNat) + 1) ≤ 16 ^ k * (16 * (n + 1)) := Nat.mul_le_mul_left _ (by omega)
      have h4 : 16 ^ (k + 1) * (n + 1) = 16 ^ k * (16 * (n + 1)) := by rw [Nat.pow_succ, Nat.mul_assoc]
      omega
    · simp at h
theorem jDg_no : ∀ (k n : Nat) (l : List UInt8), (jDg k n l).2 ≠ 0 → (jDg k n l).1 = 0
  | 0, _, _, h => by simp [jDg] at h
  | k + 1, _, [], h => rfl
  | k + 1, n, c :: t, h => by
    simp only [jDg] at h ⊢
    split
    · rename_i hn
      rw [if_pos hn] at h
      exact jDg_no k _ t h
    · rfl
theorem jDg_more : ∀ (k n : Nat) (l m : List UInt8), k ≤ l.length → jDg k n (l ++ m) = jDg k n l
  | 0, _, _, _, _ => rfl
  | k + 1, _, [], _, h => by simp at h
  | k + 1, n, c :: t, m, h => by
    simp only [List.cons_append, jDg]
    rw [jDg_more k _ t m (by simpa using h)]
theorem jDg4_lt (l : List UInt8) : (jDg 4 0 l).1 < 65536 := by
  by_cases h : (jDg 4 0 l).2 = 0
  · have := jDg_lt 4 0 l h; simpa using this
  · rw [jDg_no 4 0 l h]; omega

theorem jPair_fine {n : Nat} {l : List UInt8} (h : (jPair n l).e = 0) (hn : 55296 ≤ n) (hn2 : n ≤ 56319) : (jPair n l).k = 6 ∧ 6 ≤ l.length ∧ 65536 ≤ (jPair n l).r ∧ (jPair n l).r ≤ 1114111 := by
  match l, h with
  | [], h => simp [jPair] at h
  | [a], h =>
    simp only [jPair] at h
    split at h <;> simp at h
  | a :: b :: u, h =>
    simp only [jPair] at h ⊢
    by_cases h1 : a.toNat = 92
    · rw [if_pos h1] at h ⊢
      by_cases h2 : b.toNat = 117
      · rw [if_pos h2] at h ⊢
        by_cases h3 : (jDg 4 0 u).2 = 0
        · rw [if_pos h3] at h ⊢
          have hl := jDg_len 4 0 u h3
          have hm := jDg4_lt u
          by_cases h4 : (jDg 4 0 u).1 < 56320 ∨ 57343 < (jDg 4 0 u).1
          · rw [if_pos h4] at h; simp at h
          · rw [if_neg h4]
            refine ⟨rfl, by simp; omega, ?_, ?_⟩
            · simp only; omega
            · simp only; omega
        · rw [if_neg h3] at h; exact absurd h h3
      · rw [if_neg h2] at h; simp at h
    · rw [if_neg h1] at h; simp at h
theorem jNum_fine {l : List UInt8} (h : (jNum l).e = 0) : uIs (jNum l).r = true ∧ 4 ≤ (jNum l).k ∧ (jNum l).k ≤ l.length := by
  unfold jNum at h ⊢
  have hm := jDg4_lt l
  by_cases h1 : (jDg 4 0 l).2 = 0
  · rw [if_pos h1] at h ⊢
    have hl := jDg_len 4 0 l h1
    by_cases h2 : uIs (jDg 4 0 l).1 = true
    · rw [if_pos h2]; exact ⟨h2, Nat.le_refl _, hl⟩
    · rw [if_neg h2] at h ⊢
      by_cases h3 : 56320 ≤ (jDg 4 0 l).1
      · rw [if_pos h3] at h; simp at h
      · rw [if_neg h3] at h ⊢
        have h2' := uIs_no.mp (by simpa using h2)
        by_cases h4 : (jPair (jDg 4 0 l).1 (l.drop 4)).e = 0
        · rw [if_pos h4]
          obtain ⟨e1, e2, e3, e4⟩ := jPair_fine h4 (by omega) (by omega)
          rw [List.length_drop] at e2
          exact ⟨uIs_iff.mpr (by simp only; omega), by simp only; omega, by simp only; omega⟩
        · rw [if_neg h4] at h; exact absurd h h4
  · rw [if_neg h1] at h; exact absurd h h1
theorem jSim_lt (c : Nat) : jSim c < 128 := by
  unfold jSim
  repeat' split
  all_goals omega
theorem uB_small {r : Nat} (h : r < 128) : uB r = [b8 r] := by unfold uB; rw [if_pos h]
theorem jEsc_fine {l : List UInt8} (h : (jEsc l).e = 0) : uIs (jEsc l).r = true ∧ (uB (jEsc l).r).length ≤ (jEsc l).k ∧ 0 < (jEsc l).k ∧ (jEsc l).k ≤ l.length := by
  match l, h with
  | [], h => simp [jEsc] at h
  | b :: t, h =>
    simp only [jEsc] at h ⊢
    by_cases h1 : b.toNat = 117
    · rw [if_pos h1] at h ⊢
      by_cases h2 : (jNum t).e = 0
      · rw [if_pos h2]
        obtain ⟨e1, e2, e3⟩ := jNum_fine h2
        have := (uB_pos (jNum t).r).2
        exact ⟨e1, by simp only; omega, by simp, by simp; omega⟩
      · rw [if_neg h2] at h; exact absurd h h2
    · rw [if_neg h1] at h ⊢
      by_cases h2 : jSim b.toNat = 0
      · rw [if_pos h2] at h; simp at h
      · rw [if_neg h2]
        have h3 := jSim_lt b.toNat
        refine ⟨uIs_iff.mpr (by simp only; omega), ?_, by simp, by simp⟩
        simp only [uB_small h3]; simp
theorem jPart_fine {l : List UInt8} (h : (jPart l).e = 0) : (∃ r : Nat, uIs r = true ∧ (jPart l).t = uB r) ∧ (jPart l).t.length ≤ (jPart l).k ∧ 0 < (jPart l).k ∧ (jPart l).k ≤ l.length := by
  match l, h with
  | [], h => simp [jPart] at h
  | c :: t, h =>
    simp only [jPart] at h ⊢
    by_cases h1 : c.toNat = 92
    · rw [if_pos h1] at h ⊢
      by_cases h2 : (jEsc t).e = 0
      · rw [if_pos h2]
        obtain ⟨e1, e2, e3, e4⟩ := jEsc_fine h2
        exact ⟨⟨_, e1, rfl⟩, by simp only; omega, by simp, by simp; omega⟩
      · rw [if_neg h2] at h; exact absurd h h2
    · rw [if_neg h1] at h ⊢
      by_cases h2 : c.toNat < 32
      · rw [if_pos h2] at h; simp at h
      · rw [if_neg h2] at h ⊢
        by_cases h3 : (uDec (c :: t)).2 = 0
        · rw [if_pos h3] at h; simp at h
        · rw [if_neg h3]
          obtain ⟨e1, e2, e3⟩ := dec_inv (l := c :: t) (by omega)
          have ht : (c :: t).take (uDec (c :: t)).2 = uB (uDec (c :: t)).1 := by
            have : (c :: t).take (uDec (c :: t)).2 = (uB (uDec (c :: t)).1 ++ (c :: t).drop (uDec (c :: t)).2).take (uDec (c :: t)).2 := congrArg (List.take _) e2
            rw [this, e3, List.take_left']
            rfl
          have hl := congrArg List.length e2
          rw [List.length_append, ← e3] at hl
          refine ⟨⟨_, e1, ht⟩, by simp only; rw [ht, e3]; exact Nat.le_refl _, by simp only; omega, by simp only; omega⟩
theorem jPart_no {l : List UInt8} (h : (jPart l).e ≠ 0) : jPart l = ⟨[], 0, (jPart l).e⟩ := by
  match l, h with
  | [], h => rfl
  | c :: t, h =>
    simp only [jPart] at h ⊢
    by_cases h1 : c.toNat = 92
    · rw [if_pos h1] at h ⊢
      by_cases h2 : (jEsc t).e = 0
      · rw [if_pos h2] at h; exact absurd rfl h
      · rw [if_neg h2]
    · rw [if_neg h1] at h ⊢
      by_cases h2 : c.toNat < 32
      · rw [if_pos h2]
      · rw [if_neg h2] at h ⊢
        by_cases h3 : (uDec (c :: t)).2 = 0
        · rw [if_pos h3]
        · rw [if_neg h3] at h; exact absurd rfl h

theorem jGo_more : ∀ (f : Nat) (l : List UInt8), l.length ≤ f → jGo f l = jGo l.length l := by
  intro f
  induction f using Nat.strongRecOn with
  | _ f ih =>
    intro l hl
    match f, l, hl with
    | 0, [], _ => rfl
    | f + 1, [], _ => rfl
    | f + 1, c :: t, hl =>
      show jGo (f + 1) (c :: t) = jGo (t.length + 1) (c :: t)
      simp only [jGo]
      by_cases h1 : c.toNat = 34
      · rw [if_pos h1, if_pos h1]
      · rw [if_neg h1, if_neg h1]
        by_cases h2 : (jPart (c :: t)).e = 0
        · rw [if_pos h2, if_pos h2]
          obtain ⟨_, _, h3, h4⟩ := jPart_fine h2
          have h5 : ((c :: t).drop (jPart (c :: t)).k).length ≤ t.length := by rw [List.length_drop]; simp; omega
          have hl' : t.length ≤ f := by simpa using hl
          rw [ih f (by omega) _ (by omega)]
          rcases Nat.lt_or_ge t.length (f + 1) with h6 | h6
          · rw [ih t.length h6 _ h5]
          · omega
        · rw [if_neg h2, if_neg h2]
theorem jIn_nil : jIn [] = ⟨[], 0, 1⟩ := rfl
theorem jIn_cons (c : UInt8) (t : List UInt8) : jIn (c :: t) = if c.toNat = 34 then ⟨[], 1, 0⟩ else if (jPart (c :: t)).e = 0 then (jPart (c :: t)).and (jIn ((c :: t).drop (jPart (c :: t)).k)) else ⟨[], 0, (jPart (c :: t)).e⟩ := by
  show jGo (t.length + 1) (c :: t) = _
  simp only [jGo]
  by_cases h1 : c.toNat = 34
  · rw [if_pos h1, if_pos h1]
  · rw [if_neg h1, if_neg h1]
    by_cases h2 : (jPart (c :: t)).e = 0
    · rw [if_pos h2, if_pos h2]
      obtain ⟨_, _, h3, h4⟩ := jPart_fine h2
      have h5 : ((c :: t).drop (jPart (c :: t)).k).length ≤ t.length := by rw [List.length_drop]; simp; omega
      rw [jGo_more t.length _ h5]; rfl
    · rw [if_neg h2, if_neg h2]
theorem JT.and_e (p r : JT) : (p.and r).e = r.e := by
  unfold JT.and
  by_cases h : r.e = 0
  · rw [if_pos h, h]
  · rw [if_neg h]
theorem JT.and_yes (p : JT) {r : JT} (h : r.e = 0) : p.and r = ⟨p.t ++ r.t, p.k + r.k, 0⟩ := if_pos h
theorem JT.and_no (p : JT) {r : JT} (h : ¬ r.e = 0) : p.and r = ⟨[], 0, r.e⟩ := if_neg h
theorem JT.and_and (p q r : JT) (h : q.e = 0) : (p.and q).and r = p.and (q.and r) := by
  by_cases h1 : r.e = 0
  · rw [JT.and_yes _ h1, JT.and_yes _ h1, JT.and_yes p h, JT.and_yes p rfl]
    simp [Nat.add_assoc]
  · rw [JT.and_no _ h1, JT.and_no _ h1, JT.and_no p (by exact h1)]
theorem jIn_no {l : List UInt8} (h : ¬ (jIn l).e = 0) : jIn l = ⟨[], 0, (jIn l).e⟩ := by
  match l, h with
  | [], _ => rfl
  | c :: t, h =>
    rw [jIn_cons] at h ⊢
    by_cases h1 : c.toNat = 34
    · rw [if_pos h1] at h; simp at h
    · rw [if_neg h1] at h ⊢
      by_cases h2 : (jPart (c :: t)).e = 0
      · rw [if_pos h2] at h ⊢
        rw [JT.and_e] at h ⊢
        exact JT.and_no _ h
      · rw [if_neg h2]
theorem nil_and (l : List UInt8) : (⟨[], 0, 0⟩ : JT).and (jIn l) = jIn l := by
  by_cases h : (jIn l).e = 0
  · rw [JT.and_yes _ h]
    generalize jIn l = r at *
    obtain ⟨t, k, e⟩ := r
    simp only at h
    subst h
    simp
  · rw [JT.and_no _ h, ← jIn_no h]
theorem jIn_quote (c : UInt8) (t : List UInt8) (h : c.toNat = 34) : jIn (c :: t) = ⟨[], 1, 0⟩ := by rw [jIn_cons, if_pos h]
theorem jIn_low (c : UInt8) (t : List UInt8) (h : c.toNat < 32) : jIn (c :: t) = ⟨[], 0, 3⟩ := by
  have e : jPart (c :: t) = ⟨[], 0, 3⟩ := by simp only [jPart]; rw [if_neg (by omega), if_pos h]
  rw [jIn_cons, if_neg (by omega), e]; rfl
theorem jIn_esc (c : UInt8) (t : List UInt8) (h : c.toNat = 92) : jIn (c :: t) = if (jEsc t).e = 0 then (⟨uB (jEsc t).r, (jEsc t).k + 1, 0⟩ : JT).and (jIn (t.drop (jEsc t).k)) else ⟨[], 0, (jEsc t).e⟩ := by
  rw [jIn_cons, if_neg (by omega)]
  by_cases h1 : (jEsc t).e = 0
  · have e : jPart (c :: t) = ⟨uB (jEsc t).r, (jEsc t).k + 1, 0⟩ := by simp only [jPart]; rw [if_pos h, if_pos h1]
    rw [e, if_pos rfl, if_pos h1, List.drop_succ_cons]
  · have e : jPart (c :: t) = ⟨[], 0, (jEsc t).e⟩ := by simp only [jPart]; rw [if_pos h, if_neg h1]
    rw [e, if_neg h1, if_neg h1]
/-- A byte that stands for itself, or is one of such a character's. -/
def jPl (b : UInt8) : Bool := decide (32 ≤ b.toNat ∧ b.toNat ≠ 34 ∧ b.toNat ≠ 92)
theorem jPl_iff {b : UInt8} : jPl b = true ↔ 32 ≤ b.toNat ∧ b.toNat ≠ 34 ∧ b.toNat ≠ 92 := decide_eq_true_iff
theorem jIn_plain (c : UInt8) (t : List UInt8) (h : jPl c = true) : jIn (c :: t) = if (uDec (c :: t)).2 = 0 then ⟨[], 0, 5⟩ else (⟨(c :: t).take (uDec (c :: t)).2, (uDec (c :: t)).2, 0⟩ : JT).and (jIn ((c :: t).drop (uDec (c :: t)).2)) := by
  obtain ⟨h1, h2, h3⟩ := jPl_iff.mp h
  rw [jIn_cons, if_neg h2]
  by_cases h4 : (uDec (c :: t)).2 = 0
  · have e : jPart (c :: t) = ⟨[], 0, 5⟩ := by simp only [jPart]; rw [if_neg h3, if_neg (by omega), if_pos h4]
    rw [e, if_pos h4]; rfl
  · have e : jPart (c :: t) = ⟨(c :: t).take (uDec (c :: t)).2, (uDec (c :: t)).2, 0⟩ := by simp only [jPart]; rw [if_neg h3, if_neg (by omega), if_neg h4]
    rw [e, if_pos rfl, if_neg h4]
end Go.Proofs.YtfighopfgllneaaGreatDoor
/- JSON's texts over bytes, on: a run of bytes that stand for themselves; what is read is right; what is written, and that it is read back. Of no program. -/
namespace Go.Proofs.YtfighopfgllneaaGreatDoor
open Go Go.RowKit
set_option linter.unusedVariables false

theorem JT.eq {t t' : List UInt8} {k k' : Nat} {e : Int} (h : t = t') (h2 : k = k') : (⟨t, k, e⟩ : JT) = ⟨t', k', e⟩ := by rw [h, h2]
/-- A character's bytes behind the first one are all from 128 on; so is the first one, from character 128 on. -/
theorem uB_high {r : Nat} (h : uIs r = true) : ∀ j (hj : j < (uB r).length), 1 ≤ j ∨ 128 ≤ r → 128 ≤ ((uB r)[j]'hj).toNat := by
  have hr := (uIs_iff.mp h).2.1
  unfold uB
  by_cases h1 : r < 128
  · rw [if_pos h1]; intro j hj h2; simp at hj; omega
  · rw [if_neg h1]
    by_cases h2 : r < 2048
    · rw [if_pos h2]
      intro j hj _
      match j, hj with
      | 0, _ => simp only [List.getElem_cons_zero]; rw [b8_toNat (by omega)]; omega
      | 1, _ => simp only [List.getElem_cons_succ, List.getElem_cons_zero]; rw [b8_toNat (by omega)]; omega
    · rw [if_neg h2]
      by_cases h3 : r < 65536
      · rw [if_pos h3]
        intro j hj _
        match j, hj with
        | 0, _ => simp only [List.getElem_cons_zero]; rw [b8_toNat (by omega)]; omega
        | 1, _ => simp only [List.getElem_cons_succ, List.getElem_cons_zero]; rw [b8_toNat (by omega)]; omega
        | 2, _ => simp only [List.getElem_cons_succ, List.getElem_cons_zero]; rw [b8_toNat (by omega)]; omega
      · rw [if_neg h3]
        intro j hj _
        match j, hj with
        | 0, _ => simp only [List.getElem_cons_zero]; rw [b8_toNat (by omega)]; omega
        | 1, _ => simp only [List.getElem_cons_succ, List.getElem_cons_zero]; rw [b8_toNat (by omega)]; omega
        | 2, _ => simp only [List.getElem_cons_succ, List.getElem_cons_zero]; rw [b8_toNat (by omega)]; omega
        | 3, _ => simp only [List.getElem_cons_succ, List.getElem_cons_zero]; rw [b8_toNat (by omega)]; omega
/-- Where a character begins in plain bytes with something else behind them, it ends within them. -/
theorem run_dec {R X : List UInt8} (hn : R ≠ []) (hX : ∀ b t, X = b :: t → jPl b = false) (h : 0 < (uDec (R ++ X)).2) : (uDec (R ++ X)).2 ≤ R.length ∧ uDec R = uDec (R ++ X) := by
  obtain ⟨h1, h2, h3⟩ := dec_inv h
  have hle : (uDec (R ++ X)).2 ≤ R.length := by
    rcases Nat.lt_or_ge R.length (uDec (R ++ X)).2 with hlt | hge
    · exfalso
      have hl := congrArg List.length h2
      rw [List.length_append, List.length_append, ← h3] at hl
      match X, hX with
      | [], _ => simp only [List.length_nil] at hl; omega
      | b :: t, hX =>
        have hb := hX b t rfl
        have hR : 1 ≤ R.length := by
          rcases Nat.eq_zero_or_pos R.length with e | e
          · exact absurd (List.eq_nil_of_length_eq_zero e) hn
          · exact e
        have hj : R.length < (uB (uDec (R ++ b :: t)).1).length := by omega
        have hg := uB_high h1 R.length hj (.inl hR)
        have he : (R ++ b :: t)[R.length]? = some b := by simp
        have he2 : (R ++ b :: t)[R.length]? = some ((uB (uDec (R ++ b :: t)).1)[R.length]'hj) := by
          have : (R ++ b :: t)[R.length]? = (uB (uDec (R ++ b :: t)).1 ++ (R ++ b :: t).drop (uDec (R ++ b :: t)).2)[R.length]? := congrArg (fun l => l[R.length]?) h2
          rw [this, List.getElem?_append_left hj, List.getElem?_eq_getElem hj]
        rw [he] at he2
        have hbe := Option.some.inj he2
        rw [← hbe] at hg
        have : jPl b = true := jPl_iff.mpr (by omega)
        rw [this] at hb
        cases hb
    · exact hge
  refine ⟨hle, dec_loc h ?_⟩
  rw [List.take_append_of_le_length hle]
theorem run_none {R X : List UInt8} (h : 0 < (uDec R).2) : uDec (R ++ X) = uDec R := by
  obtain ⟨h1, h2, h3⟩ := dec_inv h
  have hl := congrArg List.length h2
  rw [List.length_append, ← h3] at hl
  refine dec_loc h ?_
  rw [List.take_append_of_le_length (by omega)]
/-- A run of plain bytes, up to something else. -/
theorem jIn_run : ∀ (n : Nat) (R X : List UInt8), R.length = n → (∀ b ∈ R, jPl b = true) → (∀ b t, X = b :: t → jPl b = false) →
    (UOk R → jIn (R ++ X) = (⟨R, R.length, 0⟩ : JT).and (jIn X)) ∧ (¬ UOk R → jIn (R ++ X) = ⟨[], 0, 5⟩) := by
  intro n
  induction n using Nat.strongRecOn with
  | _ n ih =>
    intro R X hn hR hX
    match R, hn, hR with
    | [], _, _ => exact ⟨fun _ => (nil_and X).symm, fun h => absurd .nil h⟩
    | c :: R, hn, hR =>
      have hc := hR c (by simp)
      have hp := jIn_plain c (R ++ X) hc
      rw [← List.cons_append] at hp
      by_cases h0 : (uDec (c :: R ++ X)).2 = 0
      · rw [if_pos h0] at hp
        refine ⟨fun hu => ?_, fun _ => hp⟩
        obtain ⟨h1, _⟩ := hu.dec (by simp)
        have := run_none (X := X) h1
        rw [this] at h0; omega
      · rw [if_neg h0] at hp
        obtain ⟨hle, he⟩ := run_dec (R := c :: R) (by simp) hX (by omega)
        rw [← he] at hp hle h0
        generalize hk : (uDec (c :: R)).2 = k at *
        rw [List.take_append_of_le_length hle, List.drop_append_of_le_length hle] at hp
        have hd : ((c :: R).drop k).length = n - k := by rw [List.length_drop, hn]
        obtain ⟨i1, i2⟩ := ih (n - k) (by omega) ((c :: R).drop k) X hd (fun b hb => hR b (List.mem_of_mem_drop hb)) hX
        constructor
        · intro hu
          have hu2 := (hu.dec (by simp)).2
          rw [hk] at hu2
          have e2 : (⟨(c :: R).take k, k, 0⟩ : JT).and ⟨(c :: R).drop k, ((c :: R).drop k).length, 0⟩ = ⟨c :: R, (c :: R).length, 0⟩ := by
            rw [JT.and_yes _ rfl]
            exact JT.eq (List.take_append_drop _ _) (by simp only [List.length_drop]; omega)
          rw [hp, i1 hu2, ← JT.and_and _ _ _ rfl, e2]
        · intro hu
          have hu2 : ¬ UOk ((c :: R).drop k) := fun h => hu (UOk.of_dec (by rw [hk]; omega) (by rw [hk]; exact h))
          rw [hp, i2 hu2, JT.and_no _ (by simp)]

/-- What is read: no longer than what it was read of, and right. -/
theorem jIn_fine : ∀ (n : Nat) (l : List UInt8), l.length = n → (jIn l).e = 0 → (jIn l).k ≤ l.length ∧ (jIn l).t.length + 1 ≤ (jIn l).k ∧ UOk (jIn l).t := by
  intro n
  induction n using Nat.strongRecOn with
  | _ n ih =>
    intro l hn h
    match l, hn, h with
    | [], _, h => simp [jIn_nil] at h
    | c :: t, hn, h =>
      rw [jIn_cons] at h ⊢
      by_cases h1 : c.toNat = 34
      · rw [if_pos h1]; exact ⟨by simp, by simp, .nil⟩
      · rw [if_neg h1] at h ⊢
        by_cases h2 : (jPart (c :: t)).e = 0
        · rw [if_pos h2] at h ⊢
          rw [JT.and_e] at h
          obtain ⟨⟨r, hr, ht⟩, e2, e3, e4⟩ := jPart_fine h2
          have hd : ((c :: t).drop (jPart (c :: t)).k).length = n - (jPart (c :: t)).k := by rw [List.length_drop, hn]
          obtain ⟨i1, i2, i3⟩ := ih _ (by omega) _ hd h
          rw [JT.and_yes _ h]
          refine ⟨by simp only; omega, by simp only [List.length_append]; omega, ?_⟩
          simp only
          rw [ht]
          exact .step r _ hr i3
        · rw [if_neg h2] at h; exact absurd h h2

/-- 10.3. -/
def jTb (b : UInt8) : List UInt8 := if b.toNat = 34 ∨ b.toNat = 92 then [92, b] else if b.toNat < 32 then [92, 117, 48, 48, hd (b.toNat / 16), hd (b.toNat % 16)] else [b]
def jT : List UInt8 → List UInt8
  | [] => []
  | b :: t => jTb b ++ jT t
def jText (l : List UInt8) : List UInt8 := 34 :: (jT l ++ [34])
theorem jT_append : ∀ (l m : List UInt8), jT (l ++ m) = jT l ++ jT m
  | [], _ => rfl
  | b :: t, m => by simp only [List.cons_append, jT, jT_append t m, List.append_assoc]
theorem jT_take (l : List UInt8) (k : Nat) (h : k < l.length) : jT (l.take (k + 1)) = jT (l.take k) ++ jTb l[k] := by
  rw [List.take_succ_eq_append_getElem h, jT_append]
  simp [jT]
theorem jTb_len (b : UInt8) : 1 ≤ (jTb b).length ∧ (jTb b).length ≤ 6 := by
  unfold jTb
  split
  · simp
  · split <;> simp
theorem jT_len : ∀ (l : List UInt8), l.length ≤ (jT l).length ∧ (jT l).length ≤ 6 * l.length
  | [] => by simp [jT]
  | b :: t => by
    have h1 := jTb_len b
    have h2 := jT_len t
    simp only [jT, List.length_append, List.length_cons]
    omega
theorem jText_len (l : List UInt8) : (jText l).length = (jT l).length + 2 := by simp [jText]
theorem b8_b (b : UInt8) : b8 b.toNat = b := b8_of b rfl
theorem jTb_plain {b : UInt8} (h : jPl b = true) : jTb b = [b] := by
  obtain ⟨h1, h2, h3⟩ := jPl_iff.mp h
  unfold jTb
  rw [if_neg (by omega), if_neg (by omega)]
theorem jT_plain : ∀ {l : List UInt8}, (∀ b ∈ l, jPl b = true) → jT l = l
  | [], _ => rfl
  | b :: t, h => by
    simp only [jT]
    rw [jTb_plain (h b (by simp)), jT_plain (fun x hx => h x (by simp [hx]))]
    rfl
/-- A character that stands for itself. -/
theorem jIn_char {r : Nat} (h : uIs r = true) (h1 : 32 ≤ r) (h2 : r ≠ 34) (h3 : r ≠ 92) (Y : List UInt8) : (∀ b ∈ uB r, jPl b = true) ∧ jIn (uB r ++ Y) = (⟨uB r, (uB r).length, 0⟩ : JT).and (jIn Y) := by
  have hall : ∀ b ∈ uB r, jPl b = true := by
    intro b hb
    by_cases h4 : r < 128
    · rw [uB_small h4] at hb
      have : b = b8 r := by simpa using hb
      rw [this]
      exact jPl_iff.mpr (by rw [b8_toNat (by omega)]; omega)
    · obtain ⟨j, hj, rfl⟩ := List.getElem_of_mem hb
      have := uB_high h j hj (.inr (by omega))
      exact jPl_iff.mpr (by omega)
  refine ⟨hall, ?_⟩
  have hd := dec_put Y h
  have hp := (uB_pos r).1
  match hu : uB r, hp, hall with
  | c :: t, _, hall =>
    have := jIn_plain c (t ++ Y) (hall c (by simp))
    rw [← List.cons_append, ← hu, hd] at this
    rw [← hu, this, if_neg (by simp only; omega)]
    simp only [List.take_left, List.drop_left]
theorem jEsc_low : ∀ (r : Fin 32) (Y : List UInt8), jEsc ([117, 48, 48, hd (r.val / 16), hd (r.val % 16)] ++ Y) = ⟨r.val, 5, 0⟩ := by
  intro r Y
  have h4 : jDg 4 0 ([48, 48, hd (r.val / 16), hd (r.val % 16)] ++ Y) = (r.val, 0) := by
    rw [jDg_more _ _ _ _ (by simp)]
    have : ∀ r : Fin 32, jDg 4 0 [48, 48, hd (r.val / 16), hd (r.val % 16)] = (r.val, 0) := by decide +kernel
    exact this r
  have hn : jNum ([48, 48, hd (r.val / 16), hd (r.val % 16)] ++ Y) = ⟨r.val, 4, 0⟩ := by
    unfold jNum
    rw [h4, if_pos rfl, if_pos (uIs_iff.mpr (by have := r.isLt; simp only; omega))]
  show jEsc (117 :: ([48, 48, hd (r.val / 16), hd (r.val % 16)] ++ Y)) = _
  simp only [jEsc]
  rw [hn, if_pos (by decide)]; rfl
/-- What was written of a right text is read as it was. -/
theorem jIn_text : ∀ {l : List UInt8}, UOk l → ∀ X, jIn (jT l ++ 34 :: X) = ⟨l, (jT l).length + 1, 0⟩
  | _, .nil, X => by show jIn (34 :: X) = _; rw [jIn_quote _ _ (by decide)]; rfl
  | _, .step r t h ht, X => by
    have ih := jIn_text ht X
    rw [jT_append, List.append_assoc]
    by_cases h1 : 32 ≤ r ∧ r ≠ 34 ∧ r ≠ 92
    · obtain ⟨e1, e2⟩ := jIn_char h h1.1 h1.2.1 h1.2.2 (jT t ++ 34 :: X)
      rw [jT_plain e1, e2, ih, JT.and_yes _ rfl]
      simp [Nat.add_assoc]
    · have hr : r < 128 := by omega
      have hb := b8_toNat (n := r) (by omega)
      rw [uB_small hr]
      by_cases h2 : r = 34 ∨ r = 92
      · have e : jT [b8 r] = [92, b8 r] := by simp only [jT]; unfold jTb; rw [hb, if_pos h2]; rfl
        have es : jEsc (b8 r :: (jT t ++ 34 :: X)) = ⟨r, 1, 0⟩ := by
          simp only [jEsc]
          rw [hb, if_neg (by omega)]
          have : jSim r = r := by rcases h2 with rfl | rfl <;> rfl
          rw [this, if_neg (by omega)]
        rw [e]
        show jIn (92 :: (b8 r :: (jT t ++ 34 :: X))) = _
        rw [jIn_esc _ _ (by decide), es, if_pos rfl, List.drop_succ_cons, List.drop_zero, ih, JT.and_yes _ rfl, uB_small hr]
        exact JT.eq rfl (by simp only [List.length_append, List.length_cons, List.length_nil]; omega)
      · have hlt : r < 32 := by omega
        have e : jT [b8 r] = [92, 117, 48, 48, hd (r / 16), hd (r % 16)] := by simp only [jT]; unfold jTb; rw [hb, if_neg h2, if_pos hlt]; rfl
        have es := jEsc_low ⟨r, hlt⟩ (jT t ++ 34 :: X)
        simp only at es
        rw [e]
        show jIn (92 :: ([117, 48, 48, hd (r / 16), hd (r % 16)] ++ (jT t ++ 34 :: X))) = _
        rw [jIn_esc _ _ (by decide), es, if_pos rfl]
        simp only
        rw [List.drop_left' (by simp), ih, JT.and_yes _ rfl, uB_small hr]
        exact JT.eq rfl (by simp only [List.length_append, List.length_cons, List.length_nil]; omega)
/-- Unlike bytes are written unlike. -/
theorem jTb_one {b c : UInt8} {X Y : List UInt8} (h : jTb b ++ X = jTb c ++ Y) : b = c ∧ X = Y := by
  have hb := b.toNat_lt
  have hc := c.toNat_lt
  have n92 : (92 : UInt8).toNat = 92 := rfl
  have n117 : (117 : UInt8).toNat = 117 := rfl
  unfold jTb at h
  by_cases b1 : b.toNat = 34 ∨ b.toNat = 92
  · rw [if_pos b1] at h
    by_cases c1 : c.toNat = 34 ∨ c.toNat = 92
    · rw [if_pos c1] at h
      simp only [List.cons_append, List.nil_append, List.cons.injEq] at h
      exact ⟨h.2.1, h.2.2⟩
    · rw [if_neg c1] at h
      by_cases c2 : c.toNat < 32
      · rw [if_pos c2] at h
        simp only [List.cons_append, List.nil_append, List.cons.injEq] at h
        have := congrArg UInt8.toNat h.2.1
        rw [n117] at this; omega
      · rw [if_neg c2] at h
        simp only [List.cons_append, List.nil_append, List.cons.injEq] at h
        have := congrArg UInt8.toNat h.1
        rw [n92] at this; omega
  · rw [if_neg b1] at h
    by_cases b2 : b.toNat < 32
    · rw [if_pos b2] at h
      by_cases c1 : c.toNat = 34 ∨ c.toNat = 92
      · rw [if_pos c1] at h
        simp only [List.cons_append, List.nil_append, List.cons.injEq] at h
        have := congrArg UInt8.toNat h.2.1
        rw [n117] at this; omega
      · rw [if_neg c1] at h
        by_cases c2 : c.toNat < 32
        · rw [if_pos c2] at h
          simp only [List.cons_append, List.nil_append, List.cons.injEq, true_and] at h
          have e1 : b.toNat / 16 = c.toNat / 16 := by rw [← hd_eq (by omega) (by omega)]; exact h.1
          have e2 : b.toNat % 16 = c.toNat % 16 := by rw [← hd_eq (by omega) (by omega)]; exact h.2.1
          exact ⟨UInt8.toNat_inj.mp (by omega), h.2.2⟩
        · rw [if_neg c2] at h
          simp only [List.cons_append, List.nil_append, List.cons.injEq] at h
          have := congrArg UInt8.toNat h.1
          rw [n92] at this; omega
    · rw [if_neg b2] at h
      by_cases c1 : c.toNat = 34 ∨ c.toNat = 92
      · rw [if_pos c1] at h
        simp only [List.cons_append, List.nil_append, List.cons.injEq] at h
        have := congrArg UInt8.toNat h.1
        rw [n92] at this; omega
      · rw [if_neg c1] at h
        by_cases c2 : c.toNat < 32
        · rw [if_pos c2] at h
          simp only [List.cons_append, List.nil_append, List.cons.injEq] at h
          have := congrArg UInt8.toNat h.1
          rw [n92] at this; omega
        · rw [if_neg c2] at h
          simp only [List.cons_append, List.nil_append, List.cons.injEq] at h
          exact h
theorem jT_one : ∀ (l m : List UInt8), jT l = jT m → l = m
  | [], [], _ => rfl
  | [], c :: m, h => by
    have := congrArg List.length h
    have h1 := (jTb_len c).1
    simp only [jT, List.length_nil, List.length_append] at this
    omega
  | b :: l, [], h => by
    have := congrArg List.length h
    have h1 := (jTb_len b).1
    simp only [jT, List.length_nil, List.length_append] at this
    omega
  | b :: l, c :: m, h => by
    obtain ⟨e1, e2⟩ := jTb_one (show jTb b ++ jT l = jTb c ++ jT m from h)
    rw [e1, jT_one l m e2]
theorem jText_one (l m : List UInt8) : jText l = jText m ↔ l = m := by
  refine ⟨fun h => ?_, fun h => by rw [h]⟩
  unfold jText at h
  rw [List.cons.injEq] at h
  exact jT_one l m (List.append_cancel_right h.2)
end Go.Proofs.YtfighopfgllneaaGreatDoor
/- Package jstring's lower, number. -/
namespace Go.Proofs.YtfighopfgllneaaGreatDoor
open Go Go.RowKit
set_option linter.unusedVariables false

theorem jlower_any (r : Nat) (w : World) (hr : r < 256) :
    Calls Tryz.prog 101 #[.int .u8 r] w fun e w' => e = .returned (.int .u8 (jLow r : Nat)) ∧ w' = w := by
  by_cases h1 : 65 ≤ r
  · by_cases h2 : r ≤ 70
    · have p1 : decide ((65 : Int) ≤ (r : Int)) = true := decide_eq_true (by omega)
      have p2 : decide ((r : Int) ≤ 70) = true := decide_eq_true (by omega)
      have z1 : IntKind.u8.wrap ((r : Int) - 65) = (r : Int) - 65 := IntWalk.u8_in _ (by omega)
      have z2 : IntKind.u8.wrap ((r : Int) - 65 + 97) = (r : Int) - 65 + 97 := IntWalk.u8_in _ (by omega)
      have HR := Lib.hid (show (r : Int) - 65 + 97 = (jLow r : Nat) by unfold jLow; rw [if_pos ⟨h1, h2⟩]; omega)
      go_enter Tryz.func101, Tryz.ntmps101
      go_wp2
      go_ret
      exact ⟨ret_i HR.out, rfl⟩
    · have p1 : decide ((65 : Int) ≤ (r : Int)) = true := decide_eq_true (by omega)
      have p2 : decide ((r : Int) ≤ 70) = false := decide_eq_false (by omega)
      have HR := Lib.hid (show (r : Int) = (jLow r : Nat) by unfold jLow; rw [if_neg (fun h => h2 h.2)])
      clear h2
      go_enter Tryz.func101, Tryz.ntmps101
      go_wp2
      go_ret
      exact ⟨ret_i HR.out, rfl⟩
  · have p1 : decide ((65 : Int) ≤ (r : Int)) = false := decide_eq_false (by omega)
    have HR := Lib.hid (show (r : Int) = (jLow r : Nat) by unfold jLow; rw [if_neg (fun h => h1 h.1)])
    clear h1
    go_enter Tryz.func101, Tryz.ntmps101
    go_wp2
    go_ret
    exact ⟨ret_i HR.out, rfl⟩
theorem jLow_lt {r : Nat} (h : r < 256) : jLow r < 256 := by
  unfold jLow; split <;> omega

def JNumRel (c : CS) (b : Nat) (W : World) (z r i : Value) (wr : World) : Prop :=
  ∃ k R : Nat, k ≤ 4 ∧ z = .int .i32 0 ∧ r = .int .i32 (R : Nat) ∧ i = .int .i64 (k : Nat) ∧ R < 16 ^ k ∧ Hid (jDg (4 - k) R (c.bs.drop k) = jDg 4 0 c.bs ∧ k ≤ c.bs.length) ∧ CurT 71 wr b (c.past k) ∧ Only b W wr
set_option maxRecDepth 20000 in
theorem jnumber_any {b : Nat} {c : CS} {w : World} (h : CurT 71 w b c) (hc : c.ok) (h0 : c.er = 0) :
    Calls Tryz.prog 95 #[.pointer (some ⟨b, 0, none⟩)] w fun e w' => e = .returned (.int .i32 ((jDg 4 0 c.bs).1 : Nat)) ∧ (∃ c', CurT 71 w' b c' ∧ CAt c 4 (jDg 4 0 c.bs).2 c') ∧ Only b w w' := by
  have HC := Lib.hid (And.intro hc h0)
  clear hc h0
  go_enter Tryz.func95, Tryz.ntmps95
  go_wp2_with fail
  go_loopw [2, 3, 6] (fun z r i wr => JNumRel c b w z r i wr) (fun _ _ i _ => 4 - (intOf i).toNat)
  case atStart => exact ⟨0, 0, by omega, rfl, rfl, rfl, by omega, Lib.hid ⟨rfl, Nat.zero_le _⟩, h, Only.refl _ _⟩
  case round =>
    obtain ⟨k, R, hk, rfl, rfl, rfl, hR, hJ, hq, ho⟩ := hrel
    have hok := Lib.hid (CS.past_fine HC.out.1 hJ.out.2)
    by_cases hlt : k < 4
    · have p1 : decide ((k : Int) < 4) = true := decide_eq_true (by omega)
      have hR2 : R < 4096 := Nat.lt_of_lt_of_le hR (Nat.le_trans (Nat.pow_le_pow_right (by decide) (show k ≤ 3 by omega)) (by decide))
      have e4 : 4 - k = (3 - k) + 1 := by omega
      have hbp := CS.bs_past c k
      match hd : c.bs.drop k with
      | [] =>
        have HB := Lib.hid (byte_lacks hq hok.out HC.out.2 (hbp.trans hd))
        have HL := Lib.hid (show ∀ w, Calls Tryz.prog 101 #[.int .u8 0] w fun e w' => e = .returned (.int .u8 0) ∧ w' = w from fun w => jlower_any 0 w (by omega))
        have HN := Lib.hid (show ∀ w, Calls Tryz.prog 100 #[.int .u8 0] w fun e w' => e = .returned (.tuple #[.int .i64 0, .bool false]) ∧ w' = w from fun w => nibble_any 0 w (by omega))
        have HR := Lib.hid (show jDg 4 0 c.bs = (0, 1) by rw [← hJ.out.1, hd, e4]; rfl)
        have HA := Lib.hid (CAt.bad HC.out.1 hJ.out.2 4 (e := 1) (by decide))
        have hne : ¬ ((c.past k).bad 1).er = 0 := by show ¬ (1 : Int) = 0; decide
        have HNE := Lib.hid hne
        clear hd hbp e4 hR hR2 hJ hne
        go_wp2_with fail
        with_reducible refine HB.out.mono ?_
        rintro e w1 ⟨rfl, hq1, ho1⟩
        go_wp2_with fail
        with_reducible refine (HL.out _).mono ?_
        rintro e w2 ⟨rfl, hw⟩
        rw [hw]; clear hw
        go_wp2_with fail
        with_reducible refine (HN.out _).mono ?_
        rintro e w2 ⟨rfl, hw⟩
        rw [hw]; clear hw
        go_wp2_with fail
        with_reducible refine (fail_more hq1 HNE.out 6).mono ?_
        rintro e w3 ⟨rfl, hq3, ho3⟩
        go_wp2
        go_ret
        exact ⟨by rw [HR.out]; rfl, ⟨_, hq3, by rw [HR.out]; exact HA.out⟩, (ho.trans ho1).trans ho3⟩
      | x :: t =>
        have HB := Lib.hid (byte_next hq hok.out HC.out.2 (hbp.trans hd))
        rw [CS.past_past] at HB
        have hX := x.toNat_lt
        have hlen : k + 1 ≤ c.bs.length := by
          have := congrArg List.length hd
          rw [List.length_drop, List.length_cons] at this; omega
        have hd2 : c.bs.drop (k + 1) = t := by
          rw [← List.drop_drop, hd]; rfl
        have HJ : jDg (4 - k) R (c.bs.drop k) = if nibIs (jLow x.toNat) = true then jDg (3 - k) (16 * R + nibV (jLow x.toNat)) t else (0, 6) := by rw [hd, e4]; rfl
        rw [hJ.out.1] at HJ
        obtain ⟨X, hXe⟩ : ∃ X, X = x.toNat := ⟨_, rfl⟩
        rw [← hXe] at HB hX HJ
        have HL := Lib.hid (fun w => jlower_any X w (by omega))
        have hY := jLow_lt (r := X) (by omega)
        generalize jLow X = Y at *
        have HN := Lib.hid (fun w => nibble_any Y w hY)
        have hV := nibV_lt Y
        by_cases hI : nibIs Y = true
        · rw [if_pos hI, ← hd2] at HJ
          rw [hI] at HN
          generalize nibV Y = N at *
          obtain ⟨R2, hR3⟩ : ∃ R2, R2 = 16 * R + N := ⟨_, rfl⟩
          have z1 : IntKind.i32.wrap (16 * (R : Int)) = 16 * (R : Int) := IntWalk.i32_in _ (by omega)
          have z2 : IntKind.i32.wrap (N : Int) = (N : Int) := IntWalk.i32_in _ (by omega)
          have z3 : IntKind.i32.wrap (16 * (R : Int) + (N : Int)) = (R2 : Int) := by rw [IntWalk.i32_in _ (by omega)]; omega
          have z4 : IntKind.i64.wrap ((k : Int) + 1) = (k : Int) + 1 := IntWalk.i64_in _ (by omega)
          have hR4 : R2 < 16 ^ (k + 1) := by rw [Nat.pow_succ]; omega
          have HJ2 := Lib.hid (show jDg (4 - (k + 1)) R2 (c.bs.drop (k + 1)) = jDg 4 0 c.bs ∧ k + 1 ≤ c.bs.length from ⟨by rw [hR3, show 4 - (k + 1) = 3 - k by omega]; exact HJ.symm, hlen⟩)
          clear hd hbp e4 hR hJ HJ hd2 hlen hXe hI hR3
          go_wp2_with fail
          with_reducible refine HB.out.mono ?_
          rintro e w1 ⟨rfl, hq1, ho1⟩
          go_wp2_with fail
          with_reducible refine (HL.out _).mono ?_
          rintro e w2 ⟨rfl, hw⟩
          rw [hw]; clear hw
          go_wp2_with fail
          with_reducible refine (HN.out _).mono ?_
          rintro e w2 ⟨rfl, hw⟩
          rw [hw]; clear hw
          go_wp2
          go_roundw
          case rel => exact ⟨k + 1, R2, by omega, rfl, rfl, by go_num, hR4, HJ2, hq1, ho.trans ho1⟩
          case measure => simp [intOf]; omega
        · rw [if_neg hI] at HJ
          rw [show nibIs Y = false by simpa using hI] at HN
          generalize nibV Y = N at *
          have HR := Lib.hid HJ
          have HA := Lib.hid (CAt.bad HC.out.1 hlen 4 (e := 6) (by decide))
          have HE := Lib.hid (show (c.past (k + 1)).er = 0 from HC.out.2)
          clear hd hbp e4 hR hJ HJ hd2 hlen hXe hI
          go_wp2_with fail
          with_reducible refine HB.out.mono ?_
          rintro e w1 ⟨rfl, hq1, ho1⟩
          go_wp2_with fail
          with_reducible refine (HL.out _).mono ?_
          rintro e w2 ⟨rfl, hw⟩
          rw [hw]; clear hw
          go_wp2_with fail
          with_reducible refine (HN.out _).mono ?_
          rintro e w2 ⟨rfl, hw⟩
          rw [hw]; clear hw
          go_wp2_with fail
          with_reducible refine (fail_fresh hq1 HE.out 6).mono ?_
          rintro e w3 ⟨rfl, hq3, ho3⟩
          go_wp2
          go_ret
          exact ⟨by rw [HR.out]; rfl, ⟨_, hq3, by rw [HR.out]; exact HA.out⟩, (ho.trans ho1).trans ho3⟩
    · have p1 : decide ((k : Int) < 4) = false := decide_eq_false (by omega)
      have hk4 : k = 4 := by omega
      subst hk4
      have HR := Lib.hid (show jDg 4 0 c.bs = (R, 0) by rw [← hJ.out.1]; rfl)
      have HA := Lib.hid (CAt.past HC.out.1 HC.out.2 hJ.out.2)
      clear hJ hR
      go_wp2
      go_ret
      exact ⟨by rw [HR.out]; rfl, ⟨_, hq, by rw [HR.out]; exact HA.out⟩, ho⟩
end Go.Proofs.YtfighopfgllneaaGreatDoor
/- Package jstring's numbered, escaped. -/
namespace Go.Proofs.YtfighopfgllneaaGreatDoor
open Go Go.RowKit
set_option linter.unusedVariables false

theorem jnumber_good {b : Nat} {c : CS} {w : World} (h : CurT 71 w b c) (hc : c.ok) (h0 : c.er = 0) (h1 : (jDg 4 0 c.bs).2 = 0) :
    Calls Tryz.prog 95 #[.pointer (some ⟨b, 0, none⟩)] w fun e w' => e = .returned (.int .i32 ((jDg 4 0 c.bs).1 : Nat)) ∧ CurT 71 w' b (c.past 4) ∧ Only b w w' := by
  refine (jnumber_any h hc h0).mono ?_
  rintro e w' ⟨he, ⟨c', hq, hA⟩, ho⟩
  rw [hA.2.2.2.2 h1] at hq
  exact ⟨he, hq, ho⟩
theorem jnumber_bad {b : Nat} {c : CS} {w : World} (h : CurT 71 w b c) (hc : c.ok) (h0 : c.er = 0) (h1 : ¬ (jDg 4 0 c.bs).2 = 0) :
    Calls Tryz.prog 95 #[.pointer (some ⟨b, 0, none⟩)] w fun e w' => e = .returned (.int .i32 0) ∧ (∃ c', CurT 71 w' b c' ∧ CAt c 0 (jDg 4 0 c.bs).2 c') ∧ Only b w w' := by
  refine (jnumber_any h hc h0).mono ?_
  rintro e w' ⟨he, ⟨c', hq, hA⟩, ho⟩
  rw [jDg_no _ _ _ h1] at he
  exact ⟨he, ⟨c', hq, hA.no h1⟩, ho⟩
theorem jNum_bad {l : List UInt8} (h : ¬ (jDg 4 0 l).2 = 0) : jNum l = ⟨0, 0, (jDg 4 0 l).2⟩ := by unfold jNum; rw [if_neg h]
theorem jNum_char {l : List UInt8} (h : (jDg 4 0 l).2 = 0) (h1 : uIs (jDg 4 0 l).1 = true) : jNum l = ⟨(jDg 4 0 l).1, 4, 0⟩ := by unfold jNum; rw [if_pos h, if_pos h1]
theorem jNum_second {l : List UInt8} (h : (jDg 4 0 l).2 = 0) (h1 : ¬ uIs (jDg 4 0 l).1 = true) (h2 : 56320 ≤ (jDg 4 0 l).1) : jNum l = ⟨0, 0, 6⟩ := by unfold jNum; rw [if_pos h, if_neg h1, if_pos h2]
theorem jNum_pair {l : List UInt8} (h : (jDg 4 0 l).2 = 0) (h1 : ¬ uIs (jDg 4 0 l).1 = true) (h2 : ¬ 56320 ≤ (jDg 4 0 l).1) : jNum l = if (jPair (jDg 4 0 l).1 (l.drop 4)).e = 0 then ⟨(jPair (jDg 4 0 l).1 (l.drop 4)).r, (jPair (jDg 4 0 l).1 (l.drop 4)).k + 4, 0⟩ else ⟨0, 0, (jPair (jDg 4 0 l).1 (l.drop 4)).e⟩ := by unfold jNum; rw [if_pos h, if_neg h1, if_neg h2]
theorem jPair_x {n : Nat} {x : UInt8} {t : List UInt8} (hx : ¬ x.toNat = 92) : jPair n (x :: t) = ⟨0, 0, 6⟩ := by simp only [jPair]; rw [if_neg hx]
theorem jPair_1 {n : Nat} {x : UInt8} (hx : x.toNat = 92) : jPair n [x] = ⟨0, 0, 1⟩ := by simp only [jPair]; rw [if_pos hx]
theorem jPair_y {n : Nat} {x y : UInt8} {t : List UInt8} (hx : x.toNat = 92) (hy : ¬ y.toNat = 117) : jPair n (x :: y :: t) = ⟨0, 0, 6⟩ := by simp only [jPair]; rw [if_pos hx, if_neg hy]
theorem jPair_bad {n : Nat} {x y : UInt8} {t : List UInt8} (hx : x.toNat = 92) (hy : y.toNat = 117) (h : ¬ (jDg 4 0 t).2 = 0) : jPair n (x :: y :: t) = ⟨0, 0, (jDg 4 0 t).2⟩ := by simp only [jPair]; rw [if_pos hx, if_pos hy, if_neg h]
theorem jPair_out {n : Nat} {x y : UInt8} {t : List UInt8} (hx : x.toNat = 92) (hy : y.toNat = 117) (h : (jDg 4 0 t).2 = 0) (h2 : (jDg 4 0 t).1 < 56320 ∨ 57343 < (jDg 4 0 t).1) : jPair n (x :: y :: t) = ⟨0, 0, 6⟩ := by simp only [jPair]; rw [if_pos hx, if_pos hy, if_pos h, if_pos h2]
theorem jPair_in {n : Nat} {x y : UInt8} {t : List UInt8} (hx : x.toNat = 92) (hy : y.toNat = 117) (h : (jDg 4 0 t).2 = 0) (h2 : ¬ (jDg 4 0 t).1 < 56320) (h3 : ¬ 57343 < (jDg 4 0 t).1) : jPair n (x :: y :: t) = ⟨65536 + 1024 * (n - 55296) + ((jDg 4 0 t).1 - 56320), 6, 0⟩ := by simp only [jPair]; rw [if_pos hx, if_pos hy, if_pos h, if_neg (by omega)]
theorem ret_i32 {a b : Int} (h : a = b) : Ending.returned (.int .i32 a) = .returned (.int .i32 b) := by rw [h]

theorem jnumbered_bad {b : Nat} {c : CS} {w : World} (h : CurT 71 w b c) (hc : c.ok) (h0 : c.er = 0) (h1 : ¬ (jDg 4 0 c.bs).2 = 0) :
    Calls Tryz.prog 88 #[.pointer (some ⟨b, 0, none⟩)] w fun e w' => e = .returned (.int .i32 ((jNum c.bs).r : Nat)) ∧ (∃ c', CurT 71 w' b c' ∧ CAt c (jNum c.bs).k (jNum c.bs).e c') ∧ Only b w w' := by
  have HD := Lib.hid (jnumber_bad h hc h0 h1)
  have HI := Lib.hid (show ∀ w, Calls Tryz.prog 94 #[.int .i32 0] w fun e w' => e = .returned (.bool true) ∧ w' = w from fun w => by
    have := uis_any 0 w
    rw [show uIs 0 = true by decide] at this; exact this)
  rw [jNum_bad h1]
  clear hc h0 h1 h
  go_enter Tryz.func88, Tryz.ntmps88
  go_wp2_with fail
  with_reducible refine HD.out.mono ?_
  rintro e w1 ⟨rfl, ⟨c', hq, hA⟩, ho⟩
  go_wp2_with fail
  with_reducible refine (HI.out _).mono ?_
  rintro e w2 ⟨rfl, hw⟩
  rw [hw]; clear hw
  go_wp2
  go_ret
  exact ⟨rfl, ⟨c', hq, hA⟩, ho⟩
theorem jnumbered_char {b : Nat} {c : CS} {w : World} (h : CurT 71 w b c) (hc : c.ok) (h0 : c.er = 0) (h1 : (jDg 4 0 c.bs).2 = 0) (h2 : uIs (jDg 4 0 c.bs).1 = true) :
    Calls Tryz.prog 88 #[.pointer (some ⟨b, 0, none⟩)] w fun e w' => e = .returned (.int .i32 ((jNum c.bs).r : Nat)) ∧ (∃ c', CurT 71 w' b c' ∧ CAt c (jNum c.bs).k (jNum c.bs).e c') ∧ Only b w w' := by
  obtain ⟨D, hDe⟩ : ∃ D, D = (jDg 4 0 c.bs).1 := ⟨_, rfl⟩
  have hm := jDg4_lt c.bs
  have hlen := jDg_len 4 0 c.bs h1
  have HD := Lib.hid (jnumber_good h hc h0 h1)
  have HI := Lib.hid (fun w => uis_any (D : Int) w)
  rw [← hDe] at HD hm
  have HR := Lib.hid (jNum_char h1 h2)
  have HA := Lib.hid (CAt.past hc h0 hlen)
  rw [← hDe] at h2 HR
  rw [h2] at HI
  clear hc h0 h1 h2 h hlen hDe
  go_enter Tryz.func88, Tryz.ntmps88
  go_wp2_with fail
  with_reducible refine HD.out.mono ?_
  rintro e w1 ⟨rfl, hq, ho⟩
  go_wp2_with fail
  with_reducible refine (HI.out _).mono ?_
  rintro e w2 ⟨rfl, hw⟩
  rw [hw]; clear hw
  go_wp2
  go_ret
  exact ⟨by rw [HR.out]; rfl, ⟨_, hq, by rw [HR.out]; exact HA.out⟩, ho⟩
theorem jnumbered_second {b : Nat} {c : CS} {w : World} (h : CurT 71 w b c) (hc : c.ok) (h0 : c.er = 0) (h1 : (jDg 4 0 c.bs).2 = 0) (h2 : ¬ uIs (jDg 4 0 c.bs).1 = true) (h3 : 56320 ≤ (jDg 4 0 c.bs).1) :
    Calls Tryz.prog 88 #[.pointer (some ⟨b, 0, none⟩)] w fun e w' => e = .returned (.int .i32 ((jNum c.bs).r : Nat)) ∧ (∃ c', CurT 71 w' b c' ∧ CAt c (jNum c.bs).k (jNum c.bs).e c') ∧ Only b w w' := by
  obtain ⟨D, hDe⟩ : ∃ D, D = (jDg 4 0 c.bs).1 := ⟨_, rfl⟩
  have hm := jDg4_lt c.bs
  have hlen := jDg_len 4 0 c.bs h1
  have HD := Lib.hid (jnumber_good h hc h0 h1)
  have HI := Lib.hid (fun w => uis_any (D : Int) w)
  rw [← hDe] at HD hm
  have HR := Lib.hid (jNum_second h1 h2 h3)
  have HA := Lib.hid (CAt.bad hc hlen 0 (e := 6) (by decide))
  have HE := Lib.hid (show (c.past 4).er = 0 from h0)
  rw [← hDe] at h2 h3
  rw [show uIs (D : Int) = false by simpa using h2] at HI
  have p1 : decide ((56320 : Int) ≤ (D : Int)) = true := decide_eq_true (by omega)
  clear hc h0 h1 h2 h hlen hDe
  go_enter Tryz.func88, Tryz.ntmps88
  go_wp2_with fail
  with_reducible refine HD.out.mono ?_
  rintro e w1 ⟨rfl, hq, ho⟩
  go_wp2_with fail
  with_reducible refine (HI.out _).mono ?_
  rintro e w2 ⟨rfl, hw⟩
  rw [hw]; clear hw
  go_wp2_with fail
  with_reducible refine (fail_fresh hq HE.out 6).mono ?_
  rintro e w3 ⟨rfl, hq3, ho3⟩
  go_wp2
  go_ret
  exact ⟨by rw [HR.out]; rfl, ⟨_, hq3, by rw [HR.out]; exact HA.out⟩, ho.trans ho3⟩
theorem jnumbered_end {b : Nat} {c : CS} {w : World} (h : CurT 71 w b c) (hc : c.ok) (h0 : c.er = 0) (h1 : (jDg 4 0 c.bs).2 = 0) (h2 : ¬ uIs (jDg 4 0 c.bs).1 = true) (h3 : ¬ 56320 ≤ (jDg 4 0 c.bs).1) (h4 : c.bs.drop 4 = []) :
    Calls Tryz.prog 88 #[.pointer (some ⟨b, 0, none⟩)] w fun e w' => e = .returned (.int .i32 ((jNum c.bs).r : Nat)) ∧ (∃ c', CurT 71 w' b c' ∧ CAt c (jNum c.bs).k (jNum c.bs).e c') ∧ Only b w w' := by
  obtain ⟨D, hDe⟩ : ∃ D, D = (jDg 4 0 c.bs).1 := ⟨_, rfl⟩
  have hm := jDg4_lt c.bs
  have hlen := jDg_len 4 0 c.bs h1
  have HD := Lib.hid (jnumber_good h hc h0 h1)
  have HI := Lib.hid (fun w => uis_any (D : Int) w)
  rw [← hDe] at HD hm
  have hR := jNum_pair h1 h2 h3
  have hok := CS.past_fine hc hlen
  have hb4 := CS.bs_past c 4
  rw [← hDe] at h2 h3 hR
  have hsur := uIs_no.mp (by simpa using h2)
  rw [show uIs (D : Int) = false by simpa using h2] at HI
  have p1 : decide ((56320 : Int) ≤ (D : Int)) = false := decide_eq_false (by omega)
  rw [h4] at hR hb4
  have HR := Lib.hid (show jNum c.bs = ⟨0, 0, 1⟩ from hR)
  have HB := Lib.hid (fun w h => byte_lacks (w := w) (b := b) h hok h0 hb4)
  have HA := Lib.hid (CAt.bad hc hlen 0 (e := 1) (by decide))
  have HNE := Lib.hid (show ¬ ((c.past 4).bad 1).er = 0 by show ¬ (1 : Int) = 0; decide)
  clear hc h0 h1 h2 h3 h4 h hlen hDe hR hok hb4 hsur
  go_enter Tryz.func88, Tryz.ntmps88
  go_wp2_with fail
  with_reducible refine HD.out.mono ?_
  rintro e w1 ⟨rfl, hq, ho⟩
  go_wp2_with fail
  with_reducible refine (HI.out _).mono ?_
  rintro e w2 ⟨rfl, hw⟩
  rw [hw]; clear hw
  go_wp2_with fail
  with_reducible refine (HB.out _ hq).mono ?_
  rintro e w3 ⟨rfl, hq3, ho3⟩
  go_wp2_with fail
  with_reducible refine (fail_more hq3 HNE.out 6).mono ?_
  rintro e w4 ⟨rfl, hq4, ho4⟩
  go_wp2
  go_ret
  exact ⟨by rw [HR.out]; rfl, ⟨_, hq4, by rw [HR.out]; exact HA.out⟩, (ho.trans ho3).trans ho4⟩
theorem jnumbered_other {b : Nat} {c : CS} {w : World} (h : CurT 71 w b c) (hc : c.ok) (h0 : c.er = 0) (h1 : (jDg 4 0 c.bs).2 = 0) (h2 : ¬ uIs (jDg 4 0 c.bs).1 = true) (h3 : ¬ 56320 ≤ (jDg 4 0 c.bs).1) {x : UInt8} {t : List UInt8} (h4 : c.bs.drop 4 = x :: t) (hx : ¬ x.toNat = 92) :
    Calls Tryz.prog 88 #[.pointer (some ⟨b, 0, none⟩)] w fun e w' => e = .returned (.int .i32 ((jNum c.bs).r : Nat)) ∧ (∃ c', CurT 71 w' b c' ∧ CAt c (jNum c.bs).k (jNum c.bs).e c') ∧ Only b w w' := by
  obtain ⟨D, hDe⟩ : ∃ D, D = (jDg 4 0 c.bs).1 := ⟨_, rfl⟩
  have hm := jDg4_lt c.bs
  have hlen := jDg_len 4 0 c.bs h1
  have HD := Lib.hid (jnumber_good h hc h0 h1)
  have HI := Lib.hid (fun w => uis_any (D : Int) w)
  rw [← hDe] at HD hm
  have hR := jNum_pair h1 h2 h3
  have hok := CS.past_fine hc hlen
  have hb4 := CS.bs_past c 4
  rw [← hDe] at h2 h3 hR
  have hsur := uIs_no.mp (by simpa using h2)
  rw [show uIs (D : Int) = false by simpa using h2] at HI
  have p1 : decide ((56320 : Int) ≤ (D : Int)) = false := decide_eq_false (by omega)
  rw [h4] at hR hb4
  have h5 := CS.bs_some hok h0 hb4
  have hlen5 : 5 ≤ c.bs.length := by
    have := congrArg List.length h4
    rw [List.length_drop, List.length_cons] at this; omega
  have HB := Lib.hid (fun w h => byte_next (w := w) (b := b) h hok h0 hb4)
  have hb5 := h5.2.2.1
  have hok5 := h5.2.2.2
  rw [CS.past_past] at HB hb5 hok5
  have HR := Lib.hid (show jNum c.bs = ⟨0, 0, 6⟩ by rw [hR]; rw [jPair_x hx]; rfl)
  have HA := Lib.hid (CAt.bad hc hlen5 0 (e := 6) (by decide))
  have HE := Lib.hid (show (c.past 5).er = 0 from h0)
  obtain ⟨X, hXe⟩ : ∃ X, X = x.toNat := ⟨_, rfl⟩
  rw [← hXe] at HB hx
  have p2 : ((X : Int) != 92) = true := bne_iff_ne.mpr (by omega)
  clear hc h0 h1 h2 h3 h4 h hlen hDe hR hok hb4 hsur h5 hlen5 hb5 hok5 hXe hx
  go_enter Tryz.func88, Tryz.ntmps88
  go_wp2_with fail
  with_reducible refine HD.out.mono ?_
  rintro e w1 ⟨rfl, hq, ho⟩
  go_wp2_with fail
  with_reducible refine (HI.out _).mono ?_
  rintro e w2 ⟨rfl, hw⟩
  rw [hw]; clear hw
  go_wp2_with fail
  with_reducible refine (HB.out _ hq).mono ?_
  rintro e w3 ⟨rfl, hq3, ho3⟩
  go_wp2_with fail
  with_reducible refine (fail_fresh hq3 HE.out 6).mono ?_
  rintro e w4 ⟨rfl, hq4, ho4⟩
  go_wp2
  go_ret
  exact ⟨by rw [HR.out]; rfl, ⟨_, hq4, by rw [HR.out]; exact HA.out⟩, (ho.trans ho3).trans ho4⟩
theorem jnumbered_end2 {b : Nat} {c : CS} {w : World} (h : CurT 71 w b c) (hc : c.ok) (h0 : c.er = 0) (h1 : (jDg 4 0 c.bs).2 = 0) (h2 : ¬ uIs (jDg 4 0 c.bs).1 = true) (h3 : ¬ 56320 ≤ (jDg 4 0 c.bs).1) {x : UInt8} (h4 : c.bs.drop 4 = [x]) (hx : x.toNat = 92) :
    Calls Tryz.prog 88 #[.pointer (some ⟨b, 0, none⟩)] w fun e w' => e = .returned (.int .i32 ((jNum c.bs).r : Nat)) ∧ (∃ c', CurT 71 w' b c' ∧ CAt c (jNum c.bs).k (jNum c.bs).e c') ∧ Only b w w' := by
  obtain ⟨D, hDe⟩ : ∃ D, D = (jDg 4 0 c.bs).1 := ⟨_, rfl⟩
  have hm := jDg4_lt c.bs
  have hlen := jDg_len 4 0 c.bs h1
  have HD := Lib.hid (jnumber_good h hc h0 h1)
  have HI := Lib.hid (fun w => uis_any (D : Int) w)
  rw [← hDe] at HD hm
  have hR := jNum_pair h1 h2 h3
  have hok := CS.past_fine hc hlen
  have hb4 := CS.bs_past c 4
  rw [← hDe] at h2 h3 hR
  have hsur := uIs_no.mp (by simpa using h2)
  rw [show uIs (D : Int) = false by simpa using h2] at HI
  have p1 : decide ((56320 : Int) ≤ (D : Int)) = false := decide_eq_false (by omega)
  rw [h4] at hR hb4
  have h5 := CS.bs_some hok h0 hb4
  have hlen5 : 5 ≤ c.bs.length := by
    have := congrArg List.length h4
    rw [List.length_drop, List.length_cons] at this; omega
  have HB := Lib.hid (fun w h => byte_next (w := w) (b := b) h hok h0 hb4)
  have hb5 := h5.2.2.1
  have hok5 := h5.2.2.2
  rw [CS.past_past] at HB hb5 hok5
  have HB := Lib.hid (show ∀ w, CurT 71 w b (c.past 4) → Calls Tryz.prog 59 #[.pointer (some ⟨b, 0, none⟩)] w fun e w' => e = .returned (.int .u8 92) ∧ CurT 71 w' b (c.past 5) ∧ Only b w w' from fun w h => by
    have := HB.out w h
    rw [hx] at this; exact this)
  have HR := Lib.hid (show jNum c.bs = ⟨0, 0, 1⟩ by rw [hR]; rw [jPair_1 hx]; rfl)
  have HB2 := Lib.hid (fun w h => byte_lacks (w := w) (b := b) h hok5 h0 hb5)
  have HA := Lib.hid (CAt.bad hc hlen5 0 (e := 1) (by decide))
  have HNE := Lib.hid (show ¬ ((c.past 5).bad 1).er = 0 by show ¬ (1 : Int) = 0; decide)
  clear hc h0 h1 h2 h3 h4 h hlen hDe hR hok hb4 hsur h5 hlen5 hb5 hok5 hx
  go_enter Tryz.func88, Tryz.ntmps88
  go_wp2_with fail
  with_reducible refine HD.out.mono ?_
  rintro e w1 ⟨rfl, hq, ho⟩
  go_wp2_with fail
  with_reducible refine (HI.out _).mono ?_
  rintro e w2 ⟨rfl, hw⟩
  rw [hw]; clear hw
  go_wp2_with fail
  with_reducible refine (HB.out _ hq).mono ?_
  rintro e w3 ⟨rfl, hq3, ho3⟩
  go_wp2_with fail
  with_reducible refine (HB2.out _ hq3).mono ?_
  rintro e w4 ⟨rfl, hq4, ho4⟩
  go_wp2_with fail
  with_reducible refine (fail_more hq4 HNE.out 6).mono ?_
  rintro e w5 ⟨rfl, hq5, ho5⟩
  go_wp2
  go_ret
  exact ⟨by rw [HR.out]; rfl, ⟨_, hq5, by rw [HR.out]; exact HA.out⟩, ((ho.trans ho3).trans ho4).trans ho5⟩
theorem jnumbered_other2 {b : Nat} {c : CS} {w : World} (h : CurT 71 w b c) (hc : c.ok) (h0 : c.er = 0) (h1 : (jDg 4 0 c.bs).2 = 0) (h2 : ¬ uIs (jDg 4 0 c.bs).1 = true) (h3 : ¬ 56320 ≤ (jDg 4 0 c.bs).1) {x y : UInt8} {t : List UInt8} (h4 : c.bs.drop 4 = x :: y :: t) (hx : x.toNat = 92) (hy : ¬ y.toNat = 117) :
    Calls Tryz.prog 88 #[.pointer (some ⟨b, 0, none⟩)] w fun e w' => e = .returned (.int .i32 ((jNum c.bs).r : Nat)) ∧ (∃ c', CurT 71 w' b c' ∧ CAt c (jNum c.bs).k (jNum c.bs).e c') ∧ Only b w w' := by
  obtain ⟨D, hDe⟩ : ∃ D, D = (jDg 4 0 c.bs).1 := ⟨_, rfl⟩
  have hm := jDg4_lt c.bs
  have hlen := jDg_len 4 0 c.bs h1
  have HD := Lib.hid (jnumber_good h hc h0 h1)
  have HI := Lib.hid (fun w => uis_any (D : Int) w)
  rw [← hDe] at HD hm
  have hR := jNum_pair h1 h2 h3
  have hok := CS.past_fine hc hlen
  have hb4 := CS.bs_past c 4
  rw [← hDe] at h2 h3 hR
  have hsur := uIs_no.mp (by simpa using h2)
  rw [show uIs (D : Int) = false by simpa using h2] at HI
  have p1 : decide ((56320 : Int) ≤ (D : Int)) = false := decide_eq_false (by omega)
  rw [h4] at hR hb4
  have h5 := CS.bs_some hok h0 hb4
  have hlen5 : 5 ≤ c.bs.length := by
    have := congrArg List.length h4
    rw [List.length_drop, List.length_cons] at this; omega
  have HB := Lib.hid (fun w h => byte_next (w := w) (b := b) h hok h0 hb4)
  have hb5 := h5.2.2.1
  have hok5 := h5.2.2.2
  rw [CS.past_past] at HB hb5 hok5
  have HB := Lib.hid (show ∀ w, CurT 71 w b (c.past 4) → Calls Tryz.prog 59 #[.pointer (some ⟨b, 0, none⟩)] w fun e w' => e = .returned (.int .u8 92) ∧ CurT 71 w' b (c.past 5) ∧ Only b w w' from fun w h => by
    have := HB.out w h
    rw [hx] at this; exact this)
  have h6 := CS.bs_some hok5 h0 hb5
  have hlen6 : 6 ≤ c.bs.length := by
    have := congrArg List.length h4
    rw [List.length_drop, List.length_cons, List.length_cons] at this; omega
  have HB2 := Lib.hid (fun w h => byte_next (w := w) (b := b) h hok5 h0 hb5)
  have hb6 := h6.2.2.1
  have hok6 := h6.2.2.2
  rw [CS.past_past] at HB2 hb6 hok6
  have HR := Lib.hid (show jNum c.bs = ⟨0, 0, 6⟩ by rw [hR]; rw [jPair_y hx hy]; rfl)
  have HA := Lib.hid (CAt.bad hc hlen6 0 (e := 6) (by decide))
  have HE := Lib.hid (show (c.past 6).er = 0 from h0)
  obtain ⟨Y, hYe⟩ : ∃ Y, Y = y.toNat := ⟨_, rfl⟩
  rw [← hYe] at HB2 hy
  have p2 : ((Y : Int) != 117) = true := bne_iff_ne.mpr (by omega)
  clear hc h0 h1 h2 h3 h4 h hlen hDe hR hok hb4 hsur h5 hlen5 hb5 hok5 hx h6 hlen6 hb6 hok6 hy hYe
  go_enter Tryz.func88, Tryz.ntmps88
  go_wp2_with fail
  with_reducible refine HD.out.mono ?_
  rintro e w1 ⟨rfl, hq, ho⟩
  go_wp2_with fail
  with_reducible refine (HI.out _).mono ?_
  rintro e w2 ⟨rfl, hw⟩
  rw [hw]; clear hw
  go_wp2_with fail
  with_reducible refine (HB.out _ hq).mono ?_
  rintro e w3 ⟨rfl, hq3, ho3⟩
  go_wp2_with fail
  with_reducible refine (HB2.out _ hq3).mono ?_
  rintro e w4 ⟨rfl, hq4, ho4⟩
  go_wp2_with fail
  with_reducible refine (fail_fresh hq4 HE.out 6).mono ?_
  rintro e w5 ⟨rfl, hq5, ho5⟩
  go_wp2
  go_ret
  exact ⟨by rw [HR.out]; rfl, ⟨_, hq5, by rw [HR.out]; exact HA.out⟩, ((ho.trans ho3).trans ho4).trans ho5⟩
theorem jnumbered_bad2 {b : Nat} {c : CS} {w : World} (h : CurT 71 w b c) (hc : c.ok) (h0 : c.er = 0) (h1 : (jDg 4 0 c.bs).2 = 0) (h2 : ¬ uIs (jDg 4 0 c.bs).1 = true) (h3 : ¬ 56320 ≤ (jDg 4 0 c.bs).1) {x y : UInt8} {t : List UInt8} (h4 : c.bs.drop 4 = x :: y :: t) (hx : x.toNat = 92) (hy : y.toNat = 117) (h7 : ¬ (jDg 4 0 t).2 = 0) :
    Calls Tryz.prog 88 #[.pointer (some ⟨b, 0, none⟩)] w fun e w' => e = .returned (.int .i32 ((jNum c.bs).r : Nat)) ∧ (∃ c', CurT 71 w' b c' ∧ CAt c (jNum c.bs).k (jNum c.bs).e c') ∧ Only b w w' := by
  obtain ⟨D, hDe⟩ : ∃ D, D = (jDg 4 0 c.bs).1 := ⟨_, rfl⟩
  have hm := jDg4_lt c.bs
  have hlen := jDg_len 4 0 c.bs h1
  have HD := Lib.hid (jnumber_good h hc h0 h1)
  have HI := Lib.hid (fun w => uis_any (D : Int) w)
  rw [← hDe] at HD hm
  have hR := jNum_pair h1 h2 h3
  have hok := CS.past_fine hc hlen
  have hb4 := CS.bs_past c 4
  rw [← hDe] at h2 h3 hR
  have hsur := uIs_no.mp (by simpa using h2)
  rw [show uIs (D : Int) = false by simpa using h2] at HI
  have p1 : decide ((56320 : Int) ≤ (D : Int)) = false := decide_eq_false (by omega)
  rw [h4] at hR hb4
  have h5 := CS.bs_some hok h0 hb4
  have hlen5 : 5 ≤ c.bs.length := by
    have := congrArg List.length h4
    rw [List.length_drop, List.length_cons] at this; omega
  have HB := Lib.hid (fun w h => byte_next (w := w) (b := b) h hok h0 hb4)
  have hb5 := h5.2.2.1
  have hok5 := h5.2.2.2
  rw [CS.past_past] at HB hb5 hok5
  have HB := Lib.hid (show ∀ w, CurT 71 w b (c.past 4) → Calls Tryz.prog 59 #[.pointer (some ⟨b, 0, none⟩)] w fun e w' => e = .returned (.int .u8 92) ∧ CurT 71 w' b (c.past 5) ∧ Only b w w' from fun w h => by
    have := HB.out w h
    rw [hx] at this; exact this)
  have h6 := CS.bs_some hok5 h0 hb5
  have hlen6 : 6 ≤ c.bs.length := by
    have := congrArg List.length h4
    rw [List.length_drop, List.length_cons, List.length_cons] at this; omega
  have HB2 := Lib.hid (fun w h => byte_next (w := w) (b := b) h hok5 h0 hb5)
  have hb6 := h6.2.2.1
  have hok6 := h6.2.2.2
  rw [CS.past_past] at HB2 hb6 hok6
  have HB2 := Lib.hid (show ∀ w, CurT 71 w b (c.past 5) → Calls Tryz.prog 59 #[.pointer (some ⟨b, 0, none⟩)] w fun e w' => e = .returned (.int .u8 117) ∧ CurT 71 w' b (c.past 6) ∧ Only b w w' from fun w h => by
    have := HB2.out w h
    rw [hy] at this; exact this)
  have hb6' := hb6
  rw [← hb6'] at hR
  rw [← hb6] at h7
  have HR := Lib.hid (show jNum c.bs = ⟨0, 0, (jDg 4 0 (c.past 6).bs).2⟩ by rw [hR]; rw [jPair_bad hx hy h7, if_neg h7])
  have HC2 := Lib.hid (fun w h => jnumber_bad (w := w) (b := b) h hok6 h0 h7)
  have HCA := Lib.hid (fun c' (h : CAt (c.past 6) 0 (jDg 4 0 (c.past 6).bs).2 c') => (h.more).no (j := 0) h7)
  have HNE := Lib.hid h7
  clear hc h0 h1 h2 h3 h4 h hlen hDe hR hok hb4 hsur h5 hlen5 hb5 hok5 hx h6 hlen6 hb6 hb6' hok6 hy h7
  go_enter Tryz.func88, Tryz.ntmps88
  go_wp2_with fail
  with_reducible refine HD.out.mono ?_
  rintro e w1 ⟨rfl, hq, ho⟩
  go_wp2_with fail
  with_reducible refine (HI.out _).mono ?_
  rintro e w2 ⟨rfl, hw⟩
  rw [hw]; clear hw
  go_wp2_with fail
  with_reducible refine (HB.out _ hq).mono ?_
  rintro e w3 ⟨rfl, hq3, ho3⟩
  go_wp2_with fail
  with_reducible refine (HB2.out _ hq3).mono ?_
  rintro e w4 ⟨rfl, hq4, ho4⟩
  go_wp2_with fail
  with_reducible refine (HC2.out _ hq4).mono ?_
  rintro e w5 ⟨rfl, ⟨c', hq5, hA5⟩, ho5⟩
  have hne := Lib.hid (show ¬ c'.er = 0 by rw [hA5.2.2.2.1]; exact HNE.out)
  go_wp2_with fail
  with_reducible refine (fail_more hq5 hne.out 6).mono ?_
  rintro e w6 ⟨rfl, hq6, ho6⟩
  go_wp2
  go_ret
  exact ⟨by rw [HR.out]; rfl, ⟨_, hq6, by rw [HR.out]; exact HCA.out _ hA5⟩, (((ho.trans ho3).trans ho4).trans ho5).trans ho6⟩
theorem jnumbered_least {b : Nat} {c : CS} {w : World} (h : CurT 71 w b c) (hc : c.ok) (h0 : c.er = 0) (h1 : (jDg 4 0 c.bs).2 = 0) (h2 : ¬ uIs (jDg 4 0 c.bs).1 = true) (h3 : ¬ 56320 ≤ (jDg 4 0 c.bs).1) {x y : UInt8} {t : List UInt8} (h4 : c.bs.drop 4 = x :: y :: t) (hx : x.toNat = 92) (hy : y.toNat = 117) (h7 : (jDg 4 0 t).2 = 0) (h8 : (jDg 4 0 t).1 < 56320) :
    Calls Tryz.prog 88 #[.pointer (some ⟨b, 0, none⟩)] w fun e w' => e = .returned (.int .i32 ((jNum c.bs).r : Nat)) ∧ (∃ c', CurT 71 w' b c' ∧ CAt c (jNum c.bs).k (jNum c.bs).e c') ∧ Only b w w' := by
  obtain ⟨D, hDe⟩ : ∃ D, D = (jDg 4 0 c.bs).1 := ⟨_, rfl⟩
  have hm := jDg4_lt c.bs
  have hlen := jDg_len 4 0 c.bs h1
  have HD := Lib.hid (jnumber_good h hc h0 h1)
  have HI := Lib.hid (fun w => uis_any (D : Int) w)
  rw [← hDe] at HD hm
  have hR := jNum_pair h1 h2 h3
  have hok := CS.past_fine hc hlen
  have hb4 := CS.bs_past c 4
  rw [← hDe] at h2 h3 hR
  have hsur := uIs_no.mp (by simpa using h2)
  rw [show uIs (D : Int) = false by simpa using h2] at HI
  have p1 : decide ((56320 : Int) ≤ (D : Int)) = false := decide_eq_false (by omega)
  rw [h4] at hR hb4
  have h5 := CS.bs_some hok h0 hb4
  have hlen5 : 5 ≤ c.bs.length := by
    have := congrArg List.length h4
    rw [List.length_drop, List.length_cons] at this; omega
  have HB := Lib.hid (fun w h => byte_next (w := w) (b := b) h hok h0 hb4)
  have hb5 := h5.2.2.1
  have hok5 := h5.2.2.2
  rw [CS.past_past] at HB hb5 hok5
  have HB := Lib.hid (show ∀ w, CurT 71 w b (c.past 4) → Calls Tryz.prog 59 #[.pointer (some ⟨b, 0, none⟩)] w fun e w' => e = .returned (.int .u8 92) ∧ CurT 71 w' b (c.past 5) ∧ Only b w w' from fun w h => by
    have := HB.out w h
    rw [hx] at this; exact this)
  have h6 := CS.bs_some hok5 h0 hb5
  have hlen6 : 6 ≤ c.bs.length := by
    have := congrArg List.length h4
    rw [List.length_drop, List.length_cons, List.length_cons] at this; omega
  have HB2 := Lib.hid (fun w h => byte_next (w := w) (b := b) h hok5 h0 hb5)
  have hb6 := h6.2.2.1
  have hok6 := h6.2.2.2
  rw [CS.past_past] at HB2 hb6 hok6
  have HB2 := Lib.hid (show ∀ w, CurT 71 w b (c.past 5) → Calls Tryz.prog 59 #[.pointer (some ⟨b, 0, none⟩)] w fun e w' => e = .returned (.int .u8 117) ∧ CurT 71 w' b (c.past 6) ∧ Only b w w' from fun w h => by
    have := HB2.out w h
    rw [hy] at this; exact this)
  have hb6' := hb6
  rw [← hb6'] at hR
  rw [← hb6] at h7
  obtain ⟨M, hMe⟩ : ∃ M, M = (jDg 4 0 (c.past 6).bs).1 := ⟨_, rfl⟩
  have hm2 := jDg4_lt (c.past 6).bs
  have hlen10 := jDg_len 4 0 (c.past 6).bs h7
  have HC2 := Lib.hid (fun w h => jnumber_good (w := w) (b := b) h hok6 h0 h7)
  rw [← hMe] at HC2 hm2
  rw [CS.bs_past, List.length_drop] at hlen10
  have hlenX : 10 ≤ c.bs.length := by omega
  rw [CS.past_past] at HC2
  rw [← hb6, ← hMe] at h8
  have HR := Lib.hid (show jNum c.bs = ⟨0, 0, 6⟩ by rw [hR]; rw [jPair_out hx hy h7 (.inl (by rw [← hMe]; exact h8))]; rfl)
  have HA := Lib.hid (CAt.bad hc hlenX 0 (e := 6) (by decide))
  have HE := Lib.hid (show (c.past 10).er = 0 from h0)
  have q1 : decide ((M : Int) < 56320) = true := decide_eq_true (by omega)
  clear hc h0 h1 h2 h3 h4 h hlen hDe hR hok hb4 hsur h5 hlen5 hb5 hok5 hx h6 hlen6 hb6 hb6' hok6 hy h7 h8 hMe hlen10 hlenX
  go_enter Tryz.func88, Tryz.ntmps88
  go_wp2_with fail
  with_reducible refine HD.out.mono ?_
  rintro e w1 ⟨rfl, hq, ho⟩
  go_wp2_with fail
  with_reducible refine (HI.out _).mono ?_
  rintro e w2 ⟨rfl, hw⟩
  rw [hw]; clear hw
  go_wp2_with fail
  with_reducible refine (HB.out _ hq).mono ?_
  rintro e w3 ⟨rfl, hq3, ho3⟩
  go_wp2_with fail
  with_reducible refine (HB2.out _ hq3).mono ?_
  rintro e w4 ⟨rfl, hq4, ho4⟩
  go_wp2_with fail
  with_reducible refine (HC2.out _ hq4).mono ?_
  rintro e w5 ⟨rfl, hq5, ho5⟩
  go_wp2_with fail
  with_reducible refine (fail_fresh hq5 HE.out 6).mono ?_
  rintro e w6 ⟨rfl, hq6, ho6⟩
  go_wp2
  go_ret
  exact ⟨by rw [HR.out]; rfl, ⟨_, hq6, by rw [HR.out]; exact HA.out⟩, (((ho.trans ho3).trans ho4).trans ho5).trans ho6⟩
theorem jnumbered_great {b : Nat} {c : CS} {w : World} (h : CurT 71 w b c) (hc : c.ok) (h0 : c.er = 0) (h1 : (jDg 4 0 c.bs).2 = 0) (h2 : ¬ uIs (jDg 4 0 c.bs).1 = true) (h3 : ¬ 56320 ≤ (jDg 4 0 c.bs).1) {x y : UInt8} {t : List UInt8} (h4 : c.bs.drop 4 = x :: y :: t) (hx : x.toNat = 92) (hy : y.toNat = 117) (h7 : (jDg 4 0 t).2 = 0) (h8 : 57343 < (jDg 4 0 t).1) :
    Calls Tryz.prog 88 #[.pointer (some ⟨b, 0, none⟩)] w fun e w' => e = .returned (.int .i32 ((jNum c.bs).r : Nat)) ∧ (∃ c', CurT 71 w' b c' ∧ CAt c (jNum c.bs).k (jNum c.bs).e c') ∧ Only b w w' := by
  obtain ⟨D, hDe⟩ : ∃ D, D = (jDg 4 0 c.bs).1 := ⟨_, rfl⟩
  have hm := jDg4_lt c.bs
  have hlen := jDg_len 4 0 c.bs h1
  have HD := Lib.hid (jnumber_good h hc h0 h1)
  have HI := Lib.hid (fun w => uis_any (D : Int) w)
  rw [← hDe] at HD hm
  have hR := jNum_pair h1 h2 h3
  have hok := CS.past_fine hc hlen
  have hb4 := CS.bs_past c 4
  rw [← hDe] at h2 h3 hR
  have hsur := uIs_no.mp (by simpa using h2)
  rw [show uIs (D : Int) = false by simpa using h2] at HI
  have p1 : decide ((56320 : Int) ≤ (D : Int)) = false := decide_eq_false (by omega)
  rw [h4] at hR hb4
  have h5 := CS.bs_some hok h0 hb4
  have hlen5 : 5 ≤ c.bs.length := by
    have := congrArg List.length h4
    rw [List.length_drop, List.length_cons] at this; omega
  have HB := Lib.hid (fun w h => byte_next (w := w) (b := b) h hok h0 hb4)
  have hb5 := h5.2.2.1
  have hok5 := h5.2.2.2
  rw [CS.past_past] at HB hb5 hok5
  have HB := Lib.hid (show ∀ w, CurT 71 w b (c.past 4) → Calls Tryz.prog 59 #[.pointer (some ⟨b, 0, none⟩)] w fun e w' => e = .returned (.int .u8 92) ∧ CurT 71 w' b (c.past 5) ∧ Only b w w' from fun w h => by
    have := HB.out w h
    rw [hx] at this; exact this)
  have h6 := CS.bs_some hok5 h0 hb5
  have hlen6 : 6 ≤ c.bs.length := by
    have := congrArg List.length h4
    rw [List.length_drop, List.length_cons, List.length_cons] at this; omega
  have HB2 := Lib.hid (fun w h => byte_next (w := w) (b := b) h hok5 h0 hb5)
  have hb6 := h6.2.2.1
  have hok6 := h6.2.2.2
  rw [CS.past_past] at HB2 hb6 hok6
  have HB2 := Lib.hid (show ∀ w, CurT 71 w b (c.past 5) → Calls Tryz.prog 59 #[.pointer (some ⟨b, 0, none⟩)] w fun e w' => e = .returned (.int .u8 117) ∧ CurT 71 w' b (c.past 6) ∧ Only b w w' from fun w h => by
    have := HB2.out w h
    rw [hy] at this; exact this)
  have hb6' := hb6
  rw [← hb6'] at hR
  rw [← hb6] at h7
  obtain ⟨M, hMe⟩ : ∃ M, M = (jDg 4 0 (c.past 6).bs).1 := ⟨_, rfl⟩
  have hm2 := jDg4_lt (c.past 6).bs
  have hlen10 := jDg_len 4 0 (c.past 6).bs h7
  have HC2 := Lib.hid (fun w h => jnumber_good (w := w) (b := b) h hok6 h0 h7)
  rw [← hMe] at HC2 hm2
  rw [CS.bs_past, List.length_drop] at hlen10
  have hlenX : 10 ≤ c.bs.length := by omega
  rw [CS.past_past] at HC2
  rw [← hb6, ← hMe] at h8
  have HR := Lib.hid (show jNum c.bs = ⟨0, 0, 6⟩ by rw [hR]; rw [jPair_out hx hy h7 (.inr (by rw [← hMe]; exact h8))]; rfl)
  have HA := Lib.hid (CAt.bad hc hlenX 0 (e := 6) (by decide))
  have HE := Lib.hid (show (c.past 10).er = 0 from h0)
  have q1 : decide ((M : Int) < 56320) = false := decide_eq_false (by omega)
  have q2 : decide ((57344 : Int) ≤ (M : Int)) = true := decide_eq_true (by omega)
  clear hc h0 h1 h2 h3 h4 h hlen hDe hR hok hb4 hsur h5 hlen5 hb5 hok5 hx h6 hlen6 hb6 hb6' hok6 hy h7 h8 hMe hlen10 hlenX
  go_enter Tryz.func88, Tryz.ntmps88
  go_wp2_with fail
  with_reducible refine HD.out.mono ?_
  rintro e w1 ⟨rfl, hq, ho⟩
  go_wp2_with fail
  with_reducible refine (HI.out _).mono ?_
  rintro e w2 ⟨rfl, hw⟩
  rw [hw]; clear hw
  go_wp2_with fail
  with_reducible refine (HB.out _ hq).mono ?_
  rintro e w3 ⟨rfl, hq3, ho3⟩
  go_wp2_with fail
  with_reducible refine (HB2.out _ hq3).mono ?_
  rintro e w4 ⟨rfl, hq4, ho4⟩
  go_wp2_with fail
  with_reducible refine (HC2.out _ hq4).mono ?_
  rintro e w5 ⟨rfl, hq5, ho5⟩
  go_wp2_with fail
  with_reducible refine (fail_fresh hq5 HE.out 6).mono ?_
  rintro e w6 ⟨rfl, hq6, ho6⟩
  go_wp2
  go_ret
  exact ⟨by rw [HR.out]; rfl, ⟨_, hq6, by rw [HR.out]; exact HA.out⟩, (((ho.trans ho3).trans ho4).trans ho5).trans ho6⟩
theorem jnumbered_pair {b : Nat} {c : CS} {w : World} (h : CurT 71 w b c) (hc : c.ok) (h0 : c.er = 0) (h1 : (jDg 4 0 c.bs).2 = 0) (h2 : ¬ uIs (jDg 4 0 c.bs).1 = true) (h3 : ¬ 56320 ≤ (jDg 4 0 c.bs).1) {x y : UInt8} {t : List UInt8} (h4 : c.bs.drop 4 = x :: y :: t) (hx : x.toNat = 92) (hy : y.toNat = 117) (h7 : (jDg 4 0 t).2 = 0) (h8 : ¬ (jDg 4 0 t).1 < 56320) (h9 : ¬ 57343 < (jDg 4 0 t).1) :
    Calls Tryz.prog 88 #[.pointer (some ⟨b, 0, none⟩)] w fun e w' => e = .returned (.int .i32 ((jNum c.bs).r : Nat)) ∧ (∃ c', CurT 71 w' b c' ∧ CAt c (jNum c.bs).k (jNum c.bs).e c') ∧ Only b w w' := by
  obtain ⟨D, hDe⟩ : ∃ D, D = (jDg 4 0 c.bs).1 := ⟨_, rfl⟩
  have hm := jDg4_lt c.bs
  have hlen := jDg_len 4 0 c.bs h1
  have HD := Lib.hid (jnumber_good h hc h0 h1)
  have HI := Lib.hid (fun w => uis_any (D : Int) w)
  rw [← hDe] at HD hm
  have hR := jNum_pair h1 h2 h3
  have hok := CS.past_fine hc hlen
  have hb4 := CS.bs_past c 4
  rw [← hDe] at h2 h3 hR
  have hsur := uIs_no.mp (by simpa using h2)
  rw [show uIs (D : Int) = false by simpa using h2] at HI
  have p1 : decide ((56320 : Int) ≤ (D : Int)) = false := decide_eq_false (by omega)
  rw [h4] at hR hb4
  have h5 := CS.bs_some hok h0 hb4
  have hlen5 : 5 ≤ c.bs.length := by
    have := congrArg List.length h4
    rw [List.length_drop, List.length_cons] at this; omega
  have HB := Lib.hid (fun w h => byte_next (w := w) (b := b) h hok h0 hb4)
  have hb5 := h5.2.2.1
  have hok5 := h5.2.2.2
  rw [CS.past_past] at HB hb5 hok5
  have HB := Lib.hid (show ∀ w, CurT 71 w b (c.past 4) → Calls Tryz.prog 59 #[.pointer (some ⟨b, 0, none⟩)] w fun e w' => e = .returned (.int .u8 92) ∧ CurT 71 w' b (c.past 5) ∧ Only b w w' from fun w h => by
    have := HB.out w h
    rw [hx] at this; exact this)
  have h6 := CS.bs_some hok5 h0 hb5
  have hlen6 : 6 ≤ c.bs.length := by
    have := congrArg List.length h4
    rw [List.length_drop, List.length_cons, List.length_cons] at this; omega
  have HB2 := Lib.hid (fun w h => byte_next (w := w) (b := b) h hok5 h0 hb5)
  have hb6 := h6.2.2.1
  have hok6 := h6.2.2.2
  rw [CS.past_past] at HB2 hb6 hok6
  have HB2 := Lib.hid (show ∀ w, CurT 71 w b (c.past 5) → Calls Tryz.prog 59 #[.pointer (some ⟨b, 0, none⟩)] w fun e w' => e = .returned (.int .u8 117) ∧ CurT 71 w' b (c.past 6) ∧ Only b w w' from fun w h => by
    have := HB2.out w h
    rw [hy] at this; exact this)
  have hb6' := hb6
  rw [← hb6'] at hR
  rw [← hb6] at h7
  obtain ⟨M, hMe⟩ : ∃ M, M = (jDg 4 0 (c.past 6).bs).1 := ⟨_, rfl⟩
  have hm2 := jDg4_lt (c.past 6).bs
  have hlen10 := jDg_len 4 0 (c.past 6).bs h7
  have HC2 := Lib.hid (fun w h => jnumber_good (w := w) (b := b) h hok6 h0 h7)
  rw [← hMe] at HC2 hm2
  rw [CS.bs_past, List.length_drop] at hlen10
  have hlenX : 10 ≤ c.bs.length := by omega
  rw [CS.past_past] at HC2
  rw [← hb6, ← hMe] at h8 h9
  obtain ⟨d, hd⟩ : ∃ d, d = D - 55296 := ⟨_, rfl⟩
  obtain ⟨m, hmm⟩ : ∃ m, m = M - 56320 := ⟨_, rfl⟩
  obtain ⟨V, hV⟩ : ∃ V, V = 65536 + 1024 * d + m := ⟨_, rfl⟩
  have HR := Lib.hid (show jNum c.bs = ⟨V, 10, 0⟩ by
    rw [hR, jPair_in hx hy h7 (by rw [← hMe]; exact h8) (by rw [← hMe]; exact h9), ← hMe, ← hd, ← hmm, ← hV]; rfl)
  have HA := Lib.hid (CAt.past hc h0 hlenX)
  have q1 : decide ((M : Int) < 56320) = false := decide_eq_false (by omega)
  have q2 : decide ((57344 : Int) ≤ (M : Int)) = false := decide_eq_false (by omega)
  have hs1 := hsur
  have z1 : IntKind.i32.wrap ((D : Int) - 55296) = (d : Int) := by rw [IntWalk.i32_in _ (by omega)]; omega
  have z2 : IntKind.i32.wrap (1024 * (d : Int)) = 1024 * (d : Int) := IntWalk.i32_in _ (by omega)
  have z3 : IntKind.i32.wrap (65536 + 1024 * (d : Int)) = 65536 + 1024 * (d : Int) := IntWalk.i32_in _ (by omega)
  have z4 : IntKind.i32.wrap ((M : Int) - 56320) = (m : Int) := by rw [IntWalk.i32_in _ (by omega)]; omega
  have z5 : IntKind.i32.wrap (65536 + 1024 * (d : Int) + (m : Int)) = (V : Int) := by rw [IntWalk.i32_in _ (by omega)]; omega
  clear hc h0 h1 h2 h3 h4 h hlen hDe hR hok hb4 hsur h5 hlen5 hb5 hok5 hx h6 hlen6 hb6 hb6' hok6 hy h7 h8 h9 hMe hlen10 hlenX hd hmm hV hs1
  go_enter Tryz.func88, Tryz.ntmps88
  go_wp2_with fail
  with_reducible refine HD.out.mono ?_
  rintro e w1 ⟨rfl, hq, ho⟩
  go_wp2_with fail
  with_reducible refine (HI.out _).mono ?_
  rintro e w2 ⟨rfl, hw⟩
  rw [hw]; clear hw
  go_wp2_with fail
  with_reducible refine (HB.out _ hq).mono ?_
  rintro e w3 ⟨rfl, hq3, ho3⟩
  go_wp2_with fail
  with_reducible refine (HB2.out _ hq3).mono ?_
  rintro e w4 ⟨rfl, hq4, ho4⟩
  go_wp2_with fail
  with_reducible refine (HC2.out _ hq4).mono ?_
  rintro e w5 ⟨rfl, hq5, ho5⟩
  go_wp2
  go_ret
  exact ⟨by rw [HR.out]; rfl, ⟨_, hq5, by rw [HR.out]; exact HA.out⟩, ((ho.trans ho3).trans ho4).trans ho5⟩
theorem jnumbered_any {b : Nat} {c : CS} {w : World} (h : CurT 71 w b c) (hc : c.ok) (h0 : c.er = 0) :
    Calls Tryz.prog 88 #[.pointer (some ⟨b, 0, none⟩)] w fun e w' => e = .returned (.int .i32 ((jNum c.bs).r : Nat)) ∧ (∃ c', CurT 71 w' b c' ∧ CAt c (jNum c.bs).k (jNum c.bs).e c') ∧ Only b w w' := by
  by_cases h1 : (jDg 4 0 c.bs).2 = 0
  · by_cases h2 : uIs (jDg 4 0 c.bs).1 = true
    · exact jnumbered_char h hc h0 h1 h2
    · by_cases h3 : 56320 ≤ (jDg 4 0 c.bs).1
      · exact jnumbered_second h hc h0 h1 h2 h3
      · match h4 : c.bs.drop 4 with
        | [] => exact jnumbered_end h hc h0 h1 h2 h3 h4
        | x :: t =>
          by_cases hx : x.toNat = 92
          · match t, h4 with
            | [], h4 => exact jnumbered_end2 h hc h0 h1 h2 h3 h4 hx
            | y :: t, h4 =>
              by_cases hy : y.toNat = 117
              · by_cases h7 : (jDg 4 0 t).2 = 0
                · by_cases h8 : (jDg 4 0 t).1 < 56320
                  · exact jnumbered_least h hc h0 h1 h2 h3 h4 hx hy h7 h8
                  · by_cases h9 : 57343 < (jDg 4 0 t).1
                    · exact jnumbered_great h hc h0 h1 h2 h3 h4 hx hy h7 h9
                    · exact jnumbered_pair h hc h0 h1 h2 h3 h4 hx hy h7 h8 h9
                · exact jnumbered_bad2 h hc h0 h1 h2 h3 h4 hx hy h7
              · exact jnumbered_other2 h hc h0 h1 h2 h3 h4 hx hy
          · exact jnumbered_other h hc h0 h1 h2 h3 h4 hx
  · exact jnumbered_bad h hc h0 h1
end Go.Proofs.YtfighopfgllneaaGreatDoor
/- Package jstring's escaped. -/
namespace Go.Proofs.YtfighopfgllneaaGreatDoor
open Go Go.RowKit
set_option linter.unusedVariables false

theorem jesc_34 {b : Nat} {c : CS} {w : World} (h : CurT 71 w b c) (hc : c.ok) (h0 : c.er = 0) {x : UInt8} {t : List UInt8} (hb : c.bs = x :: t) (hx : x.toNat = 34) :
    Calls Tryz.prog 74 #[.pointer (some ⟨b, 0, none⟩)] w fun e w' => e = .returned (.int .i32 34) ∧ CurT 71 w' b (c.past 1) ∧ Only b w w' := by
  have HB := Lib.hid (show Calls Tryz.prog 59 #[.pointer (some ⟨b, 0, none⟩)] w fun e w' => e = .returned (.int .u8 34) ∧ CurT 71 w' b (c.past 1) ∧ Only b w w' by
    have := byte_next h hc h0 hb
    rw [hx] at this; exact this)
  clear hc h0 hb hx h
  go_enter Tryz.func74, Tryz.ntmps74
  go_wp2_with fail
  with_reducible refine HB.out.mono ?_
  rintro e w1 ⟨rfl, hq, ho⟩
  go_wp2
  go_ret
  exact ⟨rfl, hq, ho⟩
theorem jesc_92 {b : Nat} {c : CS} {w : World} (h : CurT 71 w b c) (hc : c.ok) (h0 : c.er = 0) {x : UInt8} {t : List UInt8} (hb : c.bs = x :: t) (hx : x.toNat = 92) :
    Calls Tryz.prog 74 #[.pointer (some ⟨b, 0, none⟩)] w fun e w' => e = .returned (.int .i32 92) ∧ CurT 71 w' b (c.past 1) ∧ Only b w w' := by
  have HB := Lib.hid (show Calls Tryz.prog 59 #[.pointer (some ⟨b, 0, none⟩)] w fun e w' => e = .returned (.int .u8 92) ∧ CurT 71 w' b (c.past 1) ∧ Only b w w' by
    have := byte_next h hc h0 hb
    rw [hx] at this; exact this)
  clear hc h0 hb hx h
  go_enter Tryz.func74, Tryz.ntmps74
  go_wp2_with fail
  with_reducible refine HB.out.mono ?_
  rintro e w1 ⟨rfl, hq, ho⟩
  go_wp2
  go_ret
  exact ⟨rfl, hq, ho⟩
theorem jesc_47 {b : Nat} {c : CS} {w : World} (h : CurT 71 w b c) (hc : c.ok) (h0 : c.er = 0) {x : UInt8} {t : List UInt8} (hb : c.bs = x :: t) (hx : x.toNat = 47) :
    Calls Tryz.prog 74 #[.pointer (some ⟨b, 0, none⟩)] w fun e w' => e = .returned (.int .i32 47) ∧ CurT 71 w' b (c.past 1) ∧ Only b w w' := by
  have HB := Lib.hid (show Calls Tryz.prog 59 #[.pointer (some ⟨b, 0, none⟩)] w fun e w' => e = .returned (.int .u8 47) ∧ CurT 71 w' b (c.past 1) ∧ Only b w w' by
    have := byte_next h hc h0 hb
    rw [hx] at this; exact this)
  clear hc h0 hb hx h
  go_enter Tryz.func74, Tryz.ntmps74
  go_wp2_with fail
  with_reducible refine HB.out.mono ?_
  rintro e w1 ⟨rfl, hq, ho⟩
  go_wp2
  go_ret
  exact ⟨rfl, hq, ho⟩
theorem jesc_98 {b : Nat} {c : CS} {w : World} (h : CurT 71 w b c) (hc : c.ok) (h0 : c.er = 0) {x : UInt8} {t : List UInt8} (hb : c.bs = x :: t) (hx : x.toNat = 98) :
    Calls Tryz.prog 74 #[.pointer (some ⟨b, 0, none⟩)] w fun e w' => e = .returned (.int .i32 8) ∧ CurT 71 w' b (c.past 1) ∧ Only b w w' := by
  have HB := Lib.hid (show Calls Tryz.prog 59 #[.pointer (some ⟨b, 0, none⟩)] w fun e w' => e = .returned (.int .u8 98) ∧ CurT 71 w' b (c.past 1) ∧ Only b w w' by
    have := byte_next h hc h0 hb
    rw [hx] at this; exact this)
  clear hc h0 hb hx h
  go_enter Tryz.func74, Tryz.ntmps74
  go_wp2_with fail
  with_reducible refine HB.out.mono ?_
  rintro e w1 ⟨rfl, hq, ho⟩
  go_wp2
  go_ret
  exact ⟨rfl, hq, ho⟩
theorem jesc_102 {b : Nat} {c : CS} {w : World} (h : CurT 71 w b c) (hc : c.ok) (h0 : c.er = 0) {x : UInt8} {t : List UInt8} (hb : c.bs = x :: t) (hx : x.toNat = 102) :
    Calls Tryz.prog 74 #[.pointer (some ⟨b, 0, none⟩)] w fun e w' => e = .returned (.int .i32 12) ∧ CurT 71 w' b (c.past 1) ∧ Only b w w' := by
  have HB := Lib.hid (show Calls Tryz.prog 59 #[.pointer (some ⟨b, 0, none⟩)] w fun e w' => e = .returned (.int .u8 102) ∧ CurT 71 w' b (c.past 1) ∧ Only b w w' by
    have := byte_next h hc h0 hb
    rw [hx] at this; exact this)
  clear hc h0 hb hx h
  go_enter Tryz.func74, Tryz.ntmps74
  go_wp2_with fail
  with_reducible refine HB.out.mono ?_
  rintro e w1 ⟨rfl, hq, ho⟩
  go_wp2
  go_ret
  exact ⟨rfl, hq, ho⟩
theorem jesc_110 {b : Nat} {c : CS} {w : World} (h : CurT 71 w b c) (hc : c.ok) (h0 : c.er = 0) {x : UInt8} {t : List UInt8} (hb : c.bs = x :: t) (hx : x.toNat = 110) :
    Calls Tryz.prog 74 #[.pointer (some ⟨b, 0, none⟩)] w fun e w' => e = .returned (.int .i32 10) ∧ CurT 71 w' b (c.past 1) ∧ Only b w w' := by
  have HB := Lib.hid (show Calls Tryz.prog 59 #[.pointer (some ⟨b, 0, none⟩)] w fun e w' => e = .returned (.int .u8 110) ∧ CurT 71 w' b (c.past 1) ∧ Only b w w' by
    have := byte_next h hc h0 hb
    rw [hx] at this; exact this)
  clear hc h0 hb hx h
  go_enter Tryz.func74, Tryz.ntmps74
  go_wp2_with fail
  with_reducible refine HB.out.mono ?_
  rintro e w1 ⟨rfl, hq, ho⟩
  go_wp2
  go_ret
  exact ⟨rfl, hq, ho⟩
theorem jesc_114 {b : Nat} {c : CS} {w : World} (h : CurT 71 w b c) (hc : c.ok) (h0 : c.er = 0) {x : UInt8} {t : List UInt8} (hb : c.bs = x :: t) (hx : x.toNat = 114) :
    Calls Tryz.prog 74 #[.pointer (some ⟨b, 0, none⟩)] w fun e w' => e = .returned (.int .i32 13) ∧ CurT 71 w' b (c.past 1) ∧ Only b w w' := by
  have HB := Lib.hid (show Calls Tryz.prog 59 #[.pointer (some ⟨b, 0, none⟩)] w fun e w' => e = .returned (.int .u8 114) ∧ CurT 71 w' b (c.past 1) ∧ Only b w w' by
    have := byte_next h hc h0 hb
    rw [hx] at this; exact this)
  clear hc h0 hb hx h
  go_enter Tryz.func74, Tryz.ntmps74
  go_wp2_with fail
  with_reducible refine HB.out.mono ?_
  rintro e w1 ⟨rfl, hq, ho⟩
  go_wp2
  go_ret
  exact ⟨rfl, hq, ho⟩
theorem jesc_116 {b : Nat} {c : CS} {w : World} (h : CurT 71 w b c) (hc : c.ok) (h0 : c.er = 0) {x : UInt8} {t : List UInt8} (hb : c.bs = x :: t) (hx : x.toNat = 116) :
    Calls Tryz.prog 74 #[.pointer (some ⟨b, 0, none⟩)] w fun e w' => e = .returned (.int .i32 9) ∧ CurT 71 w' b (c.past 1) ∧ Only b w w' := by
  have HB := Lib.hid (show Calls Tryz.prog 59 #[.pointer (some ⟨b, 0, none⟩)] w fun e w' => e = .returned (.int .u8 116) ∧ CurT 71 w' b (c.past 1) ∧ Only b w w' by
    have := byte_next h hc h0 hb
    rw [hx] at this; exact this)
  clear hc h0 hb hx h
  go_enter Tryz.func74, Tryz.ntmps74
  go_wp2_with fail
  with_reducible refine HB.out.mono ?_
  rintro e w1 ⟨rfl, hq, ho⟩
  go_wp2
  go_ret
  exact ⟨rfl, hq, ho⟩
theorem jesc_117 {b : Nat} {c : CS} {w : World} (h : CurT 71 w b c) (hc : c.ok) (h0 : c.er = 0) {x : UInt8} {t : List UInt8} (hb : c.bs = x :: t) (hx : x.toNat = 117) :
    Calls Tryz.prog 74 #[.pointer (some ⟨b, 0, none⟩)] w fun e w' => e = .returned (.int .i32 ((jNum t).r : Nat)) ∧ (∃ c', CurT 71 w' b c' ∧ CAt (c.past 1) (jNum t).k (jNum t).e c') ∧ Only b w w' := by
  have HB := Lib.hid (show Calls Tryz.prog 59 #[.pointer (some ⟨b, 0, none⟩)] w fun e w' => e = .returned (.int .u8 117) ∧ CurT 71 w' b (c.past 1) ∧ Only b w w' by
    have := byte_next h hc h0 hb
    rw [hx] at this; exact this)
  obtain ⟨_, _, h3, h4⟩ := CS.bs_some hc h0 hb
  have HN := Lib.hid (fun w h => jnumbered_any (w := w) (b := b) h h4 h0)
  rw [h3] at HN
  clear hc h0 hb hx h h3 h4
  go_enter Tryz.func74, Tryz.ntmps74
  go_wp2_with fail
  with_reducible refine HB.out.mono ?_
  rintro e w1 ⟨rfl, hq, ho⟩
  go_wp2_with fail
  with_reducible refine (HN.out _ hq).mono ?_
  rintro e w2 ⟨rfl, hA, ho2⟩
  go_wp2
  go_ret
  exact ⟨rfl, hA, ho.trans ho2⟩
theorem jesc_other {b : Nat} {c : CS} {w : World} (h : CurT 71 w b c) (hc : c.ok) (h0 : c.er = 0) {x : UInt8} {t : List UInt8} (hb : c.bs = x :: t) (hx : ¬ x.toNat = 117) (hx2 : jSim x.toNat = 0) :
    Calls Tryz.prog 74 #[.pointer (some ⟨b, 0, none⟩)] w fun e w' => e = .returned (.int .i32 0) ∧ CurT 71 w' b ((c.past 1).bad 6) ∧ Only b w w' := by
  have HB := Lib.hid (byte_next h hc h0 hb)
  have HE := Lib.hid (show (c.past 1).er = 0 from h0)
  obtain ⟨X, hXe⟩ : ∃ X, X = x.toNat := ⟨_, rfl⟩
  rw [← hXe] at HB hx hx2
  have n34 : ¬ X = 34 := fun h => by rw [h] at hx2; exact absurd hx2 (by decide)
  have n92 : ¬ X = 92 := fun h => by rw [h] at hx2; exact absurd hx2 (by decide)
  have n47 : ¬ X = 47 := fun h => by rw [h] at hx2; exact absurd hx2 (by decide)
  have n98 : ¬ X = 98 := fun h => by rw [h] at hx2; exact absurd hx2 (by decide)
  have n102 : ¬ X = 102 := fun h => by rw [h] at hx2; exact absurd hx2 (by decide)
  have n110 : ¬ X = 110 := fun h => by rw [h] at hx2; exact absurd hx2 (by decide)
  have n114 : ¬ X = 114 := fun h => by rw [h] at hx2; exact absurd hx2 (by decide)
  have n116 : ¬ X = 116 := fun h => by rw [h] at hx2; exact absurd hx2 (by decide)
  have p34 : ((X : Int) == 34) = false := beq_eq_false_iff_ne.mpr (by omega)
  have p92 : ((X : Int) == 92) = false := beq_eq_false_iff_ne.mpr (by omega)
  have p47 : ((X : Int) == 47) = false := beq_eq_false_iff_ne.mpr (by omega)
  have p98 : ((X : Int) == 98) = false := beq_eq_false_iff_ne.mpr (by omega)
  have p102 : ((X : Int) == 102) = false := beq_eq_false_iff_ne.mpr (by omega)
  have p110 : ((X : Int) == 110) = false := beq_eq_false_iff_ne.mpr (by omega)
  have p114 : ((X : Int) == 114) = false := beq_eq_false_iff_ne.mpr (by omega)
  have p116 : ((X : Int) == 116) = false := beq_eq_false_iff_ne.mpr (by omega)
  have p117 : ((X : Int) == 117) = false := beq_eq_false_iff_ne.mpr (by omega)
  clear hc h0 hb hx h hx2 hXe n34 n92 n47 n98 n102 n110 n114 n116
  go_enter Tryz.func74, Tryz.ntmps74
  go_wp2_with fail
  with_reducible refine HB.out.mono ?_
  rintro e w1 ⟨rfl, hq, ho⟩
  go_wp2_with fail
  with_reducible refine (fail_fresh hq HE.out 6).mono ?_
  rintro e w2 ⟨rfl, hq2, ho2⟩
  go_wp2
  go_ret
  exact ⟨rfl, hq2, ho.trans ho2⟩
theorem jesc_none {b : Nat} {c : CS} {w : World} (h : CurT 71 w b c) (hc : c.ok) (h0 : c.er = 0) (hb : c.bs = []) :
    Calls Tryz.prog 74 #[.pointer (some ⟨b, 0, none⟩)] w fun e w' => e = .returned (.int .i32 0) ∧ CurT 71 w' b (c.bad 1) ∧ Only b w w' := by
  have HB := Lib.hid (byte_lacks h hc h0 hb)
  have HNE := Lib.hid (show ¬ (c.bad 1).er = 0 by show ¬ (1 : Int) = 0; decide)
  clear hc h0 hb h
  go_enter Tryz.func74, Tryz.ntmps74
  go_wp2_with fail
  with_reducible refine HB.out.mono ?_
  rintro e w1 ⟨rfl, hq, ho⟩
  go_wp2_with fail
  with_reducible refine (fail_more hq HNE.out 6).mono ?_
  rintro e w2 ⟨rfl, hq2, ho2⟩
  go_wp2
  go_ret
  exact ⟨rfl, hq2, ho.trans ho2⟩
theorem jPair_none {n : Nat} {l : List UInt8} (h : ¬ (jPair n l).e = 0) : (jPair n l).r = 0 := by
  match l, h with
  | [], _ => rfl
  | [a], h =>
    simp only [jPair] at h ⊢
    split <;> rfl
  | a :: b :: u, h =>
    simp only [jPair] at h ⊢
    by_cases h1 : a.toNat = 92
    · rw [if_pos h1] at h ⊢
      by_cases h2 : b.toNat = 117
      · rw [if_pos h2] at h ⊢
        by_cases h3 : (jDg 4 0 u).2 = 0
        · rw [if_pos h3] at h ⊢
          by_cases h4 : (jDg 4 0 u).1 < 56320 ∨ 57343 < (jDg 4 0 u).1
          · rw [if_pos h4]
          · rw [if_neg h4] at h; exact absurd rfl h
        · rw [if_neg h3]
      · rw [if_neg h2]
    · rw [if_neg h1]
theorem jNum_none {l : List UInt8} (h : ¬ (jNum l).e = 0) : (jNum l).r = 0 := by
  unfold jNum at h ⊢
  by_cases h1 : (jDg 4 0 l).2 = 0
  · rw [if_pos h1] at h ⊢
    by_cases h2 : uIs (jDg 4 0 l).1 = true
    · rw [if_pos h2] at h; exact absurd rfl h
    · rw [if_neg h2] at h ⊢
      by_cases h3 : 56320 ≤ (jDg 4 0 l).1
      · rw [if_pos h3]
      · rw [if_neg h3] at h ⊢
        by_cases h4 : (jPair (jDg 4 0 l).1 (l.drop 4)).e = 0
        · rw [if_pos h4] at h; exact absurd rfl h
        · rw [if_neg h4]
  · rw [if_neg h1]
theorem jescaped_any {b : Nat} {c : CS} {w : World} (h : CurT 71 w b c) (hc : c.ok) (h0 : c.er = 0) :
    Calls Tryz.prog 74 #[.pointer (some ⟨b, 0, none⟩)] w fun e w' => e = .returned (.int .i32 ((jEsc c.bs).r : Nat)) ∧ (∃ c', CurT 71 w' b c' ∧ CAt c (jEsc c.bs).k (jEsc c.bs).e c') ∧ Only b w w' := by
  match hb : c.bs with
  | [] =>
    refine (jesc_none h hc h0 hb).mono ?_
    rintro e w' ⟨rfl, hq, ho⟩
    exact ⟨rfl, ⟨_, hq, CAt.bad0 hc 0 (by decide)⟩, ho⟩
  | x :: t =>
    have hl : 1 ≤ c.bs.length := by rw [hb]; simp
    by_cases hx : x.toNat = 117
    · refine (jesc_117 h hc h0 hb hx).mono ?_
      rintro e w' ⟨rfl, ⟨c', hq, hA⟩, ho⟩
      by_cases he : (jNum t).e = 0
      · have hR : jEsc (x :: t) = ⟨(jNum t).r, (jNum t).k + 1, 0⟩ := by simp only [jEsc]; rw [if_pos hx, if_pos he]
        rw [hR]
        rw [he] at hA
        refine ⟨rfl, ⟨c', hq, ?_⟩, ho⟩
        have := hA.more
        rw [Nat.add_comm] at this; exact this
      · have hR : jEsc (x :: t) = ⟨0, 0, (jNum t).e⟩ := by simp only [jEsc]; rw [if_pos hx, if_neg he]
        rw [hR]
        have h1 : (jNum t).r = 0 := jNum_none he
        rw [h1]
        exact ⟨rfl, ⟨c', hq, (hA.more).no he⟩, ho⟩
    · by_cases hs : jSim x.toNat = 0
      · have hR : jEsc (x :: t) = ⟨0, 0, 6⟩ := by simp only [jEsc]; rw [if_neg hx, if_pos hs]
        rw [hR]
        refine (jesc_other h hc h0 hb hx hs).mono ?_
        rintro e w' ⟨rfl, hq, ho⟩
        exact ⟨rfl, ⟨_, hq, CAt.bad hc hl 0 (by decide)⟩, ho⟩
      · have hR : jEsc (x :: t) = ⟨jSim x.toNat, 1, 0⟩ := by simp only [jEsc]; rw [if_neg hx, if_neg hs]
        rw [hR]
        have key : ∀ {v : Nat}, jSim x.toNat = v → (Calls Tryz.prog 74 #[.pointer (some ⟨b, 0, none⟩)] w fun e w' => e = .returned (.int .i32 (v : Nat)) ∧ CurT 71 w' b (c.past 1) ∧ Only b w w') →
            Calls Tryz.prog 74 #[.pointer (some ⟨b, 0, none⟩)] w fun e w' => e = .returned (.int .i32 ((jSim x.toNat : Nat) : Int)) ∧ (∃ c', CurT 71 w' b c' ∧ CAt c 1 0 c') ∧ Only b w w' := fun {v} hv hC => by
          rw [hv]
          refine hC.mono ?_
          rintro e w' ⟨he, hq, ho⟩
          exact ⟨he, ⟨_, hq, CAt.past hc h0 hl⟩, ho⟩
        show Calls _ _ _ _ fun e w' => e = .returned (.int .i32 ((jSim x.toNat : Nat) : Int)) ∧ (∃ c', CurT 71 w' b c' ∧ CAt c 1 0 c') ∧ Only b w w'
        by_cases x34 : x.toNat = 34
        · exact key (v := 34) (by rw [x34]; rfl) (jesc_34 h hc h0 hb x34)
        by_cases x92 : x.toNat = 92
        · exact key (v := 92) (by rw [x92]; rfl) (jesc_92 h hc h0 hb x92)
        by_cases x47 : x.toNat = 47
        · exact key (v := 47) (by rw [x47]; rfl) (jesc_47 h hc h0 hb x47)
        by_cases x98 : x.toNat = 98
        · exact key (v := 8) (by rw [x98]; rfl) (jesc_98 h hc h0 hb x98)
        by_cases x102 : x.toNat = 102
        · exact key (v := 12) (by rw [x102]; rfl) (jesc_102 h hc h0 hb x102)
        by_cases x110 : x.toNat = 110
        · exact key (v := 10) (by rw [x110]; rfl) (jesc_110 h hc h0 hb x110)
        by_cases x114 : x.toNat = 114
        · exact key (v := 13) (by rw [x114]; rfl) (jesc_114 h hc h0 hb x114)
        by_cases x116 : x.toNat = 116
        · exact key (v := 9) (by rw [x116]; rfl) (jesc_116 h hc h0 hb x116)
        exact absurd (show jSim x.toNat = 0 by unfold jSim; rw [if_neg x34, if_neg x92, if_neg x47, if_neg x98, if_neg x102, if_neg x110, if_neg x114, if_neg x116]) hs
end Go.Proofs.YtfighopfgllneaaGreatDoor
