/- Texts that go from character to character; the number that the document's own reading guesses. Of no program. -/
import Derived.Test.YteakcfgjjlocjaaDoorUNum
namespace Go.Proofs.YteakcfgjjlocjaaDoor
open Go Go.RowKit
set_option linter.unusedVariables false

/-- The character that begins at a place, and how many bytes it has. -/
def dAt (s : ByteArray) (e : Nat) : Nat × Nat := uDec (s.data.toList.drop e)
theorem dAt_le {s : ByteArray} {e : Nat} (h : 0 < (dAt s e).2) : e + (dAt s e).2 ≤ s.size := by
  have := dec_le h
  rw [List.length_drop, toList_size] at this
  unfold dAt at *
  rcases Nat.lt_or_ge e s.size with h1 | h1
  · omega
  · rw [List.drop_of_length_le (by rw [toList_size]; exact h1)] at h
    simp [uDec] at h
theorem dAt_out {s : ByteArray} {e : Nat} (h : s.size ≤ e) : dAt s e = (0, 0) := by
  unfold dAt
  rw [List.drop_of_length_le (by rw [toList_size]; exact h)]; rfl
/-- Where the characters of a text begin, one behind the other. -/
def uP (s : ByteArray) : Nat → Nat
  | 0 => 0
  | c + 1 => uP s c + (dAt s (uP s c)).2
theorem uP_step (s : ByteArray) (c : Nat) : uP s (c + 1) = uP s c + (dAt s (uP s c)).2 := rfl
theorem uP_le (s : ByteArray) (c : Nat) : uP s c ≤ s.size := by
  induction c with
  | zero => exact Nat.zero_le _
  | succ c ih =>
    rw [uP_step]
    rcases Nat.eq_zero_or_pos (dAt s (uP s c)).2 with h | h
    · omega
    · exact dAt_le h
theorem uP_mono (s : ByteArray) {c d : Nat} (h : c ≤ d) : uP s c ≤ uP s d := by
  induction d with
  | zero => rw [show c = 0 by omega]; exact Nat.le_refl _
  | succ d ih =>
    rcases Nat.lt_or_ge d c with h1 | h1
    · rw [show c = d + 1 by omega]; exact Nat.le_refl _
    · rw [uP_step]; have := ih h1; omega
theorem uP_stuck (s : ByteArray) {c d : Nat} (hk : (dAt s (uP s c)).2 = 0) (h : c ≤ d) : uP s d = uP s c := by
  induction d with
  | zero => rw [show c = 0 by omega]
  | succ d ih =>
    rcases Nat.lt_or_ge d c with h1 | h1
    · rw [show c = d + 1 by omega]
    · rw [uP_step, ih h1, hk]; rfl
/-- So far a walk has come, of what ends at n at most. -/
def WPre (s : ByteArray) (n : Int) (e c : Nat) : Prop := e = uP s c ∧ ∀ i, i < c → 0 < (dAt s (uP s i)).2 ∧ (uP s (i + 1) : Int) ≤ n
def WStop (s : ByteArray) (n : Int) (e : Nat) : Prop := (dAt s e).2 = 0 ∨ n < (e : Int) + (dAt s e).2
theorem WPre.zero (s : ByteArray) (n : Int) : WPre s n 0 0 := ⟨rfl, fun i h => by omega⟩
theorem WPre.step {s : ByteArray} {n : Int} {e c : Nat} (h : WPre s n e c) (hs : ¬ WStop s n e) : WPre s n (e + (dAt s e).2) (c + 1) := by
  obtain ⟨rfl, h2⟩ := h
  unfold WStop at hs
  refine ⟨rfl, fun i hi => ?_⟩
  rcases Nat.lt_or_ge i c with h1 | h1
  · exact h2 i h1
  · rw [show i = c by omega, uP_step]; omega
theorem WPre.le {s : ByteArray} {n : Int} {e c : Nat} (h : WPre s n e c) : e ≤ s.size := by rw [h.1]; exact uP_le s c
theorem WPre.count {s : ByteArray} {n : Int} {e c : Nat} (h : WPre s n e c) : c ≤ e := by
  obtain ⟨rfl, h2⟩ := h
  induction c with
  | zero => exact Nat.zero_le _
  | succ c ih =>
    have h3 := ih (fun i hi => h2 i (by omega))
    have h4 := (h2 c (by omega)).1
    rw [uP_step]; omega
def wGo (s : ByteArray) (n : Int) : Nat → Nat → Nat → Nat × Nat
  | 0, e, c => (e, c)
  | f + 1, e, c => if (dAt s e).2 = 0 ∨ n < (e : Int) + (dAt s e).2 then (e, c) else wGo s n f (e + (dAt s e).2) (c + 1)
/-- Where the walk ends, and how many characters it has met. -/
def wk (s : ByteArray) (n : Int) : Nat × Nat := wGo s n s.size 0 0
theorem wGo_end {s : ByteArray} {n : Int} (f e c : Nat) (h : WPre s n e c) (hf : s.size ≤ e + f) : WPre s n (wGo s n f e c).1 (wGo s n f e c).2 ∧ WStop s n (wGo s n f e c).1 := by
  induction f generalizing e c with
  | zero => exact ⟨h, .inl (by show (dAt s e).2 = 0; rw [dAt_out (by omega)])⟩
  | succ f ih =>
    unfold wGo
    by_cases hs : (dAt s e).2 = 0 ∨ n < (e : Int) + (dAt s e).2
    · rw [if_pos hs]; exact ⟨h, hs⟩
    · rw [if_neg hs]
      exact ih _ _ (h.step hs) (by omega)
theorem wk_end (s : ByteArray) (n : Int) : WPre s n (wk s n).1 (wk s n).2 ∧ WStop s n (wk s n).1 := wGo_end _ _ _ (WPre.zero s n) (by omega)
theorem walk_one {s : ByteArray} {n : Int} {e c e' c' : Nat} (h : WPre s n e c) (hs : WStop s n e) (h' : WPre s n e' c') (hs' : WStop s n e') : e = e' ∧ c = c' := by
  have key : ∀ {e c e' c' : Nat}, WPre s n e c → WStop s n e → WPre s n e' c' → ¬ c < c' := by
    intro e c e' c' h hs h' hlt
    obtain ⟨rfl, _⟩ := h
    have h3 := h'.2 c hlt
    rw [uP_step] at h3
    unfold WStop at hs
    omega
  have hc : c = c' := by
    have a := key h hs h'
    have b := key h' hs' h
    omega
  subst hc
  exact ⟨h.1.trans h'.1.symm, rfl⟩
/-- A walk that has ended has ended just there. -/
theorem wk_of {s : ByteArray} {n : Int} {e c : Nat} (h : WPre s n e c) (hs : WStop s n e) : wk s n = (e, c) := by
  obtain ⟨h1, h2⟩ := wk_end s n
  obtain ⟨h3, h4⟩ := walk_one h1 h2 h hs
  exact Prod.ext h3 h4
theorem wk_le (s : ByteArray) (n : Int) : (wk s n).1 ≤ s.size := (wk_end s n).1.le
theorem wk_max {s : ByteArray} {n : Int} {d : Nat} (h : (uP s d : Int) ≤ n) : uP s d ≤ (wk s n).1 := by
  obtain ⟨h1, h2⟩ := wk_end s n
  generalize (wk s n).1 = e at *
  generalize (wk s n).2 = c at *
  obtain ⟨rfl, h3⟩ := h1
  rcases Nat.lt_or_ge c d with hlt | hge
  · rcases h2 with h2 | h2
    · rw [uP_stuck s h2 (Nat.le_of_lt hlt)]; exact Nat.le_refl _
    · have := uP_mono s (show c + 1 ≤ d from hlt)
      rw [uP_step] at this
      omega
  · exact uP_mono s hge
theorem wk_bound (s : ByteArray) (n : Int) : ((wk s n).1 : Int) ≤ max 0 n := by
  obtain ⟨h1, h2⟩ := wk_end s n
  generalize (wk s n).1 = e at *
  generalize (wk s n).2 = c at *
  obtain ⟨rfl, h3⟩ := h1
  match c, h3 with
  | 0, _ => show ((0 : Nat) : Int) ≤ _; omega
  | c + 1, h3 => have := (h3 c (by omega)).2; omega
/-- A text is right. -/
def uOk (s : ByteArray) : Prop := (wk s s.size).1 = s.size
instance (s : ByteArray) : Decidable (uOk s) := inferInstanceAs (Decidable ((wk s s.size).1 = s.size))
def uCheck (s : ByteArray) : Int := if (wk s s.size).1 = s.size then -1 else (wk s s.size).1
def uCount (s : ByteArray) : Int := if (wk s s.size).1 = s.size then (wk s s.size).2 else -1
def uCut (s : ByteArray) (n : Int) : ByteArray := s.extract 0 (wk s n).1

theorem front_same {s t : ByteArray} {m e : Nat} (ht : t.data.toList = s.data.toList.take m) (hm : m ≤ s.size) (hk : 0 < (dAt t e).2) : dAt s e = dAt t e := by
  have hts : t.size = m := by
    have := congrArg List.length ht
    rw [toList_size, List.length_take, toList_size] at this; omega
  have hle := dAt_le hk
  have h2 := hk
  unfold dAt at *
  refine dec_loc h2 ?_
  rw [ht] at hle ⊢
  generalize (uDec (List.drop e (List.take m s.data.toList))).2 = k at *
  rw [List.drop_take, List.take_take, Nat.min_eq_left (by omega)]
theorem front_back {s t : ByteArray} {m e : Nat} (ht : t.data.toList = s.data.toList.take m) (hm : m ≤ s.size) (hk : 0 < (dAt s e).2) (hle : e + (dAt s e).2 ≤ m) : dAt t e = dAt s e := by
  have h2 := hk
  unfold dAt at *
  refine dec_loc h2 ?_
  rw [ht]
  generalize (uDec (List.drop e s.data.toList)).2 = k at *
  rw [List.drop_take, List.take_take, Nat.min_eq_left (by omega)]
theorem front_size {s t : ByteArray} {m : Nat} (ht : t.data.toList = s.data.toList.take m) (hm : m ≤ s.size) : t.size = m := by
  have := congrArg List.length ht
  rw [toList_size, List.length_take, toList_size] at this; omega
theorem ok_places {s t : ByteArray} {m : Nat} (ht : t.data.toList = s.data.toList.take m) (hm : m ≤ s.size) (h : uOk t) : ∃ c, c = (wk t t.size).2 ∧ uP s c = m ∧ uP t c = m ∧ ∀ i, i ≤ c → uP s i = uP t i := by
  obtain ⟨h1, h2⟩ := wk_end t t.size
  unfold uOk at h
  rw [h] at h1
  refine ⟨_, rfl, ?_⟩
  generalize (wk t t.size).2 = c at *
  obtain ⟨h3, h4⟩ := h1
  have key : ∀ i, i ≤ c → uP s i = uP t i := by
    intro i hi
    induction i with
    | zero => rfl
    | succ i ih =>
      have e := ih (by omega)
      rw [uP_step, uP_step, e, front_same ht hm (h4 i (by omega)).1]
  have hts := front_size ht hm
  exact ⟨by rw [key c (Nat.le_refl _), ← h3, hts], by rw [← h3, hts], key⟩
theorem least_place (s : ByteArray) (c : Nat) : ∃ d, uP s d = uP s c ∧ ∀ i, i < d → 0 < (dAt s (uP s i)).2 := by
  induction c with
  | zero => exact ⟨0, rfl, fun i h => by omega⟩
  | succ c ih =>
    obtain ⟨d, h1, h2⟩ := ih
    rcases Nat.eq_zero_or_pos (dAt s (uP s c)).2 with h | h
    · exact ⟨d, by rw [uP_step, h, h1]; rfl, h2⟩
    · refine ⟨d + 1, by rw [uP_step, uP_step, h1], fun i hi => ?_⟩
      rcases Nat.lt_or_ge i d with h3 | h3
      · exact h2 i h3
      · rw [show i = d by omega, h1]; exact h
theorem places_ok {s t : ByteArray} {m c : Nat} (ht : t.data.toList = s.data.toList.take m) (hm : m ≤ s.size) (h : uP s c = m) : uOk t := by
  obtain ⟨d, h1, h2⟩ := least_place s c
  rw [h] at h1
  have hts := front_size ht hm
  have key : ∀ i, i ≤ d → uP t i = uP s i := by
    intro i hi
    induction i with
    | zero => rfl
    | succ i ih =>
      have e := ih (by omega)
      have h3 := h2 i (by omega)
      have h4 := uP_mono s hi
      rw [uP_step] at h4
      rw [uP_step, uP_step, e, front_back ht hm h3 (by omega)]
  have hw : WPre t t.size t.size d := by
    refine ⟨by rw [key d (Nat.le_refl _), h1, hts], fun i hi => ⟨?_, by have := uP_le t (i + 1); omega⟩⟩
    have e1 := key i (by omega)
    have e2 := key (i + 1) (by omega)
    have h3 := h2 i hi
    rw [uP_step, uP_step] at e2
    omega
  have := wk_of hw (.inl (by rw [dAt_out (Nat.le_refl _)]))
  unfold uOk
  rw [this]
theorem cut_toList (s : ByteArray) (e : Nat) : (s.extract 0 e).data.toList = s.data.toList.take e := by
  rw [ByteArray.data_extract, Array.toList_extract, List.extract_eq_take_drop]; simp
/-- What is cut of a text is right. -/
theorem cut_ok (s : ByteArray) (n : Int) : uOk (uCut s n) :=
  places_ok (cut_toList s _) (wk_le s n) (wk_end s n).1.1.symm
theorem cut_size (s : ByteArray) (n : Int) : (uCut s n).size = (wk s n).1 := front_size (cut_toList s _) (wk_le s n)
/-- Whatever front of at most n bytes is right, it is no longer than what is cut. -/
theorem cut_max {s : ByteArray} {n : Int} {m : Nat} (hm : m ≤ s.size) (hn : (m : Int) ≤ n) (h : uOk (s.extract 0 m)) : m ≤ (wk s n).1 := by
  obtain ⟨c, _, h1, _⟩ := ok_places (cut_toList s m) hm h
  rw [← h1]
  exact wk_max (by rw [h1]; exact hn)
/-- Two right texts side by side. -/
theorem join_ok {s t : ByteArray} (hs : uOk s) (ht : uOk t) : uOk (s ++ t) ∧ (wk (s ++ t) (s ++ t).size).2 = (wk s s.size).2 + (wk t t.size).2 := by
  have hfs : s.data.toList = (s ++ t).data.toList.take s.size := by
    rw [toList_append, List.take_append_of_le_length (by rw [toList_size]; exact Nat.le_refl _), List.take_of_length_le (by rw [toList_size]; exact Nat.le_refl _)]
  have hsz : (s ++ t).size = s.size + t.size := ByteArray.size_append
  obtain ⟨c, hc, h1, h2, h3⟩ := ok_places (s := s ++ t) hfs (by omega) hs
  obtain ⟨d, hd, h4, h5, h6⟩ := ok_places (s := t) (t := t) (m := t.size) (by rw [List.take_of_length_le (by rw [toList_size]; exact Nat.le_refl _)]) (Nat.le_refl _) ht
  have hsh : ∀ e, dAt (s ++ t) (s.size + e) = dAt t e := by
    intro e
    unfold dAt
    rw [toList_append, show s.size + e = s.data.toList.length + e by rw [toList_size], List.drop_length_add_append]
  have key : ∀ j, uP (s ++ t) (c + j) = s.size + uP t j := by
    intro j
    induction j with
    | zero => rw [Nat.add_zero, h1]; rfl
    | succ j ih => rw [← Nat.add_assoc, uP_step, ih, hsh, uP_step]; omega
  have ws := (wk_end s s.size).1.2
  have wt := (wk_end t t.size).1.2
  rw [← hc] at ws
  rw [← hd] at wt
  have hw : WPre (s ++ t) (s ++ t).size (s ++ t).size (c + d) := by
    refine ⟨by rw [key d, h4, hsz], fun i hi => ⟨?_, by have := uP_le (s ++ t) (i + 1); omega⟩⟩
    rcases Nat.lt_or_ge i c with hlt | hge
    · have e1 := h3 i (by omega)
      have e2 := h3 (i + 1) (by omega)
      have e3 := (ws i hlt).1
      rw [uP_step, uP_step] at e2
      omega
    · obtain ⟨j, rfl⟩ : ∃ j, i = c + j := ⟨i - c, by omega⟩
      rw [key j, hsh]
      exact (wt j (by omega)).1
  have hk := wk_of hw (.inl (by rw [dAt_out (Nat.le_refl _)]))
  unfold uOk
  rw [hk]
  exact ⟨rfl, by rw [hc, hd]⟩

/-- The number that the document's own reading guesses. -/
def gK (c : Nat) : Nat := if 240 ≤ c then 3 else if 224 ≤ c then 2 else 1
def gH (c : Nat) : Nat := if 240 ≤ c then 240 else if 224 ≤ c then 224 else 192
def gFold (n : Int) (t : List UInt8) : Int := t.foldl (fun n b => 64 * n + (b.toNat : Int) - 128) n
def uGs : List UInt8 → Int
  | [] => 0
  | c :: t => if c.toNat < 128 then c.toNat else if t.length < gK c.toNat then -1 else gFold ((c.toNat : Int) - gH c.toNat) (t.take (gK c.toNat))
theorem gs1 (c : UInt8) (t : List UInt8) (h : c.toNat < 128) : uGs (c :: t) = c.toNat := by simp only [uGs]; rw [if_pos h]
theorem gsN (c : UInt8) (t : List UInt8) (k h : Nat) (h1 : ¬ c.toNat < 128) (hk : gK c.toNat = k) (hh : gH c.toNat = h) (hl : ¬ t.length < k) : uGs (c :: t) = gFold ((c.toNat : Int) - h) (t.take k) := by
  simp only [uGs]; rw [if_neg h1, hk, hh, if_neg hl]
theorem gs_put {r : Nat} (m : List UInt8) (h : uIs r = true) : uGs (uB r ++ m) = r := by
  have hr := uIs_iff.mp h
  unfold uB
  by_cases h1 : r < 128
  · rw [if_pos h1]
    have e := b8_toNat (n := r) (by omega)
    show uGs (b8 r :: m) = r
    rw [gs1 _ _ (by omega), e]
  · rw [if_neg h1]
    by_cases h2 : r < 2048
    · rw [if_pos h2]
      have e0 := b8_toNat (n := 192 + r / 64) (by omega)
      have e1 := b8_toNat (n := 128 + r % 64) (by omega)
      show uGs (b8 (192 + r / 64) :: b8 (128 + r % 64) :: m) = r
      generalize b8 (192 + r / 64) = c at *
      generalize b8 (128 + r % 64) = a at *
      rw [gsN c _ 1 192 (by omega) (by unfold gK; rw [if_neg (by omega), if_neg (by omega)]) (by unfold gH; rw [if_neg (by omega), if_neg (by omega)]) (by simp)]
      simp only [List.take_succ_cons, List.take_zero, gFold, List.foldl_cons, List.foldl_nil]
      omega
    · rw [if_neg h2]
      by_cases h3 : r < 65536
      · rw [if_pos h3]
        have e0 := b8_toNat (n := 224 + r / 4096) (by omega)
        have e1 := b8_toNat (n := 128 + r / 64 % 64) (by omega)
        have e2 := b8_toNat (n := 128 + r % 64) (by omega)
        show uGs (b8 (224 + r / 4096) :: b8 (128 + r / 64 % 64) :: b8 (128 + r % 64) :: m) = r
        generalize b8 (224 + r / 4096) = c at *
        generalize b8 (128 + r / 64 % 64) = a at *
        generalize b8 (128 + r % 64) = b at *
        have : r / 64 / 64 = r / 4096 := Nat.div_div_eq_div_mul r 64 64
        rw [gsN c _ 2 224 (by omega) (by unfold gK; rw [if_neg (by omega), if_pos (by omega)]) (by unfold gH; rw [if_neg (by omega), if_pos (by omega)]) (by simp)]
        simp only [List.take_succ_cons, List.take_zero, gFold, List.foldl_cons, List.foldl_nil]
        omega
      · rw [if_neg h3]
        have e0 := b8_toNat (n := 240 + r / 262144) (by omega)
        have e1 := b8_toNat (n := 128 + r / 4096 % 64) (by omega)
        have e2 := b8_toNat (n := 128 + r / 64 % 64) (by omega)
        have e3 := b8_toNat (n := 128 + r % 64) (by omega)
        show uGs (b8 (240 + r / 262144) :: b8 (128 + r / 4096 % 64) :: b8 (128 + r / 64 % 64) :: b8 (128 + r % 64) :: m) = r
        generalize b8 (240 + r / 262144) = c at *
        generalize b8 (128 + r / 4096 % 64) = a at *
        generalize b8 (128 + r / 64 % 64) = b at *
        generalize b8 (128 + r % 64) = d at *
        have : r / 64 / 64 = r / 4096 := Nat.div_div_eq_div_mul r 64 64
        have : r / 4096 / 64 = r / 262144 := Nat.div_div_eq_div_mul r 4096 64
        rw [gsN c _ 3 240 (by omega) (by unfold gK; rw [if_pos (by omega)]) (by unfold gH; rw [if_pos (by omega)]) (by simp)]
        simp only [List.take_succ_cons, List.take_zero, gFold, List.foldl_cons, List.foldl_nil]
        omega
/-- What is guessed is right just if its bytes stand there. -/
theorem gs_yes {l : List UInt8} {r : Nat} (h : uIs r = true) (ht : l.take (uB r).length = uB r) : uDec l = (r, (uB r).length) := by
  have : l = uB r ++ l.drop (uB r).length := by
    have := List.take_append_drop (uB r).length l
    rw [ht] at this; exact this.symm
  rw [this, dec_put _ h]
theorem gs_no {l : List UInt8} (h : ¬ (uIs (uGs l) = true ∧ l.take (uB (uGs l).toNat).length = uB (uGs l).toNat)) : uDec l = (0, 0) := by
  rcases Nat.eq_zero_or_pos (uDec l).2 with h0 | h0
  · exact dec_none h0
  · exfalso
    obtain ⟨h1, h2, h3⟩ := dec_inv h0
    have e : uGs l = (uDec l).1 := by
      have := congrArg uGs h2
      rw [gs_put _ h1] at this; exact this
    refine h ⟨by rw [e]; exact h1, ?_⟩
    rw [e, Int.toNat_natCast]
    have := congrArg (List.take (uB (uDec l).1).length) h2
    rw [List.take_left'] at this
    · exact this
    · rfl
end Go.Proofs.YteakcfgjjlocjaaDoor
