/- Several texts in one (UText, JsOk, HNum, JsNum): each begins with its own words. -/
import Derived.Test.YtnbhhnkcfbfdcaaGreatDoorZA
import GoSem.Op.String
/- Texts that go from character to character; the number that the document's own reading guesses. Of no program. -/
namespace Go.Proofs.YtnbhhnkcfbfdcaaGreatDoor
open Go Go.RowKit
set_option linter.unusedVariables false

/-- The character that begins at a place, and how many bytes it has. -/
def dAt (s : ByteArray) (e : Nat) : Nat × Nat := uDec (s.data.toList.drop e)
theorem dAt_le {s : ByteArray} {e : Nat} (h : 0 < (dAt s e).2) : e + (dAt s e).2 ≤ s.size := by
  have := dec_le h
  rw [List.length_drop, toList_size] at this
  unfold dAt at *
  rcases Nat.lt_or_ge e s.size with h1 | h1
  · omega
  · rw [List.drop_of_length_le (by rw [toList_size]; exact h1)] at h
    simp [uDec] at h
theorem dAt_out {s : ByteArray} {e : Nat} (h : s.size ≤ e) : dAt s e = (0, 0) := by
  unfold dAt
  rw [List.drop_of_length_le (by rw [toList_size]; exact h)]; rfl
/-- Where the characters of a text begin, one behind the other. -/
def uP (s : ByteArray) : Nat → Nat
  | 0 => 0
  | c + 1 => uP s c + (dAt s (uP s c)).2
theorem uP_step (s : ByteArray) (c : Nat) : uP s (c + 1) = uP s c + (dAt s (uP s c)).2 := rfl
theorem uP_le (s : ByteArray) (c : Nat) : uP s c ≤ s.size := by
  induction c with
  | zero => exact Nat.zero_le _
  | succ c ih =>
    rw [uP_step]
    rcases Nat.eq_zero_or_pos (dAt s (uP s c)).2 with h | h
    · omega
    · exact dAt_le h
theorem uP_mono (s : ByteArray) {c d : Nat} (h : c ≤ d) : uP s c ≤ uP s d := by
  induction d with
  | zero => rw [show c = 0 by omega]; exact Nat.le_refl _
  | succ d ih =>
    rcases Nat.lt_or_ge d c with h1 | h1
    · rw [show c = d + 1 by omega]; exact Nat.le_refl _
    · rw [uP_step]; have := ih h1; omega
theorem uP_stuck (s : ByteArray) {c d : Nat} (hk : (dAt s (uP s c)).2 = 0) (h : c ≤ d) : uP s d = uP s c := by
  induction d with
  | zero => rw [show c = 0 by omega]
  | succ d ih =>
    rcases Nat.lt_or_ge d c with h1 | h1
    · rw [show c = d + 1 by omega]
    · rw [uP_step, ih h1, hk]; rfl
/-- So far a walk has come, of what ends at n at most. -/
def WPre (s : ByteArray) (n : Int) (e c : Nat) : Prop := e = uP s c ∧ ∀ i, i < c → 0 < (dAt s (uP s i)).2 ∧ (uP s (i + 1) : Int) ≤ n
def WStop (s : ByteArray) (n : Int) (e : Nat) : Prop := (dAt s e).2 = 0 ∨ n < (e : Int) + (dAt s e).2
theorem WPre.zero (s : ByteArray) (n : Int) : WPre s n 0 0 := ⟨rfl, fun i h => by omega⟩
theorem WPre.step {s : ByteArray} {n : Int} {e c : Nat} (h : WPre s n e c) (hs : ¬ WStop s n e) : WPre s n (e + (dAt s e).2) (c + 1) := by
  obtain ⟨rfl, h2⟩ := h
  unfold WStop at hs
  refine ⟨rfl, fun i hi => ?_⟩
  rcases Nat.lt_or_ge i c with h1 | h1
  · exact h2 i h1
  · rw [show i = c by omega, uP_step]; omega
theorem WPre.le {s : ByteArray} {n : Int} {e c : Nat} (h : WPre s n e c) : e ≤ s.size := by rw [h.1]; exact uP_le s c
theorem WPre.count {s : ByteArray} {n : Int} {e c : Nat} (h : WPre s n e c) : c ≤ e := by
  obtain ⟨rfl, h2⟩ := h
  induction c with
  | zero => exact Nat.zero_le _
  | succ c ih =>
    have h3 := ih (fun i hi => h2 i (by omega))
    have h4 := (h2 c (by omega)).1
    rw [uP_step]; omega
def wGo (s : ByteArray) (n : Int) : Nat → Nat → Nat → Nat × Nat
  | 0, e, c => (e, c)
  | f + 1, e, c => if (dAt s e).2 = 0 ∨ n < (e : Int) + (dAt s e).2 then (e, c) else wGo s n f (e + (dAt s e).2) (c + 1)
/-- Where the walk ends, and how many characters it has met. -/
def wk (s : ByteArray) (n : Int) : Nat × Nat := wGo s n s.size 0 0
theorem wGo_end {s : ByteArray} {n : Int} (f e c : Nat) (h : WPre s n e c) (hf : s.size ≤ e + f) : WPre s n (wGo s n f e c).1 (wGo s n f e c).2 ∧ WStop s n (wGo s n f e c).1 := by
  induction f generalizing e c with
  | zero => exact ⟨h, .inl (by show (dAt s e).2 = 0; rw [dAt_out (by omega)])⟩
  | succ f ih =>
    unfold wGo
    by_cases hs : (dAt s e).2 = 0 ∨ n < (e : Int) + (dAt s e).2
    · rw [if_pos hs]; exact ⟨h, hs⟩
    · rw [if_neg hs]
      exact ih _ _ (h.step hs) (by omega)
theorem wk_end (s : ByteArray) (n : Int) : WPre s n (wk s n).1 (wk s n).2 ∧ WStop s n (wk s n).1 := wGo_end _ _ _ (WPre.zero s n) (by omega)
theorem walk_one {s : ByteArray} {n : Int} {e c e' c' : Nat} (h : WPre s n e c) (hs : WStop s n e) (h' : WPre s n e' c') (hs' : WStop s n e') : e = e' ∧ c = c' := by
  have key : ∀ {e c e' c' : Nat}, WPre s n e c → WStop s n e → WPre s n e' c' → ¬ c < c' := by
    intro e c e' c' h hs h' hlt
    obtain ⟨rfl, _⟩ := h
    have h3 := h'.2 c hlt
    rw [uP_step] at h3
    unfold WStop at hs
    omega
  have hc : c = c' := by
    have a := key h hs h'
    have b := key h' hs' h
    omega
  subst hc
  exact ⟨h.1.trans h'.1.symm, rfl⟩
/-- A walk that has ended has ended just there. -/
theorem wk_of {s : ByteArray} {n : Int} {e c : Nat} (h : WPre s n e c) (hs : WStop s n e) : wk s n = (e, c) := by
  obtain ⟨h1, h2⟩ := wk_end s n
  obtain ⟨h3, h4⟩ := walk_one h1 h2 h hs
  exact Prod.ext h3 h4
theorem wk_le (s : ByteArray) (n : Int) : (wk s n).1 ≤ s.size := (wk_end s n).1.le
theorem wk_max {s : ByteArray} {n : Int} {d : Nat} (h : (uP s d : Int) ≤ n) : uP s d ≤ (wk s n).1 := by
  obtain ⟨h1, h2⟩ := wk_end s n
  generalize (wk s n).1 = e at *
  generalize (wk s n).2 = c at *
  obtain ⟨rfl, h3⟩ := h1
  rcases Nat.lt_or_ge c d with hlt | hge
  · rcases h2 with h2 | h2
    · rw [uP_stuck s h2 (Nat.le_of_lt hlt)]; exact Nat.le_refl _
    · have := uP_mono s (show c + 1 ≤ d from hlt)
      rw [uP_step] at this
      omega
  · exact uP_mono s hge
theorem wk_bound (s : ByteArray) (n : Int) : ((wk s n).1 : Int) ≤ max 0 n := by
  obtain ⟨h1, h2⟩ := wk_end s n
  generalize (wk s n).1 = e at *
  generalize (wk s n).2 = c at *
  obtain ⟨rfl, h3⟩ := h1
  match c, h3 with
  | 0, _ => show ((0 : Nat) : Int) ≤ _; omega
  | c + 1, h3 => have := (h3 c (by omega)).2; omega
/-- A text is right. -/
def uOk (s : ByteArray) : Prop := (wk s s.size).1 = s.size
instance (s : ByteArray) : Decidable (uOk s) := inferInstanceAs (Decidable ((wk s s.size).1 = s.size))
def uCheck (s : ByteArray) : Int := if (wk s s.size).1 = s.size then -1 else (wk s s.size).1
def uCount (s : ByteArray) : Int := if (wk s s.size).1 = s.size then (wk s s.size).2 else -1
def uCut (s : ByteArray) (n : Int) : ByteArray := s.extract 0 (wk s n).1

theorem front_same {s t : ByteArray} {m e : Nat} (ht : t.data.toList = s.data.toList.take m) (hm : m ≤ s.size) (hk : 0 < (dAt t e).2) : dAt s e = dAt t e := by
  have hts : t.size = m := by
    have := congrArg List.length ht
    rw [toList_size, List.length_take, toList_size] at this; omega
  have hle := dAt_le hk
  have h2 := hk
  unfold dAt at *
  refine dec_loc h2 ?_
  rw [ht] at hle ⊢
  generalize (uDec (List.drop e (List.take m s.data.toList))).2 = k at *
  rw [List.drop_take, List.take_take, Nat.min_eq_left (by omega)]
theorem front_back {s t : ByteArray} {m e : Nat} (ht : t.data.toList = s.data.toList.take m) (hm : m ≤ s.size) (hk : 0 < (dAt s e).2) (hle : e + (dAt s e).2 ≤ m) : dAt t e = dAt s e := by
  have h2 := hk
  unfold dAt at *
  refine dec_loc h2 ?_
  rw [ht]
  generalize (uDec (List.drop e s.data.toList)).2 = k at *
  rw [List.drop_take, List.take_take, Nat.min_eq_left (by omega)]
theorem front_size {s t : ByteArray} {m : Nat} (ht : t.data.toList = s.data.toList.take m) (hm : m ≤ s.size) : t.size = m := by
  have := congrArg List.length ht
  rw [toList_size, List.length_take, toList_size] at this; omega
theorem ok_places {s t : ByteArray} {m : Nat} (ht : t.data.toList = s.data.toList.take m) (hm : m ≤ s.size) (h : uOk t) : ∃ c, c = (wk t t.size).2 ∧ uP s c = m ∧ uP t c = m ∧ ∀ i, i ≤ c → uP s i = uP t i := by
  obtain ⟨h1, h2⟩ := wk_end t t.size
  unfold uOk at h
  rw [h] at h1
  refine ⟨_, rfl, ?_⟩
  generalize (wk t t.size).2 = c at *
  obtain ⟨h3, h4⟩ := h1
  have key : ∀ i, i ≤ c → uP s i = uP t i := by
    intro i hi
    induction i with
    | zero => rfl
    | succ i ih =>
      have e := ih (by omega)
      rw [uP_step, uP_step, e, front_same ht hm (h4 i (by omega)).1]
  have hts := front_size ht hm
  exact ⟨by rw [key c (Nat.le_refl _), ← h3, hts], by rw [← h3, hts], key⟩
theorem least_place (s : ByteArray) (c : Nat) : ∃ d, uP s d = uP s c ∧ ∀ i, i < d → 0 < (dAt s (uP s i)).2 := by
  induction c with
  | zero => exact ⟨0, rfl, fun i h => by omega⟩
  | succ c ih =>
    obtain ⟨d, h1, h2⟩ := ih
    rcases Nat.eq_zero_or_pos (dAt s (uP s c)).2 with h | h
    · exact ⟨d, by rw [uP_step, h, h1]; rfl, h2⟩
    · refine ⟨d + 1, by rw [uP_step, uP_step, h1], fun i hi => ?_⟩
      rcases Nat.lt_or_ge i d with h3 | h3
      · exact h2 i h3
      · rw [show i = d by omega, h1]; exact h
theorem places_ok {s t : ByteArray} {m c : Nat} (ht : t.data.toList = s.data.toList.take m) (hm : m ≤ s.size) (h : uP s c = m) : uOk t := by
  obtain ⟨d, h1, h2⟩ := least_place s c
  rw [h] at h1
  have hts := front_size ht hm
  have key : ∀ i, i ≤ d → uP t i = uP s i := by
    intro i hi
    induction i with
    | zero => rfl
    | succ i ih =>
      have e := ih (by omega)
      have h3 := h2 i (by omega)
      have h4 := uP_mono s hi
      rw [uP_step] at h4
      rw [uP_step, uP_step, e, front_back ht hm h3 (by omega)]
  have hw : WPre t t.size t.size d := by
    refine ⟨by rw [key d (Nat.le_refl _), h1, hts], fun i hi => ⟨?_, by have := uP_le t (i + 1); omega⟩⟩
    have e1 := key i (by omega)
    have e2 := key (i + 1) (by omega)
    have h3 := h2 i hi
    rw [uP_step, uP_step] at e2
    omega
  have := wk_of hw (.inl (by rw [dAt_out (Nat.le_refl _)]))
  unfold uOk
  rw [this]
theorem cut_toList (s : ByteArray) (e : Nat) : (s.extract 0 e).data.toList = s.data.toList.take e := by
  rw [ByteArray.data_extract, Array.toList_extract, List.extract_eq_take_drop]; simp
/-- What is cut of a text is right. -/
theorem cut_ok (s : ByteArray) (n : Int) : uOk (uCut s n) :=
  places_ok (cut_toList s _) (wk_le s n) (wk_end s n).1.1.symm
theorem cut_size (s : ByteArray) (n : Int) : (uCut s n).size = (wk s n).1 := front_size (cut_toList s _) (wk_le s n)
/-- Whatever front of at most n bytes is right, it is no longer than what is cut. -/
theorem cut_max {s : ByteArray} {n : Int} {m : Nat} (hm : m ≤ s.size) (hn : (m : Int) ≤ n) (h : uOk (s.extract 0 m)) : m ≤ (wk s n).1 := by
  obtain ⟨c, _, h1, _⟩ := ok_places (cut_toList s m) hm h
  rw [← h1]
  exact wk_max (by rw [h1]; exact hn)
/-- Two right texts side by side. -/
theorem join_ok {s t : ByteArray} (hs : uOk s) (ht : uOk t) : uOk (s ++ t) ∧ (wk (s ++ t) (s ++ t).size).2 = (wk s s.size).2 + (wk t t.size).2 := by
  have hfs : s.data.toList = (s ++ t).data.toList.take s.size := by
    rw [toList_append, List.take_append_of_le_length (by rw [toList_size]; exact Nat.le_refl _), List.take_of_length_le (by rw [toList_size]; exact Nat.le_refl _)]
  have hsz : (s ++ t).size = s.size + t.size := ByteArray.size_append
  obtain ⟨c, hc, h1, h2, h3⟩ := ok_places (s := s ++ t) hfs (by omega) hs
  obtain ⟨d, hd, h4, h5, h6⟩ := ok_places (s := t) (t := t) (m := t.size) (by rw [List.take_of_length_le (by rw [toList_size]; exact Nat.le_refl _)]) (Nat.le_refl _) ht
  have hsh : ∀ e, dAt (s ++ t) (s.size + e) = dAt t e := by
    intro e
    unfold dAt
    rw [toList_append, show s.size + e = s.data.toList.length + e by rw [toList_size], List.drop_length_add_append]
  have key : ∀ j, uP (s ++ t) (c + j) = s.size + uP t j := by
    intro j
    induction j with
    | zero => rw [Nat.add_zero, h1]; rfl
    | succ j ih => rw [← Nat.add_assoc, uP_step, ih, hsh, uP_step]; omega
  have ws := (wk_end s s.size).1.2
  have wt := (wk_end t t.size).1.2
  rw [← hc] at ws
  rw [← hd] at wt
  have hw : WPre (s ++ t) (s ++ t).size (s ++ t).size (c + d) := by
    refine ⟨by rw [key d, h4, hsz], fun i hi => ⟨?_, by have := uP_le (s ++ t) (i + 1); omega⟩⟩
    rcases Nat.lt_or_ge i c with hlt | hge
    · have e1 := h3 i (by omega)
      have e2 := h3 (i + 1) (by omega)
      have e3 := (ws i hlt).1
      rw [uP_step, uP_step] at e2
      omega
    · obtain ⟨j, rfl⟩ : ∃ j, i = c + j := ⟨i - c, by omega⟩
      rw [key j, hsh]
      exact (wt j (by omega)).1
  have hk := wk_of hw (.inl (by rw [dAt_out (Nat.le_refl _)]))
  unfold uOk
  rw [hk]
  exact ⟨rfl, by rw [hc, hd]⟩

/-- The number that the document's own reading guesses. -/
def gK (c : Nat) : Nat := if 240 ≤ c then 3 else if 224 ≤ c then 2 else 1
def gH (c : Nat) : Nat := if 240 ≤ c then 240 else if 224 ≤ c then 224 else 192
def gFold (n : Int) (t : List UInt8) : Int := t.foldl (fun n b => 64 * n + (b.toNat : Int) - 128) n
def uGs : List UInt8 → Int
  | [] => 0
  | c :: t => if c.toNat < 128 then c.toNat else if t.length < gK c.toNat then -1 else gFold ((c.toNat : Int) - gH c.toNat) (t.take (gK c.toNat))
theorem gs1 (c : UInt8) (t : List UInt8) (h : c.toNat < 128) : uGs (c :: t) = c.toNat := by simp only [uGs]; rw [if_pos h]
theorem gsN (c : UInt8) (t : List UInt8) (k h : Nat) (h1 : ¬ c.toNat < 128) (hk : gK c.toNat = k) (hh : gH c.toNat = h) (hl : ¬ t.length < k) : uGs (c :: t) = gFold ((c.toNat : Int) - h) (t.take k) := by
  simp only [uGs]; rw [if_neg h1, hk, hh, if_neg hl]
theorem gs_put {r : Nat} (m : List UInt8) (h : uIs r = true) : uGs (uB r ++ m) = r := by
  have hr := uIs_iff.mp h
  unfold uB
  by_cases h1 : r < 128
  · rw [if_pos h1]
    have e := b8_toNat (n := r) (by omega)
    show uGs (b8 r :: m) = r
    rw [gs1 _ _ (by omega), e]
  · rw [if_neg h1]
    by_cases h2 : r < 2048
    · rw [if_pos h2]
      have e0 := b8_toNat (n := 192 + r / 64) (by omega)
      have e1 := b8_toNat (n := 128 + r % 64) (by omega)
      show uGs (b8 (192 + r / 64) :: b8 (128 + r % 64) :: m) = r
      generalize b8 (192 + r / 64) = c at *
      generalize b8 (128 + r % 64) = a at *
      rw [gsN c _ 1 192 (by omega) (by unfold gK; rw [if_neg (by omega), if_neg (by omega)]) (by unfold gH; rw [if_neg (by omega), if_neg (by omega)]) (by simp)]
      simp only [List.take_succ_cons, List.take_zero, gFold, List.foldl_cons, List.foldl_nil]
      omega
    · rw [if_neg h2]
      by_cases h3 : r < 65536
      · rw [if_pos h3]
        have e0 := b8_toNat (n := 224 + r / 4096) (by omega)
        have e1 := b8_toNat (n := 128 + r / 64 % 64) (by omega)
        have e2 := b8_toNat (n := 128 + r % 64) (by omega)
        show uGs (b8 (224 + r / 4096) :: b8 (128 + r / 64 % 64) :: b8 (128 + r % 64) :: m) = r
        generalize b8 (224 + r / 4096) = c at *
        generalize b8 (128 + r / 64 % 64) = a at *
        generalize b8 (128 + r % 64) = b at *
        have : r / 64 / 64 = r / 4096 := Nat.div_div_eq_div_mul r 64 64
        rw [gsN c _ 2 224 (by omega) (by unfold gK; rw [if_neg (by omega), if_pos (by omega)]) (by unfold gH; rw [if_neg (by omega), if_pos (by omega)]) (by simp)]
        simp only [List.take_succ_cons, List.take_zero, gFold, List.foldl_cons, List.foldl_nil]
        omega
      · rw [if_neg h3]
        have e0 := b8_toNat (n := 240 + r / 262144) (by omega)
        have e1 := b8_toNat (n := 128 + r / 4096 % 64) (by omega)
        have e2 := b8_toNat (n := 128 + r / 64 % 64) (by omega)
        have e3 := b8_toNat (n := 128 + r % 64) (by omega)
        show uGs (b8 (240 + r / 262144) :: b8 (128 + r / 4096 % 64) :: b8 (128 + r / 64 % 64) :: b8 (128 + r % 64) :: m) = r
        generalize b8 (240 + r / 262144) = c at *
        generalize b8 (128 + r / 4096 % 64) = a at *
        generalize b8 (128 + r / 64 % 64) = b at *
        generalize b8 (128 + r % 64) = d at *
        have : r / 64 / 64 = r / 4096 := Nat.div_div_eq_div_mul r 64 64
        have : r / 4096 / 64 = r / 262144 := Nat.div_div_eq_div_mul r 4096 64
        rw [gsN c _ 3 240 (by omega) (by unfold gK; rw [if_pos (by omega)]) (by unfold gH; rw [if_pos (by omega)]) (by simp)]
        simp only [List.take_succ_cons, List.take_zero, gFold, List.foldl_cons, List.foldl_nil]
        omega
/-- What is guessed is right just if its bytes stand there. -/
theorem gs_yes {l : List UInt8} {r : Nat} (h : uIs r = true) (ht : l.take (uB r).length = uB r) : uDec l = (r, (uB r).length) := by
  have : l = uB r ++ l.drop (uB r).length := by
    have := List.take_append_drop (uB r).length l
    rw [ht] at this; exact this.symm
  rw [this, dec_put _ h]
theorem gs_no {l : List UInt8} (h : ¬ (uIs (uGs l) = true ∧ l.take (uB (uGs l).toNat).length = uB (uGs l).toNat)) : uDec l = (0, 0) := by
  rcases Nat.eq_zero_or_pos (uDec l).2 with h0 | h0
  · exact dec_none h0
  · exfalso
    obtain ⟨h1, h2, h3⟩ := dec_inv h0
    have e : uGs l = (uDec l).1 := by
      have := congrArg uGs h2
      rw [gs_put _ h1] at this; exact this
    refine h ⟨by rw [e]; exact h1, ?_⟩
    rw [e, Int.toNat_natCast]
    have := congrArg (List.take (uB (uDec l).1).length) h2
    rw [List.take_left'] at this
    · exact this
    · rfl
end Go.Proofs.YtnbhhnkcfbfdcaaGreatDoor
/- Right bytes as a list: characters' bytes, one behind the other. Of no program. -/
namespace Go.Proofs.YtnbhhnkcfbfdcaaGreatDoor
open Go Go.RowKit
set_option linter.unusedVariables false

/-- Characters' bytes, one behind the other. -/
inductive UOk : List UInt8 → Prop
  | nil : UOk []
  | step (r : Nat) (t : List UInt8) (h : uIs r = true) (ht : UOk t) : UOk (uB r ++ t)
theorem UOk.dec {l : List UInt8} (h : UOk l) (hn : l ≠ []) : 0 < (uDec l).2 ∧ UOk (l.drop (uDec l).2) := by
  cases h with
  | nil => exact absurd rfl hn
  | step r t h ht =>
    rw [dec_put t h]
    exact ⟨(uB_pos r).1, by rw [List.drop_left]; exact ht⟩
theorem UOk.of_dec {l : List UInt8} (h : 0 < (uDec l).2) (ht : UOk (l.drop (uDec l).2)) : UOk l := by
  obtain ⟨h1, h2, h3⟩ := dec_inv h
  have := UOk.step _ _ h1 ht
  rwa [← h2] at this
theorem uOk_some {s : ByteArray} (h : uOk s) (h0 : 0 < s.size) : 0 < (dAt s 0).2 := by
  rcases Nat.eq_zero_or_pos (dAt s 0).2 with e | e
  · have := wk_of (WPre.zero s s.size) (.inl e)
    unfold uOk at h
    rw [this] at h
    simp at h; omega
  · exact e
theorem uOk_back {s : ByteArray} (h : uOk s) (h0 : 0 < s.size) : uOk (s.extract (dAt s 0).2 s.size) := by
  have hk := uOk_some h h0
  have hle := dAt_le hk
  have hd := back_toList s (dAt s 0).2
  obtain ⟨c, _, h1, _⟩ := ok_places (s := s) (t := s) (m := s.size) (by rw [List.take_of_length_le (by rw [toList_size]; exact Nat.le_refl _)]) (Nat.le_refl _) h
  have hz : uP s 1 = (dAt s 0).2 := by rw [uP_step]; show 0 + (dAt s (uP s 0)).2 = _; rw [Nat.zero_add]; rfl
  generalize (dAt s 0).2 = k at *
  generalize hs' : s.extract k s.size = s' at *
  have hsz : s'.size = s.size - k := by
    have := congrArg List.length hd
    rw [toList_size, List.length_drop, toList_size] at this; exact this
  have hsh : ∀ e, dAt s' e = dAt s (k + e) := by
    intro e; unfold dAt; rw [hd, List.drop_drop]
  have key : ∀ j, uP s (1 + j) = k + uP s' j := by
    intro j
    induction j with
    | zero => rw [Nat.add_zero, hz]; rfl
    | succ j ih => rw [← Nat.add_assoc, uP_step, ih, uP_step, hsh]; omega
  have hc : c ≠ 0 := fun e => by
    rw [e] at h1
    have : uP s 0 = 0 := rfl
    omega
  obtain ⟨j, rfl⟩ : ∃ j, c = 1 + j := ⟨c - 1, by omega⟩
  rw [key j] at h1
  exact places_ok (s := s') (t := s') (m := s'.size) (c := j) (by rw [List.take_of_length_le (by rw [toList_size]; exact Nat.le_refl _)]) (Nat.le_refl _) (by omega)
theorem uOk_char {r : Nat} (h : uIs r = true) : uOk (bA (uB r)) := by
  have hd : dAt (bA (uB r)) 0 = (r, (uB r).length) := by
    unfold dAt
    have := dec_put [] h
    rw [List.append_nil] at this
    exact this
  have hp := (uB_pos r).1
  have hsz := bA_size (uB r)
  have h1 : WPre (bA (uB r)) (bA (uB r)).size (0 + (dAt (bA (uB r)) 0).2) (0 + 1) := by
    refine (WPre.zero _ _).step (fun h2 => ?_)
    rcases h2 with e | e
    · rw [hd] at e; exact absurd (show (uB r).length = 0 from e) (by omega)
    · rw [hd, hsz] at e; simp at e
  rw [hd] at h1
  have := wk_of h1 (.inl (by rw [dAt_out (by rw [hsz]; simp)]))
  unfold uOk
  rw [this, hsz]; simp
theorem uOk_list : ∀ {l : List UInt8}, UOk l → uOk (bA l)
  | _, .nil => by decide +kernel
  | _, .step r t h ht => by
    rw [← bA_append]
    exact (join_ok (uOk_char h) (uOk_list ht)).1
theorem list_uOk : ∀ (n : Nat) (s : ByteArray), s.size = n → uOk s → UOk s.data.toList := by
  intro n
  induction n using Nat.strongRecOn with
  | _ n ih =>
    intro s hn h
    rcases Nat.eq_zero_or_pos s.size with h0 | h0
    · have : s.data.toList = [] := List.eq_nil_of_length_eq_zero (by rw [toList_size]; exact h0)
      rw [this]; exact .nil
    · have hk := uOk_some h h0
      have hle := dAt_le hk
      have hb := uOk_back h h0
      have hd := back_toList s (dAt s 0).2
      have hsz : (s.extract (dAt s 0).2 s.size).size = s.size - (dAt s 0).2 := by
        have := congrArg List.length hd
        rw [toList_size, List.length_drop, toList_size] at this; exact this
      have := ih _ (by omega) _ hsz hb
      rw [hd] at this
      exact UOk.of_dec hk this
theorem uOk_iff (s : ByteArray) : uOk s ↔ UOk s.data.toList :=
  ⟨list_uOk _ s rfl, fun h => by have := uOk_list h; rwa [bA_of] at this⟩
theorem uOk_bA (l : List UInt8) : uOk (bA l) ↔ UOk l := uOk_iff (bA l)
end Go.Proofs.YtnbhhnkcfbfdcaaGreatDoor
/- Plain facts, of no program: digits to the base 16 ('hd', 'hx'), what they are worth ('nibIs', 'nibV'), bytes of digits ('uh', 'hOK'). -/
namespace Go.Proofs.YtnbhhnkcfbfdcaaGreatDoor
open Go Go.RowKit
set_option linter.unusedVariables false

/-- The digit of a number below 16. -/
def hd (n : Nat) : UInt8 := if n < 10 then UInt8.ofNat (48 + n) else UInt8.ofNat (87 + n)
/-- Is that a digit, and what is it worth? -/
def nibIs (c : Nat) : Bool := decide ((48 ≤ c ∧ c ≤ 57) ∨ (97 ≤ c ∧ c ≤ 102))
def nibV (c : Nat) : Nat := if 48 ≤ c ∧ c ≤ 57 then c - 48 else if 97 ≤ c ∧ c ≤ 102 then c - 87 else 0
/-- The digits of bytes. -/
def hx : List UInt8 → List UInt8
  | [] => []
  | b :: r => hd (b.toNat / 16) :: hd (b.toNat % 16) :: hx r
/-- The bytes that digits tell, whatever the digits are. -/
def uh : List UInt8 → List UInt8
  | a :: b :: r => UInt8.ofNat (16 * nibV a.toNat + nibV b.toNat) :: uh r
  | _ => []
/-- Are these digits of some bytes? -/
def hOK (l : List UInt8) : Bool := decide (l.length % 2 = 0) && l.all (fun b => nibIs b.toNat)

theorem hd_toNat {n : Nat} (h : n < 16) : (hd n).toNat = if n < 10 then 48 + n else 87 + n := by
  unfold hd
  split
  · rw [UInt8.toNat_ofNat']; omega
  · rw [UInt8.toNat_ofNat']; omega
theorem nib_hd {n : Nat} (h : n < 16) : nibIs (hd n).toNat = true ∧ nibV (hd n).toNat = n := by
  rw [hd_toNat h]
  unfold nibIs nibV
  split
  · exact ⟨decide_eq_true (by omega), by rw [if_pos (by omega)]; omega⟩
  · exact ⟨decide_eq_true (by omega), by rw [if_neg (by omega), if_pos (by omega)]; omega⟩
theorem nibV_lt (c : Nat) : nibV c < 16 := by
  unfold nibV; split
  · omega
  · split <;> omega
theorem hd_nib {c : UInt8} (h : nibIs c.toNat = true) : hd (nibV c.toNat) = c := by
  have h := of_decide_eq_true h
  apply UInt8.toNat_inj.mp
  rw [hd_toNat (nibV_lt _)]
  by_cases h1 : 48 ≤ c.toNat ∧ c.toNat ≤ 57
  · have e : nibV c.toNat = c.toNat - 48 := by unfold nibV; rw [if_pos h1]
    rw [e, if_pos (by omega)]; omega
  · have e : nibV c.toNat = c.toNat - 87 := by unfold nibV; rw [if_neg h1, if_pos (by omega)]
    rw [e, if_neg (by omega)]; omega
theorem hx_length : ∀ (l : List UInt8), (hx l).length = 2 * l.length
  | [] => rfl
  | b :: r => by simp only [hx, List.length_cons, hx_length r]; omega
theorem hx_append : ∀ (l m : List UInt8), hx (l ++ m) = hx l ++ hx m
  | [], m => rfl
  | b :: r, m => by simp only [List.cons_append, hx, hx_append r m]
theorem hx_one (b : UInt8) : hx [b] = [hd (b.toNat / 16), hd (b.toNat % 16)] := rfl
theorem hx_take (l : List UInt8) (k : Nat) (h : k < l.length) : hx (l.take (k + 1)) = hx (l.take k) ++ [hd (l[k].toNat / 16), hd (l[k].toNat % 16)] := by
  rw [List.take_succ_eq_append_getElem h, hx_append, hx_one]
theorem uh_hx : ∀ (l : List UInt8), uh (hx l) = l
  | [] => rfl
  | b :: r => by
    have h := b.toNat_lt
    rw [hx, uh, uh_hx r, (nib_hd (show b.toNat / 16 < 16 by omega)).2, (nib_hd (show b.toNat % 16 < 16 by omega)).2, show 16 * (b.toNat / 16) + b.toNat % 16 = b.toNat by omega]
    congr 1
    exact UInt8.toNat_inj.mp (by rw [UInt8.toNat_ofNat']; omega)
theorem hx_digits : ∀ (l : List UInt8), (hx l).all (fun b => nibIs b.toNat) = true
  | [] => rfl
  | b :: r => by
    have h := b.toNat_lt
    rw [hx, List.all_cons, List.all_cons, hx_digits r, (nib_hd (show b.toNat / 16 < 16 by omega)).1, (nib_hd (show b.toNat % 16 < 16 by omega)).1]; rfl
theorem hOK_hx (l : List UInt8) : hOK (hx l) = true := by
  unfold hOK; rw [hx_digits, hx_length, Bool.and_true]; exact decide_eq_true (by omega)
theorem hx_uh : ∀ (l : List UInt8), hOK l = true → hx (uh l) = l
  | [], _ => rfl
  | [a], h => by simp [hOK] at h
  | a :: b :: r, h => by
    unfold hOK at h
    rw [Bool.and_eq_true] at h
    obtain ⟨h1, h2⟩ := h
    rw [List.all_cons, List.all_cons, Bool.and_eq_true, Bool.and_eq_true] at h2
    obtain ⟨h3, h4, h5⟩ := h2
    have h1 := of_decide_eq_true h1
    have hr : hOK r = true := by
      unfold hOK; rw [h5, Bool.and_true]; exact decide_eq_true (by simp only [List.length_cons] at h1; omega)
    have va := nibV_lt a.toNat
    have vb := nibV_lt b.toNat
    have e : (UInt8.ofNat (16 * nibV a.toNat + nibV b.toNat)).toNat = 16 * nibV a.toNat + nibV b.toNat := by rw [UInt8.toNat_ofNat']; omega
    rw [uh, hx, hx_uh r hr, e, show (16 * nibV a.toNat + nibV b.toNat) / 16 = nibV a.toNat by omega, show (16 * nibV a.toNat + nibV b.toNat) % 16 = nibV b.toNat by omega, hd_nib h3, hd_nib h4]
/-- Digits of some bytes: just what these bytes' digits are. -/
theorem hOK_iff (l : List UInt8) : hOK l = true ↔ hx (uh l) = l :=
  ⟨hx_uh l, fun h => by rw [← h]; exact hOK_hx _⟩
theorem uh_length : ∀ (l : List UInt8), 2 * (uh l).length ≤ l.length
  | [] => Nat.le_refl _
  | [a] => Nat.zero_le _
  | a :: b :: r => by have := uh_length r; simp only [uh, List.length_cons]; omega
theorem uh_even : ∀ (l : List UInt8), 2 * (uh l).length = l.length - l.length % 2
  | [] => rfl
  | [a] => rfl
  | a :: b :: r => by have := uh_even r; simp only [uh, List.length_cons]; omega
theorem uh_snoc : ∀ (l : List UInt8) (a b : UInt8), l.length % 2 = 0 → uh (l ++ [a, b]) = uh l ++ [UInt8.ofNat (16 * nibV a.toNat + nibV b.toNat)]
  | [], a, b, _ => rfl
  | [x], a, b, h => by simp at h
  | x :: y :: r, a, b, h => by
    have hr : r.length % 2 = 0 := by simp only [List.length_cons] at h; omega
    simp only [List.cons_append, uh, uh_snoc r a b hr]
theorem uh_odd : ∀ (l : List UInt8) (a : UInt8), l.length % 2 = 0 → uh (l ++ [a]) = uh l
  | [], a, _ => rfl
  | [x], a, h => by simp at h
  | x :: y :: r, a, h => by
    have hr : r.length % 2 = 0 := by simp only [List.length_cons] at h; omega
    simp only [List.cons_append, uh, uh_odd r a hr]
/-- Two digits more. -/
theorem uh_take (l : List UInt8) (k : Nat) (h : k + 1 < l.length) (he : k % 2 = 0) : uh (l.take (k + 2)) = uh (l.take k) ++ [UInt8.ofNat (16 * nibV l[k].toNat + nibV l[k + 1].toNat)] := by
  rw [List.take_succ_eq_append_getElem h, List.take_succ_eq_append_getElem (show k < l.length by omega), List.append_assoc]
  exact uh_snoc _ _ _ (by rw [List.length_take, Nat.min_eq_left (by omega)]; exact he)
theorem uh_take_odd (l : List UInt8) (k : Nat) (h : k < l.length) (he : k % 2 = 0) : uh (l.take (k + 1)) = uh (l.take k) := by
  rw [List.take_succ_eq_append_getElem h]
  exact uh_odd _ _ (by rw [List.length_take, Nat.min_eq_left (by omega)]; exact he)

/-- Digits stand in order as numbers do. -/
theorem hd_lt {m n : Nat} (hm : m < 16) (hn : n < 16) : (hd m < hd n) = (m < n) := by
  apply propext
  rw [UInt8.lt_iff_toNat_lt, hd_toNat hm, hd_toNat hn]
  split <;> split <;> omega
theorem hd_eq {m n : Nat} (hm : m < 16) (hn : n < 16) : (hd m = hd n) = (m = n) := by
  apply propext
  rw [← UInt8.toNat_inj, hd_toNat hm, hd_toNat hn]
  split <;> split <;> omega
/-- Texts of digits stand in order as the bytes do. -/
theorem hx_less : ∀ (a b : List UInt8), Op.bytesLess (hx a) (hx b) = Op.bytesLess a b
  | [], [] => rfl
  | [], b :: r => rfl
  | a :: r, [] => rfl
  | a :: x, b :: y => by
    have ha := a.toNat_lt
    have hb := b.toNat_lt
    have h1 : a.toNat / 16 < 16 := by omega
    have h2 : b.toNat / 16 < 16 := by omega
    have h3 : a.toNat % 16 < 16 := by omega
    have h4 : b.toNat % 16 < 16 := by omega
    simp only [hx, Op.bytesLess, hx_less x y, hd_lt h1 h2, hd_lt h3 h4]
    have e1 : (hd (a.toNat / 16) == hd (b.toNat / 16)) = decide (a.toNat / 16 = b.toNat / 16) := by
      rw [Bool.eq_iff_iff, beq_iff_eq, decide_eq_true_iff, hd_eq h1 h2]
    have e2 : (hd (a.toNat % 16) == hd (b.toNat % 16)) = decide (a.toNat % 16 = b.toNat % 16) := by
      rw [Bool.eq_iff_iff, beq_iff_eq, decide_eq_true_iff, hd_eq h3 h4]
    have e3 : (a == b) = decide (a.toNat = b.toNat) := by
      rw [Bool.eq_iff_iff, beq_iff_eq, decide_eq_true_iff, UInt8.toNat_inj]
    have e4 : (a < b) = (a.toNat < b.toNat) := propext UInt8.lt_iff_toNat_lt
    rw [e1, e2, e3]
    simp only [e4]
    rcases Nat.lt_trichotomy (a.toNat / 16) (b.toNat / 16) with h | h | h
    · rw [decide_eq_true h, decide_eq_true (show a.toNat < b.toNat by omega)]; rfl
    · rw [decide_eq_false (show ¬ a.toNat / 16 < b.toNat / 16 by omega), decide_eq_true h]
      rcases Nat.lt_trichotomy (a.toNat % 16) (b.toNat % 16) with k | k | k
      · rw [decide_eq_true k, decide_eq_true (show a.toNat < b.toNat by omega)]; rfl
      · rw [decide_eq_false (show ¬ a.toNat % 16 < b.toNat % 16 by omega), decide_eq_true k, decide_eq_false (show ¬ a.toNat < b.toNat by omega), decide_eq_true (show a.toNat = b.toNat by omega)]; rfl
      · rw [decide_eq_false (show ¬ a.toNat % 16 < b.toNat % 16 by omega), decide_eq_false (show ¬ a.toNat % 16 = b.toNat % 16 by omega), decide_eq_false (show ¬ a.toNat < b.toNat by omega), decide_eq_false (show ¬ a.toNat = b.toNat by omega)]; rfl
    · rw [decide_eq_false (show ¬ a.toNat / 16 < b.toNat / 16 by omega), decide_eq_false (show ¬ a.toNat / 16 = b.toNat / 16 by omega), decide_eq_false (show ¬ a.toNat < b.toNat by omega), decide_eq_false (show ¬ a.toNat = b.toNat by omega)]; rfl

/-- The digits, one by one. -/
theorem digit_all : ∀ n : Fin 16, (ByteArray.mk #[48, 49, 50, 51, 52, 53, 54, 55, 56, 57, 97, 98, 99, 100, 101, 102])[n.val]'(n.isLt) = hd n.val := by decide +kernel
theorem digit_at (n : Nat) (h : n < 16) : (ByteArray.mk #[48, 49, 50, 51, 52, 53, 54, 55, 56, 57, 97, 98, 99, 100, 101, 102])[n]'h = hd n := digit_all ⟨n, h⟩
end Go.Proofs.YtnbhhnkcfbfdcaaGreatDoor
/- JSON's texts over bytes: for what each part stands, what is read from a place on, what is written; what is written is read back. Of no program. -/
namespace Go.Proofs.YtnbhhnkcfbfdcaaGreatDoor
open Go Go.RowKit
set_option linter.unusedVariables false

/-- A part's character, how many bytes it takes, what is wrong. -/
structure JA where
  r : Nat
  k : Nat
  e : Int
/-- The bytes for which some bytes stand, how many these are, what is wrong. -/
structure JT where
  t : List UInt8
  k : Nat
  e : Int
def jLow (c : Nat) : Nat := if 65 ≤ c ∧ c ≤ 70 then c + 32 else c
/-- The next digits' number. -/
def jDg : Nat → Nat → List UInt8 → Nat × Int
  | 0, n, _ => (n, 0)
  | _ + 1, _, [] => (0, 1)
  | k + 1, n, c :: t => if nibIs (jLow c.toNat) = true then jDg k (16 * n + nibV (jLow c.toNat)) t else (0, 6)
/-- The second one of a pair, whose first one is n. -/
def jPair (n : Nat) : List UInt8 → JA
  | [] => ⟨0, 0, 1⟩
  | a :: t => if a.toNat = 92 then
      (match t with
      | [] => ⟨0, 0, 1⟩
      | b :: u => if b.toNat = 117 then
          (if (jDg 4 0 u).2 = 0 then (if (jDg 4 0 u).1 < 56320 ∨ 57343 < (jDg 4 0 u).1 then ⟨0, 0, 6⟩ else ⟨65536 + 1024 * (n - 55296) + ((jDg 4 0 u).1 - 56320), 6, 0⟩) else ⟨0, 0, (jDg 4 0 u).2⟩)
        else ⟨0, 0, 6⟩)
    else ⟨0, 0, 6⟩
def jSim (c : Nat) : Nat := if c = 34 then 34 else if c = 92 then 92 else if c = 47 then 47 else if c = 98 then 8 else if c = 102 then 12 else if c = 110 then 10 else if c = 114 then 13 else if c = 116 then 9 else 0
/-- What stands behind four digits. -/
def jNum (t : List UInt8) : JA :=
  if (jDg 4 0 t).2 = 0 then
    (if uIs (jDg 4 0 t).1 = true then ⟨(jDg 4 0 t).1, 4, 0⟩
    else if 56320 ≤ (jDg 4 0 t).1 then ⟨0, 0, 6⟩
    else if (jPair (jDg 4 0 t).1 (t.drop 4)).e = 0 then ⟨(jPair (jDg 4 0 t).1 (t.drop 4)).r, (jPair (jDg 4 0 t).1 (t.drop 4)).k + 4, 0⟩ else ⟨0, 0, (jPair (jDg 4 0 t).1 (t.drop 4)).e⟩)
  else ⟨0, 0, (jDg 4 0 t).2⟩
/-- What stands behind a backslash. -/
def jEsc : List UInt8 → JA
  | [] => ⟨0, 0, 1⟩
  | b :: t => if b.toNat = 117 then (if (jNum t).e = 0 then ⟨(jNum t).r, (jNum t).k + 1, 0⟩ else ⟨0, 0, (jNum t).e⟩)
    else if jSim b.toNat = 0 then ⟨0, 0, 6⟩ else ⟨jSim b.toNat, 1, 0⟩
def jPart : List UInt8 → JT
  | [] => ⟨[], 0, 1⟩
  | c :: t => if c.toNat = 92 then (if (jEsc t).e = 0 then ⟨uB (jEsc t).r, (jEsc t).k + 1, 0⟩ else ⟨[], 0, (jEsc t).e⟩)
    else if c.toNat < 32 then ⟨[], 0, 3⟩
    else if (uDec (c :: t)).2 = 0 then ⟨[], 0, 5⟩ else ⟨(c :: t).take (uDec (c :: t)).2, (uDec (c :: t)).2, 0⟩
def JT.and (p r : JT) : JT := if r.e = 0 then ⟨p.t ++ r.t, p.k + r.k, 0⟩ else ⟨[], 0, r.e⟩
def jGo : Nat → List UInt8 → JT
  | 0, _ => ⟨[], 0, 1⟩
  | _ + 1, [] => ⟨[], 0, 1⟩
  | f + 1, c :: t => if c.toNat = 34 then ⟨[], 1, 0⟩ else if (jPart (c :: t)).e = 0 then (jPart (c :: t)).and (jGo f ((c :: t).drop (jPart (c :: t)).k)) else ⟨[], 0, (jPart (c :: t)).e⟩
/-- What is read behind the first quote. -/
def jIn (l : List UInt8) : JT := jGo l.length l

theorem jDg_len : ∀ (k n : Nat) (l : List UInt8), (jDg k n l).2 = 0 → k ≤ l.length
  | 0, _, _, _ => Nat.zero_le _
  | k + 1, _, [], h => by simp [jDg] at h
  | k + 1, n, c :: t, h => by
    simp only [jDg] at h
    split at h
    · have := jDg_len k _ t h
      simp; omega
    · simp at h
theorem jDg_lt : ∀ (k n : Nat) (l : List UInt8), (jDg k n l).2 = 0 → (jDg k n l).1 < 16 ^ k * (n + 1)
  | 0, _, _, _ => by simp [jDg]
  | k + 1, _, [], h => by simp [jDg] at h
  | k + 1, n, c :: t, h => by
    simp only [jDg] at h ⊢
    split at h
    · rename_i hn
      rw [if_pos hn]
      have h1 := jDg_lt k _ t h
      have h2 := nibV_lt (jLow c.toNat)
      have h3 : 16 ^ k * (16 * n + nibV (jLow c.toNat) + 1) ≤ 16 ^ k * (16 * (n + 1)) := Nat.mul_le_mul_left _ (by omega)
      have h4 : 16 ^ (k + 1) * (n + 1) = 16 ^ k * (16 * (n + 1)) := by rw [Nat.pow_succ, Nat.mul_assoc]
      omega
    · simp at h
theorem jDg_no : ∀ (k n : Nat) (l : List UInt8), (jDg k n l).2 ≠ 0 → (jDg k n l).1 = 0
  | 0, _, _, h => by simp [jDg] at h
  | k + 1, _, [], h => rfl
  | k + 1, n, c :: t, h => by
    simp only [jDg] at h ⊢
    split
    · rename_i hn
      rw [if_pos hn] at h
      exact jDg_no k _ t h
    · rfl
theorem jDg_more : ∀ (k n : Nat) (l m : List UInt8), k ≤ l.length → jDg k n (l ++ m) = jDg k n l
  | 0, _, _, _, _ => rfl
  | k + 1, _, [], _, h => by simp at h
  | k + 1, n, c :: t, m, h => by
    simp only [List.cons_append, jDg]
    rw [jDg_more k _ t m (by simpa using h)]
theorem jDg4_lt (l : List UInt8) : (jDg 4 0 l).1 < 65536 := by
  by_cases h : (jDg 4 0 l).2 = 0
  · have := jDg_lt 4 0 l h; simpa using this
  · rw [jDg_no 4 0 l h]; omega

theorem jPair_fine {n : Nat} {l : List UInt8} (h : (jPair n l).e = 0) (hn : 55296 ≤ n) (hn2 : n ≤ 56319) : (jPair n l).k = 6 ∧ 6 ≤ l.length ∧ 65536 ≤ (jPair n l).r ∧ (jPair n l).r ≤ 1114111 := by
  match l, h with
  | [], h => simp [jPair] at h
  | [a], h =>
    simp only [jPair] at h
    split at h <;> simp at h
  | a :: b :: u, h =>
    simp only [jPair] at h ⊢
    by_cases h1 : a.toNat = 92
    · rw [if_pos h1] at h ⊢
      by_cases h2 : b.toNat = 117
      · rw [if_pos h2] at h ⊢
        by_cases h3 : (jDg 4 0 u).2 = 0
        · rw [if_pos h3] at h ⊢
          have hl := jDg_len 4 0 u h3
          have hm := jDg4_lt u
          by_cases h4 : (jDg 4 0 u).1 < 56320 ∨ 57343 < (jDg 4 0 u).1
          · rw [if_pos h4] at h; simp at h
          · rw [if_neg h4]
            refine ⟨rfl, by simp; omega, ?_, ?_⟩
            · simp only; omega
            · simp only; omega
        · rw [if_neg h3] at h; exact absurd h h3
      · rw [if_neg h2] at h; simp at h
    · rw [if_neg h1] at h; simp at h
theorem jNum_fine {l : List UInt8} (h : (jNum l).e = 0) : uIs (jNum l).r = true ∧ 4 ≤ (jNum l).k ∧ (jNum l).k ≤ l.length := by
  unfold jNum at h ⊢
  have hm := jDg4_lt l
  by_cases h1 : (jDg 4 0 l).2 = 0
  · rw [if_pos h1] at h ⊢
    have hl := jDg_len 4 0 l h1
    by_cases h2 : uIs (jDg 4 0 l).1 = true
    · rw [if_pos h2]; exact ⟨h2, Nat.le_refl _, hl⟩
    · rw [if_neg h2] at h ⊢
      by_cases h3 : 56320 ≤ (jDg 4 0 l).1
      · rw [if_pos h3] at h; simp at h
      · rw [if_neg h3] at h ⊢
        have h2' := uIs_no.mp (by simpa using h2)
        by_cases h4 : (jPair (jDg 4 0 l).1 (l.drop 4)).e = 0
        · rw [if_pos h4]
          obtain ⟨e1, e2, e3, e4⟩ := jPair_fine h4 (by omega) (by omega)
          rw [List.length_drop] at e2
          exact ⟨uIs_iff.mpr (by simp only; omega), by simp only; omega, by simp only; omega⟩
        · rw [if_neg h4] at h; exact absurd h h4
  · rw [if_neg h1] at h; exact absurd h h1
theorem jSim_lt (c : Nat) : jSim c < 128 := by
  unfold jSim
  repeat' split
  all_goals omega
theorem uB_small {r : Nat} (h : r < 128) : uB r = [b8 r] := by unfold uB; rw [if_pos h]
theorem jEsc_fine {l : List UInt8} (h : (jEsc l).e = 0) : uIs (jEsc l).r = true ∧ (uB (jEsc l).r).length ≤ (jEsc l).k ∧ 0 < (jEsc l).k ∧ (jEsc l).k ≤ l.length := by
  match l, h with
  | [], h => simp [jEsc] at h
  | b :: t, h =>
    simp only [jEsc] at h ⊢
    by_cases h1 : b.toNat = 117
    · rw [if_pos h1] at h ⊢
      by_cases h2 : (jNum t).e = 0
      · rw [if_pos h2]
        obtain ⟨e1, e2, e3⟩ := jNum_fine h2
        have := (uB_pos (jNum t).r).2
        exact ⟨e1, by simp only; omega, by simp, by simp; omega⟩
      · rw [if_neg h2] at h; exact absurd h h2
    · rw [if_neg h1] at h ⊢
      by_cases h2 : jSim b.toNat = 0
      · rw [if_pos h2] at h; simp at h
      · rw [if_neg h2]
        have h3 := jSim_lt b.toNat
        refine ⟨uIs_iff.mpr (by simp only; omega), ?_, by simp, by simp⟩
        simp only [uB_small h3]; simp
theorem jPart_fine {l : List UInt8} (h : (jPart l).e = 0) : (∃ r : Nat, uIs r = true ∧ (jPart l).t = uB r) ∧ (jPart l).t.length ≤ (jPart l).k ∧ 0 < (jPart l).k ∧ (jPart l).k ≤ l.length := by
  match l, h with
  | [], h => simp [jPart] at h
  | c :: t, h =>
    simp only [jPart] at h ⊢
    by_cases h1 : c.toNat = 92
    · rw [if_pos h1] at h ⊢
      by_cases h2 : (jEsc t).e = 0
      · rw [if_pos h2]
        obtain ⟨e1, e2, e3, e4⟩ := jEsc_fine h2
        exact ⟨⟨_, e1, rfl⟩, by simp only; omega, by simp, by simp; omega⟩
      · rw [if_neg h2] at h; exact absurd h h2
    · rw [if_neg h1] at h ⊢
      by_cases h2 : c.toNat < 32
      · rw [if_pos h2] at h; simp at h
      · rw [if_neg h2] at h ⊢
        by_cases h3 : (uDec (c :: t)).2 = 0
        · rw [if_pos h3] at h; simp at h
        · rw [if_neg h3]
          obtain ⟨e1, e2, e3⟩ := dec_inv (l := c :: t) (by omega)
          have ht : (c :: t).take (uDec (c :: t)).2 = uB (uDec (c :: t)).1 := by
            have : (c :: t).take (uDec (c :: t)).2 = (uB (uDec (c :: t)).1 ++ (c :: t).drop (uDec (c :: t)).2).take (uDec (c :: t)).2 := congrArg (List.take _) e2
            rw [this, e3, List.take_left']
            rfl
          have hl := congrArg List.length e2
          rw [List.length_append, ← e3] at hl
          refine ⟨⟨_, e1, ht⟩, by simp only; rw [ht, e3]; exact Nat.le_refl _, by simp only; omega, by simp only; omega⟩
theorem jPart_no {l : List UInt8} (h : (jPart l).e ≠ 0) : jPart l = ⟨[], 0, (jPart l).e⟩ := by
  match l, h with
  | [], h => rfl
  | c :: t, h =>
    simp only [jPart] at h ⊢
    by_cases h1 : c.toNat = 92
    · rw [if_pos h1] at h ⊢
      by_cases h2 : (jEsc t).e = 0
      · rw [if_pos h2] at h; exact absurd rfl h
      · rw [if_neg h2]
    · rw [if_neg h1] at h ⊢
      by_cases h2 : c.toNat < 32
      · rw [if_pos h2]
      · rw [if_neg h2] at h ⊢
        by_cases h3 : (uDec (c :: t)).2 = 0
        · rw [if_pos h3]
        · rw [if_neg h3] at h; exact absurd rfl h

theorem jGo_more : ∀ (f : Nat) (l : List UInt8), l.length ≤ f → jGo f l = jGo l.length l := by
  intro f
  induction f using Nat.strongRecOn with
  | _ f ih =>
    intro l hl
    match f, l, hl with
    | 0, [], _ => rfl
    | f + 1, [], _ => rfl
    | f + 1, c :: t, hl =>
      show jGo (f + 1) (c :: t) = jGo (t.length + 1) (c :: t)
      simp only [jGo]
      by_cases h1 : c.toNat = 34
      · rw [if_pos h1, if_pos h1]
      · rw [if_neg h1, if_neg h1]
        by_cases h2 : (jPart (c :: t)).e = 0
        · rw [if_pos h2, if_pos h2]
          obtain ⟨_, _, h3, h4⟩ := jPart_fine h2
          have h5 : ((c :: t).drop (jPart (c :: t)).k).length ≤ t.length := by rw [List.length_drop]; simp; omega
          have hl' : t.length ≤ f := by simpa using hl
          rw [ih f (by omega) _ (by omega)]
          rcases Nat.lt_or_ge t.length (f + 1) with h6 | h6
          · rw [ih t.length h6 _ h5]
          · omega
        · rw [if_neg h2, if_neg h2]
theorem jIn_nil : jIn [] = ⟨[], 0, 1⟩ := rfl
theorem jIn_cons (c : UInt8) (t : List UInt8) : jIn (c :: t) = if c.toNat = 34 then ⟨[], 1, 0⟩ else if (jPart (c :: t)).e = 0 then (jPart (c :: t)).and (jIn ((c :: t).drop (jPart (c :: t)).k)) else ⟨[], 0, (jPart (c :: t)).e⟩ := by
  show jGo (t.length + 1) (c :: t) = _
  simp only [jGo]
  by_cases h1 : c.toNat = 34
  · rw [if_pos h1, if_pos h1]
  · rw [if_neg h1, if_neg h1]
    by_cases h2 : (jPart (c :: t)).e = 0
    · rw [if_pos h2, if_pos h2]
      obtain ⟨_, _, h3, h4⟩ := jPart_fine h2
      have h5 : ((c :: t).drop (jPart (c :: t)).k).length ≤ t.length := by rw [List.length_drop]; simp; omega
      rw [jGo_more t.length _ h5]; rfl
    · rw [if_neg h2, if_neg h2]
theorem JT.and_e (p r : JT) : (p.and r).e = r.e := by
  unfold JT.and
  by_cases h : r.e = 0
  · rw [if_pos h, h]
  · rw [if_neg h]
theorem JT.and_yes (p : JT) {r : JT} (h : r.e = 0) : p.and r = ⟨p.t ++ r.t, p.k + r.k, 0⟩ := if_pos h
theorem JT.and_no (p : JT) {r : JT} (h : ¬ r.e = 0) : p.and r = ⟨[], 0, r.e⟩ := if_neg h
theorem JT.and_and (p q r : JT) (h : q.e = 0) : (p.and q).and r = p.and (q.and r) := by
  by_cases h1 : r.e = 0
  · rw [JT.and_yes _ h1, JT.and_yes _ h1, JT.and_yes p h, JT.and_yes p rfl]
    simp [Nat.add_assoc]
  · rw [JT.and_no _ h1, JT.and_no _ h1, JT.and_no p (by exact h1)]
theorem jIn_no {l : List UInt8} (h : ¬ (jIn l).e = 0) : jIn l = ⟨[], 0, (jIn l).e⟩ := by
  match l, h with
  | [], _ => rfl
  | c :: t, h =>
    rw [jIn_cons] at h ⊢
    by_cases h1 : c.toNat = 34
    · rw [if_pos h1] at h; simp at h
    · rw [if_neg h1] at h ⊢
      by_cases h2 : (jPart (c :: t)).e = 0
      · rw [if_pos h2] at h ⊢
        rw [JT.and_e] at h ⊢
        exact JT.and_no _ h
      · rw [if_neg h2]
theorem nil_and (l : List UInt8) : (⟨[], 0, 0⟩ : JT).and (jIn l) = jIn l := by
  by_cases h : (jIn l).e = 0
  · rw [JT.and_yes _ h]
    generalize jIn l = r at *
    obtain ⟨t, k, e⟩ := r
    simp only at h
    subst h
    simp
  · rw [JT.and_no _ h, ← jIn_no h]
theorem jIn_quote (c : UInt8) (t : List UInt8) (h : c.toNat = 34) : jIn (c :: t) = ⟨[], 1, 0⟩ := by rw [jIn_cons, if_pos h]
theorem jIn_low (c : UInt8) (t : List UInt8) (h : c.toNat < 32) : jIn (c :: t) = ⟨[], 0, 3⟩ := by
  have e : jPart (c :: t) = ⟨[], 0, 3⟩ := by simp only [jPart]; rw [if_neg (by omega), if_pos h]
  rw [jIn_cons, if_neg (by omega), e]; rfl
theorem jIn_esc (c : UInt8) (t : List UInt8) (h : c.toNat = 92) : jIn (c :: t) = if (jEsc t).e = 0 then (⟨uB (jEsc t).r, (jEsc t).k + 1, 0⟩ : JT).and (jIn (t.drop (jEsc t).k)) else ⟨[], 0, (jEsc t).e⟩ := by
  rw [jIn_cons, if_neg (by omega)]
  by_cases h1 : (jEsc t).e = 0
  · have e : jPart (c :: t) = ⟨uB (jEsc t).r, (jEsc t).k + 1, 0⟩ := by simp only [jPart]; rw [if_pos h, if_pos h1]
    rw [e, if_pos rfl, if_pos h1, List.drop_succ_cons]
  · have e : jPart (c :: t) = ⟨[], 0, (jEsc t).e⟩ := by simp only [jPart]; rw [if_pos h, if_neg h1]
    rw [e, if_neg h1, if_neg h1]
/-- A byte that stands for itself, or is one of such a character's. -/
def jPl (b : UInt8) : Bool := decide (32 ≤ b.toNat ∧ b.toNat ≠ 34 ∧ b.toNat ≠ 92)
theorem jPl_iff {b : UInt8} : jPl b = true ↔ 32 ≤ b.toNat ∧ b.toNat ≠ 34 ∧ b.toNat ≠ 92 := decide_eq_true_iff
theorem jIn_plain (c : UInt8) (t : List UInt8) (h : jPl c = true) : jIn (c :: t) = if (uDec (c :: t)).2 = 0 then ⟨[], 0, 5⟩ else (⟨(c :: t).take (uDec (c :: t)).2, (uDec (c :: t)).2, 0⟩ : JT).and (jIn ((c :: t).drop (uDec (c :: t)).2)) := by
  obtain ⟨h1, h2, h3⟩ := jPl_iff.mp h
  rw [jIn_cons, if_neg h2]
  by_cases h4 : (uDec (c :: t)).2 = 0
  · have e : jPart (c :: t) = ⟨[], 0, 5⟩ := by simp only [jPart]; rw [if_neg h3, if_neg (by omega), if_pos h4]
    rw [e, if_pos h4]; rfl
  · have e : jPart (c :: t) = ⟨(c :: t).take (uDec (c :: t)).2, (uDec (c :: t)).2, 0⟩ := by simp only [jPart]; rw [if_neg h3, if_neg (by omega), if_neg h4]
    rw [e, if_pos rfl, if_neg h4]
end Go.Proofs.YtnbhhnkcfbfdcaaGreatDoor
