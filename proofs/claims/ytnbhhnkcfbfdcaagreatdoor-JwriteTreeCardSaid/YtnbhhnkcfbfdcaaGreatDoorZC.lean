/- Several texts in one (JsRun, DNum, JnNum, JtNum): each begins with its own words. -/
import Derived.Test.YtnbhhnkcfbfdcaaGreatDoorZB
import Derived.Test.YtnbhhnkcfbfdcaaGreatDoorZA
import GoSem.Op.String
import Derived.Lib.ItoaNum
import Derived.Lib.ItoaLen
/- JSON's texts over bytes, on: a run of bytes that stand for themselves; what is read is right; what is written, and that it is read back. Of no program. -/
namespace Go.Proofs.YtnbhhnkcfbfdcaaGreatDoor
open Go Go.RowKit
set_option linter.unusedVariables false

theorem JT.eq {t t' : List UInt8} {k k' : Nat} {e : Int} (h : t = t') (h2 : k = k') : (⟨t, k, e⟩ : JT) = ⟨t', k', e⟩ := by rw [h, h2]
/-- A character's bytes behind the first one are all from 128 on; so is the first one, from character 128 on. -/
theorem uB_high {r : Nat} (h : uIs r = true) : ∀ j (hj : j < (uB r).length), 1 ≤ j ∨ 128 ≤ r → 128 ≤ ((uB r)[j]'hj).toNat := by
  have hr := (uIs_iff.mp h).2.1
  unfold uB
  by_cases h1 : r < 128
  · rw [if_pos h1]; intro j hj h2; simp at hj; omega
  · rw [if_neg h1]
    by_cases h2 : r < 2048
    · rw [if_pos h2]
      intro j hj _
      match j, hj with
      | 0, _ => simp only [List.getElem_cons_zero]; rw [b8_toNat (by omega)]; omega
      | 1, _ => simp only [List.getElem_cons_succ, List.getElem_cons_zero]; rw [b8_toNat (by omega)]; omega
    · rw [if_neg h2]
      by_cases h3 : r < 65536
      · rw [if_pos h3]
        intro j hj _
        match j, hj with
        | 0, _ => simp only [List.getElem_cons_zero]; rw [b8_toNat (by omega)]; omega
        | 1, _ => simp only [List.getElem_cons_succ, List.getElem_cons_zero]; rw [b8_toNat (by omega)]; omega
        | 2, _ => simp only [List.getElem_cons_succ, List.getElem_cons_zero]; rw [b8_toNat (by omega)]; omega
      · rw [if_neg h3]
        intro j hj _
        match j, hj with
        | 0, _ => simp only [List.getElem_cons_zero]; rw [b8_toNat (by omega)]; omega
        | 1, _ => simp only [List.getElem_cons_succ, List.getElem_cons_zero]; rw [b8_toNat (by omega)]; omega
        | 2, _ => simp only [List.getElem_cons_succ, List.getElem_cons_zero]; rw [b8_toNat (by omega)]; omega
        | 3, _ => simp only [List.getElem_cons_succ, List.getElem_cons_zero]; rw [b8_toNat (by omega)]; omega
/-- Where a character begins in plain bytes with something else behind them, it ends within them. -/
theorem run_dec {R X : List UInt8} (hn : R ≠ []) (hX : ∀ b t, X = b :: t → jPl b = false) (h : 0 < (uDec (R ++ X)).2) : (uDec (R ++ X)).2 ≤ R.length ∧ uDec R = uDec (R ++ X) := by
  obtain ⟨h1, h2, h3⟩ := dec_inv h
  have hle : (uDec (R ++ X)).2 ≤ R.length := by
    rcases Nat.lt_or_ge R.length (uDec (R ++ X)).2 with hlt | hge
    · exfalso
      have hl := congrArg List.length h2
      rw [List.length_append, List.length_append, ← h3] at hl
      match X, hX with
      | [], _ => simp only [List.length_nil] at hl; omega
      | b :: t, hX =>
        have hb := hX b t rfl
        have hR : 1 ≤ R.length := by
          rcases Nat.eq_zero_or_pos R.length with e | e
          · exact absurd (List.eq_nil_of_length_eq_zero e) hn
          · exact e
        have hj : R.length < (uB (uDec (R ++ b :: t)).1).length := by omega
        have hg := uB_high h1 R.length hj (.inl hR)
        have he : (R ++ b :: t)[R.length]? = some b := by simp
        have he2 : (R ++ b :: t)[R.length]? = some ((uB (uDec (R ++ b :: t)).1)[R.length]'hj) := by
          have : (R ++ b :: t)[R.length]? = (uB (uDec (R ++ b :: t)).1 ++ (R ++ b :: t).drop (uDec (R ++ b :: t)).2)[R.length]? := congrArg (fun l => l[R.length]?) h2
          rw [this, List.getElem?_append_left hj, List.getElem?_eq_getElem hj]
        rw [he] at he2
        have hbe := Option.some.inj he2
        rw [← hbe] at hg
        have : jPl b = true := jPl_iff.mpr (by omega)
        rw [this] at hb
        cases hb
    · exact hge
  refine ⟨hle, dec_loc h ?_⟩
  rw [List.take_append_of_le_length hle]
theorem run_none {R X : List UInt8} (h : 0 < (uDec R).2) : uDec (R ++ X) = uDec R := by
  obtain ⟨h1, h2, h3⟩ := dec_inv h
  have hl := congrArg List.length h2
  rw [List.length_append, ← h3] at hl
  refine dec_loc h ?_
  rw [List.take_append_of_le_length (by omega)]
/-- A run of plain bytes, up to something else. -/
theorem jIn_run : ∀ (n : Nat) (R X : List UInt8), R.length = n → (∀ b ∈ R, jPl b = true) → (∀ b t, X = b :: t → jPl b = false) →
    (UOk R → jIn (R ++ X) = (⟨R, R.length, 0⟩ : JT).and (jIn X)) ∧ (¬ UOk R → jIn (R ++ X) = ⟨[], 0, 5⟩) := by
  intro n
  induction n using Nat.strongRecOn with
  | _ n ih =>
    intro R X hn hR hX
    match R, hn, hR with
    | [], _, _ => exact ⟨fun _ => (nil_and X).symm, fun h => absurd .nil h⟩
    | c :: R, hn, hR =>
      have hc := hR c (by simp)
      have hp := jIn_plain c (R ++ X) hc
      rw [← List.cons_append] at hp
      by_cases h0 : (uDec (c :: R ++ X)).2 = 0
      · rw [if_pos h0] at hp
        refine ⟨fun hu => ?_, fun _ => hp⟩
        obtain ⟨h1, _⟩ := hu.dec (by simp)
        have := run_none (X := X) h1
        rw [this] at h0; omega
      · rw [if_neg h0] at hp
        obtain ⟨hle, he⟩ := run_dec (R := c :: R) (by simp) hX (by omega)
        rw [← he] at hp hle h0
        generalize hk : (uDec (c :: R)).2 = k at *
        rw [List.take_append_of_le_length hle, List.drop_append_of_le_length hle] at hp
        have hd : ((c :: R).drop k).length = n - k := by rw [List.length_drop, hn]
        obtain ⟨i1, i2⟩ := ih (n - k) (by omega) ((c :: R).drop k) X hd (fun b hb => hR b (List.mem_of_mem_drop hb)) hX
        constructor
        · intro hu
          have hu2 := (hu.dec (by simp)).2
          rw [hk] at hu2
          have e2 : (⟨(c :: R).take k, k, 0⟩ : JT).and ⟨(c :: R).drop k, ((c :: R).drop k).length, 0⟩ = ⟨c :: R, (c :: R).length, 0⟩ := by
            rw [JT.and_yes _ rfl]
            exact JT.eq (List.take_append_drop _ _) (by simp only [List.length_drop]; omega)
          rw [hp, i1 hu2, ← JT.and_and _ _ _ rfl, e2]
        · intro hu
          have hu2 : ¬ UOk ((c :: R).drop k) := fun h => hu (UOk.of_dec (by rw [hk]; omega) (by rw [hk]; exact h))
          rw [hp, i2 hu2, JT.and_no _ (by simp)]

/-- What is read: no longer than what it was read of, and right. -/
theorem jIn_fine : ∀ (n : Nat) (l : List UInt8), l.length = n → (jIn l).e = 0 → (jIn l).k ≤ l.length ∧ (jIn l).t.length + 1 ≤ (jIn l).k ∧ UOk (jIn l).t := by
  intro n
  induction n using Nat.strongRecOn with
  | _ n ih =>
    intro l hn h
    match l, hn, h with
    | [], _, h => simp [jIn_nil] at h
    | c :: t, hn, h =>
      rw [jIn_cons] at h ⊢
      by_cases h1 : c.toNat = 34
      · rw [if_pos h1]; exact ⟨by simp, by simp, .nil⟩
      · rw [if_neg h1] at h ⊢
        by_cases h2 : (jPart (c :: t)).e = 0
        · rw [if_pos h2] at h ⊢
          rw [JT.and_e] at h
          obtain ⟨⟨r, hr, ht⟩, e2, e3, e4⟩ := jPart_fine h2
          have hd : ((c :: t).drop (jPart (c :: t)).k).length = n - (jPart (c :: t)).k := by rw [List.length_drop, hn]
          obtain ⟨i1, i2, i3⟩ := ih _ (by omega) _ hd h
          rw [JT.and_yes _ h]
          refine ⟨by simp only; omega, by simp only [List.length_append]; omega, ?_⟩
          simp only
          rw [ht]
          exact .step r _ hr i3
        · rw [if_neg h2] at h; exact absurd h h2

/-- 10.3. -/
def jTb (b : UInt8) : List UInt8 := if b.toNat = 34 ∨ b.toNat = 92 then [92, b] else if b.toNat < 32 then [92, 117, 48, 48, hd (b.toNat / 16), hd (b.toNat % 16)] else [b]
def jT : List UInt8 → List UInt8
  | [] => []
  | b :: t => jTb b ++ jT t
def jText (l : List UInt8) : List UInt8 := 34 :: (jT l ++ [34])
theorem jT_append : ∀ (l m : List UInt8), jT (l ++ m) = jT l ++ jT m
  | [], _ => rfl
  | b :: t, m => by simp only [List.cons_append, jT, jT_append t m, List.append_assoc]
theorem jT_take (l : List UInt8) (k : Nat) (h : k < l.length) : jT (l.take (k + 1)) = jT (l.take k) ++ jTb l[k] := by
  rw [List.take_succ_eq_append_getElem h, jT_append]
  simp [jT]
theorem jTb_len (b : UInt8) : 1 ≤ (jTb b).length ∧ (jTb b).length ≤ 6 := by
  unfold jTb
  split
  · simp
  · split <;> simp
theorem jT_len : ∀ (l : List UInt8), l.length ≤ (jT l).length ∧ (jT l).length ≤ 6 * l.length
  | [] => by simp [jT]
  | b :: t => by
    have h1 := jTb_len b
    have h2 := jT_len t
    simp only [jT, List.length_append, List.length_cons]
    omega
theorem jText_len (l : List UInt8) : (jText l).length = (jT l).length + 2 := by simp [jText]
theorem b8_b (b : UInt8) : b8 b.toNat = b := b8_of b rfl
theorem jTb_plain {b : UInt8} (h : jPl b = true) : jTb b = [b] := by
  obtain ⟨h1, h2, h3⟩ := jPl_iff.mp h
  unfold jTb
  rw [if_neg (by omega), if_neg (by omega)]
theorem jT_plain : ∀ {l : List UInt8}, (∀ b ∈ l, jPl b = true) → jT l = l
  | [], _ => rfl
  | b :: t, h => by
    simp only [jT]
    rw [jTb_plain (h b (by simp)), jT_plain (fun x hx => h x (by simp [hx]))]
    rfl
/-- A character that stands for itself. -/
theorem jIn_char {r : Nat} (h : uIs r = true) (h1 : 32 ≤ r) (h2 : r ≠ 34) (h3 : r ≠ 92) (Y : List UInt8) : (∀ b ∈ uB r, jPl b = true) ∧ jIn (uB r ++ Y) = (⟨uB r, (uB r).length, 0⟩ : JT).and (jIn Y) := by
  have hall : ∀ b ∈ uB r, jPl b = true := by
    intro b hb
    by_cases h4 : r < 128
    · rw [uB_small h4] at hb
      have : b = b8 r := by simpa using hb
      rw [this]
      exact jPl_iff.mpr (by rw [b8_toNat (by omega)]; omega)
    · obtain ⟨j, hj, rfl⟩ := List.getElem_of_mem hb
      have := uB_high h j hj (.inr (by omega))
      exact jPl_iff.mpr (by omega)
  refine ⟨hall, ?_⟩
  have hd := dec_put Y h
  have hp := (uB_pos r).1
  match hu : uB r, hp, hall with
  | c :: t, _, hall =>
    have := jIn_plain c (t ++ Y) (hall c (by simp))
    rw [← List.cons_append, ← hu, hd] at this
    rw [← hu, this, if_neg (by simp only; omega)]
    simp only [List.take_left, List.drop_left]
theorem jEsc_low : ∀ (r : Fin 32) (Y : List UInt8), jEsc ([117, 48, 48, hd (r.val / 16), hd (r.val % 16)] ++ Y) = ⟨r.val, 5, 0⟩ := by
  intro r Y
  have h4 : jDg 4 0 ([48, 48, hd (r.val / 16), hd (r.val % 16)] ++ Y) = (r.val, 0) := by
    rw [jDg_more _ _ _ _ (by simp)]
    have : ∀ r : Fin 32, jDg 4 0 [48, 48, hd (r.val / 16), hd (r.val % 16)] = (r.val, 0) := by decide +kernel
    exact this r
  have hn : jNum ([48, 48, hd (r.val / 16), hd (r.val % 16)] ++ Y) = ⟨r.val, 4, 0⟩ := by
    unfold jNum
    rw [h4, if_pos rfl, if_pos (uIs_iff.mpr (by have := r.isLt; simp only; omega))]
  show jEsc (117 :: ([48, 48, hd (r.val / 16), hd (r.val % 16)] ++ Y)) = _
  simp only [jEsc]
  rw [hn, if_pos (by decide)]; rfl
/-- What was written of a right text is read as it was. -/
theorem jIn_text : ∀ {l : List UInt8}, UOk l → ∀ X, jIn (jT l ++ 34 :: X) = ⟨l, (jT l).length + 1, 0⟩
  | _, .nil, X => by show jIn (34 :: X) = _; rw [jIn_quote _ _ (by decide)]; rfl
  | _, .step r t h ht, X => by
    have ih := jIn_text ht X
    rw [jT_append, List.append_assoc]
    by_cases h1 : 32 ≤ r ∧ r ≠ 34 ∧ r ≠ 92
    · obtain ⟨e1, e2⟩ := jIn_char h h1.1 h1.2.1 h1.2.2 (jT t ++ 34 :: X)
      rw [jT_plain e1, e2, ih, JT.and_yes _ rfl]
      simp [Nat.add_assoc]
    · have hr : r < 128 := by omega
      have hb := b8_toNat (n := r) (by omega)
      rw [uB_small hr]
      by_cases h2 : r = 34 ∨ r = 92
      · have e : jT [b8 r] = [92, b8 r] := by simp only [jT]; unfold jTb; rw [hb, if_pos h2]; rfl
        have es : jEsc (b8 r :: (jT t ++ 34 :: X)) = ⟨r, 1, 0⟩ := by
          simp only [jEsc]
          rw [hb, if_neg (by omega)]
          have : jSim r = r := by rcases h2 with rfl | rfl <;> rfl
          rw [this, if_neg (by omega)]
        rw [e]
        show jIn (92 :: (b8 r :: (jT t ++ 34 :: X))) = _
        rw [jIn_esc _ _ (by decide), es, if_pos rfl, List.drop_succ_cons, List.drop_zero, ih, JT.and_yes _ rfl, uB_small hr]
        exact JT.eq rfl (by simp only [List.length_append, List.length_cons, List.length_nil]; omega)
      · have hlt : r < 32 := by omega
        have e : jT [b8 r] = [92, 117, 48, 48, hd (r / 16), hd (r % 16)] := by simp only [jT]; unfold jTb; rw [hb, if_neg h2, if_pos hlt]; rfl
        have es := jEsc_low ⟨r, hlt⟩ (jT t ++ 34 :: X)
        simp only at es
        rw [e]
        show jIn (92 :: ([117, 48, 48, hd (r / 16), hd (r % 16)] ++ (jT t ++ 34 :: X))) = _
        rw [jIn_esc _ _ (by decide), es, if_pos rfl]
        simp only
        rw [List.drop_left' (by simp), ih, JT.and_yes _ rfl, uB_small hr]
        exact JT.eq rfl (by simp only [List.length_append, List.length_cons, List.length_nil]; omega)
/-- Unlike bytes are written unlike. -/
theorem jTb_one {b c : UInt8} {X Y : List UInt8} (h : jTb b ++ X = jTb c ++ Y) : b = c ∧ X = Y := by
  have hb := b.toNat_lt
  have hc := c.toNat_lt
  have n92 : (92 : UInt8).toNat = 92 := rfl
  have n117 : (117 : UInt8).toNat = 117 := rfl
  unfold jTb at h
  by_cases b1 : b.toNat = 34 ∨ b.toNat = 92
  · rw [if_pos b1] at h
    by_cases c1 : c.toNat = 34 ∨ c.toNat = 92
    · rw [if_pos c1] at h
      simp only [List.cons_append, List.nil_append, List.cons.injEq] at h
      exact ⟨h.2.1, h.2.2⟩
    · rw [if_neg c1] at h
      by_cases c2 : c.toNat < 32
      · rw [if_pos c2] at h
        simp only [List.cons_append, List.nil_append, List.cons.injEq] at h
        have := congrArg UInt8.toNat h.2.1
        rw [n117] at this; omega
      · rw [if_neg c2] at h
        simp only [List.cons_append, List.nil_append, List.cons.injEq] at h
        have := congrArg UInt8.toNat h.1
        rw [n92] at this; omega
  · rw [if_neg b1] at h
    by_cases b2 : b.toNat < 32
    · rw [if_pos b2] at h
      by_cases c1 : c.toNat = 34 ∨ c.toNat = 92
      · rw [if_pos c1] at h
        simp only [List.cons_append, List.nil_append, List.cons.injEq] at h
        have := congrArg UInt8.toNat h.2.1
        rw [n117] at this; omega
      · rw [if_neg c1] at h
        by_cases c2 : c.toNat < 32
        · rw [if_pos c2] at h
          simp only [List.cons_append, List.nil_append, List.cons.injEq, true_and] at h
          have e1 : b.toNat / 16 = c.toNat / 16 := by rw [← hd_eq (by omega) (by omega)]; exact h.1
          have e2 : b.toNat % 16 = c.toNat % 16 := by rw [← hd_eq (by omega) (by omega)]; exact h.2.1
          exact ⟨UInt8.toNat_inj.mp (by omega), h.2.2⟩
        · rw [if_neg c2] at h
          simp only [List.cons_append, List.nil_append, List.cons.injEq] at h
          have := congrArg UInt8.toNat h.1
          rw [n92] at this; omega
    · rw [if_neg b2] at h
      by_cases c1 : c.toNat = 34 ∨ c.toNat = 92
      · rw [if_pos c1] at h
        simp only [List.cons_append, List.nil_append, List.cons.injEq] at h
        have := congrArg UInt8.toNat h.1
        rw [n92] at this; omega
      · rw [if_neg c1] at h
        by_cases c2 : c.toNat < 32
        · rw [if_pos c2] at h
          simp only [List.cons_append, List.nil_append, List.cons.injEq] at h
          have := congrArg UInt8.toNat h.1
          rw [n92] at this; omega
        · rw [if_neg c2] at h
          simp only [List.cons_append, List.nil_append, List.cons.injEq] at h
          exact h
theorem jT_one : ∀ (l m : List UInt8), jT l = jT m → l = m
  | [], [], _ => rfl
  | [], c :: m, h => by
    have := congrArg List.length h
    have h1 := (jTb_len c).1
    simp only [jT, List.length_nil, List.length_append] at this
    omega
  | b :: l, [], h => by
    have := congrArg List.length h
    have h1 := (jTb_len b).1
    simp only [jT, List.length_nil, List.length_append] at this
    omega
  | b :: l, c :: m, h => by
    obtain ⟨e1, e2⟩ := jTb_one (show jTb b ++ jT l = jTb c ++ jT m from h)
    rw [e1, jT_one l m e2]
theorem jText_one (l m : List UInt8) : jText l = jText m ↔ l = m := by
  refine ⟨fun h => ?_, fun h => by rw [h]⟩
  unfold jText at h
  rw [List.cons.injEq] at h
  exact jT_one l m (List.append_cancel_right h.2)
end Go.Proofs.YtnbhhnkcfbfdcaaGreatDoor
/- Plain facts, of no program: what digits to the base 10 are worth ('dV'), which texts are a number's digits ('DOK'), a number's digits are read as it, and what is read as a number is its digits. -/
namespace Go.Proofs.YtnbhhnkcfbfdcaaGreatDoor
open Go Go.RowKit
set_option linter.unusedVariables false

/-- A digit. -/
def dIs (b : UInt8) : Bool := decide (48 ≤ b.toNat ∧ b.toNat ≤ 57)
theorem dIs_iff {b : UInt8} : dIs b = true ↔ 48 ≤ b.toNat ∧ b.toNat ≤ 57 := by unfold dIs; rw [decide_eq_true_iff]
/-- What digits are worth. -/
def dV (l : List UInt8) : Nat := l.foldl (fun a b => 10 * a + (b.toNat - 48)) 0
/-- A number's digits, from 0 on, however great. -/
def DOK (l : List UInt8) : Prop := l ≠ [] ∧ l.all dIs = true ∧ (l.head? = some 48 → l.length = 1)
instance (l : List UInt8) : Decidable (DOK l) := by unfold DOK; infer_instance
theorem dV_snoc (l : List UInt8) (b : UInt8) : dV (l ++ [b]) = 10 * dV l + (b.toNat - 48) := by
  unfold dV; rw [List.foldl_append]; rfl
theorem dV_take (l : List UInt8) (k : Nat) (h : k < l.length) : dV (l.take (k + 1)) = 10 * dV (l.take k) + (l[k].toNat - 48) := by
  rw [List.take_succ_eq_append_getElem h, dV_snoc]
theorem dV_step (l : List UInt8) (k : Nat) : dV (l.take k) ≤ dV (l.take (k + 1)) := by
  by_cases h : k < l.length
  · rw [dV_take l k h]; omega
  · rw [List.take_of_length_le (by omega), List.take_of_length_le (by omega)]; exact Nat.le_refl _
theorem dV_mono (l : List UInt8) (k : Nat) : ∀ n, dV (l.take k) ≤ dV (l.take (k + n))
  | 0 => Nat.le_refl _
  | n + 1 => Nat.le_trans (dV_mono l k n) (dV_step l (k + n))
theorem dV_take_le (l : List UInt8) (k : Nat) : dV (l.take k) ≤ dV l := by
  have := dV_mono l k l.length
  rwa [List.take_of_length_le (l := l) (i := k + l.length) (by omega)] at this
theorem dV_foldl : ∀ (l : List UInt8) (a : Nat), l.foldl (fun a b => 10 * a + (b.toNat - 48)) a = a * 10 ^ l.length + dV l
  | [], a => by simp [dV]
  | b :: r, a => by
    unfold dV
    rw [List.foldl_cons, List.foldl_cons, dV_foldl r, dV_foldl r (10 * 0 + (b.toNat - 48)), List.length_cons, Nat.pow_succ]
    have : (10 * a + (b.toNat - 48)) * 10 ^ r.length = a * (10 ^ r.length * 10) + (b.toNat - 48) * 10 ^ r.length := by
      rw [Nat.add_mul, Nat.mul_comm 10 a, Nat.mul_assoc, Nat.mul_comm 10 (10 ^ r.length)]
    rw [this]; simp only [Nat.mul_zero, Nat.zero_add]; omega
theorem dV_cons (b : UInt8) (r : List UInt8) : dV (b :: r) = (b.toNat - 48) * 10 ^ r.length + dV r := by
  have := dV_foldl r (b.toNat - 48)
  unfold dV
  rw [List.foldl_cons, Nat.mul_zero, Nat.zero_add]
  exact this
theorem dV_lt : ∀ (l : List UInt8), l.all dIs = true → dV l < 10 ^ l.length
  | [], _ => by simp [dV]
  | b :: r, h => by
    rw [List.all_cons, Bool.and_eq_true] at h
    have h1 := dIs_iff.mp h.1
    have h2 := dV_lt r h.2
    rw [dV_cons, List.length_cons, Nat.pow_succ]
    have : (b.toNat - 48) * 10 ^ r.length ≤ 9 * 10 ^ r.length := Nat.mul_le_mul_right _ (by omega)
    omega
theorem dV_ge (b : UInt8) (r : List UInt8) (h : 49 ≤ b.toNat) : 10 ^ r.length ≤ dV (b :: r) := by
  rw [dV_cons]
  have : 1 * 10 ^ r.length ≤ (b.toNat - 48) * 10 ^ r.length := Nat.mul_le_mul_right _ (by omega)
  omega
/-- Behind a 0 nothing stands: so the head of a longer one is not 0. -/
theorem DOK.head {b : UInt8} {r : List UInt8} (h : DOK (b :: r)) (hr : r ≠ []) : 49 ≤ b.toNat := by
  obtain ⟨_, h2, h3⟩ := h
  rw [List.all_cons, Bool.and_eq_true] at h2
  have h1 := dIs_iff.mp h2.1
  rcases Nat.lt_or_ge 48 b.toNat with h | h
  · exact h
  · have e : b = 48 := UInt8.toNat_inj.mp (by show b.toNat = 48; omega)
    subst e
    have := h3 rfl
    rw [List.length_cons] at this
    exact absurd (List.eq_nil_of_length_eq_zero (by omega)) hr
theorem less_val : ∀ (l m : List UInt8), l.all dIs = true → m.all dIs = true → l.length = m.length → Op.bytesLess l m = decide (dV l < dV m)
  | [], [], _, _, _ => rfl
  | [], _ :: _, _, _, h => by simp at h
  | _ :: _, [], _, _, h => by simp at h
  | a :: x, b :: y, h1, h2, hl => by
    rw [List.all_cons, Bool.and_eq_true] at h1 h2
    have ha := dIs_iff.mp h1.1
    have hb := dIs_iff.mp h2.1
    have hl' : x.length = y.length := by simpa using hl
    have ih := less_val x y h1.2 h2.2 hl'
    have hx := dV_lt x h1.2
    have hy := dV_lt y h2.2
    rw [hl'] at hx
    have e3 : (a == b) = decide (a.toNat = b.toNat) := by
      rw [Bool.eq_iff_iff, beq_iff_eq, decide_eq_true_iff, UInt8.toNat_inj]
    have e4 : (a < b) = (a.toNat < b.toNat) := propext UInt8.lt_iff_toNat_lt
    rw [dV_cons, dV_cons, hl']
    simp only [Op.bytesLess, ih, e3]
    simp only [e4]
    rcases Nat.lt_trichotomy a.toNat b.toNat with h | h | h
    · have : (a.toNat - 48 + 1) * 10 ^ y.length ≤ (b.toNat - 48) * 10 ^ y.length := Nat.mul_le_mul_right _ (by omega)
      rw [Nat.add_mul] at this
      rw [decide_eq_true h, decide_eq_true (show (a.toNat - 48) * 10 ^ y.length + dV x < (b.toNat - 48) * 10 ^ y.length + dV y by omega)]; rfl
    · rw [decide_eq_false (show ¬ a.toNat < b.toNat by omega), decide_eq_true h, h]
      simp
    · have : (b.toNat - 48 + 1) * 10 ^ y.length ≤ (a.toNat - 48) * 10 ^ y.length := Nat.mul_le_mul_right _ (by omega)
      rw [Nat.add_mul] at this
      rw [decide_eq_false (show ¬ a.toNat < b.toNat by omega), decide_eq_false (show ¬ a.toNat = b.toNat by omega), decide_eq_false (show ¬ (a.toNat - 48) * 10 ^ y.length + dV x < (b.toNat - 48) * 10 ^ y.length + dV y by omega)]; rfl
/-- A longer number's digits are a greater number's. -/
theorem long_val {l m : List UInt8} (hl : DOK l) (hm : DOK m) (h : m.length < l.length) : dV m < dV l := by
  have hm0 : 0 < m.length := List.length_pos_iff.mpr hm.1
  match l, hl with
  | [], hl => exact absurd rfl hl.1
  | b :: r, hl =>
    rw [List.length_cons] at h
    have hr : r ≠ [] := fun e => by subst e; rw [List.length_nil] at h; omega
    have h1 := dV_ge b r (hl.head hr)
    have h2 := dV_lt m hm.2.1
    have h3 : 10 ^ m.length ≤ 10 ^ r.length := Nat.pow_le_pow_right (by decide) (by omega)
    omega
/-- The digits of a number. -/
theorem d8 {n : Nat} (h : n < 10) : (UInt8.ofNat (48 + n)).toNat = 48 + n := by rw [UInt8.toNat_ofNat']; omega
theorem dec_small {u : Nat} (h : u < 10) : Lib.decDigits u = [UInt8.ofNat (48 + u)] := by rw [Lib.decDigits, dif_pos h]
theorem dec_big {u : Nat} (h : ¬ u < 10) : Lib.decDigits u = Lib.decDigits (u / 10) ++ [UInt8.ofNat (48 + u % 10)] := by rw [Lib.decDigits, dif_neg h]
theorem dec_ne (u : Nat) : Lib.decDigits u ≠ [] := by
  by_cases h : u < 10
  · rw [dec_small h]; simp
  · rw [dec_big h]; simp
theorem dec_all (u : Nat) : (Lib.decDigits u).all dIs = true := by
  induction u using Nat.strongRecOn with
  | ind u ih =>
    by_cases h : u < 10
    · rw [dec_small h, List.all_cons, List.all_nil, Bool.and_true, dIs_iff, d8 h]; omega
    · rw [dec_big h, List.all_append, ih _ (by omega), List.all_cons, List.all_nil, Bool.and_true, Bool.true_and, dIs_iff, d8 (by omega)]; omega
theorem dV_dec (u : Nat) : dV (Lib.decDigits u) = u := by
  induction u using Nat.strongRecOn with
  | ind u ih =>
    by_cases h : u < 10
    · rw [dec_small h]; show 10 * 0 + ((UInt8.ofNat (48 + u)).toNat - 48) = u; rw [d8 h]; omega
    · rw [dec_big h, dV_snoc, ih _ (by omega), d8 (by omega)]; omega
theorem dec_head (u : Nat) : (Lib.decDigits u).head? = some 48 → u = 0 := by
  induction u using Nat.strongRecOn with
  | ind u ih =>
    by_cases h : u < 10
    · rw [dec_small h]
      intro e
      have e1 : (UInt8.ofNat (48 + u)).toNat = 48 := by rw [List.head?_cons] at e; rw [Option.some.inj e]; rfl
      rw [d8 h] at e1; omega
    · rw [dec_big h, List.head?_append]
      intro e
      obtain ⟨b, r, hb⟩ := List.exists_cons_of_ne_nil (dec_ne (u / 10))
      have := ih (u / 10) (by omega)
      rw [hb] at this e
      have := this (by simpa using e)
      omega
theorem dok_dec (u : Nat) : DOK (Lib.decDigits u) := ⟨dec_ne u, dec_all u, fun h => by
  have := dec_head u h
  subst this
  rw [dec_small (by decide)]; rfl⟩
theorem dec_dV (l : List UInt8) (h : DOK l) : Lib.decDigits (dV l) = l := by
  generalize hn : l.length = n
  induction n generalizing l with
  | zero => exact absurd (List.eq_nil_of_length_eq_zero hn) h.1
  | succ n ih =>
    obtain ⟨r, b, rfl⟩ : ∃ r b, l = r ++ [b] := ⟨l.dropLast, l.getLast h.1, (List.dropLast_concat_getLast h.1).symm⟩
    have hr : r.length = n := by simpa using hn
    have hall := h.2.1
    rw [List.all_append, Bool.and_eq_true, List.all_cons, List.all_nil, Bool.and_true] at hall
    have hb := dIs_iff.mp hall.2
    have eb : UInt8.ofNat b.toNat = b := UInt8.ofNat_toNat
    rw [dV_snoc]
    by_cases h0 : r = []
    · subst h0
      rw [dec_small (by show 10 * 0 + _ < 10; omega)]
      show [UInt8.ofNat (48 + (10 * 0 + (b.toNat - 48)))] = [b]
      rw [show 48 + (10 * 0 + (b.toNat - 48)) = b.toNat by omega, eb]
    · obtain ⟨a, s, rfl⟩ := List.exists_cons_of_ne_nil h0
      have ha : 49 ≤ a.toNat := DOK.head (r := s ++ [b]) h (by simp)
      have hok : DOK (a :: s) := ⟨h0, hall.1, fun e => by
        rw [List.head?_cons] at e
        rw [Option.some.inj e] at ha
        exact absurd ha (by decide)⟩
      have hge := dV_ge a s ha
      have hp : 1 ≤ 10 ^ s.length := Nat.one_le_pow _ _ (by decide)
      rw [dec_big (by omega), show (10 * dV (a :: s) + (b.toNat - 48)) / 10 = dV (a :: s) by omega, ih _ hok hr, show (10 * dV (a :: s) + (b.toNat - 48)) % 10 = b.toNat - 48 by omega, show 48 + (b.toNat - 48) = b.toNat by omega, eb]

/-- One number's digits are a greater number than another one's: told by their lengths, and by their order as texts. -/
def dAbove (l m : List UInt8) : Bool := decide (m.length < l.length) || (decide (l.length = m.length) && (!Op.bytesLess l m && !(l == m)))
theorem above_val {l m : List UInt8} (hl : DOK l) (hm : DOK m) : dAbove l m = decide (dV m < dV l) := by
  unfold dAbove
  rcases Nat.lt_trichotomy m.length l.length with h | h | h
  · rw [decide_eq_true h, decide_eq_true (long_val hl hm h)]; rfl
  · have e : (l == m) = decide (dV l = dV m) := by
      rw [Bool.eq_iff_iff, beq_iff_eq, decide_eq_true_iff]
      exact ⟨fun e => by rw [e], fun e => by rw [← dec_dV l hl, ← dec_dV m hm, e]⟩
    rw [decide_eq_false (show ¬ m.length < l.length by omega), decide_eq_true h.symm, less_val l m hl.2.1 hm.2.1 h.symm, e]
    by_cases h1 : dV m < dV l
    · rw [decide_eq_true h1, decide_eq_false (show ¬ dV l < dV m by omega), decide_eq_false (show ¬ dV l = dV m by omega)]; rfl
    · rw [decide_eq_false h1]
      by_cases h2 : dV l < dV m
      · rw [decide_eq_true h2]; rfl
      · rw [decide_eq_true (show dV l = dV m by omega)]; simp
  · have := long_val hm hl h
    rw [decide_eq_false (show ¬ m.length < l.length by omega), decide_eq_false (show ¬ l.length = m.length by omega), decide_eq_false (show ¬ dV m < dV l by omega)]; rfl

/-- What a text is as a number from 0 on: the number and the code. -/
def uEnd (l : List UInt8) : Int × Int := if DOK l then (if dV l < 18446744073709551616 then ((dV l : Int), 0) else (0, 4)) else (0, 3)
/-- .. as a whole number: digits from a lowest worth on, a sign ahead. -/
def iEnd (l : List UInt8) : Int × Int := if DOK l then (if dV l ≤ 9223372036854775807 then ((dV l : Int), 0) else (0, 4)) else (0, 3)
def nEnd (l : List UInt8) : Int × Int := if DOK l then (if dV l ≤ 9223372036854775808 then (-(dV l : Int), 0) else (0, 4)) else (0, 3)
def sEnd (l : List UInt8) : Int × Int := if l.head? = some 45 then (if l.drop 1 = [48] then (0, 3) else nEnd (l.drop 1)) else iEnd l
theorem uEnd_dec {u : Nat} (h : u < 18446744073709551616) : uEnd (Lib.decDigits u) = ((u : Int), 0) := by
  unfold uEnd; rw [if_pos (dok_dec u), dV_dec, if_pos h]
theorem not45 {l : List UInt8} (h : l.all dIs = true) : l.head? ≠ some 45 := by
  intro e
  match l, h, e with
  | b :: r, h, e =>
    rw [List.all_cons, Bool.and_eq_true] at h
    have := dIs_iff.mp h.1
    rw [List.head?_cons] at e
    rw [Option.some.inj e] at this
    exact absurd this (by decide)
theorem sEnd_itoa {n : Int} (h0 : -9223372036854775808 ≤ n) (h1 : n ≤ 9223372036854775807) : sEnd (Lib.itoa n) = (n, 0) := by
  unfold sEnd Lib.itoa
  by_cases h : n < 0
  · rw [if_pos h, if_pos (show (45 :: Lib.decDigits n.natAbs).head? = some 45 from rfl)]
    show (if Lib.decDigits n.natAbs = [48] then ((0 : Int), (3 : Int)) else nEnd (Lib.decDigits n.natAbs)) = _
    rw [if_neg (fun e => by have := dV_dec n.natAbs; rw [e] at this; have : (0 : Nat) = n.natAbs := this; omega)]
    unfold nEnd
    rw [if_pos (dok_dec _), dV_dec, if_pos (by omega), show -(n.natAbs : Int) = n by omega]
  · rw [if_neg h, if_neg (not45 (dec_all _))]
    unfold iEnd
    rw [if_pos (dok_dec _), dV_dec, if_pos (by omega), show (n.toNat : Int) = n by omega]
theorem itoa_sEnd {l : List UInt8} {n : Int} (h : sEnd l = (n, 0)) : Lib.itoa n = l := by
  unfold sEnd at h
  by_cases h45 : l.head? = some 45
  · rw [if_pos h45] at h
    obtain ⟨r, rfl⟩ : ∃ r, l = 45 :: r := by
      match l, h45 with
      | b :: r, e => exact ⟨r, by rw [List.head?_cons] at e; rw [Option.some.inj e]⟩
    rw [List.drop_one, List.tail_cons] at h
    by_cases hz : r = [48]
    · rw [if_pos hz] at h; exact absurd (congrArg Prod.snd h) (by simp)
    · rw [if_neg hz] at h
      unfold nEnd at h
      by_cases hd : DOK r
      · rw [if_pos hd] at h
        by_cases hm : dV r ≤ 9223372036854775808
        · rw [if_pos hm] at h
          have e : -(dV r : Int) = n := congrArg Prod.fst h
          subst e
          have h1 : 1 ≤ dV r := by
            rcases Nat.eq_zero_or_pos (dV r) with h | h
            · have := dec_dV r hd
              rw [h, dec_small (by decide)] at this
              exact absurd this.symm hz
            · exact h
          unfold Lib.itoa
          rw [if_pos (by omega), show (-(dV r : Int)).natAbs = dV r by omega, dec_dV r hd]
        · rw [if_neg hm] at h; exact absurd (congrArg Prod.snd h) (by simp)
      · rw [if_neg hd] at h; exact absurd (congrArg Prod.snd h) (by simp)
  · rw [if_neg h45] at h
    unfold iEnd at h
    by_cases hd : DOK l
    · rw [if_pos hd] at h
      by_cases hm : dV l ≤ 9223372036854775807
      · rw [if_pos hm] at h
        have e : (dV l : Int) = n := congrArg Prod.fst h
        subst e
        unfold Lib.itoa
        rw [if_neg (by omega), show (dV l : Int).toNat = dV l by omega, dec_dV l hd]
      · rw [if_neg hm] at h; exact absurd (congrArg Prod.snd h) (by simp)
    · rw [if_neg hd] at h; exact absurd (congrArg Prod.snd h) (by simp)
/-- What is read is a number of its kind, and a code. -/
theorem sEnd_in (l : List UInt8) : -9223372036854775808 ≤ (sEnd l).1 ∧ (sEnd l).1 ≤ 9223372036854775807 := by
  unfold sEnd nEnd iEnd
  split
  · split
    · simp
    · split
      · split
        · dsimp only; omega
        · simp
      · simp
  · split
    · split
      · dsimp only; omega
      · simp
    · simp
theorem dec_len (u : Nat) (h : u < 18446744073709551616) : (Lib.decDigits u).length ≤ 20 := by
  rw [Lib.decDigits_length]; exact Lib.nDigits_le20 u h
theorem itoa_len (n : Int) (h0 : -9223372036854775808 ≤ n) (h1 : n ≤ 9223372036854775807) : (Lib.itoa n).length ≤ 21 := Lib.itoa_length_le n h0 h1
end Go.Proofs.YtnbhhnkcfbfdcaaGreatDoor
/- Numbers' texts of JSON over bytes: how many bytes each part has ('dL', 'pL', 'iL', 'fL', 'xL'), what is wrong first ('nCode'), the parts of a text that is a number's ('NForm'). Of no program. -/
namespace Go.Proofs.YtnbhhnkcfbfdcaaGreatDoor
open Go Go.RowKit
set_option linter.unusedVariables false

/-- How many digits stand ahead; what is wrong where one has to. -/
def dL (l : List UInt8) : Nat := (l.takeWhile dIs).length
def dE (l : List UInt8) : Int := if dL l = 0 then (if l = [] then 1 else 3) else 0
/-- How many bytes (one or none) stand ahead that are one of these. -/
def pL (ts : List UInt8) : List UInt8 → Nat
  | [] => 0
  | x :: _ => if ts.contains x = true then 1 else 0
theorem pL_at (ts : List UInt8) (x : UInt8) (t : List UInt8) : pL ts (x :: t) = if ts.contains x = true then 1 else 0 := rfl
theorem pL_le (ts l : List UInt8) : pL ts l ≤ 1 := by
  match l with
  | [] => exact Nat.zero_le _
  | x :: t => rw [pL_at]; split <;> omega
theorem pL_len (ts l : List UInt8) : pL ts l ≤ l.length := by
  match l with
  | [] => exact Nat.le_refl _
  | x :: t => rw [pL_at, List.length_cons]; split <;> omega
theorem pL_one {ts l : List UInt8} (h : pL ts l = 1) : ∃ x t, l = x :: t ∧ ts.contains x = true := by
  match l, h with
  | x :: t, h =>
    rw [pL_at] at h
    by_cases hx : ts.contains x = true
    · exact ⟨x, t, rfl, hx⟩
    · rw [if_neg hx] at h; omega
theorem pL_cons {ts : List UInt8} {x : UInt8} (t : List UInt8) (h : ts.contains x = true) : pL ts (x :: t) = 1 := by rw [pL_at, if_pos h]
theorem pL_other {ts : List UInt8} {x : UInt8} (t : List UInt8) (h : ¬ ts.contains x = true) : pL ts (x :: t) = 0 := by rw [pL_at, if_neg h]
theorem dL_len (l : List UInt8) : dL l ≤ l.length := (List.takeWhile_prefix dIs).length_le
theorem take_dL (l : List UInt8) : l.take (dL l) = l.takeWhile dIs := (List.prefix_iff_eq_take.1 (List.takeWhile_prefix dIs)).symm
theorem take_dL_all (l : List UInt8) : (l.take (dL l)).all dIs = true := by rw [take_dL]; exact List.all_takeWhile
/-- No digit stands ahead. -/
def nd (R : List UInt8) : Prop := ∀ x t, R = x :: t → dIs x = false
theorem nd_nil : nd [] := fun x t h => by cases h
theorem dL_app {D R : List UInt8} (h : D.all dIs = true) (hr : nd R) : dL (D ++ R) = D.length := by
  have h1 : R.takeWhile dIs = [] := by
    match R, hr with
    | [], _ => rfl
    | x :: t, hr => rw [List.takeWhile_cons, hr x t rfl]; rfl
  unfold dL
  rw [List.takeWhile_append_of_pos (fun a ha => List.all_eq_true.mp h a ha), h1, List.append_nil]
theorem dE_zero {l : List UInt8} (h : dE l = 0) : dL l ≠ 0 := by
  unfold dE at h
  by_cases h0 : dL l = 0
  · rw [if_pos h0] at h; split at h <;> omega
  · exact h0
theorem dE_ok {l : List UInt8} (h : dL l ≠ 0) : dE l = 0 := by unfold dE; rw [if_neg h]
theorem dE_bad {l : List UInt8} (h : dE l ≠ 0) : dL l = 0 := by
  unfold dE at h
  by_cases h0 : dL l = 0
  · exact h0
  · rw [if_neg h0] at h; exact absurd rfl h

/-- The whole digits, the dot and those behind it, e and what is behind it: how many bytes, and what is wrong. -/
def iL (r : List UInt8) : Nat := if pL [48] r = 1 then 1 else dL r
def iE (r : List UInt8) : Int := if pL [48] r = 1 then 0 else dE r
def fL (r : List UInt8) : Nat := if pL [46] r = 1 then 1 + dL (r.drop 1) else 0
def fE (r : List UInt8) : Int := if pL [46] r = 1 then dE (r.drop 1) else 0
def xS (r : List UInt8) : Nat := 1 + pL [43, 45] (r.drop 1)
def xL (r : List UInt8) : Nat := if pL [101, 69] r = 1 then xS r + dL (r.drop (xS r)) else 0
def xE (r : List UInt8) : Int := if pL [101, 69] r = 1 then dE (r.drop (xS r)) else 0
def nA (l : List UInt8) : Nat := pL [45] l
def nB (l : List UInt8) : Nat := nA l + iL (l.drop (nA l))
def nC (l : List UInt8) : Nat := nB l + fL (l.drop (nB l))
def nE (l : List UInt8) : Nat := nC l + xL (l.drop (nC l))
def eB (l : List UInt8) : Int := iE (l.drop (nA l))
def eC (l : List UInt8) : Int := if eB l = 0 then fE (l.drop (nB l)) else eB l
def nCode (l : List UInt8) : Int := if eC l = 0 then xE (l.drop (nC l)) else eC l
def wW (l : List UInt8) : List UInt8 := (l.drop (nA l)).take (iL (l.drop (nA l)))
def wB (l : List UInt8) : List UInt8 := ((l.drop (nB l)).drop 1).take (fL (l.drop (nB l)) - 1)
def wP (l : List UInt8) : List UInt8 := ((l.drop (nC l)).drop 1).take (xL (l.drop (nC l)) - 1)

theorem one_len {ts r : List UInt8} (h : pL ts r = 1) : 1 ≤ r.length := by have := pL_len ts r; omega
theorem iL_len (r : List UInt8) : iL r ≤ r.length := by
  unfold iL
  split
  · rename_i h; exact one_len h
  · exact dL_len r
theorem fL_len (r : List UInt8) : fL r ≤ r.length := by
  unfold fL
  split
  · rename_i h
    have := one_len h
    have := dL_len (r.drop 1)
    rw [List.length_drop] at this; omega
  · exact Nat.zero_le _
theorem xS_len {r : List UInt8} (h : pL [101, 69] r = 1) : xS r ≤ r.length := by
  have := one_len h
  have := pL_len [43, 45] (r.drop 1)
  rw [List.length_drop] at this
  unfold xS; omega
theorem xL_len (r : List UInt8) : xL r ≤ r.length := by
  unfold xL
  split
  · rename_i h
    have := xS_len h
    have := dL_len (r.drop (xS r))
    rw [List.length_drop] at this; omega
  · exact Nat.zero_le _
theorem nA_len (l : List UInt8) : nA l ≤ l.length := pL_len _ _
theorem nB_len (l : List UInt8) : nB l ≤ l.length := by
  have h1 := nA_len l
  have h2 := iL_len (l.drop (nA l))
  rw [List.length_drop] at h2
  unfold nB; omega
theorem nC_len (l : List UInt8) : nC l ≤ l.length := by
  have h1 := nB_len l
  have h2 := fL_len (l.drop (nB l))
  rw [List.length_drop] at h2
  unfold nC; omega
theorem nE_len (l : List UInt8) : nE l ≤ l.length := by
  have h1 := nC_len l
  have h2 := xL_len (l.drop (nC l))
  rw [List.length_drop] at h2
  unfold nE; omega

/-- A number's text, and its parts. -/
structure NForm (L sg W F B X P : List UInt8) : Prop where
  eq : L = sg ++ (W ++ (F ++ X))
  sign : sg = [] ∨ sg = [45]
  digs : W.all dIs = true
  lead : W = [48] ∨ ∃ x t, W = x :: t ∧ x ≠ 48
  frac : (F = [] ∧ B = []) ∨ (F = 46 :: B ∧ B ≠ [] ∧ B.all dIs = true)
  expo : (X = [] ∧ P = []) ∨ ∃ e s D, (e = 101 ∨ e = 69) ∧ X = e :: P ∧ P = s ++ D ∧ (s = [] ∨ s = [43] ∨ s = [45]) ∧ D ≠ [] ∧ D.all dIs = true

theorem not_digit (b : UInt8) (h : b = 43 ∨ b = 45 ∨ b = 46 ∨ b = 101 ∨ b = 69) : dIs b = false := by
  rcases h with h | h | h | h | h <;> (subst h; decide)
theorem digit_ne {x : UInt8} (h : dIs x = true) (ts : List UInt8) (ht : ∀ t ∈ ts, t = 43 ∨ t = 45 ∨ t = 46 ∨ t = 101 ∨ t = 69) : ts.contains x = false := by
  rw [Bool.eq_false_iff]
  intro hc
  have := not_digit x (ht x (List.contains_iff_mem.mp hc))
  rw [h] at this; exact absurd this (by decide)
theorem contains_one {x y : UInt8} (h : [y].contains x = true) : x = y := by simpa using h
theorem contains_two {x y z : UInt8} (h : [y, z].contains x = true) : x = y ∨ x = z := by simpa using h
theorem head_of {D : List UInt8} (h : D ≠ []) (ha : D.all dIs = true) : ∃ x t, D = x :: t ∧ dIs x = true := by
  obtain ⟨x, t, rfl⟩ := List.exists_cons_of_ne_nil h
  exact ⟨x, t, rfl, List.all_eq_true.mp ha x List.mem_cons_self⟩

theorem int_parts {r : List UInt8} (h : iE r = 0) : (r.take (iL r)).all dIs = true ∧ (r.take (iL r) = [48] ∨ ∃ x t, r.take (iL r) = x :: t ∧ x ≠ 48) := by
  unfold iE at h
  unfold iL
  by_cases h1 : pL [48] r = 1
  · rw [if_pos h1]
    obtain ⟨x, t, rfl, hx⟩ := pL_one h1
    obtain rfl := contains_one hx
    exact ⟨rfl, .inl rfl⟩
  · rw [if_neg h1] at h
    rw [if_neg h1]
    have h0 := dE_zero h
    refine ⟨take_dL_all r, .inr ?_⟩
    match r, h0, h1 with
    | [], h0, _ => exact absurd rfl h0
    | x :: t, h0, h1 =>
      obtain ⟨k, hk⟩ : ∃ k, dL (x :: t) = k + 1 := ⟨dL (x :: t) - 1, by omega⟩
      rw [hk]
      exact ⟨x, t.take k, rfl, fun e => h1 (pL_cons t (by rw [e]; rfl))⟩
theorem frac_parts {r : List UInt8} (h : fE r = 0) : (r.take (fL r) = [] ∧ (r.drop 1).take (fL r - 1) = []) ∨ (r.take (fL r) = 46 :: (r.drop 1).take (fL r - 1) ∧ (r.drop 1).take (fL r - 1) ≠ [] ∧ ((r.drop 1).take (fL r - 1)).all dIs = true) := by
  unfold fE at h
  unfold fL
  by_cases h1 : pL [46] r = 1
  · rw [if_pos h1] at h
    rw [if_pos h1]
    obtain ⟨x, t, rfl, hx⟩ := pL_one h1
    obtain rfl := contains_one hx
    have h0 := dE_zero h
    rw [List.drop_one, List.tail_cons] at h0 ⊢
    rw [Nat.add_comm 1, Nat.add_sub_cancel]
    refine .inr ⟨rfl, fun e => ?_, take_dL_all t⟩
    have := congrArg List.length e
    rw [List.length_take, List.length_nil] at this
    have := dL_len t
    omega
  · rw [if_neg h1]; exact .inl ⟨rfl, rfl⟩
theorem exp_parts {r : List UInt8} (h : xE r = 0) : (r.take (xL r) = [] ∧ (r.drop 1).take (xL r - 1) = []) ∨ ∃ e s D, (e = (101 : UInt8) ∨ e = 69) ∧ r.take (xL r) = e :: (r.drop 1).take (xL r - 1) ∧ (r.drop 1).take (xL r - 1) = s ++ D ∧ (s = [] ∨ s = [(43 : UInt8)] ∨ s = [45]) ∧ D ≠ [] ∧ D.all dIs = true := by
  unfold xE at h
  unfold xL
  by_cases h1 : pL [101, 69] r = 1
  · rw [if_pos h1] at h
    rw [if_pos h1]
    obtain ⟨x, t, rfl, hx⟩ := pL_one h1
    have h0 := dE_zero h
    have hS : xS (x :: t) = 1 + pL [43, 45] t := rfl
    rw [hS] at h0 ⊢
    have hd : (x :: t).drop (1 + pL [43, 45] t) = t.drop (pL [43, 45] t) := by rw [Nat.add_comm]; rfl
    rw [hd] at h0 ⊢
    have e1 : 1 + pL [43, 45] t + dL (t.drop (pL [43, 45] t)) - 1 = pL [43, 45] t + dL (t.drop (pL [43, 45] t)) := by omega
    have e2 : 1 + pL [43, 45] t + dL (t.drop (pL [43, 45] t)) = (pL [43, 45] t + dL (t.drop (pL [43, 45] t))) + 1 := by omega
    rw [e1, e2, List.drop_one, List.tail_cons, List.take_succ_cons]
    refine .inr ⟨x, t.take (pL [43, 45] t), (t.drop (pL [43, 45] t)).take (dL (t.drop (pL [43, 45] t))), contains_two hx, rfl, List.take_add, ?_, fun e => ?_, take_dL_all _⟩
    · have := pL_le [43, 45] t
      rcases Nat.lt_or_ge (pL [43, 45] t) 1 with h2 | h2
      · rw [show pL [43, 45] t = 0 by omega]; exact .inl rfl
      · obtain ⟨y, u, rfl, hy⟩ := pL_one (show pL [43, 45] t = 1 by omega)
        rw [pL_cons u hy]
        rcases contains_two hy with rfl | rfl
        · exact .inr (.inl rfl)
        · exact .inr (.inr rfl)
    · have := congrArg List.length e
      rw [List.length_take, List.length_nil] at this
      have := dL_len (t.drop (pL [43, 45] t))
      omega
  · rw [if_neg h1]; exact .inl ⟨rfl, rfl⟩
theorem codes {l : List UInt8} (h : nCode l = 0) : eB l = 0 ∧ eC l = 0 ∧ iE (l.drop (nA l)) = 0 ∧ fE (l.drop (nB l)) = 0 ∧ xE (l.drop (nC l)) = 0 := by
  unfold nCode at h
  by_cases h1 : eC l = 0
  · rw [if_pos h1] at h
    have h2 := h1
    unfold eC at h2
    by_cases h3 : eB l = 0
    · rw [if_pos h3] at h2; exact ⟨h3, h1, h3, h2, h⟩
    · rw [if_neg h3] at h2; exact absurd h2 h3
  · rw [if_neg h1] at h; exact absurd h h1
theorem take_parts (l : List UInt8) : l.take (nE l) = l.take (nA l) ++ (wW l ++ ((l.drop (nB l)).take (fL (l.drop (nB l))) ++ (l.drop (nC l)).take (xL (l.drop (nC l))))) := by
  have h1 : l.take (nE l) = l.take (nC l) ++ (l.drop (nC l)).take (xL (l.drop (nC l))) := List.take_add
  have h2 : l.take (nC l) = l.take (nB l) ++ (l.drop (nB l)).take (fL (l.drop (nB l))) := List.take_add
  have h3 : l.take (nB l) = l.take (nA l) ++ wW l := List.take_add
  rw [h1, h2, h3, List.append_assoc, List.append_assoc]
theorem form_of {l : List UInt8} (h : nCode l = 0) (hl : nE l = l.length) : NForm l (l.take (nA l)) (wW l) ((l.drop (nB l)).take (fL (l.drop (nB l)))) (wB l) ((l.drop (nC l)).take (xL (l.drop (nC l)))) (wP l) := by
  obtain ⟨_, _, h1, h2, h3⟩ := codes h
  refine ⟨?_, ?_, (int_parts h1).1, (int_parts h1).2, frac_parts h2, exp_parts h3⟩
  · rw [← take_parts, hl, List.take_length]
  · have := pL_le [45] l
    rcases Nat.lt_or_ge (pL [45] l) 1 with h4 | h4
    · rw [show nA l = 0 from (by unfold nA; omega)]; exact .inl rfl
    · obtain ⟨x, t, rfl, hx⟩ := pL_one (show pL [45] l = 1 by omega)
      obtain rfl := contains_one hx
      exact .inr rfl

theorem int_to {W R : List UInt8} (hd : W.all dIs = true) (hl : W = [48] ∨ ∃ x t, W = x :: t ∧ x ≠ 48) (hR : nd R) : iL (W ++ R) = W.length ∧ iE (W ++ R) = 0 := by
  rcases hl with rfl | ⟨x, t, rfl, hx⟩
  · have : pL [48] ([48] ++ R) = 1 := rfl
    unfold iL iE
    rw [if_pos this, if_pos this]; exact ⟨rfl, rfl⟩
  · have h1 : ¬ pL [48] (x :: t ++ R) = 1 := by
      rw [List.cons_append, pL_other _ (fun h => hx (contains_one h))]; omega
    unfold iL iE
    rw [if_neg h1, if_neg h1]
    have h2 := dL_app hd hR
    exact ⟨h2, dE_ok (by rw [h2, List.length_cons]; omega)⟩
theorem frac_to {F B R : List UInt8} (h : (F = [] ∧ B = []) ∨ (F = 46 :: B ∧ B ≠ [] ∧ B.all dIs = true)) (hR : nd R) (h46 : pL [46] R = 0) : fL (F ++ R) = F.length ∧ fE (F ++ R) = 0 ∧ ((F ++ R).drop 1).take (fL (F ++ R) - 1) = B := by
  rcases h with ⟨rfl, rfl⟩ | ⟨rfl, h1, h2⟩
  · have h3 : ¬ pL [46] R = 1 := by omega
    have h4 : fL R = 0 := by unfold fL; rw [if_neg h3]
    rw [List.nil_append, h4]
    exact ⟨rfl, by unfold fE; rw [if_neg h3], rfl⟩
  · have h3 : pL [46] (46 :: B ++ R) = 1 := rfl
    have h5 := dL_app h2 hR
    have h4 : fL (46 :: B ++ R) = B.length + 1 := by
      unfold fL; rw [if_pos h3]
      show 1 + dL (B ++ R) = _
      rw [h5, Nat.add_comm]
    refine ⟨h4, ?_, ?_⟩
    · unfold fE; rw [if_pos h3]
      exact dE_ok (by show dL (B ++ R) ≠ 0; rw [h5]; exact fun e => h1 (List.eq_nil_of_length_eq_zero e))
    · rw [h4, Nat.add_sub_cancel]
      show (B ++ R).take B.length = B
      rw [List.take_left']; rfl
theorem exp_to {X P : List UInt8} (h : (X = [] ∧ P = []) ∨ ∃ e s D, (e = (101 : UInt8) ∨ e = 69) ∧ X = e :: P ∧ P = s ++ D ∧ (s = [] ∨ s = [(43 : UInt8)] ∨ s = [45]) ∧ D ≠ [] ∧ D.all dIs = true) : xL X = X.length ∧ xE X = 0 ∧ (X.drop 1).take (xL X - 1) = P ∧ nd X ∧ pL [46] X = 0 := by
  rcases h with ⟨rfl, rfl⟩ | ⟨e, s, D, he, rfl, rfl, hs, hD, hd⟩
  · exact ⟨rfl, rfl, rfl, nd_nil, rfl⟩
  · have h1 : pL [101, 69] (e :: (s ++ D)) = 1 := pL_cons _ (by rcases he with rfl | rfl <;> rfl)
    have h5 : dL D = D.length := by have := dL_app hd nd_nil; rwa [List.append_nil] at this
    obtain ⟨x, t, hx, hx2⟩ := head_of hD hd
    have h2 : pL [43, 45] (s ++ D) = s.length := by
      rcases hs with rfl | rfl | rfl
      · rw [List.nil_append, hx, pL_other _ (by rw [digit_ne hx2 _ (by simp)]; decide)]; rfl
      · rfl
      · rfl
    have h3 : xS (e :: (s ++ D)) = s.length + 1 := by
      unfold xS; show 1 + pL [43, 45] (s ++ D) = _; rw [h2, Nat.add_comm]
    have h6 : (e :: (s ++ D)).drop (xS (e :: (s ++ D))) = D := by
      rw [h3, List.drop_succ_cons, List.drop_left']; rfl
    have h4 : xL (e :: (s ++ D)) = (s ++ D).length + 1 := by
      unfold xL; rw [if_pos h1, h6, h5, h3, List.length_append]; omega
    refine ⟨h4, ?_, ?_, ?_, ?_⟩
    · unfold xE; rw [if_pos h1, h6]
      exact dE_ok (by rw [h5]; exact fun e => hD (List.eq_nil_of_length_eq_zero e))
    · rw [h4, Nat.add_sub_cancel]
      show (s ++ D).take (s ++ D).length = _
      rw [List.take_length]
    · intro y u hy
      rw [← (List.cons.inj hy).1]
      rcases he with rfl | rfl <;> decide
    · exact pL_other _ (by rcases he with rfl | rfl <;> decide)
theorem form_to {L sg W F B X P : List UInt8} (h : NForm L sg W F B X P) : nCode L = 0 ∧ nE L = L.length ∧ L.take (nA L) = sg ∧ wW L = W ∧ wB L = B ∧ wP L = P ∧ L.drop (nA L) = W ++ (F ++ X) ∧ nA L = sg.length := by
  obtain ⟨h1, h2, h3, h4, h5, h6⟩ := h
  obtain ⟨x1, x2, x3, x4, x5⟩ := exp_to h6
  obtain ⟨f1, f2, f3⟩ := frac_to h5 x4 x5
  have hnd : nd (F ++ X) := by
    rcases h5 with ⟨rfl, rfl⟩ | ⟨rfl, _, _⟩
    · exact x4
    · intro y u hy
      rw [← (List.cons.inj hy).1]; decide
  obtain ⟨i1, i2⟩ := int_to h3 h4 hnd
  have a1 : nA L = sg.length := by
    subst h1
    rcases h2 with rfl | rfl
    · have hW : ∃ x t, W = x :: t ∧ dIs x = true := head_of (by rcases h4 with rfl | ⟨x, t, rfl, _⟩ <;> simp) h3
      obtain ⟨x, t, rfl, hx⟩ := hW
      exact pL_other _ (by rw [digit_ne hx _ (by simp)]; decide)
    · rfl
  have a2 : L.drop (nA L) = W ++ (F ++ X) := by rw [a1, h1, List.drop_left']; rfl
  have b1 : nB L = sg.length + W.length := by unfold nB; rw [a2, i1, a1]
  have b2 : L.drop (nB L) = F ++ X := by
    rw [b1, ← List.drop_drop, ← a1, a2, List.drop_left']; rfl
  have c1 : nC L = sg.length + W.length + F.length := by unfold nC; rw [b2, f1, b1]
  have c2 : L.drop (nC L) = X := by
    rw [c1, ← List.drop_drop, ← b1, b2, List.drop_left']; rfl
  have e1 : eB L = 0 := by unfold eB; rw [a2]; exact i2
  have e2 : eC L = 0 := by unfold eC; rw [if_pos e1, b2]; exact f2
  refine ⟨?_, ?_, ?_, ?_, ?_, ?_, a2, a1⟩
  · unfold nCode; rw [if_pos e2, c2]; exact x2
  · unfold nE; rw [c2, x1, c1, h1]; simp only [List.length_append]; omega
  · rw [a1, h1, List.take_left']; rfl
  · unfold wW; rw [a2, i1, List.take_left']; rfl
  · unfold wB; rw [b2]; exact f3
  · unfold wP; rw [c2]; exact x3
end Go.Proofs.YtnbhhnkcfbfdcaaGreatDoor
/- Tokens over bytes: which token begins, which tokens some bytes are, what is written of one; what is written is read again, whatever blanks stand between. Of no program. -/
namespace Go.Proofs.YtnbhhnkcfbfdcaaGreatDoor
open Go Go.RowKit
set_option linter.unusedVariables false

/-- A token: its kind, its text. -/
abbrev TK := UInt8 × List UInt8
/-- A token, how many bytes it takes with the blanks ahead of it, what is wrong. -/
structure TN where
  tok : TK
  k : Nat
  e : Int
/-- A text's JSON, from its first byte on. -/
def jL : List UInt8 → JT
  | [] => ⟨[], 0, 1⟩
  | x :: t => if x.toNat = 34 then (if (jIn t).e = 0 then ⟨(jIn t).t, (jIn t).k + 1, 0⟩ else ⟨[], 0, (jIn t).e⟩) else ⟨[], 0, 3⟩
theorem jL_cons (x : UInt8) (t : List UInt8) : jL (x :: t) = if x.toNat = 34 then (if (jIn t).e = 0 then ⟨(jIn t).t, (jIn t).k + 1, 0⟩ else ⟨[], 0, (jIn t).e⟩) else ⟨[], 0, 3⟩ := rfl
def tSign (x : UInt8) : Bool := [123, 125, 91, 93, 58, 44].contains x
def tBl (x : UInt8) : Bool := [32, 9, 10, 13].contains x
def tDig (x : UInt8) : Bool := [45, 48, 49, 50, 51, 52, 53, 54, 55, 56, 57].contains x
def tW (k : UInt8) : List UInt8 := if k = 116 then [116, 114, 117, 101] else if k = 102 then [102, 97, 108, 115, 101] else if k = 122 then [110, 117, 108, 108] else []
/-- What is wrong with a word. -/
def tWd : List UInt8 → List UInt8 → Int
  | [], _ => 0
  | _ :: _, [] => 1
  | a :: s, x :: l => if x = a then tWd s l else 3
def tWn (k : UInt8) (l : List UInt8) : TN := if tWd (tW k) l = 0 then ⟨(k, []), (tW k).length, 0⟩ else ⟨(0, []), 0, tWd (tW k) l⟩
/-- The token that begins with x, the first byte of l. -/
def tBeg (x : UInt8) (l : List UInt8) : TN :=
  if tSign x = true then ⟨(x, []), 1, 0⟩
  else if x = 34 then (if (jL l).e = 0 then ⟨(115, (jL l).t), (jL l).k, 0⟩ else ⟨(0, []), 0, (jL l).e⟩)
  else if tDig x = true then (if nCode l = 0 then ⟨(110, l.take (nE l)), nE l, 0⟩ else ⟨(0, []), 0, nCode l⟩)
  else if x = 116 then tWn 116 l else if x = 102 then tWn 102 l else if x = 110 then tWn 122 l
  else ⟨(0, []), 0, 3⟩
def bL (l : List UInt8) : Nat := (l.takeWhile tBl).length
def tNx (l : List UInt8) : TN := match l.drop (bL l) with
  | [] => ⟨(0, []), bL l, 0⟩
  | x :: t => ⟨(tBeg x (x :: t)).tok, bL l + (tBeg x (x :: t)).k, (tBeg x (x :: t)).e⟩
def tAl : Nat → List UInt8 → List TK × Int
  | 0, _ => ([], 0)
  | f + 1, l => if (tNx l).e = 0 then (if (tNx l).tok.1 = 0 then ([], 0) else if (tAl f (l.drop (tNx l).k)).2 = 0 then ((tNx l).tok :: (tAl f (l.drop (tNx l).k)).1, 0) else ([], (tAl f (l.drop (tNx l).k)).2)) else ([], (tNx l).e)
def tAll (l : List UInt8) : List TK × Int := tAl (l.length + 1) l
def tPut (x : TK) : List UInt8 := if x.1 = 115 then jText x.2 else if tSign x.1 = true then [x.1] else if x.1 = 110 then x.2 else tW x.1

/-- No number goes on with what stands here. -/
def tStop (R : List UInt8) : Prop := ∀ x t, R = x :: t → tBl x = true ∨ tSign x = true
def NumOk (n : List UInt8) : Prop := (∃ x t, n = x :: t ∧ tDig x = true) ∧ ∀ R, tStop R → nCode (n ++ R) = 0 ∧ nE (n ++ R) = n.length
/-- A token that was read. -/
def TOk (x : TK) : Prop := (tSign x.1 = true ∧ x.2 = []) ∨ (x.1 = 115 ∧ UOk x.2) ∨ (x.1 = 110 ∧ NumOk x.2) ∨ ((x.1 = 116 ∨ x.1 = 102 ∨ x.1 = 122) ∧ x.2 = [])

theorem tBl_iff {x : UInt8} : tBl x = true ↔ x = 32 ∨ x = 9 ∨ x = 10 ∨ x = 13 := by simp [tBl]
theorem tSign_iff {x : UInt8} : tSign x = true ↔ x = 123 ∨ x = 125 ∨ x = 91 ∨ x = 93 ∨ x = 58 ∨ x = 44 := by simp [tSign]
theorem tDig_iff {x : UInt8} : tDig x = true ↔ x = 45 ∨ (48 ≤ x.toNat ∧ x.toNat ≤ 57) := by
  constructor
  · intro h
    simp [tDig] at h
    rcases h with rfl | rfl | rfl | rfl | rfl | rfl | rfl | rfl | rfl | rfl | rfl <;> decide
  · rintro (rfl | ⟨h1, h2⟩)
    · decide
    · have : ∀ n : Fin 256, 48 ≤ n.val → n.val ≤ 57 → tDig (UInt8.ofNat n.val) = true := by decide +kernel
      have h3 := this ⟨x.toNat, x.toNat_lt⟩ h1 h2
      simpa using h3
theorem bl_len (l : List UInt8) : bL l ≤ l.length := (List.takeWhile_prefix tBl).length_le
theorem bl_nd {R : List UInt8} (h : tStop R) : nd R ∧ pL [46] R = 0 ∧ pL [101, 69] R = 0 ∧ pL [43, 45] R = 0 := by
  match R with
  | [] => exact ⟨nd_nil, rfl, rfl, rfl⟩
  | x :: t =>
    have h1 : x = 32 ∨ x = 9 ∨ x = 10 ∨ x = 13 ∨ x = 123 ∨ x = 125 ∨ x = 91 ∨ x = 93 ∨ x = 58 ∨ x = 44 := by
      rcases h x t rfl with h | h
      · rcases tBl_iff.mp h with e | e | e | e <;> simp [e]
      · rcases tSign_iff.mp h with e | e | e | e | e | e <;> simp [e]
    refine ⟨fun y u e => ?_, pL_other _ ?_, pL_other _ ?_, pL_other _ ?_⟩
    · rw [← (List.cons.inj e).1]
      rcases h1 with rfl | rfl | rfl | rfl | rfl | rfl | rfl | rfl | rfl | rfl <;> decide
    all_goals rcases h1 with rfl | rfl | rfl | rfl | rfl | rfl | rfl | rfl | rfl | rfl <;> decide
theorem bl_none {x : UInt8} {t : List UInt8} (h : tBl x = false) : bL (x :: t) = 0 := by
  unfold bL; rw [List.takeWhile_cons, h]; rfl
theorem bl_app {b l : List UInt8} (h : ∀ x ∈ b, tBl x = true) : bL (b ++ l) = b.length + bL l := by
  unfold bL
  rw [List.takeWhile_append_of_pos h, List.length_append]
theorem drop_bl (l : List UInt8) : ∀ x t, l.drop (bL l) = x :: t → tBl x = false := by
  intro x t e
  induction l with
  | nil => simp at e
  | cons y u ih =>
    by_cases h : tBl y = true
    · have h1 : bL (y :: u) = bL u + 1 := by unfold bL; rw [List.takeWhile_cons, h]; rfl
      rw [h1, List.drop_succ_cons] at e
      exact ih e
    · have h2 := (Bool.not_eq_true _).mp h
      rw [bl_none h2, List.drop_zero] at e
      rw [← (List.cons.inj e).1]; exact h2

/-- A number that was read is read again, where no more of one stands behind it. -/
theorem exp_on {X P R : List UInt8} (hR : tStop R) (h : (X = [] ∧ P = []) ∨ ∃ e s D, (e = (101 : UInt8) ∨ e = 69) ∧ X = e :: P ∧ P = s ++ D ∧ (s = [] ∨ s = [(43 : UInt8)] ∨ s = [45]) ∧ D ≠ [] ∧ D.all dIs = true) : xL (X ++ R) = X.length ∧ xE (X ++ R) = 0 ∧ nd (X ++ R) ∧ pL [46] (X ++ R) = 0 := by
  obtain ⟨r1, r2, r3, r4⟩ := bl_nd hR
  rcases h with ⟨rfl, rfl⟩ | ⟨e, s, D, he, rfl, rfl, hs, hD, hd⟩
  · have h3 : ¬ pL [101, 69] R = 1 := by omega
    exact ⟨by unfold xL; rw [List.nil_append, if_neg h3]; rfl, by unfold xE; rw [List.nil_append, if_neg h3], r1, r2⟩
  · rw [List.cons_append, List.append_assoc]
    have h1 : pL [101, 69] (e :: (s ++ (D ++ R))) = 1 := pL_cons _ (by rcases he with rfl | rfl <;> rfl)
    have h5 : dL (D ++ R) = D.length := dL_app hd r1
    obtain ⟨x, t, hx, hx2⟩ := head_of hD hd
    have h2 : pL [43, 45] (s ++ (D ++ R)) = s.length := by
      rcases hs with rfl | rfl | rfl
      · rw [List.nil_append, hx, List.cons_append, pL_other _ (by rw [digit_ne hx2 _ (by simp)]; decide)]; rfl
      · rfl
      · rfl
    have h3 : xS (e :: (s ++ (D ++ R))) = s.length + 1 := by
      unfold xS; show 1 + pL [43, 45] (s ++ (D ++ R)) = _; rw [h2, Nat.add_comm]
    have h6 : (e :: (s ++ (D ++ R))).drop (xS (e :: (s ++ (D ++ R)))) = D ++ R := by
      rw [h3, List.drop_succ_cons, List.drop_left']; rfl
    refine ⟨?_, ?_, ?_, ?_⟩
    · unfold xL; rw [if_pos h1, h6, h5, h3, List.length_cons, List.length_append]; omega
    · unfold xE; rw [if_pos h1, h6]
      exact dE_ok (by rw [h5]; exact fun e => hD (List.eq_nil_of_length_eq_zero e))
    · intro y u hy
      rw [← (List.cons.inj hy).1]
      rcases he with rfl | rfl <;> decide
    · exact pL_other _ (by rcases he with rfl | rfl <;> decide)
theorem num_on {l R : List UInt8} (hR : tStop R) (h : nCode l = 0) : nCode (l.take (nE l) ++ R) = 0 ∧ nE (l.take (nE l) ++ R) = (l.take (nE l)).length := by
  obtain ⟨_, _, h1, h2, h3⟩ := codes h
  have hs : l.take (nA l) = [] ∨ l.take (nA l) = [45] := by
    have := pL_le [45] l
    rcases Nat.lt_or_ge (pL [45] l) 1 with h4 | h4
    · rw [show nA l = 0 from (by unfold nA; omega)]; exact .inl rfl
    · obtain ⟨x, t, rfl, hx⟩ := pL_one (show pL [45] l = 1 by omega)
      obtain rfl := contains_one hx
      exact .inr rfl
  obtain ⟨w1, w2⟩ := int_parts h1
  have hF := frac_parts h2
  have hX := exp_parts h3
  rw [take_parts l]
  have eW : (l.drop (nA l)).take (iL (l.drop (nA l))) = wW l := rfl
  rw [eW] at w1 w2
  generalize l.take (nA l) = sg at *
  generalize wW l = W at *
  generalize (l.drop (nB l)).take (fL (l.drop (nB l))) = F at *
  generalize ((l.drop (nB l)).drop 1).take (fL (l.drop (nB l)) - 1) = B at *
  generalize (l.drop (nC l)).take (xL (l.drop (nC l))) = X at *
  generalize ((l.drop (nC l)).drop 1).take (xL (l.drop (nC l)) - 1) = P at *
  clear h h1 h2 h3 eW
  obtain ⟨x1, x2, x4, x5⟩ := exp_on hR hX
  obtain ⟨f1, f2, _⟩ := frac_to hF x4 x5
  have hnd : nd (F ++ (X ++ R)) := by
    rcases hF with ⟨rfl, _⟩ | ⟨rfl, _, _⟩
    · exact x4
    · intro y u hy
      rw [← (List.cons.inj hy).1]; decide
  obtain ⟨i1, i2⟩ := int_to w1 w2 hnd
  have eL : sg ++ (W ++ (F ++ X)) ++ R = sg ++ (W ++ (F ++ (X ++ R))) := by simp
  rw [eL]
  obtain ⟨L, hL⟩ : ∃ L, L = sg ++ (W ++ (F ++ (X ++ R))) := ⟨_, rfl⟩
  rw [← hL]
  have a1 : nA L = sg.length := by
    subst hL
    rcases hs with rfl | rfl
    · obtain ⟨x, t, rfl, hx⟩ : ∃ x t, W = x :: t ∧ dIs x = true := head_of (by rcases w2 with rfl | ⟨x, t, rfl, _⟩ <;> simp) w1
      exact pL_other _ (by rw [digit_ne hx _ (by simp)]; decide)
    · rfl
  have a2 : L.drop (nA L) = W ++ (F ++ (X ++ R)) := by rw [a1, hL, List.drop_left']; rfl
  have b1 : nB L = sg.length + W.length := by unfold nB; rw [a2, i1, a1]
  have b2 : L.drop (nB L) = F ++ (X ++ R) := by
    rw [b1, ← List.drop_drop, ← a1, a2, List.drop_left']; rfl
  have c1 : nC L = sg.length + W.length + F.length := by unfold nC; rw [b2, f1, b1]
  have c2 : L.drop (nC L) = X ++ R := by
    rw [c1, ← List.drop_drop, ← b1, b2, List.drop_left']; rfl
  have e1 : eB L = 0 := by unfold eB; rw [a2]; exact i2
  have e2 : eC L = 0 := by unfold eC; rw [if_pos e1, b2]; exact f2
  refine ⟨?_, ?_⟩
  · unfold nCode; rw [if_pos e2, c2]; exact x2
  · unfold nE; rw [c2, x1, c1]; simp only [List.length_append]; omega

theorem nE_pos {l : List UInt8} (h : nCode l = 0) : 1 ≤ nE l := by
  obtain ⟨_, _, h1, _, _⟩ := codes h
  have h2 : 1 ≤ iL (l.drop (nA l)) := by
    rcases (int_parts h1).2 with e | ⟨x, t, e, _⟩
    · have := congrArg List.length e
      rw [List.length_take] at this; simp at this; omega
    · have := congrArg List.length e
      rw [List.length_take] at this; simp at this; omega
  unfold nE nC nB; omega
theorem jL_fine {l : List UInt8} (h : (jL l).e = 0) : 1 ≤ (jL l).k ∧ (jL l).k ≤ l.length ∧ (jL l).t.length ≤ (jL l).k ∧ UOk (jL l).t := by
  match l with
  | [] => exact absurd h (by decide)
  | x :: t =>
    rw [jL_cons] at h ⊢
    by_cases hx : x.toNat = 34
    · rw [if_pos hx] at h ⊢
      by_cases he : (jIn t).e = 0
      · rw [if_pos he]
        obtain ⟨f1, f2, f3⟩ := jIn_fine _ t rfl he
        exact ⟨by simp only; omega, by simp only [List.length_cons]; omega, by simp only; omega, f3⟩
      · rw [if_neg he] at h; exact absurd h he
    · rw [if_neg hx] at h; exact absurd h (by decide)
theorem tWd_len : ∀ (s l : List UInt8), tWd s l = 0 → s.length ≤ l.length
  | [], _, _ => Nat.zero_le _
  | _ :: _, [], h => absurd h (by unfold tWd; decide)
  | a :: s, x :: l, h => by
    unfold tWd at h
    by_cases e : x = a
    · rw [if_pos e] at h
      have := tWd_len s l h
      simp only [List.length_cons]; omega
    · rw [if_neg e] at h; exact absurd h (by decide)
theorem tWd_app : ∀ (s R : List UInt8), tWd s (s ++ R) = 0
  | [], _ => rfl
  | a :: s, R => by
    show (if a = a then tWd s (s ++ R) else 3) = 0
    rw [if_pos rfl]; exact tWd_app s R
theorem tWd_snoc : ∀ (s l : List UInt8) (a : UInt8), tWd (s ++ [a]) l = if tWd s l = 0 then (match l.drop s.length with
    | [] => 1
    | x :: _ => if x = a then 0 else 3) else tWd s l
  | [], [], a => rfl
  | [], x :: l, a => by
    show (if x = a then tWd [] l else 3) = _
    rfl
  | b :: s, [], a => rfl
  | b :: s, x :: l, a => by
    show (if x = b then tWd (s ++ [a]) l else 3) = _
    by_cases e : x = b
    · rw [if_pos e, tWd_snoc s l a]
      show _ = if (if x = b then tWd s l else 3) = 0 then _ else (if x = b then tWd s l else 3)
      rw [if_pos e]; rfl
    · rw [if_neg e]
      show _ = if (if x = b then tWd s l else 3) = 0 then _ else (if x = b then tWd s l else 3)
      rw [if_neg e]; rfl
theorem tW_some {k : UInt8} (h : k = 116 ∨ k = 102 ∨ k = 122) : 1 ≤ (tW k).length ∧ (tW k).length ≤ 5 := by
  rcases h with rfl | rfl | rfl <;> decide
theorem tW_len (k : UInt8) : (tW k).length ≤ 5 := by
  unfold tW; repeat' split
  all_goals decide
theorem tWn_fine {k : UInt8} {l : List UInt8} (hk : k = 116 ∨ k = 102 ∨ k = 122) (h : (tWn k l).e = 0) : (tWn k l).tok = (k, []) ∧ 1 ≤ (tWn k l).k ∧ (tWn k l).k ≤ l.length := by
  unfold tWn at h ⊢
  by_cases e : tWd (tW k) l = 0
  · rw [if_pos e]
    exact ⟨rfl, (tW_some hk).1, tWd_len _ _ e⟩
  · rw [if_neg e] at h; exact absurd h e
/-- A token that begins is of some bytes, and right. -/
theorem tBeg_fine {x : UInt8} {t : List UInt8} (h : (tBeg x (x :: t)).e = 0) : 1 ≤ (tBeg x (x :: t)).k ∧ (tBeg x (x :: t)).k ≤ (x :: t).length ∧ (tBeg x (x :: t)).tok.2.length ≤ (tBeg x (x :: t)).k ∧ TOk (tBeg x (x :: t)).tok ∧ (tBeg x (x :: t)).tok.1 ≠ 0 := by
  unfold tBeg at h ⊢
  by_cases c1 : tSign x = true
  · rw [if_pos c1]
    refine ⟨Nat.le_refl _, by simp, by simp, .inl ⟨c1, rfl⟩, ?_⟩
    rcases tSign_iff.mp c1 with rfl | rfl | rfl | rfl | rfl | rfl <;> decide
  · rw [if_neg c1] at h ⊢
    by_cases c2 : x = 34
    · rw [if_pos c2] at h ⊢
      by_cases he : (jL (x :: t)).e = 0
      · rw [if_pos he]
        obtain ⟨f1, f2, f3, f4⟩ := jL_fine he
        exact ⟨f1, f2, f3, .inr (.inl ⟨rfl, f4⟩), (by decide : (115 : UInt8) ≠ 0)⟩
      · rw [if_neg he] at h; exact absurd h he
    · rw [if_neg c2] at h ⊢
      by_cases c3 : tDig x = true
      · rw [if_pos c3] at h ⊢
        by_cases he : nCode (x :: t) = 0
        · rw [if_pos he]
          have h1 := nE_pos he
          refine ⟨h1, nE_len _, by simp only [List.length_take]; omega, .inr (.inr (.inl ⟨rfl, ⟨x, t.take (nE (x :: t) - 1), ?_, c3⟩, fun R hR => num_on hR he⟩)), (by decide : (110 : UInt8) ≠ 0)⟩
          obtain ⟨m, hm⟩ : ∃ m, nE (x :: t) = m + 1 := ⟨nE (x :: t) - 1, by omega⟩
          simp only [hm, List.take_succ_cons, Nat.add_sub_cancel]
        · rw [if_neg he] at h; exact absurd h he
      · rw [if_neg c3] at h ⊢
        by_cases c4 : x = 116
        · rw [if_pos c4] at h ⊢
          obtain ⟨h1, h2, h3⟩ := tWn_fine (.inl rfl) h
          rw [h1]
          exact ⟨h2, h3, Nat.zero_le _, .inr (.inr (.inr ⟨.inl rfl, rfl⟩)), (by decide : (116 : UInt8) ≠ 0)⟩
        · rw [if_neg c4] at h ⊢
          by_cases c5 : x = 102
          · rw [if_pos c5] at h ⊢
            obtain ⟨h1, h2, h3⟩ := tWn_fine (.inr (.inl rfl)) h
            rw [h1]
            exact ⟨h2, h3, Nat.zero_le _, .inr (.inr (.inr ⟨.inr (.inl rfl), rfl⟩)), (by decide : (102 : UInt8) ≠ 0)⟩
          · rw [if_neg c5] at h ⊢
            by_cases c6 : x = 110
            · rw [if_pos c6] at h ⊢
              obtain ⟨h1, h2, h3⟩ := tWn_fine (.inr (.inr rfl)) h
              rw [h1]
              exact ⟨h2, h3, Nat.zero_le _, .inr (.inr (.inr ⟨.inr (.inr rfl), rfl⟩)), (by decide : (122 : UInt8) ≠ 0)⟩
            · rw [if_neg c6] at h; exact absurd h (by decide)
theorem tBeg_bad {x : UInt8} {l : List UInt8} (h : ¬ (tBeg x l).e = 0) : (tBeg x l).tok = (0, []) ∧ (tBeg x l).k = 0 := by
  unfold tBeg at h ⊢
  have hw : ∀ k, ¬ (tWn k l).e = 0 → (tWn k l).tok = (0, []) ∧ (tWn k l).k = 0 := fun k hk => by
    unfold tWn at hk ⊢
    by_cases e : tWd (tW k) l = 0
    · rw [if_pos e] at hk; exact absurd rfl hk
    · rw [if_neg e]; exact ⟨rfl, rfl⟩
  by_cases c1 : tSign x = true
  · rw [if_pos c1] at h; exact absurd rfl h
  · rw [if_neg c1] at h ⊢
    by_cases c2 : x = 34
    · rw [if_pos c2] at h ⊢
      by_cases he : (jL l).e = 0
      · rw [if_pos he] at h; exact absurd rfl h
      · rw [if_neg he]; exact ⟨rfl, rfl⟩
    · rw [if_neg c2] at h ⊢
      by_cases c3 : tDig x = true
      · rw [if_pos c3] at h ⊢
        by_cases he : nCode l = 0
        · rw [if_pos he] at h; exact absurd rfl h
        · rw [if_neg he]; exact ⟨rfl, rfl⟩
      · rw [if_neg c3] at h ⊢
        by_cases c4 : x = 116
        · rw [if_pos c4] at h ⊢; exact hw _ h
        · rw [if_neg c4] at h ⊢
          by_cases c5 : x = 102
          · rw [if_pos c5] at h ⊢; exact hw _ h
          · rw [if_neg c5] at h ⊢
            by_cases c6 : x = 110
            · rw [if_pos c6] at h ⊢; exact hw _ h
            · rw [if_neg c6]; exact ⟨rfl, rfl⟩
theorem tNx_none {l : List UInt8} (h : l.drop (bL l) = []) : tNx l = ⟨(0, []), bL l, 0⟩ := by unfold tNx; rw [h]
theorem tNx_some {l : List UInt8} {x : UInt8} {t : List UInt8} (h : l.drop (bL l) = x :: t) : tNx l = ⟨(tBeg x (x :: t)).tok, bL l + (tBeg x (x :: t)).k, (tBeg x (x :: t)).e⟩ := by unfold tNx; rw [h]
/-- The next token, if there is one: it takes some bytes, and is right. -/
theorem tNx_fine {l : List UInt8} (h : (tNx l).e = 0) (h0 : (tNx l).tok.1 ≠ 0) : 1 ≤ (tNx l).k ∧ (tNx l).k ≤ l.length ∧ (tNx l).tok.2.length ≤ (tNx l).k ∧ TOk (tNx l).tok := by
  have hb := bl_len l
  match hd : l.drop (bL l) with
  | [] => rw [tNx_none hd] at h0; exact absurd rfl h0
  | x :: t =>
    rw [tNx_some hd] at h ⊢
    obtain ⟨h1, h2, h3, h4, _⟩ := tBeg_fine h
    have := congrArg List.length hd
    rw [List.length_drop] at this
    exact ⟨by simp only; omega, by simp only; omega, by simp only; omega, h4⟩
theorem tNx_end {l : List UInt8} (h : (tNx l).e = 0) (h0 : (tNx l).tok.1 = 0) : (tNx l).tok = (0, []) ∧ (tNx l).k ≤ l.length := by
  match hd : l.drop (bL l) with
  | [] => rw [tNx_none hd]; exact ⟨rfl, bl_len l⟩
  | x :: t =>
    rw [tNx_some hd] at h h0
    exact absurd h0 (tBeg_fine h).2.2.2.2
theorem tNx_bad {l : List UInt8} (h : ¬ (tNx l).e = 0) : (tNx l).tok = (0, []) := by
  match hd : l.drop (bL l) with
  | [] => rw [tNx_none hd]
  | x :: t =>
    rw [tNx_some hd] at h ⊢
    exact (tBeg_bad h).1
theorem tAl_more : ∀ (f : Nat) (l : List UInt8), l.length + 1 ≤ f → tAl f l = tAl (l.length + 1) l
  | 0, _, h => by omega
  | f + 1, l, h => by
    unfold tAl
    by_cases he : (tNx l).e = 0
    · by_cases h0 : (tNx l).tok.1 = 0
      · rw [if_pos he, if_pos he, if_pos h0, if_pos h0]
      · obtain ⟨h1, h2, _⟩ := tNx_fine he h0
        have hl : (l.drop (tNx l).k).length + 1 ≤ l.length := by rw [List.length_drop]; omega
        rw [tAl_more f _ (by omega), tAl_more l.length _ hl]
    · rw [if_neg he, if_neg he]
termination_by f => f
theorem tAll_eq (l : List UInt8) : tAll l = if (tNx l).e = 0 then (if (tNx l).tok.1 = 0 then ([], 0) else if (tAll (l.drop (tNx l).k)).2 = 0 then ((tNx l).tok :: (tAll (l.drop (tNx l).k)).1, 0) else ([], (tAll (l.drop (tNx l).k)).2)) else ([], (tNx l).e) := by
  show tAl (l.length + 1) l = _
  by_cases he : (tNx l).e = 0
  · by_cases h0 : (tNx l).tok.1 = 0
    · rw [tAl, if_pos he, if_pos he, if_pos h0, if_pos h0]
    · obtain ⟨h1, h2, _⟩ := tNx_fine he h0
      have hl : (l.drop (tNx l).k).length + 1 ≤ l.length := by rw [List.length_drop]; omega
      rw [tAl, tAl_more l.length _ hl]; rfl
  · rw [tAl, if_neg he, if_neg he]
theorem tAll_err {l : List UInt8} (h : ¬ (tNx l).e = 0) : tAll l = ([], (tNx l).e) := by rw [tAll_eq, if_neg h]
theorem tAll_end {l : List UInt8} (h : (tNx l).e = 0) (h0 : (tNx l).tok.1 = 0) : tAll l = ([], 0) := by rw [tAll_eq, if_pos h, if_pos h0]
theorem tAll_step {l : List UInt8} (h : (tNx l).e = 0) (h0 : (tNx l).tok.1 ≠ 0) : tAll l = if (tAll (l.drop (tNx l).k)).2 = 0 then ((tNx l).tok :: (tAll (l.drop (tNx l).k)).1, 0) else ([], (tAll (l.drop (tNx l).k)).2) := by rw [tAll_eq, if_pos h, if_neg h0]
theorem tAll_fine : ∀ (n : Nat) (l : List UInt8), l.length = n → (¬ (tAll l).2 = 0 → (tAll l).1 = []) ∧ (tAll l).1.length ≤ l.length ∧ ∀ x ∈ (tAll l).1, TOk x ∧ x.2.length ≤ l.length := by
  intro n
  induction n using Nat.strongRecOn with
  | _ n ih =>
    intro l hn
    by_cases he : (tNx l).e = 0
    · by_cases h0 : (tNx l).tok.1 = 0
      · rw [tAll_end he h0]
        exact ⟨fun h => rfl, Nat.zero_le _, fun x hx => by simp at hx⟩
      · obtain ⟨h1, h2, h3, h4⟩ := tNx_fine he h0
        rw [tAll_step he h0]
        have hl : (l.drop (tNx l).k).length = l.length - (tNx l).k := List.length_drop
        obtain ⟨i1, i2, i3⟩ := ih _ (by omega) (l.drop (tNx l).k) rfl
        by_cases h5 : (tAll (l.drop (tNx l).k)).2 = 0
        · rw [if_pos h5]
          refine ⟨fun h => absurd rfl h, by simp only [List.length_cons]; omega, fun x hx => ?_⟩
          rcases List.mem_cons.mp hx with rfl | hx
          · exact ⟨h4, by omega⟩
          · obtain ⟨j1, j2⟩ := i3 x hx
            exact ⟨j1, by omega⟩
        · rw [if_neg h5]
          exact ⟨fun h => rfl, Nat.zero_le _, fun x hx => by simp at hx⟩
    · rw [tAll_err he]
      exact ⟨fun h => rfl, Nat.zero_le _, fun x hx => by simp at hx⟩

/-- A token that was read, written: its first byte is no blank; it is read again. -/
theorem tPut_again {x : TK} (h : TOk x) {R : List UInt8} (hR : tStop R) : ∃ b t, tPut x ++ R = b :: t ∧ tBl b = false ∧ tBeg b (b :: t) = ⟨x, (tPut x).length, 0⟩ := by
  obtain ⟨k, s⟩ := x
  rcases h with ⟨h1, h2⟩ | ⟨h1, h2⟩ | ⟨h1, ⟨y, u, h2, h3⟩, h4⟩ | ⟨h1, h2⟩
  · simp only at h1 h2
    subst h2
    have hp : tPut (k, []) = [k] := by
      unfold tPut
      rw [if_neg (by rcases tSign_iff.mp h1 with rfl | rfl | rfl | rfl | rfl | rfl <;> decide), if_pos h1]
    rw [hp]
    refine ⟨k, R, rfl, ?_, ?_⟩
    · rcases tSign_iff.mp h1 with rfl | rfl | rfl | rfl | rfl | rfl <;> decide
    · unfold tBeg; rw [if_pos h1]; rfl
  · simp only at h1 h2
    subst h1
    have hp : tPut (115, s) = jText s := by unfold tPut; rw [if_pos rfl]
    rw [hp]
    refine ⟨34, jT s ++ [34] ++ R, rfl, by decide, ?_⟩
    have hj : jL (34 :: (jT s ++ [34] ++ R)) = ⟨s, (jT s).length + 2, 0⟩ := by
      have := jIn_text h2 R
      rw [jL_cons, if_pos (show (34 : UInt8).toNat = 34 from rfl), List.append_assoc, show jT s ++ ([34] ++ R) = jT s ++ 34 :: R from rfl, this]; rfl
    unfold tBeg
    rw [if_neg (by decide), if_pos rfl, hj, if_pos rfl, jText_len]
  · simp only at h1 h2 h4
    subst h1
    have hp : tPut (110, s) = s := by unfold tPut; rw [if_neg (show ¬ (110 : UInt8) = 115 by decide), if_neg (show ¬ tSign 110 = true by decide), if_pos rfl]
    rw [hp]
    have hy := tDig_iff.mp h3
    obtain ⟨h5, h6⟩ := h4 R hR
    subst h2
    refine ⟨y, u ++ R, rfl, ?_, ?_⟩
    · by_cases hb : tBl y = true
      · rcases tBl_iff.mp hb with rfl | rfl | rfl | rfl <;> exact absurd h3 (by decide)
      · exact (Bool.not_eq_true _).mp hb
    · unfold tBeg
      rw [List.cons_append] at h5 h6
      have hns : ¬ tSign y = true := fun hb => by
        rcases tSign_iff.mp hb with rfl | rfl | rfl | rfl | rfl | rfl <;> exact absurd h3 (by decide)
      have hn34 : ¬ y = 34 := fun hb => by subst hb; exact absurd h3 (by decide)
      rw [if_neg hns, if_neg hn34, if_pos h3, if_pos h5, h6, ← List.cons_append, List.take_left']
      rfl
  · simp only at h1 h2
    subst h2
    have hp : tPut (k, []) = tW k := by
      unfold tPut
      rw [if_neg (by rcases h1 with rfl | rfl | rfl <;> decide), if_neg (by rcases h1 with rfl | rfl | rfl <;> decide), if_neg (by rcases h1 with rfl | rfl | rfl <;> decide)]
    rw [hp]
    have hw : tWn k (tW k ++ R) = ⟨(k, []), (tW k).length, 0⟩ := by unfold tWn; rw [if_pos (tWd_app _ _)]
    rcases h1 with rfl | rfl | rfl
    · refine ⟨116, [114, 117, 101] ++ R, rfl, by decide, ?_⟩
      unfold tBeg; rw [if_neg (by decide), if_neg (by decide), if_neg (by decide), if_pos rfl]; exact hw
    · refine ⟨102, [97, 108, 115, 101] ++ R, rfl, by decide, ?_⟩
      unfold tBeg; rw [if_neg (by decide), if_neg (by decide), if_neg (by decide), if_neg (by decide), if_pos rfl]; exact hw
    · refine ⟨110, [117, 108, 108] ++ R, rfl, by decide, ?_⟩
      unfold tBeg; rw [if_neg (by decide), if_neg (by decide), if_neg (by decide), if_neg (by decide), if_neg (by decide), if_pos rfl]; exact hw
theorem tNx_again {x : TK} (h : TOk x) {S R : List UInt8} (hS : ∀ b ∈ S, tBl b = true) (hR : tStop R) : tNx (S ++ (tPut x ++ R)) = ⟨x, S.length + (tPut x).length, 0⟩ := by
  obtain ⟨b, t, e, hb, hg⟩ := tPut_again h hR
  have h1 : bL (S ++ (tPut x ++ R)) = S.length := by rw [bl_app hS, e, bl_none hb, Nat.add_zero]
  have h2 : (S ++ (tPut x ++ R)).drop (bL (S ++ (tPut x ++ R))) = b :: t := by rw [h1, List.drop_left' rfl, e]
  rw [tNx_some h2, h1, hg]
theorem tOk_kind {x : TK} (h : TOk x) : x.1 ≠ 0 := by
  rcases h with ⟨h1, _⟩ | ⟨h1, _⟩ | ⟨h1, _⟩ | ⟨h1, _⟩
  · rcases tSign_iff.mp h1 with e | e | e | e | e | e <;> rw [e] <;> decide
  · rw [h1]; decide
  · rw [h1]; decide
  · rcases h1 with e | e | e <;> rw [e] <;> decide
/-- The blanks that the law lays ahead of a token. -/
def bW (b : UInt8) : UInt8 := if b.toNat % 4 = 0 then 32 else if b.toNat % 4 = 1 then 9 else if b.toNat % 4 = 2 then 10 else 13
def bSep (bl : List UInt8) (k : Nat) : List UInt8 := match bl[k]? with
  | some b => [32, bW b]
  | none => [32]
def bTx (bl : List UInt8) : Nat → List TK → List UInt8
  | _, [] => []
  | k, x :: L => bSep bl k ++ (tPut x ++ bTx bl (k + 1) L)
theorem bW_bl (b : UInt8) : tBl (bW b) = true := by unfold bW; repeat' split
                                                    all_goals decide
theorem bSep_bl (bl : List UInt8) (k : Nat) : ∀ b ∈ bSep bl k, tBl b = true := by
  unfold bSep
  split
  · intro b hb
    simp at hb
    rcases hb with rfl | rfl
    · decide
    · exact bW_bl _
  · intro b hb
    simp at hb
    subst hb; decide
theorem bSep_some (bl : List UInt8) (k : Nat) : ∃ t, bSep bl k = 32 :: t := by unfold bSep; split <;> exact ⟨_, rfl⟩
theorem bSep_len (bl : List UInt8) (k : Nat) : (bSep bl k).length ≤ 2 := by unfold bSep; split <;> simp
theorem bTx_snoc (bl : List UInt8) : ∀ (L : List TK) (k : Nat) (x : TK), bTx bl k (L ++ [x]) = bTx bl k L ++ (bSep bl (k + L.length) ++ tPut x)
  | [], k, x => by simp [bTx]
  | y :: L, k, x => by
    rw [List.cons_append, bTx, bTx, bTx_snoc bl L (k + 1) x, List.length_cons, show k + 1 + L.length = k + (L.length + 1) by omega]
    simp [List.append_assoc]
theorem bTx_stop (bl : List UInt8) (L : List TK) (k : Nat) : tStop (bTx bl k L ++ [13, 10]) := by
  intro x t e
  match L with
  | [] =>
    rw [← (List.cons.inj e).1]; decide
  | y :: L =>
    obtain ⟨u, hu⟩ := bSep_some bl k
    rw [bTx, hu] at e
    rw [← (List.cons.inj e).1]; decide
/-- 12.2: the tokens, written with any blanks between, are read again. -/
theorem bTx_again (bl : List UInt8) : ∀ (L : List TK) (k : Nat), (∀ x ∈ L, TOk x) → tAll (bTx bl k L ++ [13, 10]) = (L, 0)
  | [], k, _ => show tAll [13, 10] = ([], 0) by decide +kernel
  | x :: L, k, h => by
    have hx := h x List.mem_cons_self
    have ih := bTx_again bl L (k + 1) (fun y hy => h y (List.mem_cons_of_mem _ hy))
    have hn := tNx_again hx (bSep_bl bl k) (bTx_stop bl L (k + 1))
    have e : bTx bl k (x :: L) ++ [13, 10] = bSep bl k ++ (tPut x ++ (bTx bl (k + 1) L ++ [13, 10])) := by
      rw [bTx]; simp [List.append_assoc]
    rw [e]
    have hd : (bSep bl k ++ (tPut x ++ (bTx bl (k + 1) L ++ [13, 10]))).drop ((bSep bl k).length + (tPut x).length) = bTx bl (k + 1) L ++ [13, 10] := by
      rw [← List.append_assoc]
      exact List.drop_left' (by rw [List.length_append])
    rw [tAll_step (by rw [hn]) (by rw [hn]; exact tOk_kind hx), hn]
    simp only
    rw [hd, ih]
    simp
theorem tPut_len (x : TK) : (tPut x).length ≤ 6 * x.2.length + 5 := by
  unfold tPut
  split
  · have := (jT_len x.2).2
    rw [jText_len]; omega
  · split
    · simp
    · split
      · omega
      · have := tW_len x.1; omega
theorem bTx_len (bl : List UInt8) (m : Nat) : ∀ (L : List TK) (k : Nat), (∀ x ∈ L, x.2.length ≤ m) → (bTx bl k L).length ≤ L.length * (6 * m + 7)
  | [], k, _ => by simp [bTx]
  | x :: L, k, h => by
    have h1 := h x List.mem_cons_self
    have ih := bTx_len bl m L (k + 1) (fun y hy => h y (List.mem_cons_of_mem _ hy))
    have h2 := tPut_len x
    have h3 := bSep_len bl k
    rw [bTx, List.length_append, List.length_append, List.length_cons, Nat.add_mul]
    omega
end Go.Proofs.YtnbhhnkcfbfdcaaGreatDoor
