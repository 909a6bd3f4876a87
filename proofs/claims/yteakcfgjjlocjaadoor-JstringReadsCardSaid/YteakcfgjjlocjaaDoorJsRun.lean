/- JSON's texts over bytes, on: a run of bytes that stand for themselves; what is read is right; what is written, and that it is read back. Of no program. -/
import Derived.Test.YteakcfgjjlocjaaDoorJsNum
namespace Go.Proofs.YteakcfgjjlocjaaDoor
open Go Go.RowKit
set_option linter.unusedVariables false

theorem JT.eq {t t' : List UInt8} {k k' : Nat} {e : Int} (h : t = t') (h2 : k = k') : (⟨t, k, e⟩ : JT) = ⟨t', k', e⟩ := by rw [h, h2]
/-- A character's bytes behind the first one are all from 128 on; so is the first one, from character 128 on. -/
theorem uB_high {r : Nat} (h : uIs r = true) : ∀ j (hj : j < (uB r).length), 1 ≤ j ∨ 128 ≤ r → 128 ≤ ((uB r)[j]'hj).toNat := by
  have hr := (uIs_iff.mp h).2.1
  unfold uB
  by_cases h1 : r < 128
  · rw [if_pos h1]; intro j hj h2; simp at hj; omega
  · rw [if_neg h1]
    by_cases h2 : r < 2048
    · rw [if_pos h2]
      intro j hj _
      match j, hj with
      | 0, _ => simp only [List.getElem_cons_zero]; rw [b8_toNat (by omega)]; omega
      | 1, _ => simp only [List.getElem_cons_succ, List.getElem_cons_zero]; rw [b8_toNat (by omega)]; omega
    · rw [if_neg h2]
      by_cases h3 : r < 65536
      · rw [if_pos h3]
        intro j hj _
        match j, hj with
        | 0, _ => simp only [List.getElem_cons_zero]; rw [b8_toNat (by omega)]; omega
        | 1, _ => simp only [List.getElem_cons_succ, List.getElem_cons_zero]; rw [b8_toNat (by omega)]; omega
        | 2, _ => simp only [List.getElem_cons_succ, List.getElem_cons_zero]; rw [b8_toNat (by omega)]; omega
      · rw [if_neg h3]
        intro j hj _
        match j, hj with
        | 0, _ => simp only [List.getElem_cons_zero]; rw [b8_toNat (by omega)]; omega
        | 1, _ => simp only [List.getElem_cons_succ, List.getElem_cons_zero]; rw [b8_toNat (by omega)]; omega
        | 2, _ => simp only [List.getElem_cons_succ, List.getElem_cons_zero]; rw [b8_toNat (by omega)]; omega
        | 3, _ => simp only [List.getElem_cons_succ, List.getElem_cons_zero]; rw [b8_toNat (by omega)]; omega
/-- Where a character begins in plain bytes with something else behind them, it ends within them. -/
theorem run_dec {R X : List UInt8} (hn : R ≠ []) (hX : ∀ b t, X = b :: t → jPl b = false) (h : 0 < (uDec (R ++ X)).2) : (uDec (R ++ X)).2 ≤ R.length ∧ uDec R = uDec (R ++ X) := by
  obtain ⟨h1, h2, h3⟩ := dec_inv h
  have hle : (uDec (R ++ X)).2 ≤ R.length := by
    rcases Nat.lt_or_ge R.length (uDec (R ++ X)).2 with hlt | hge
    · exfalso
      have hl := congrArg List.length h2
      rw [List.length_append, List.length_append, ← h3] at hl
      match X, hX with
      | [], _ => simp only [List.length_nil] at hl; omega
      | b :: t, hX =>
        have hb := hX b t rfl
        have hR : 1 ≤ R.length := by
          rcases Nat.eq_zero_or_pos R.length with e | e
          · exact absurd (List.eq_nil_of_length_eq_zero e) hn
          · exact e
        have hj : R.length < (uB (uDec (R ++ b :: t)).1).length := by omega
        have hg := uB_high h1 R.length hj (.inl hR)
        have he : (R ++ b :: t)[R.length]? = some b := by simp
        have he2 : (R ++ b :: t)[R.length]? = some ((uB (uDec (R ++ b :: t)).1)[R.length]'hj) := by
          have : (R ++ b :: t)[R.length]? = (uB (uDec (R ++ b :: t)).1 ++ (R ++ b :: t).drop (uDec (R ++ b :: t)).2)[R.length]? := congrArg (fun l => l[R.length]?) h2
          rw [this, List.getElem?_append_left hj, List.getElem?_eq_getElem hj]
        rw [he] at he2
        have hbe := Option.some.inj he2
        rw [← hbe] at hg
        have : jPl b = true := jPl_iff.mpr (by omega)
        rw [this] at hb
        cases hb
    · exact hge
  refine ⟨hle, dec_loc h ?_⟩
  rw [List.take_append_of_le_length hle]
theorem run_none {R X : List UInt8} (h : 0 < (uDec R).2) : uDec (R ++ X) = uDec R := by
  obtain ⟨h1, h2, h3⟩ := dec_inv h
  have hl := congrArg List.length h2
  rw [List.length_append, ← h3] at hl
  refine dec_loc h ?_
  rw [List.take_append_of_le_length (by omega)]
/-- A run of plain bytes, up to something else. -/
theorem jIn_run : ∀ (n : Nat) (R X : List UInt8), R.length = n → (∀ b ∈ R, jPl b = true) → (∀ b t, X = b :: t → jPl b = false) →
    (UOk R → jIn (R ++ X) = (⟨R, R.length, 0⟩ : JT).and (jIn X)) ∧ (¬ UOk R → jIn (R ++ X) = ⟨[], 0, 5⟩) := by
  intro n
  induction n using Nat.strongRecOn with
  | _ n ih =>
    intro R X hn hR hX
    match R, hn, hR with
    | [], _, _ => exact ⟨fun _ => (nil_and X).symm, fun h => absurd .nil h⟩
    | c :: R, hn, hR =>
      have hc := hR c (by simp)
      have hp := jIn_plain c (R ++ X) hc
      rw [← List.cons_append] at hp
      by_cases h0 : (uDec (c :: R ++ X)).2 = 0
      · rw [if_pos h0] at hp
        refine ⟨fun hu => ?_, fun _ => hp⟩
        obtain ⟨h1, _⟩ := hu.dec (by simp)
        have := run_none (X := X) h1
        rw [this] at h0; omega
      · rw [if_neg h0] at hp
        obtain ⟨hle, he⟩ := run_dec (R := c :: R) (by simp) hX (by omega)
        rw [← he] at hp hle h0
        generalize hk : (uDec (c :: R)).2 = k at *
        rw [List.take_append_of_le_length hle, List.drop_append_of_le_length hle] at hp
        have hd : ((c :: R).drop k).length = n - k := by rw [List.length_drop, hn]
        obtain ⟨i1, i2⟩ := ih (n - k) (by omega) ((c :: R).drop k) X hd (fun b hb => hR b (List.mem_of_mem_drop hb)) hX
        constructor
        · intro hu
          have hu2 := (hu.dec (by simp)).2
          rw [hk] at hu2
          have e2 : (⟨(c :: R).take k, k, 0⟩ : JT).and ⟨(c :: R).drop k, ((c :: R).drop k).length, 0⟩ = ⟨c :: R, (c :: R).length, 0⟩ := by
            rw [JT.and_yes _ rfl]
            exact JT.eq (List.take_append_drop _ _) (by simp only [List.length_drop]; omega)
          rw [hp, i1 hu2, ← JT.and_and _ _ _ rfl, e2]
        · intro hu
          have hu2 : ¬ UOk ((c :: R).drop k) := fun h => hu (UOk.of_dec (by rw [hk]; omega) (by rw [hk]; exact h))
          rw [hp, i2 hu2, JT.and_no _ (by simp)]

/-- What is read: no longer than what it was read of, and right. -/
theorem jIn_fine : ∀ (n : Nat) (l : List UInt8), l.length = n → (jIn l).e = 0 → (jIn l).k ≤ l.length ∧ (jIn l).t.length + 1 ≤ (jIn l).k ∧ UOk (jIn l).t := by
  intro n
  induction n using Nat.strongRecOn with
  | _ n ih =>
    intro l hn h
    match l, hn, h with
    | [], _, h => simp [jIn_nil] at h
    | c :: t, hn, h =>
      rw [jIn_cons] at h ⊢
      by_cases h1 : c.toNat = 34
      · rw [if_pos h1]; exact ⟨by simp, by simp, .nil⟩
      · rw [if_neg h1] at h ⊢
        by_cases h2 : (jPart (c :: t)).e = 0
        · rw [if_pos h2] at h ⊢
          rw [JT.and_e] at h
          obtain ⟨⟨r, hr, ht⟩, e2, e3, e4⟩ := jPart_fine h2
          have hd : ((c :: t).drop (jPart (c :: t)).k).length = n - (jPart (c :: t)).k := by rw [List.length_drop, hn]
          obtain ⟨i1, i2, i3⟩ := ih _ (by omega) _ hd h
          rw [JT.and_yes _ h]
          refine ⟨by simp only; omega, by simp only [List.length_append]; omega, ?_⟩
          simp only
          rw [ht]
          exact .step r _ hr i3
        · rw [if_neg h2] at h; exact absurd h h2

/-- 10.3. -/
def jTb (b : UInt8) : List UInt8 := if b.toNat = 34 ∨ b.toNat = 92 then [92, b] else if b.toNat < 32 then [92, 117, 48, 48, hd (b.toNat / 16), hd (b.toNat % 16)] else [b]
def jT : List UInt8 → List UInt8
  | [] => []
  | b :: t => jTb b ++ jT t
def jText (l : List UInt8) : List UInt8 := 34 :: (jT l ++ [34])
theorem jT_append : ∀ (l m : List UInt8), jT (l ++ m) = jT l ++ jT m
  | [], _ => rfl
  | b :: t, m => by simp only [List.cons_append, jT, jT_append t m, List.append_assoc]
theorem jT_take (l : List UInt8) (k : Nat) (h : k < l.length) : jT (l.take (k + 1)) = jT (l.take k) ++ jTb l[k] := by
  rw [List.take_succ_eq_append_getElem h, jT_append]
  simp [jT]
theorem jTb_len (b : UInt8) : 1 ≤ (jTb b).length ∧ (jTb b).length ≤ 6 := by
  unfold jTb
  split
  · simp
  · split <;> simp
theorem jT_len : ∀ (l : List UInt8), l.length ≤ (jT l).length ∧ (jT l).length ≤ 6 * l.length
  | [] => by simp [jT]
  | b :: t => by
    have h1 := jTb_len b
    have h2 := jT_len t
    simp only [jT, List.length_append, List.length_cons]
    omega
theorem jText_len (l : List UInt8) : (jText l).length = (jT l).length + 2 := by simp [jText]
theorem b8_b (b : UInt8) : b8 b.toNat = b := b8_of b rfl
theorem jTb_plain {b : UInt8} (h : jPl b = true) : jTb b = [b] := by
  obtain ⟨h1, h2, h3⟩ := jPl_iff.mp h
  unfold jTb
  rw [if_neg (by omega), if_neg (by omega)]
theorem jT_plain : ∀ {l : List UInt8}, (∀ b ∈ l, jPl b = true) → jT l = l
  | [], _ => rfl
  | b :: t, h => by
    simp only [jT]
    rw [jTb_plain (h b (by simp)), jT_plain (fun x hx => h x (by simp [hx]))]
    rfl
/-- A character that stands for itself. -/
theorem jIn_char {r : Nat} (h : uIs r = true) (h1 : 32 ≤ r) (h2 : r ≠ 34) (h3 : r ≠ 92) (Y : List UInt8) : (∀ b ∈ uB r, jPl b = true) ∧ jIn (uB r ++ Y) = (⟨uB r, (uB r).length, 0⟩ : JT).and (jIn Y) := by
  have hall : ∀ b ∈ uB r, jPl b = true := by
    intro b hb
    by_cases h4 : r < 128
    · rw [uB_small h4] at hb
      have : b = b8 r := by simpa using hb
      rw [this]
      exact jPl_iff.mpr (by rw [b8_toNat (by omega)]; omega)
    · obtain ⟨j, hj, rfl⟩ := List.getElem_of_mem hb
      have := uB_high h j hj (.inr (by omega))
      exact jPl_iff.mpr (by omega)
  refine ⟨hall, ?_⟩
  have hd := dec_put Y h
  have hp := (uB_pos r).1
  match hu : uB r, hp, hall with
  | c :: t, _, hall =>
    have := jIn_plain c (t ++ Y) (hall c (by simp))
    rw [← List.cons_append, ← hu, hd] at this
    rw [← hu, this, if_neg (by simp only; omega)]
    simp only [List.take_left, List.drop_left]
theorem jEsc_low : ∀ (r : Fin 32) (Y : List UInt8), jEsc ([117, 48, 48, hd (r.val / 16), hd (r.val % 16)] ++ Y) = ⟨r.val, 5, 0⟩ := by
  intro r Y
  have h4 : jDg 4 0 ([48, 48, hd (r.val / 16), hd (r.val % 16)] ++ Y) = (r.val, 0) := by
    rw [jDg_more _ _ _ _ (by simp)]
    have : ∀ r : Fin 32, jDg 4 0 [48, 48, hd (r.val / 16), hd (r.val % 16)] = (r.val, 0) := by decide +kernel
    exact this r
  have hn : jNum ([48, 48, hd (r.val / 16), hd (r.val % 16)] ++ Y) = ⟨r.val, 4, 0⟩ := by
    unfold jNum
    rw [h4, if_pos rfl, if_pos (uIs_iff.mpr (by have := r.isLt; simp only; omega))]
  show jEsc (117 :: ([48, 48, hd (r.val / 16), hd (r.val % 16)] ++ Y)) = _
  simp only [jEsc]
  rw [hn, if_pos (by decide)]; rfl
/-- What was written of a right text is read as it was. -/
theorem jIn_text : ∀ {l : List UInt8}, UOk l → ∀ X, jIn (jT l ++ 34 :: X) = ⟨l, (jT l).length + 1, 0⟩
  | _, .nil, X => by show jIn (34 :: X) = _; rw [jIn_quote _ _ (by decide)]; rfl
  | _, .step r t h ht, X => by
    have ih := jIn_text ht X
    rw [jT_append, List.append_assoc]
    by_cases h1 : 32 ≤ r ∧ r ≠ 34 ∧ r ≠ 92
    · obtain ⟨e1, e2⟩ := jIn_char h h1.1 h1.2.1 h1.2.2 (jT t ++ 34 :: X)
      rw [jT_plain e1, e2, ih, JT.and_yes _ rfl]
      simp [Nat.add_assoc]
    · have hr : r < 128 := by omega
      have hb := b8_toNat (n := r) (by omega)
      rw [uB_small hr]
      by_cases h2 : r = 34 ∨ r = 92
      · have e : jT [b8 r] = [92, b8 r] := by simp only [jT]; unfold jTb; rw [hb, if_pos h2]; rfl
        have es : jEsc (b8 r :: (jT t ++ 34 :: X)) = ⟨r, 1, 0⟩ := by
          simp only [jEsc]
          rw [hb, if_neg (by omega)]
          have : jSim r = r := by rcases h2 with rfl | rfl <;> rfl
          rw [this, if_neg (by omega)]
        rw [e]
        show jIn (92 :: (b8 r :: (jT t ++ 34 :: X))) = _
        rw [jIn_esc _ _ (by decide), es, if_pos rfl, List.drop_succ_cons, List.drop_zero, ih, JT.and_yes _ rfl, uB_small hr]
        exact JT.eq rfl (by simp only [List.length_append, List.length_cons, List.length_nil]; omega)
      · have hlt : r < 32 := by omega
        have e : jT [b8 r] = [92, 117, 48, 48, hd (r / 16), hd (r % 16)] := by simp only [jT]; unfold jTb; rw [hb, if_neg h2, if_pos hlt]; rfl
        have es := jEsc_low ⟨r, hlt⟩ (jT t ++ 34 :: X)
        simp only at es
        rw [e]
        show jIn (92 :: ([117, 48, 48, hd (r / 16), hd (r % 16)] ++ (jT t ++ 34 :: X))) = _
        rw [jIn_esc _ _ (by decide), es, if_pos rfl]
        simp only
        rw [List.drop_left' (by simp), ih, JT.and_yes _ rfl, uB_small hr]
        exact JT.eq rfl (by simp only [List.length_append, List.length_cons, List.length_nil]; omega)
/-- Unlike bytes are written unlike. -/
theorem jTb_one {b c : UInt8} {X Y : List UInt8} (h : jTb b ++ X = jTb c ++ Y) : b = c ∧ X = Y := by
  have hb := b.toNat_lt
  have hc := c.toNat_lt
  have n92 : (92 : UInt8).toNat = 92 := rfl
  have n117 : (117 : UInt8).toNat = 117 := rfl
  unfold jTb at h
  by_cases b1 : b.toNat = 34 ∨ b.toNat = 92
  · rw [if_pos b1] at h
    by_cases c1 : c.toNat = 34 ∨ c.toNat = 92
    · rw [if_pos c1] at h
      simp only [List.cons_append, List.nil_append, List.cons.injEq] at h
      exact ⟨h.2.1, h.2.2⟩
    · rw [if_neg c1] at h
      by_cases c2 : c.toNat < 32
      · rw [if_pos c2] at h
        simp only [List.cons_append, List.nil_append, List.cons.injEq] at h
        have := congrArg UInt8.toNat h.2.1
        rw [n117] at this; omega
      · rw [if_neg c2] at h
        simp only [List.cons_append, List.nil_append, List.cons.injEq] at h
        have := congrArg UInt8.toNat h.1
        rw [n92] at this; omega
  · rw [if_neg b1] at h
    by_cases b2 : b.toNat < 32
    · rw [if_pos b2] at h
      by_cases c1 : c.toNat = 34 ∨ c.toNat = 92
      · rw [if_pos c1] at h
        simp only [List.cons_append, List.nil_append, List.cons.injEq] at h
        have := congrArg UInt8.toNat h.2.1
        rw [n117] at this; omega
      · rw [if_neg c1] at h
        by_cases c2 : c.toNat < 32
        · rw [if_pos c2] at h
          simp only [List.cons_append, List.nil_append, List.cons.injEq, true_and] at h
          have e1 : b.toNat / 16 = c.toNat / 16 := by rw [← hd_eq (by omega) (by omega)]; exact h.1
          have e2 : b.toNat % 16 = c.toNat % 16 := by rw [← hd_eq (by omega) (by omega)]; exact h.2.1
          exact ⟨UInt8.toNat_inj.mp (by omega), h.2.2⟩
        · rw [if_neg c2] at h
          simp only [List.cons_append, List.nil_append, List.cons.injEq] at h
          have := congrArg UInt8.toNat h.1
          rw [n92] at this; omega
    · rw [if_neg b2] at h
      by_cases c1 : c.toNat = 34 ∨ c.toNat = 92
      · rw [if_pos c1] at h
        simp only [List.cons_append, List.nil_append, List.cons.injEq] at h
        have := congrArg UInt8.toNat h.1
        rw [n92] at this; omega
      · rw [if_neg c1] at h
        by_cases c2 : c.toNat < 32
        · rw [if_pos c2] at h
          simp only [List.cons_append, List.nil_append, List.cons.injEq] at h
          have := congrArg UInt8.toNat h.1
          rw [n92] at this; omega
        · rw [if_neg c2] at h
          simp only [List.cons_append, List.nil_append, List.cons.injEq] at h
          exact h
theorem jT_one : ∀ (l m : List UInt8), jT l = jT m → l = m
  | [], [], _ => rfl
  | [], c :: m, h => by
    have := congrArg List.length h
    have h1 := (jTb_len c).1
    simp only [jT, List.length_nil, List.length_append] at this
    omega
  | b :: l, [], h => by
    have := congrArg List.length h
    have h1 := (jTb_len b).1
    simp only [jT, List.length_nil, List.length_append] at this
    omega
  | b :: l, c :: m, h => by
    obtain ⟨e1, e2⟩ := jTb_one (show jTb b ++ jT l = jTb c ++ jT m from h)
    rw [e1, jT_one l m e2]
theorem jText_one (l m : List UInt8) : jText l = jText m ↔ l = m := by
  refine ⟨fun h => ?_, fun h => by rw [h]⟩
  unfold jText at h
  rw [List.cons.injEq] at h
  exact jT_one l m (List.append_cancel_right h.2)
end Go.Proofs.YteakcfgjjlocjaaDoor
