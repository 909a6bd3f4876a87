/- Several texts in one (JtNum, JtMem, JtA): each begins with its own words. -/
import Derived.Test.YtfighopfgllneaaGreatDoorZE
import Derived.Test.YtfighopfgllneaaGreatDoorZG
import Derived.Test.YtfighopfgllneaaGreatDoorZB
import Derived.Deep.MidRow
/- Tokens over bytes: which token begins, which tokens some bytes are, what is written of one; what is written is read again, whatever blanks stand between. Of no program. -/
namespace Go.Proofs.YtfighopfgllneaaGreatDoor
open Go Go.RowKit
set_option linter.unusedVariables false

/-- A token: its kind, its text. -/
abbrev TK := UInt8 × List UInt8
/-- A token, how many bytes it takes with the blanks ahead of it, what is wrong. -/
structure TN where
  tok : TK
  k : Nat
  e : Int
/-- A text's JSON, from its first byte on. -/
def jL : List UInt8 → JT
  | [] => ⟨[], 0, 1⟩
  | x :: t => if x.toNat = 34 then (if (jIn t).e = 0 then ⟨(jIn t).t, (jIn t).k + 1, 0⟩ else ⟨[], 0, (jIn t).e⟩) else ⟨[], 0, 3⟩
theorem jL_cons (x : UInt8) (t : List UInt8) : jL (x :: t) = if x.toNat = 34 then (if (jIn t).e = 0 then ⟨(jIn t).t, (jIn t).k + 1, 0⟩ else ⟨[], 0, (jIn t).e⟩) else ⟨[], 0, 3⟩ := rfl
def tSign (x : UInt8) : Bool := [123, 125, 91, 93, 58, 44].contains x
def tBl (x : UInt8) : Bool := [32, 9, 10, 13].contains x
def tDig (x : UInt8) : Bool := [45, 48, 49, 50, 51, 52, 53, 54, 55, 56, 57].contains x
def tW (k : UInt8) : List UInt8 := if k = 116 then [116, 114, 117, 101] else if k = 102 then [102, 97, 108, 115, 101] else if k = 122 then [110, 117, 108, 108] else []
/-- What is wrong with a word. -/
def tWd : List UInt8 → List UInt8 → Int
  | [], _ => 0
  | _ :: _, [] => 1
  | a :: s, x :: l => if x = a then tWd s l else 3
def tWn (k : UInt8) (l : List UInt8) : TN := if tWd (tW k) l = 0 then ⟨(k, []), (tW k).length, 0⟩ else ⟨(0, []), 0, tWd (tW k) l⟩
/-- The token that begins with x, the first byte of l. -/
def tBeg (x : UInt8) (l : List UInt8) : TN :=
  if tSign x = true then ⟨(x, []), 1, 0⟩
  else if x = 34 then (if (jL l).e = 0 then ⟨(115, (jL l).t), (jL l).k, 0⟩ else ⟨(0, []), 0, (jL l).e⟩)
  else if tDig x = true then (if nCode l = 0 then ⟨(110, l.take (nE l)), nE l, 0⟩ else ⟨(0, []), 0, nCode l⟩)
  else if x = 116 then tWn 116 l else if x = 102 then tWn 102 l else if x = 110 then tWn 122 l
  else ⟨(0, []), 0, 3⟩
def bL (l : List UInt8) : Nat := (l.takeWhile tBl).length
def tNx (l : List UInt8) : TN := match l.drop (bL l) with
  | [] => ⟨(0, []), bL l, 0⟩
  | x :: t => ⟨(tBeg x (x :: t)).tok, bL l + (tBeg x (x :: t)).k, (tBeg x (x :: t)).e⟩
def tAl : Nat → List UInt8 → List TK × Int
  | 0, _ => ([], 0)
  | f + 1, l => if (tNx l).e = 0 then (if (tNx l).tok.1 = 0 then ([], 0) else if (tAl f (l.drop (tNx l).k)).2 = 0 then ((tNx l).tok :: (tAl f (l.drop (tNx l).k)).1, 0) else ([], (tAl f (l.drop (tNx l).k)).2)) else ([], (tNx l).e)
def tAll (l : List UInt8) : List TK × Int := tAl (l.length + 1) l
def tPut (x : TK) : List UInt8 := if x.1 = 115 then jText x.2 else if tSign x.1 = true then [x.1] else if x.1 = 110 then x.2 else tW x.1

/-- No number goes on with what stands here. -/
def tStop (R : List UInt8) : Prop := ∀ x t, R = x :: t → tBl x = true ∨ tSign x = true
def NumOk (n : List UInt8) : Prop := (∃ x t, n = x :: t ∧ tDig x = true) ∧ ∀ R, tStop R → nCode (n ++ R) = 0 ∧ nE (n ++ R) = n.length
/-- A token that was read. -/
def TOk (x : TK) : Prop := (tSign x.1 = true ∧ x.2 = []) ∨ (x.1 = 115 ∧ UOk x.2) ∨ (x.1 = 110 ∧ NumOk x.2) ∨ ((x.1 = 116 ∨ x.1 = 102 ∨ x.1 = 122) ∧ x.2 = [])

theorem tBl_iff {x : UInt8} : tBl x = true ↔ x = 32 ∨ x = 9 ∨ x = 10 ∨ x = 13 := by simp [tBl]
theorem tSign_iff {x : UInt8} : tSign x = true ↔ x = 123 ∨ x = 125 ∨ x = 91 ∨ x = 93 ∨ x = 58 ∨ x = 44 := by simp [tSign]
theorem tDig_iff {x : UInt8} : tDig x = true ↔ x = 45 ∨ (48 ≤ x.toNat ∧ x.toNat ≤ 57) := by
  constructor
  · intro h
    simp [tDig] at h
    rcases h with rfl | rfl | rfl | rfl | rfl | rfl | rfl | rfl | rfl | rfl | rfl <;> decide
  · rintro (rfl | ⟨h1, h2⟩)
    · decide
    · have : ∀ n : Fin 256, 48 ≤ n.val → n.val ≤ 57 → tDig (UInt8.ofNat n.val) = true := by decide +kernel
      have h3 := this ⟨x.toNat, x.toNat_lt⟩ h1 h2
      simpa using h3
theorem bl_len (l : List UInt8) : bL l ≤ l.length := (List.takeWhile_prefix tBl).length_le
theorem bl_nd {R : List UInt8} (h : tStop R) : nd R ∧ pL [46] R = 0 ∧ pL [101, 69] R = 0 ∧ pL [43, 45] R = 0 := by
  match R with
  | [] => exact ⟨nd_nil, rfl, rfl, rfl⟩
  | x :: t =>
    have h1 : x = 32 ∨ x = 9 ∨ x = 10 ∨ x = 13 ∨ x = 123 ∨ x = 125 ∨ x = 91 ∨ x = 93 ∨ x = 58 ∨ x = 44 := by
      rcases h x t rfl with h | h
      · rcases tBl_iff.mp h with e | e | e | e <;> simp [e]
      · rcases tSign_iff.mp h with e | e | e | e | e | e <;> simp [e]
    refine ⟨fun y u e => ?_, pL_other _ ?_, pL_other _ ?_, pL_other _ ?_⟩
    · rw [← (List.cons.inj e).1]
      rcases h1 with rfl | rfl | rfl | rfl | rfl | rfl | rfl | rfl | rfl | rfl <;> decide
    all_goals rcases h1 with rfl | rfl | rfl | rfl | rfl | rfl | rfl | rfl | rfl | rfl <;> decide
theorem bl_none {x : UInt8} {t : List UInt8} (h : tBl x = false) : bL (x :: t) = 0 := by
  unfold bL; rw [List.takeWhile_cons, h]; rfl
theorem bl_app {b l : List UInt8} (h : ∀ x ∈ b, tBl x = true) : bL (b ++ l) = b.length + bL l := by
  unfold bL
  rw [List.takeWhile_append_of_pos h, List.length_append]
theorem drop_bl (l : List UInt8) : ∀ x t, l.drop (bL l) = x :: t → tBl x = false := by
  intro x t e
  induction l with
  | nil => simp at e
  | cons y u ih =>
    by_cases h : tBl y = true
    · have h1 : bL (y :: u) = bL u + 1 := by unfold bL; rw [List.takeWhile_cons, h]; rfl
      rw [h1, List.drop_succ_cons] at e
      exact ih e
    · have h2 := (Bool.not_eq_true _).mp h
      rw [bl_none h2, List.drop_zero] at e
      rw [← (List.cons.inj e).1]; exact h2

/-- A number that was read is read again, where no more of one stands behind it. -/
theorem exp_on {X P R : List UInt8} (hR : tStop R) (h : (X = [] ∧ P = []) ∨ ∃ e s D, (e = (101 : UInt8) ∨ e = 69) ∧ X = e :: P ∧ P = s ++ D ∧ (s = [] ∨ s = [(43 : UInt8)] ∨ s = [45]) ∧ D ≠ [] ∧ D.all dIs = true) : xL (X ++ R) = X.length ∧ xE (X ++ R) = 0 ∧ nd (X ++ R) ∧ pL [46] (X ++ R) = 0 := by
  obtain ⟨r1, r2, r3, r4⟩ := bl_nd hR
  rcases h with ⟨rfl, rfl⟩ | ⟨e, s, D, he, rfl, rfl, hs, hD, hd⟩
  · have h3 : ¬ pL [101, 69] R = 1 := by omega
    exact ⟨by unfold xL; rw [List.nil_append, if_neg h3]; rfl, by unfold xE; rw [List.nil_append, if_neg h3], r1, r2⟩
  · rw [List.cons_append, List.append_assoc]
    have h1 : pL [101, 69] (e :: (s ++ (D ++ R))) = 1 := pL_cons _ (by rcases he with rfl | rfl <;> rfl)
    have h5 : dL (D ++ R) = D.length := dL_app hd r1
    obtain ⟨x, t, hx, hx2⟩ := head_of hD hd
    have h2 : pL [43, 45] (s ++ (D ++ R)) = s.length := by
      rcases hs with rfl | rfl | rfl
      · rw [List.nil_append, hx, List.cons_append, pL_other _ (by rw [digit_ne hx2 _ (by simp)]; decide)]; rfl
      · rfl
      · rfl
    have h3 : xS (e :: (s ++ (D ++ R))) = s.length + 1 := by
      unfold xS; show 1 + pL [43, 45] (s ++ (D ++ R)) = _; rw [h2, Nat.add_comm]
    have h6 : (e :: (s ++ (D ++ R))).drop (xS (e :: (s ++ (D ++ R)))) = D ++ R := by
      rw [h3, List.drop_succ_cons, List.drop_left']; rfl
    refine ⟨?_, ?_, ?_, ?_⟩
    · unfold xL; rw [if_pos h1, h6, h5, h3, List.length_cons, List.length_append]; omega
    · unfold xE; rw [if_pos h1, h6]
      exact dE_ok (by rw [h5]; exact fun e => hD (List.eq_nil_of_length_eq_zero e))
    · intro y u hy
      rw [← (List.cons.inj hy).1]
      rcases he with rfl | rfl <;> decide
    · exact pL_other _ (by rcases he with rfl | rfl <;> decide)
theorem num_on {l R : List UInt8} (hR : tStop R) (h : nCode l = 0) : nCode (l.take (nE l) ++ R) = 0 ∧ nE (l.take (nE l) ++ R) = (l.take (nE l)).length := by
  obtain ⟨_, _, h1, h2, h3⟩ := codes h
  have hs : l.take (nA l) = [] ∨ l.take (nA l) = [45] := by
    have := pL_le [45] l
    rcases Nat.lt_or_ge (pL [45] l) 1 with h4 | h4
    · rw [show nA l = 0 from (by unfold nA; omega)]; exact .inl rfl
    · obtain ⟨x, t, rfl, hx⟩ := pL_one (show pL [45] l = 1 by omega)
      obtain rfl := contains_one hx
      exact .inr rfl
  obtain ⟨w1, w2⟩ := int_parts h1
  have hF := frac_parts h2
  have hX := exp_parts h3
  rw [take_parts l]
  have eW : (l.drop (nA l)).take (iL (l.drop (nA l))) = wW l := rfl
  rw [eW] at w1 w2
  generalize l.take (nA l) = sg at *
  generalize wW l = W at *
  generalize (l.drop (nB l)).take (fL (l.drop (nB l))) = F at *
  generalize ((l.drop (nB l)).drop 1).take (fL (l.drop (nB l)) - 1) = B at *
  generalize (l.drop (nC l)).take (xL (l.drop (nC l))) = X at *
  generalize ((l.drop (nC l)).drop 1).take (xL (l.drop (nC l)) - 1) = P at *
  clear h h1 h2 h3 eW
  obtain ⟨x1, x2, x4, x5⟩ := exp_on hR hX
  obtain ⟨f1, f2, _⟩ := frac_to hF x4 x5
  have hnd : nd (F ++ (X ++ R)) := by
    rcases hF with ⟨rfl, _⟩ | ⟨rfl, _, _⟩
    · exact x4
    · intro y u hy
      rw [← (List.cons.inj hy).1]; decide
  obtain ⟨i1, i2⟩ := int_to w1 w2 hnd
  have eL : sg ++ (W ++ (F ++ X)) ++ R = sg ++ (W ++ (F ++ (X ++ R))) := by simp
  rw [eL]
  obtain ⟨L, hL⟩ : ∃ L, L = sg ++ (W ++ (F ++ (X ++ R))) := ⟨_, rfl⟩
  rw [← hL]
  have a1 : nA L = sg.length := by
    subst hL
    rcases hs with rfl | rfl
    · obtain ⟨x, t, rfl, hx⟩ : ∃ x t, W = x :: t ∧ dIs x = true := head_of (by rcases w2 with rfl | ⟨x, t, rfl, _⟩ <;> simp) w1
      exact pL_other _ (by rw [digit_ne hx _ (by simp)]; decide)
    · rfl
  have a2 : L.drop (nA L) = W ++ (F ++ (X ++ R)) := by rw [a1, hL, List.drop_left']; rfl
  have b1 : nB L = sg.length + W.length := by unfold nB; rw [a2, i1, a1]
  have b2 : L.drop (nB L) = F ++ (X ++ R) := by
    rw [b1, ← List.drop_drop, ← a1, a2, List.drop_left']; rfl
  have c1 : nC L = sg.length + W.length + F.length := by unfold nC; rw [b2, f1, b1]
  have c2 : L.drop (nC L) = X ++ R := by
    rw [c1, ← List.drop_drop, ← b1, b2, List.drop_left']; rfl
  have e1 : eB L = 0 := by unfold eB; rw [a2]; exact i2
  have e2 : eC L = 0 := by unfold eC; rw [if_pos e1, b2]; exact f2
  refine ⟨?_, ?_⟩
  · unfold nCode; rw [if_pos e2, c2]; exact x2
  · unfold nE; rw [c2, x1, c1]; simp only [List.length_append]; omega

theorem nE_pos {l : List UInt8} (h : nCode l = 0) : 1 ≤ nE l := by
  obtain ⟨_, _, h1, _, _⟩ := codes h
  have h2 : 1 ≤ iL (l.drop (nA l)) := by
    rcases (int_parts h1).2 with e | ⟨x, t, e, _⟩
    · have := congrArg List.length e
      rw [List.length_take] at this; simp at this; omega
    · have := congrArg List.length e
      rw [List.length_take] at this; simp at this; omega
  unfold nE nC nB; omega
theorem jL_fine {l : List UInt8} (h : (jL l).e = 0) : 1 ≤ (jL l).k ∧ (jL l).k ≤ l.length ∧ (jL l).t.length ≤ (jL l).k ∧ UOk (jL l).t := by
  match l with
  | [] => exact absurd h (by decide)
  | x :: t =>
    rw [jL_cons] at h ⊢
    by_cases hx : x.toNat = 34
    · rw [if_pos hx] at h ⊢
      by_cases he : (jIn t).e = 0
      · rw [if_pos he]
        obtain ⟨f1, f2, f3⟩ := jIn_fine _ t rfl he
        exact ⟨by simp only; omega, by simp only [List.length_cons]; omega, by simp only; omega, f3⟩
      · rw [if_neg he] at h; exact absurd h he
    · rw [if_neg hx] at h; exact absurd h (by decide)
theorem tWd_len : ∀ (s l : List UInt8), tWd s l = 0 → s.length ≤ l.length
  | [], _, _ => Nat.zero_le _
  | _ :: _, [], h => absurd h (by unfold tWd; decide)
  | a :: s, x :: l, h => by
    unfold tWd at h
    by_cases e : x = a
    · rw [if_pos e] at h
      have := tWd_len s l h
      simp only [List.length_cons]; omega
    · rw [if_neg e] at h; exact absurd h (by decide)
theorem tWd_app : ∀ (s R : List UInt8), tWd s (s ++ R) = 0
  | [], _ => rfl
  | a :: s, R => by
    show (if a = a then tWd s (s ++ R) else 3) = 0
    rw [if_pos rfl]; exact tWd_app s R
theorem tWd_snoc : ∀ (s l : List UInt8) (a : UInt8), tWd (s ++ [a]) l = if tWd s l = 0 then (match l.drop s.length with
    | [] => 1
    | x :: _ => if x = a then 0 else 3) else tWd s l
  | [], [], a => rfl
  | [], x :: l, a => by
    show (if x = a then tWd [] l else 3) = _
    rfl
  | b :: s, [], a => rfl
  | b :: s, x :: l, a => by
    show (if x = b then tWd (s ++ [a]) l else 3) = _
    by_cases e : x = b
    · rw [if_pos e, tWd_snoc s l a]
      show _ = if (if x = b then tWd s l else 3) = 0 then _ else (if x = b then tWd s l else 3)
      rw [if_pos e]; rfl
    · rw [if_neg e]
      show _ = if (if x = b then tWd s l else 3) = 0 then _ else (if x = b then tWd s l else 3)
      rw [if_neg e]; rfl
theorem tW_some {k : UInt8} (h : k = 116 ∨ k = 102 ∨ k = 122) : 1 ≤ (tW k).length ∧ (tW k).length ≤ 5 := by
  rcases h with rfl | rfl | rfl <;> decide
theorem tW_len (k : UInt8) : (tW k).length ≤ 5 := by
  unfold tW; repeat' split
  all_goals decide
theorem tWn_fine {k : UInt8} {l : List UInt8} (hk : k = 116 ∨ k = 102 ∨ k = 122) (h : (tWn k l).e = 0) : (tWn k l).tok = (k, []) ∧ 1 ≤ (tWn k l).k ∧ (tWn k l).k ≤ l.length := by
  unfold tWn at h ⊢
  by_cases e : tWd (tW k) l = 0
  · rw [if_pos e]
    exact ⟨rfl, (tW_some hk).1, tWd_len _ _ e⟩
  · rw [if_neg e] at h; exact absurd h e
/-- A token that begins is of some bytes, and right. -/
theorem tBeg_fine {x : UInt8} {t : List UInt8} (h : (tBeg x (x :: t)).e = 0) : 1 ≤ (tBeg x (x :: t)).k ∧ (tBeg x (x :: t)).k ≤ (x :: t).length ∧ (tBeg x (x :: t)).tok.2.length ≤ (tBeg x (x :: t)).k ∧ TOk (tBeg x (x :: t)).tok ∧ (tBeg x (x :: t)).tok.1 ≠ 0 := by
  unfold tBeg at h ⊢
  by_cases c1 : tSign x = true
  · rw [if_pos c1]
    refine ⟨Nat.le_refl _, by simp, by simp, .inl ⟨c1, rfl⟩, ?_⟩
    rcases tSign_iff.mp c1 with rfl | rfl | rfl | rfl | rfl | rfl <;> decide
  · rw [if_neg c1] at h ⊢
    by_cases c2 : x = 34
    · rw [if_pos c2] at h ⊢
      by_cases he : (jL (x :: t)).e = 0
      · rw [if_pos he]
        obtain ⟨f1, f2, f3, f4⟩ := jL_fine he
        exact ⟨f1, f2, f3, .inr (.inl ⟨rfl, f4⟩), (by decide : (115 : UInt8) ≠ 0)⟩
      · rw [if_neg he] at h; exact absurd h he
    · rw [if_neg c2] at h ⊢
      by_cases c3 : tDig x = true
      · rw [if_pos c3] at h ⊢
        by_cases he : nCode (x :: t) = 0
        · rw [if_pos he]
          have h1 := nE_pos he
          refine ⟨h1, nE_len _, by simp only [List.length_take]; omega, .inr (.inr (.inl ⟨rfl, ⟨x, t.take (nE (x :: t) - 1), ?_, c3⟩, fun R hR => num_on hR he⟩)), (by decide : (110 : UInt8) ≠ 0)⟩
          obtain ⟨m, hm⟩ : ∃ m, nE (x :: t) = m + 1 := ⟨nE (x :: t) - 1, by omega⟩
          simp only [hm, List.take_succ_cons, Nat.add_sub_cancel]
        · rw [if_neg he] at h; exact absurd h he
      · rw [if_neg c3] at h ⊢
        by_cases c4 : x = 116
        · rw [if_pos c4] at h ⊢
          obtain ⟨h1, h2, h3⟩ := tWn_fine (.inl rfl) h
          rw [h1]
          exact ⟨h2, h3, Nat.zero_le _, .inr (.inr (.inr ⟨.inl rfl, rfl⟩)), (by decide : (116 : UInt8) ≠ 0)⟩
        · rw [if_neg c4] at h ⊢
          by_cases c5 : x = 102
          · rw [if_pos c5] at h ⊢
            obtain ⟨h1, h2, h3⟩ := tWn_fine (.inr (.inl rfl)) h
            rw [h1]
            exact ⟨h2, h3, Nat.zero_le _, .inr (.inr (.inr ⟨.inr (.inl rfl), rfl⟩)), (by decide : (102 : UInt8) ≠ 0)⟩
          · rw [if_neg c5] at h ⊢
            by_cases c6 : x = 110
            · rw [if_pos c6] at h ⊢
              obtain ⟨h1, h2, h3⟩ := tWn_fine (.inr (.inr rfl)) h
              rw [h1]
              exact ⟨h2, h3, Nat.zero_le _, .inr (.inr (.inr ⟨.inr (.inr rfl), rfl⟩)), (by decide : (122 : UInt8) ≠ 0)⟩
            · rw [if_neg c6] at h; exact absurd h (by decide)
theorem tBeg_bad {x : UInt8} {l : List UInt8} (h : ¬ (tBeg x l).e = 0) : (tBeg x l).tok = (0, []) ∧ (tBeg x l).k = 0 := by
  unfold tBeg at h ⊢
  have hw : ∀ k, ¬ (tWn k l).e = 0 → (tWn k l).tok = (0, []) ∧ (tWn k l).k = 0 := fun k hk => by
    unfold tWn at hk ⊢
    by_cases e : tWd (tW k) l = 0
    · rw [if_pos e] at hk; exact absurd rfl hk
    · rw [if_neg e]; exact ⟨rfl, rfl⟩
  by_cases c1 : tSign x = true
  · rw [if_pos c1] at h; exact absurd rfl h
  · rw [if_neg c1] at h ⊢
    by_cases c2 : x = 34
    · rw [if_pos c2] at h ⊢
      by_cases he : (jL l).e = 0
      · rw [if_pos he] at h; exact absurd rfl h
      · rw [if_neg he]; exact ⟨rfl, rfl⟩
    · rw [if_neg c2] at h ⊢
      by_cases c3 : tDig x = true
      · rw [if_pos c3] at h ⊢
        by_cases he : nCode l = 0
        · rw [if_pos he] at h; exact absurd rfl h
        · rw [if_neg he]; exact ⟨rfl, rfl⟩
      · rw [if_neg c3] at h ⊢
        by_cases c4 : x = 116
        · rw [if_pos c4] at h ⊢; exact hw _ h
        · rw [if_neg c4] at h ⊢
          by_cases c5 : x = 102
          · rw [if_pos c5] at h ⊢; exact hw _ h
          · rw [if_neg c5] at h ⊢
            by_cases c6 : x = 110
            · rw [if_pos c6] at h ⊢; exact hw _ h
            · rw [if_neg c6]; exact ⟨rfl, rfl⟩
theorem tNx_none {l : List UInt8} (h : l.drop (bL l) = []) : tNx l = ⟨(0, []), bL l, 0⟩ := by unfold tNx; rw [h]
theorem tNx_some {l : List UInt8} {x : UInt8} {t : List UInt8} (h : l.drop (bL l) = x :: t) : tNx l = ⟨(tBeg x (x :: t)).tok, bL l + (tBeg x (x :: t)).k, (tBeg x (x :: t)).e⟩ := by unfold tNx; rw [h]
/-- The next token, if there is one: it takes some bytes, and is right. -/
theorem tNx_fine {l : List UInt8} (h : (tNx l).e = 0) (h0 : (tNx l).tok.1 ≠ 0) : 1 ≤ (tNx l).k ∧ (tNx l).k ≤ l.length ∧ (tNx l).tok.2.length ≤ (tNx l).k ∧ TOk (tNx l).tok := by
  have hb := bl_len l
  match hd : l.drop (bL l) with
  | [] => rw [tNx_none hd] at h0; exact absurd rfl h0
  | x :: t =>
    rw [tNx_some hd] at h ⊢
    obtain ⟨h1, h2, h3, h4, _⟩ := tBeg_fine h
    have := congrArg List.length hd
    rw [List.length_drop] at this
    exact ⟨by simp only; omega, by simp only; omega, by simp only; omega, h4⟩
theorem tNx_end {l : List UInt8} (h : (tNx l).e = 0) (h0 : (tNx l).tok.1 = 0) : (tNx l).tok = (0, []) ∧ (tNx l).k ≤ l.length := by
  match hd : l.drop (bL l) with
  | [] => rw [tNx_none hd]; exact ⟨rfl, bl_len l⟩
  | x :: t =>
    rw [tNx_some hd] at h h0
    exact absurd h0 (tBeg_fine h).2.2.2.2
theorem tNx_bad {l : List UInt8} (h : ¬ (tNx l).e = 0) : (tNx l).tok = (0, []) := by
  match hd : l.drop (bL l) with
  | [] => rw [tNx_none hd]
  | x :: t =>
    rw [tNx_some hd] at h ⊢
    exact (tBeg_bad h).1
theorem tAl_more : ∀ (f : Nat) (l : List UInt8), l.length + 1 ≤ f → tAl f l = tAl (l.length + 1) l
  | 0, _, h => by omega
  | f + 1, l, h => by
    unfold tAl
    by_cases he : (tNx l).e = 0
    · by_cases h0 : (tNx l).tok.1 = 0
      · rw [if_pos he, if_pos he, if_pos h0, if_pos h0]
      · obtain ⟨h1, h2, _⟩ := tNx_fine he h0
        have hl : (l.drop (tNx l).k).length + 1 ≤ l.length := by rw [List.length_drop]; omega
        rw [tAl_more f _ (by omega), tAl_more l.length _ hl]
    · rw [if_neg he, if_neg he]
termination_by f => f
theorem tAll_eq (l : List UInt8) : tAll l = if (tNx l).e = 0 then (if (tNx l).tok.1 = 0 then ([], 0) else if (tAll (l.drop (tNx l).k)).2 = 0 then ((tNx l).tok :: (tAll (l.drop (tNx l).k)).1, 0) else ([], (tAll (l.drop (tNx l).k)).2)) else ([], (tNx l).e) := by
  show tAl (l.length + 1) l = _
  by_cases he : (tNx l).e = 0
  · by_cases h0 : (tNx l).tok.1 = 0
    · rw [tAl, if_pos he, if_pos he, if_pos h0, if_pos h0]
    · obtain ⟨h1, h2, _⟩ := tNx_fine he h0
      have hl : (l.drop (tNx l).k).length + 1 ≤ l.length := by rw [List.length_drop]; omega
      rw [tAl, tAl_more l.length _ hl]; rfl
  · rw [tAl, if_neg he, if_neg he]
theorem tAll_err {l : List UInt8} (h : ¬ (tNx l).e = 0) : tAll l = ([], (tNx l).e) := by rw [tAll_eq, if_neg h]
theorem tAll_end {l : List UInt8} (h : (tNx l).e = 0) (h0 : (tNx l).tok.1 = 0) : tAll l = ([], 0) := by rw [tAll_eq, if_pos h, if_pos h0]
theorem tAll_step {l : List UInt8} (h : (tNx l).e = 0) (h0 : (tNx l).tok.1 ≠ 0) : tAll l = if (tAll (l.drop (tNx l).k)).2 = 0 then ((tNx l).tok :: (tAll (l.drop (tNx l).k)).1, 0) else ([], (tAll (l.drop (tNx l).k)).2) := by rw [tAll_eq, if_pos h, if_neg h0]
theorem tAll_fine : ∀ (n : Nat) (l : List UInt8), l.length = n → (¬ (tAll l).2 = 0 → (tAll l).1 = []) ∧ (tAll l).1.length ≤ l.length ∧ ∀ x ∈ (tAll l).1, TOk x ∧ x.2.length ≤ l.length := by
  intro n
  induction n using Nat.strongRecOn with
  | _ n ih =>
    intro l hn
    by_cases he : (tNx l).e = 0
    · by_cases h0 : (tNx l).tok.1 = 0
      · rw [tAll_end he h0]
        exact ⟨fun h => rfl, Nat.zero_le _, fun x hx => by simp at hx⟩
      · obtain ⟨h1, h2, h3, h4⟩ := tNx_fine he h0
        rw [tAll_step he h0]
        have hl : (l.drop (tNx l).k).length = l.length - (tNx l).k := List.length_drop
        obtain ⟨i1, i2, i3⟩ := ih _ (by omega) (l.drop (tNx l).k) rfl
        by_cases h5 : (tAll (l.drop (tNx l).k)).2 = 0
        · rw [if_pos h5]
          refine ⟨fun h => absurd rfl h, by simp only [List.length_cons]; omega, fun x hx => ?_⟩
          rcases List.mem_cons.mp hx with rfl | hx
          · exact ⟨h4, by omega⟩
          · obtain ⟨j1, j2⟩ := i3 x hx
            exact ⟨j1, by omega⟩
        · rw [if_neg h5]
          exact ⟨fun h => rfl, Nat.zero_le _, fun x hx => by simp at hx⟩
    · rw [tAll_err he]
      exact ⟨fun h => rfl, Nat.zero_le _, fun x hx => by simp at hx⟩

/-- A token that was read, written: its first byte is no blank; it is read again. -/
theorem tPut_again {x : TK} (h : TOk x) {R : List UInt8} (hR : tStop R) : ∃ b t, tPut x ++ R = b :: t ∧ tBl b = false ∧ tBeg b (b :: t) = ⟨x, (tPut x).length, 0⟩ := by
  obtain ⟨k, s⟩ := x
  rcases h with ⟨h1, h2⟩ | ⟨h1, h2⟩ | ⟨h1, ⟨y, u, h2, h3⟩, h4⟩ | ⟨h1, h2⟩
  · simp only at h1 h2
    subst h2
    have hp : tPut (k, []) = [k] := by
      unfold tPut
      rw [if_neg (by rcases tSign_iff.mp h1 with rfl | rfl | rfl | rfl | rfl | rfl <;> decide), if_pos h1]
    rw [hp]
    refine ⟨k, R, rfl, ?_, ?_⟩
    · rcases tSign_iff.mp h1 with rfl | rfl | rfl | rfl | rfl | rfl <;> decide
    · unfold tBeg; rw [if_pos h1]; rfl
  · simp only at h1 h2
    subst h1
    have hp : tPut (115, s) = jText s := by unfold tPut; rw [if_pos rfl]
    rw [hp]
    refine ⟨34, jT s ++ [34] ++ R, rfl, by decide, ?_⟩
    have hj : jL (34 :: (jT s ++ [34] ++ R)) = ⟨s, (jT s).length + 2, 0⟩ := by
      have := jIn_text h2 R
      rw [jL_cons, if_pos (show (34 : UInt8).toNat = 34 from rfl), List.append_assoc, show jT s ++ ([34] ++ R) = jT s ++ 34 :: R from rfl, this]; rfl
    unfold tBeg
    rw [if_neg (by decide), if_pos rfl, hj, if_pos rfl, jText_len]
  · simp only at h1 h2 h4
    subst h1
    have hp : tPut (110, s) = s := by unfold tPut; rw [if_neg (show ¬ (110 : UInt8) = 115 by decide), if_neg (show ¬ tSign 110 = true by decide), if_pos rfl]
    rw [hp]
    have hy := tDig_iff.mp h3
    obtain ⟨h5, h6⟩ := h4 R hR
    subst h2
    refine ⟨y, u ++ R, rfl, ?_, ?_⟩
    · by_cases hb : tBl y = true
      · rcases tBl_iff.mp hb with rfl | rfl | rfl | rfl <;> exact absurd h3 (by decide)
      · exact (Bool.not_eq_true _).mp hb
    · unfold tBeg
      rw [List.cons_append] at h5 h6
      have hns : ¬ tSign y = true := fun hb => by
        rcases tSign_iff.mp hb with rfl | rfl | rfl | rfl | rfl | rfl <;> exact absurd h3 (by decide)
      have hn34 : ¬ y = 34 := fun hb => by subst hb; exact absurd h3 (by decide)
      rw [if_neg hns, if_neg hn34, if_pos h3, if_pos h5, h6, ← List.cons_append, List.take_left']
      rfl
  · simp only at h1 h2
    subst h2
    have hp : tPut (k, []) = tW k := by
      unfold tPut
      rw [if_neg (by rcases h1 with rfl | rfl | rfl <;> decide), if_neg (by rcases h1 with rfl | rfl | rfl <;> decide), if_neg (by rcases h1 with rfl | rfl | rfl <;> decide)]
    rw [hp]
    have hw : tWn k (tW k ++ R) = ⟨(k, []), (tW k).length, 0⟩ := by unfold tWn; rw [if_pos (tWd_app _ _)]
    rcases h1 with rfl | rfl | rfl
    · refine ⟨116, [114, 117, 101] ++ R, rfl, by decide, ?_⟩
      unfold tBeg; rw [if_neg (by decide), if_neg (by decide), if_neg (by decide), if_pos rfl]; exact hw
    · refine ⟨102, [97, 108, 115, 101] ++ R, rfl, by decide, ?_⟩
      unfold tBeg; rw [if_neg (by decide), if_neg (by decide), if_neg (by decide), if_neg (by decide), if_pos rfl]; exact hw
    · refine ⟨110, [117, 108, 108] ++ R, rfl, by decide, ?_⟩
      unfold tBeg; rw [if_neg (by decide), if_neg (by decide), if_neg (by decide), if_neg (by decide), if_neg (by decide), if_pos rfl]; exact hw
theorem tNx_again {x : TK} (h : TOk x) {S R : List UInt8} (hS : ∀ b ∈ S, tBl b = true) (hR : tStop R) : tNx (S ++ (tPut x ++ R)) = ⟨x, S.length + (tPut x).length, 0⟩ := by
  obtain ⟨b, t, e, hb, hg⟩ := tPut_again h hR
  have h1 : bL (S ++ (tPut x ++ R)) = S.length := by rw [bl_app hS, e, bl_none hb, Nat.add_zero]
  have h2 : (S ++ (tPut x ++ R)).drop (bL (S ++ (tPut x ++ R))) = b :: t := by rw [h1, List.drop_left' rfl, e]
  rw [tNx_some h2, h1, hg]
theorem tOk_kind {x : TK} (h : TOk x) : x.1 ≠ 0 := by
  rcases h with ⟨h1, _⟩ | ⟨h1, _⟩ | ⟨h1, _⟩ | ⟨h1, _⟩
  · rcases tSign_iff.mp h1 with e | e | e | e | e | e <;> rw [e] <;> decide
  · rw [h1]; decide
  · rw [h1]; decide
  · rcases h1 with e | e | e <;> rw [e] <;> decide
/-- The blanks that the law lays ahead of a token. -/
def bW (b : UInt8) : UInt8 := if b.toNat % 4 = 0 then 32 else if b.toNat % 4 = 1 then 9 else if b.toNat % 4 = 2 then 10 else 13
def bSep (bl : List UInt8) (k : Nat) : List UInt8 := match bl[k]? with
  | some b => [32, bW b]
  | none => [32]
def bTx (bl : List UInt8) : Nat → List TK → List UInt8
  | _, [] => []
  | k, x :: L => bSep bl k ++ (tPut x ++ bTx bl (k + 1) L)
theorem bW_bl (b : UInt8) : tBl (bW b) = true := by unfold bW; repeat' split
                                                    all_goals decide
theorem bSep_bl (bl : List UInt8) (k : Nat) : ∀ b ∈ bSep bl k, tBl b = true := by
  unfold bSep
  split
  · intro b hb
    simp at hb
    rcases hb with rfl | rfl
    · decide
    · exact bW_bl _
  · intro b hb
    simp at hb
    subst hb; decide
theorem bSep_some (bl : List UInt8) (k : Nat) : ∃ t, bSep bl k = 32 :: t := by unfold bSep; split <;> exact ⟨_, rfl⟩
theorem bSep_len (bl : List UInt8) (k : Nat) : (bSep bl k).length ≤ 2 := by unfold bSep; split <;> simp
theorem bTx_snoc (bl : List UInt8) : ∀ (L : List TK) (k : Nat) (x : TK), bTx bl k (L ++ [x]) = bTx bl k L ++ (bSep bl (k + L.length) ++ tPut x)
  | [], k, x => by simp [bTx]
  | y :: L, k, x => by
    rw [List.cons_append, bTx, bTx, bTx_snoc bl L (k + 1) x, List.length_cons, show k + 1 + L.length = k + (L.length + 1) by omega]
    simp [List.append_assoc]
theorem bTx_stop (bl : List UInt8) (L : List TK) (k : Nat) : tStop (bTx bl k L ++ [13, 10]) := by
  intro x t e
  match L with
  | [] =>
    rw [← (List.cons.inj e).1]; decide
  | y :: L =>
    obtain ⟨u, hu⟩ := bSep_some bl k
    rw [bTx, hu] at e
    rw [← (List.cons.inj e).1]; decide
/-- 12.2: the tokens, written with any blanks between, are read again. -/
theorem bTx_again (bl : List UInt8) : ∀ (L : List TK) (k : Nat), (∀ x ∈ L, TOk x) → tAll (bTx bl k L ++ [13, 10]) = (L, 0)
  | [], k, _ => show tAll [13, 10] = ([], 0) by decide +kernel
  | x :: L, k, h => by
    have hx := h x List.mem_cons_self
    have ih := bTx_again bl L (k + 1) (fun y hy => h y (List.mem_cons_of_mem _ hy))
    have hn := tNx_again hx (bSep_bl bl k) (bTx_stop bl L (k + 1))
    have e : bTx bl k (x :: L) ++ [13, 10] = bSep bl k ++ (tPut x ++ (bTx bl (k + 1) L ++ [13, 10])) := by
      rw [bTx]; simp [List.append_assoc]
    rw [e]
    have hd : (bSep bl k ++ (tPut x ++ (bTx bl (k + 1) L ++ [13, 10]))).drop ((bSep bl k).length + (tPut x).length) = bTx bl (k + 1) L ++ [13, 10] := by
      rw [← List.append_assoc]
      exact List.drop_left' (by rw [List.length_append])
    rw [tAll_step (by rw [hn]) (by rw [hn]; exact tOk_kind hx), hn]
    simp only
    rw [hd, ih]
    simp
theorem tPut_len (x : TK) : (tPut x).length ≤ 6 * x.2.length + 5 := by
  unfold tPut
  split
  · have := (jT_len x.2).2
    rw [jText_len]; omega
  · split
    · simp
    · split
      · omega
      · have := tW_len x.1; omega
theorem bTx_len (bl : List UInt8) (m : Nat) : ∀ (L : List TK) (k : Nat), (∀ x ∈ L, x.2.length ≤ m) → (bTx bl k L).length ≤ L.length * (6 * m + 7)
  | [], k, _ => by simp [bTx]
  | x :: L, k, h => by
    have h1 := h x List.mem_cons_self
    have ih := bTx_len bl m L (k + 1) (fun y hy => h y (List.mem_cons_of_mem _ hy))
    have h2 := tPut_len x
    have h3 := bSep_len bl k
    rw [bTx, List.length_append, List.length_append, List.length_cons, Nat.add_mul]
    omega
end Go.Proofs.YtfighopfgllneaaGreatDoor
/- Tokens in memory: a block that is one, lists of them; 'append' of one. Of no package but the types' facts. -/
namespace Go.Proofs.YtfighopfgllneaaGreatDoor
open Go Go.RowKit
set_option linter.unusedVariables false

def tkV (x : TK) : Value := .agg #[.int .u8 (x.1.toNat : Int), .string (bA x.2)]
/-- Block b is the token x, of type t. -/
def TkT (t : TypeId) (w : World) (b : Nat) (x : TK) : Prop := w.heap[b]? = some (.cells #[.int .u8 (x.1.toNat : Int), .string (bA x.2)] t (0, 0))
theorem TkT.lt {t : TypeId} {w : World} {b : Nat} {x : TK} (h : TkT t w b x) : b < w.heap.size := lt_of_block h
theorem TkT.c0 {t : TypeId} {w : World} {b : Nat} {x : TK} (h : TkT t w b x) : w.cell? ⟨b, 0, none⟩ = some (.int .u8 (x.1.toNat : Int)) := by unfold TkT at h; simp [World.cell?, h]
theorem TkT.c1 {t : TypeId} {w : World} {b : Nat} {x : TK} (h : TkT t w b x) : w.cell? ⟨b, 1, none⟩ = some (.string (bA x.2)) := by unfold TkT at h; simp [World.cell?, h]
theorem TkT.fr {t : TypeId} {w : World} {b : Nat} {x : TK} (h : TkT t w b x) (o : Nat) : w.frozen? ⟨b, o, none⟩ = false := by unfold TkT at h; simp [World.frozen?, h]
theorem TkT.drewN {t : TypeId} {w : World} {b : Nat} {x : TK} (h : TkT t w b x) (n : Nat) : TkT t (w.drewN n) b x := h
theorem TkT.drew {t : TypeId} {w : World} {b : Nat} {x : TK} (h : TkT t w b x) : TkT t w.drew b x := h
theorem TkT.below {t : TypeId} {w w' : World} {b N : Nat} {x : TK} (h : TkT t w b x) (hb : Below N w w') (hN : b < N) : TkT t w' b x := (hb.block b hN).trans h
theorem TkT.only {t : TypeId} {w w' : World} {b d : Nat} {x : TK} (h : TkT t w b x) (ho : Only d w w') (hd : b ≠ d) : TkT t w' b x := (ho.block b h.lt hd).trans h
theorem TkT.alloc {t : TypeId} {w : World} {b : Nat} {x : TK} (h : TkT t w b x) (o : Obj) : TkT t (w.alloc o) b x := by
  have h2 := h.lt
  show (w.heap.push o)[b]? = _
  rw [Array.getElem?_push_lt h2]
  rw [← Array.getElem?_eq_getElem h2]; exact h
theorem tk_alloc {w : World} (x : TK) (t : TypeId) : TkT t (w.alloc (.cells #[.int .u8 (x.1.toNat : Int), .string (bA x.2)] t (0, 0))) w.heap.size x := by
  show (w.heap.push _)[w.heap.size]? = _
  simp
theorem TkT.setAll {t : TypeId} {w : World} {b : Nat} {x : TK} (h : TkT t w b x) (y : TK) :
    TkT t ((w.setCell ⟨b, 0, none⟩ (.int .u8 (y.1.toNat : Int))).setCell ⟨b, 1, none⟩ (.string (bA y.2))) b y :=
  heap_setCell_block (heap_setCell_block h _) _
theorem Only.setTk (w : World) (b : Nat) (y : TK) : Only b w ((w.setCell ⟨b, 0, none⟩ (.int .u8 (y.1.toNat : Int))).setCell ⟨b, 1, none⟩ (.string (bA y.2))) :=
  ((Only.refl _ _).setCell _ _).setCell _ _

/-- Tokens as cells. -/
def tV (l : List TK) : List Value := l.flatMap fun x => [.int .u8 (x.1.toNat : Int), .string (bA x.2)]
theorem tV_cons (x : TK) (l : List TK) : tV (x :: l) = .int .u8 (x.1.toNat : Int) :: .string (bA x.2) :: tV l := rfl
theorem tV_append (l m : List TK) : tV (l ++ m) = tV l ++ tV m := List.flatMap_append
theorem tV_length : ∀ l : List TK, (tV l).length = l.length * 2
  | [] => rfl
  | x :: l => by rw [tV_cons, List.length_cons, List.length_cons, List.length_cons, tV_length l]; omega
theorem tV_one (l : List TK) : ∀ v ∈ tV l, v.oneCell' = true := by
  intro v hv
  obtain ⟨x, _, hx⟩ := List.mem_flatMap.mp hv
  simp at hx
  rcases hx with rfl | rfl <;> rfl
theorem tV_get : ∀ (l : List TK) (k : Nat) (h : k < l.length), (tV l)[k * 2]? = some (.int .u8 (l[k].1.toNat : Int)) ∧ (tV l)[k * 2 + 1]? = some (.string (bA l[k].2))
  | x :: l, 0, _ => ⟨rfl, rfl⟩
  | x :: l, k + 1, h => by
    have := tV_get l k (by simpa using h)
    rw [tV_cons, show (k + 1) * 2 = k * 2 + 1 + 1 by omega]
    exact this
/-- The slice v, that the call itself made, holds the tokens l. -/
def TRow (e : TypeId) (w : World) (B : Nat) (v : Value) (l : List TK) : Prop := w.ownsRow B e 2 v l.length (tV l)
/-- The slice at a, of so many tokens, holds l. -/
def TIn (w : World) (a : Option Addr) (l : List TK) : Prop :=
  ∀ j (h : j < l.length), ∃ b, a = some ⟨b, 0, none⟩ ∧ b < w.heap.size ∧ w.cell? ⟨b, j * 2, none⟩ = some (.int .u8 (l[j].1.toNat : Int)) ∧ w.cell? ⟨b, j * 2 + 1, none⟩ = some (.string (bA l[j].2))
theorem TIn.below {w w' : World} {a : Option Addr} {l : List TK} {N : Nat} (h : TIn w a l) (hb : Below N w w') (hN : w.heap.size ≤ N) : TIn w' a l := fun j hj => by
  obtain ⟨b, e, hlt, h1, h2⟩ := h j hj
  exact ⟨b, e, Nat.lt_of_lt_of_le hlt hb.size, (hb.cell (p := ⟨b, j * 2, none⟩) (Nat.lt_of_lt_of_le hlt hN)).trans h1, (hb.cell (p := ⟨b, j * 2 + 1, none⟩) (Nat.lt_of_lt_of_le hlt hN)).trans h2⟩
theorem trow_nil (e : TypeId) (w : World) (B : Nat) : TRow e w B (.slice none 0 0) [] := ⟨rfl, .inl ⟨rfl, rfl⟩⟩
theorem TRow.below {e : TypeId} {w w' : World} {B N : Nat} {v : Value} {l : List TK} (h : TRow e w B v l) (hb : Below N w w') (hN : w.heap.size ≤ N) : TRow e w' B v l := by
  refine World.ownsRow.kept (row := none) h ⟨hb.os, hb.tape, hb.output, hb.size, fun k hk _ => hb.block k (by omega)⟩ ?_
  cases v.ownBlock <;> simp
theorem TRow.only {e : TypeId} {w w' : World} {B b : Nat} {v : Value} {l : List TK} (h : TRow e w B v l) (ho : Only b w w') (hb : b < B) : TRow e w' B v l := by
  obtain ⟨hl, h⟩ := h
  refine ⟨hl, ?_⟩
  rcases h with h | ⟨g, cap, cur, h1, h2, h3, h4⟩
  · exact .inl h
  · exact .inr ⟨g, cap, cur, h1, h2, (ho.block g (lt_of_block h3) (by omega)).trans h3, h4⟩
theorem TRow.base {e : TypeId} {w : World} {B N : Nat} {v : Value} {l : List TK} (h : TRow e w N v l) (hB : B ≤ N) : TRow e w B v l := by
  obtain ⟨hl, h⟩ := h
  refine ⟨hl, ?_⟩
  rcases h with h | ⟨g, cap, cur, h1, h2, h3, h4⟩
  · exact .inl h
  · exact .inr ⟨g, cap, cur, h1, by omega, h3, h4⟩
theorem TRow.inn {e : TypeId} {w : World} {B : Nat} {v : Value} {l : List TK} (h : TRow e w B v l) : ∃ a cap, v = .slice a l.length cap ∧ TIn w a l := by
  rcases h.2 with ⟨rfl, hn⟩ | ⟨g, cap, cur, rfl, _, hg, _⟩
  · have h0 : l = [] := List.eq_nil_of_length_eq_zero hn
    subst h0
    exact ⟨none, 0, rfl, fun j hj => by simp at hj⟩
  · refine ⟨_, cap, rfl, fun j hj => ⟨g, rfl, lt_of_block hg, ?_, ?_⟩⟩
    · rw [World.ownsRow.cellAt h (j * 2) (by omega), (tV_get l j hj).1]
    · rw [World.ownsRow.cellAt h (j * 2 + 1) (by omega), (tV_get l j hj).2]
theorem infoJ : (Tryz.prog.info? 54).map (fun i => (i.zero, i.size, i.bytes)) = some (some (.agg #[.int .u8 0, .string ⟨#[]⟩]), 2, 24) := by kernel_rfl
theorem infoR : (Tryz.prog.info? 62).map (fun i => (i.zero, i.size, i.bytes)) = some (some (.agg #[.int .u8 0, .string ⟨#[]⟩]), 2, 24) := by kernel_rfl
/-- 'append(list, x)' on a list that the call itself made. -/
theorem wpList_append_tok {P : Program} {ops : Array Oper} {rest : List Oper} {o : Oper} {a : Act} {Q : Exit → Act → World → Prop} (hgd : o.guard = none) (sl x : Operand) (t : TypeId)
    (ho : o.op = .call { callee := .builtin .append, args := #[sl, x], argTypes := #[t, t] })
    (e : TypeId) (ht : P.underlying t = some (.slice e)) (hi : (P.info? e).map (fun i => (i.zero, i.size, i.bytes)) = some (some (.agg #[.int .u8 0, .string ⟨#[]⟩]), 2, 24))
    (v : Value) (wr : World) (B : Nat) (l : List TK) (hb : TRow e wr B v l) (hB : B ≤ wr.heap.size) (hs : a.eval sl = v)
    (k : Int) (s : ByteArray) (y : TK) (hk : k = (y.1.toNat : Int)) (hss : s = bA y.2) (hx : a.eval x = .slice (some ⟨wr.heap.size, 0, none⟩) 1 1) (hlen : l.length ≤ 1099511627776)
    (h : ∀ v' w', TRow e w' B v' (l ++ [y]) → Below B wr w' → wpList P ops Q rest (a.put o.dst v') w') :
    wpList P ops Q (o :: rest) a (wr.alloc (.cells #[.int .u8 k, .string s] e)) := by
  subst hk hss
  obtain ⟨i0, hi, hz, hz1, hz2⟩ := info_parts hi
  refine wpList_append_own _ hgd sl x t ho B e i0 (.agg #[.int .u8 0, .string ⟨#[]⟩]) 2 24 ht hi hz hz1 hz2 rfl (by decide) v l.length (tV l) hs (World.ownsRow.alloc hb _) ⟨wr.heap.size, 0, none⟩ 1 1 (tV [y]) hx rfl ?_ (tV_one _) (by unfold maxLen; omega) (by omega) (by simp; omega) ?_
  · intro j u hj
    have h1 := heap_alloc_new wr (.cells #[.int .u8 (y.1.toNat : Int), .string (bA y.2)] e)
    have e1 : (Addr.mk wr.heap.size 0 none).add j = ⟨wr.heap.size, j, none⟩ := by unfold Addr.add; split <;> simp_all
    rw [e1]
    simp only [World.cell?]
    rw [h1]
    match j, hj with
    | 0, hj => simpa [tV] using hj
    | 1, hj => simpa [tV] using hj
    | j + 2, hj => simp [tV] at hj
  · intro v' w' hown hgr _
    refine h v' w' ?_ ?_
    · unfold TRow
      rw [tV_append, List.length_append]
      exact hown
    · refine ⟨hgr.os, hgr.tape, hgr.output, by have := hgr.size; simp at this; omega, fun k hk => ?_⟩
      have hne : some k ≠ v.ownBlock := fun hk' => by
        have := (World.ownsRow.lt hb k hk'.symm).1
        omega
      rw [hgr.block k (by simp; omega) hne]
      exact Below.heap_alloc _ _ _ (by omega)
theorem ret_tk {x y : TK} (h : x = y) : Ending.returned (tkV x) = .returned (tkV y) := by rw [h]
theorem tok_result {fn : Func} {p : Tmp} (h : fn.results = #[.cell p 54]) {tmps : Array Value} {w : World} {g : Nat} {x : TK} (hg : TkT 54 w g x) (hp : tmps.getD p undef = .pointer (some ⟨g, 0, none⟩)) :
    (results fn tmps).run Tryz.prog w = .ok (tkV x) w := by
  have hq := run_loadVar_row (P := Tryz.prog) w g 54 54 #[.int .u8 (x.1.toNat : Int), .string (bA x.2)] (0, 0) _ hg Tryz.underlying54 rfl (by kernel_rfl)
  have hp' : tmps[p]?.getD undef = .pointer (some ⟨g, 0, none⟩) := by simpa using hp
  simp [results, h, hp', asAddr, hq, tkV]
theorem ctok_result {fn : Func} {p q : Tmp} (h : fn.results = #[.cell p 60, .cell q 62]) {tmps : Array Value} {w : World} {g d : Nat} {c : CS} {x : TK} (hg : CurT 60 w g c) (hd : TkT 62 w d x) (hp : tmps.getD p undef = .pointer (some ⟨g, 0, none⟩)) (hq : tmps.getD q undef = .pointer (some ⟨d, 0, none⟩)) :
    (results fn tmps).run Tryz.prog w = .ok (.tuple #[c.val, tkV x]) w := by
  have h1 := run_loadVar_row (P := Tryz.prog) w g 60 60 #[.string c.s, .int .i64 c.at_, .int .i64 c.en, .int .i64 c.er] (0, 0) _ hg Tryz.underlying60 rfl (by kernel_rfl)
  have h2 := run_loadVar_row (P := Tryz.prog) w d 62 62 #[.int .u8 (x.1.toNat : Int), .string (bA x.2)] (0, 0) _ hd Tryz.underlying62 rfl (by kernel_rfl)
  have hp' : tmps[p]?.getD undef = .pointer (some ⟨g, 0, none⟩) := by simpa using hp
  have hq' : tmps[q]?.getD undef = .pointer (some ⟨d, 0, none⟩) := by simpa using hq
  simp [results, h, hp', hq', asAddr, h1, h2, tkV, CS.val]
end Go.Proofs.YtfighopfgllneaaGreatDoor
/- Package jtoken's among, sign, word; the document's Sign, Spelled. -/
namespace Go.Proofs.YtfighopfgllneaaGreatDoor
open Go Go.RowKit
set_option linter.unusedVariables false

/-- A list that has just been written out. -/
theorem bin_new (w : World) (l : List UInt8) (C : Array Value) (t : TypeId) (hC : C = (bV l).toArray) : BIn (w.alloc (.cells C t)) (some ⟨w.heap.size, 0, none⟩) l := by
  subst hC
  intro j hj
  have h1 := heap_alloc_new w (.cells (bV l).toArray t)
  refine ⟨w.heap.size, 0, rfl, by simp, ?_⟩
  rw [Nat.zero_add]
  simp only [World.cell?]
  rw [h1]
  show ((bV l).toArray)[j]? = _
  rw [← Array.getElem?_toList]
  exact bV_get l j hj
def AmRel (W : World) (b : UInt8) (l : List UInt8) (i : Value) (wr : World) : Prop := ∃ j : Nat, j ≤ l.length ∧ i = .int .i64 (j : Nat) ∧ ¬ b ∈ l.take j ∧ wr = W
theorem among_nil (b : UInt8) (cap : Nat) (a : Option Addr) (w : World) :
    Calls Tryz.prog 58 #[.int .u8 (b.toNat : Int), .slice a 0 cap] w fun e w' => e = .returned (.bool false) ∧ w' = w := by
  go_enter Tryz.func58, Tryz.ntmps58
  go_wp2_with fail
  refine wp_loop_once ?_
  go_wp2
  go_ret
  exact ⟨rfl, rfl⟩
theorem among_any (b : UInt8) (a : Option Addr) (cap : Nat) (l : List UInt8) (w : World) (hl : l.length ≤ 1000) (hin : BIn w a l) :
    Calls Tryz.prog 58 #[.int .u8 (b.toNat : Int), .slice a l.length cap] w fun e w' => e = .returned (.bool (l.contains b)) ∧ w' = w := by
  by_cases h0 : l = []
  · subst h0; exact among_nil b cap a w
  · obtain ⟨g, off, rfl, hg, -⟩ := hin 0 (Nat.pos_of_ne_zero (fun e => h0 (List.eq_nil_of_length_eq_zero e)))
    clear h0
    have HC : ∀ j (h : j < l.length), w.cell? ⟨g, off + j, none⟩ = some (.int .u8 (l[j].toNat : Int)) := fun j h => by
      obtain ⟨g', off', e, _, hc⟩ := hin j h
      obtain ⟨rfl, rfl⟩ : g = g' ∧ off = off' := by simpa using e
      exact hc
    have HC' := Lib.hid HC
    clear HC hin
    go_enter Tryz.func58, Tryz.ntmps58
    go_wp2_with fail
    go_loopw [4, 6, 9] (fun r x i wr => AmRel w b l i wr) (fun _ _ i _ => l.length - (intOf i).toNat)
    case atStart => exact ⟨0, Nat.zero_le _, rfl, by simp, rfl⟩
    case round =>
      obtain ⟨j, hj, rfl, hn, hwr⟩ := hrel
      subst hwr
      by_cases hlt : j < l.length
      · have p1 : decide ((j : Int) < (l.length : Int)) = true := decide_eq_true (by omega)
        have p2 : (j : Int) < (l.length : Int) := by omega
        have hc := HC'.out j hlt
        have HQ := Lib.hid (show (l.take (j + 1)) = l.take j ++ [l[j]] from List.take_succ_eq_append_getElem hlt)
        have HM := Lib.hid (show l[j] ∈ l from List.getElem_mem hlt)
        have HN := Lib.hid hn
        clear hn
        generalize l[j] = y at *
        by_cases he : b = y
        · have d1 : ((b.toNat : Int) == (y.toNat : Int)) = true := by rw [he]; simp
          have HR := Lib.hid (show l.contains b = true from by rw [he]; simpa using HM.out)
          clear he
          go_wp2
          go_ret
          exact ⟨ret_b HR.out.symm, rfl⟩
        · have d1 : ((b.toNat : Int) == (y.toNat : Int)) = false := beq_eq_false_iff_ne.mpr (fun e => he (UInt8.toNat_inj.mp (by omega)))
          have HR := Lib.hid (show ¬ b ∈ l.take (j + 1) by rw [HQ.out]; simp [HN.out, he])
          clear he
          go_wp2
          go_roundw
          case rel => exact ⟨j + 1, by omega, by go_num, HR.out, rfl⟩
          case measure => simp [intOf]; omega
      · have p1 : decide ((j : Int) < (l.length : Int)) = false := decide_eq_false (by omega)
        have HR := Lib.hid (show l.contains b = false from by
          have : l.take j = l := List.take_of_length_le (by omega)
          rw [this] at hn; simpa using hn)
        clear hn
        go_wp2
        go_ret
        exact ⟨ret_b HR.out.symm, rfl⟩
theorem alloc_below (w : World) (o : Obj) : Below w.heap.size w (w.alloc o) := (Below.refl _ _).alloc (Nat.le_refl _) _
theorem among_new (b : UInt8) (w : World) (n : Nat) (l : List UInt8) (C : Array Value) (t : TypeId) (v : Bool) (hv : l.contains b = v) (hC : C = (bV l).toArray) (hl : l.length = n) (hn : n ≤ 1000) :
    Calls Tryz.prog 58 #[.int .u8 (b.toNat : Int), .slice (some ⟨w.heap.size, 0, none⟩) n n] (w.alloc (.cells C t)) fun e w' => e = .returned (.bool v) ∧ Below w.heap.size w w' := by
  subst hl hv
  refine (among_any b _ _ l _ hn (bin_new w l C t hC)).mono ?_
  rintro e w' ⟨rfl, hw⟩
  rw [hw]
  exact ⟨rfl, alloc_below w _⟩
theorem sign_any (b : UInt8) (w : World) :
    Calls Tryz.prog 60 #[.int .u8 (b.toNat : Int)] w fun e w' => e = .returned (.bool (tSign b)) ∧ Below w.heap.size w w' := by
  have HR := Lib.hid (show [123, 125, 91, 93, 58, 44].contains b = tSign b from rfl)
  generalize tSign b = v at *
  go_enter Tryz.func60, Tryz.ntmps60
  go_wp2_with fail
  with_reducible refine (among_new b w 6 [123, 125, 91, 93, 58, 44] #[.int .u8 123, .int .u8 125, .int .u8 91, .int .u8 93, .int .u8 58, .int .u8 44] _ v HR.out rfl rfl (by decide)).mono ?_
  rintro e w1 ⟨rfl, h1⟩
  go_wp2
  go_ret
  exact ⟨rfl, h1⟩
theorem word_any (k : UInt8) (w : World) :
    Calls Tryz.prog 64 #[.int .u8 (k.toNat : Int)] w fun e w' => e = .returned (.string (bA (tW k))) ∧ w' = w := by
  have hb : ∀ y : UInt8, ((k.toNat : Int) == (y.toNat : Int)) = decide (k = y) := fun y => by
    by_cases e : k = y
    · rw [e]; simp
    · rw [decide_eq_false e]
      exact beq_eq_false_iff_ne.mpr (fun e2 => e (UInt8.toNat_inj.mp (by omega)))
  have b1 : ((k.toNat : Int) == 116) = decide (k = 116) := hb 116
  have b2 : ((k.toNat : Int) == 102) = decide (k = 102) := hb 102
  have b3 : ((k.toNat : Int) == 122) = decide (k = 122) := hb 122
  clear hb
  by_cases c1 : k = 116
  · rw [decide_eq_true c1] at b1
    have HR := Lib.hid (show bA (tW k) = ⟨#[116, 114, 117, 101]⟩ by rw [c1]; rfl)
    clear c1 b2 b3
    go_enter Tryz.func64, Tryz.ntmps64
    go_wp2
    go_ret
    exact ⟨ret_string HR.out.symm, rfl⟩
  · rw [decide_eq_false c1] at b1
    by_cases c2 : k = 102
    · rw [decide_eq_true c2] at b2
      have HR := Lib.hid (show bA (tW k) = ⟨#[102, 97, 108, 115, 101]⟩ by rw [c2]; rfl)
      clear c1 c2 b3
      go_enter Tryz.func64, Tryz.ntmps64
      go_wp2
      go_ret
      exact ⟨ret_string HR.out.symm, rfl⟩
    · rw [decide_eq_false c2] at b2
      by_cases c3 : k = 122
      · rw [decide_eq_true c3] at b3
        have HR := Lib.hid (show bA (tW k) = ⟨#[110, 117, 108, 108]⟩ by rw [c3]; rfl)
        clear c1 c2 c3
        go_enter Tryz.func64, Tryz.ntmps64
        go_wp2
        go_ret
        exact ⟨ret_string HR.out.symm, rfl⟩
      · rw [decide_eq_false c3] at b3
        have HR := Lib.hid (show bA (tW k) = ⟨#[]⟩ by unfold tW; rw [if_neg c1, if_neg c2, if_neg c3]; rfl)
        clear c1 c2 c3
        go_enter Tryz.func64, Tryz.ntmps64
        go_wp2
        go_ret
        exact ⟨ret_string HR.out.symm, rfl⟩
theorem rspelled_any (k : UInt8) (w : World) :
    Calls Tryz.prog 53 #[.int .u8 (k.toNat : Int)] w fun e w' => e = .returned (.string (bA (tW k))) ∧ w' = w := by
  have hb : ∀ y : UInt8, ((k.toNat : Int) == (y.toNat : Int)) = decide (k = y) := fun y => by
    by_cases e : k = y
    · rw [e]; simp
    · rw [decide_eq_false e]
      exact beq_eq_false_iff_ne.mpr (fun e2 => e (UInt8.toNat_inj.mp (by omega)))
  have b1 : ((k.toNat : Int) == 116) = decide (k = 116) := hb 116
  have b2 : ((k.toNat : Int) == 102) = decide (k = 102) := hb 102
  have b3 : ((k.toNat : Int) == 122) = decide (k = 122) := hb 122
  clear hb
  by_cases c1 : k = 116
  · rw [decide_eq_true c1] at b1
    have HR := Lib.hid (show bA (tW k) = ⟨#[116, 114, 117, 101]⟩ by rw [c1]; rfl)
    clear c1 b2 b3
    go_enter Tryz.func53, Tryz.ntmps53
    go_wp2
    go_ret
    exact ⟨ret_string HR.out.symm, rfl⟩
  · rw [decide_eq_false c1] at b1
    by_cases c2 : k = 102
    · rw [decide_eq_true c2] at b2
      have HR := Lib.hid (show bA (tW k) = ⟨#[102, 97, 108, 115, 101]⟩ by rw [c2]; rfl)
      clear c1 c2 b3
      go_enter Tryz.func53, Tryz.ntmps53
      go_wp2
      go_ret
      exact ⟨ret_string HR.out.symm, rfl⟩
    · rw [decide_eq_false c2] at b2
      by_cases c3 : k = 122
      · rw [decide_eq_true c3] at b3
        have HR := Lib.hid (show bA (tW k) = ⟨#[110, 117, 108, 108]⟩ by rw [c3]; rfl)
        clear c1 c2 c3
        go_enter Tryz.func53, Tryz.ntmps53
        go_wp2
        go_ret
        exact ⟨ret_string HR.out.symm, rfl⟩
      · rw [decide_eq_false c3] at b3
        have HR := Lib.hid (show bA (tW k) = ⟨#[]⟩ by unfold tW; rw [if_neg c1, if_neg c2, if_neg c3]; rfl)
        clear c1 c2 c3
        go_enter Tryz.func53, Tryz.ntmps53
        go_wp2
        go_ret
        exact ⟨ret_string HR.out.symm, rfl⟩
set_option maxHeartbeats 1000000 in
theorem rsign_any (k : UInt8) (w : World) :
    Calls Tryz.prog 27 #[.int .u8 (k.toNat : Int)] w fun e w' => e = .returned (.bool (tSign k)) ∧ w' = w := by
  have hb : ∀ y : UInt8, ((k.toNat : Int) == (y.toNat : Int)) = (k == y) := fun y => by
    by_cases e : k = y
    · rw [e]; simp
    · rw [beq_eq_false_iff_ne.mpr e]
      exact beq_eq_false_iff_ne.mpr (fun e2 => e (UInt8.toNat_inj.mp (by omega)))
  have b1 : ((k.toNat : Int) == 123) = (k == 123) := hb 123
  have b2 : ((k.toNat : Int) == 125) = (k == 125) := hb 125
  have b3 : ((k.toNat : Int) == 91) = (k == 91) := hb 91
  have b4 : ((k.toNat : Int) == 93) = (k == 93) := hb 93
  have b5 : ((k.toNat : Int) == 58) = (k == 58) := hb 58
  have b6 : ((k.toNat : Int) == 44) = (k == 44) := hb 44
  have HR := Lib.hid (show tSign k = (k == 123 || (k == 125 || (k == 91 || (k == 93 || (k == 58 || (k == 44 || false)))))) from rfl)
  clear hb
  generalize (k == 123) = a1 at *
  generalize (k == 125) = a2 at *
  generalize (k == 91) = a3 at *
  generalize (k == 93) = a4 at *
  generalize (k == 58) = a5 at *
  generalize (k == 44) = a6 at *
  go_enter Tryz.func27, Tryz.ntmps27
  cases a1
  · cases a2
    · cases a3
      · cases a4
        · cases a5
          · cases a6
            · go_wp2
              go_ret
              exact ⟨ret_b HR.out.symm, rfl⟩
            · go_wp2
              go_ret
              exact ⟨ret_b HR.out.symm, rfl⟩
          · go_wp2
            go_ret
            exact ⟨ret_b HR.out.symm, rfl⟩
        · go_wp2
          go_ret
          exact ⟨ret_b HR.out.symm, rfl⟩
      · go_wp2
        go_ret
        exact ⟨ret_b HR.out.symm, rfl⟩
    · go_wp2
      go_ret
      exact ⟨ret_b HR.out.symm, rfl⟩
  · go_wp2
    go_ret
    exact ⟨ret_b HR.out.symm, rfl⟩
end Go.Proofs.YtfighopfgllneaaGreatDoor
