/- A tree's tokens beside what a writer has to be told ('Wg', so deep at most): what is read is such a tree; reading one tells it, or that a key came twice, or where the tokens are cut off; writing one; what a writer wrote in whatever order is one. Of no program. -/
import Derived.Test.YtnbhhnkcfbfdcaaGreatDoorZD
namespace Go.Proofs.YtnbhhnkcfbfdcaaGreatDoor
open Go Go.RowKit
set_option linter.unusedVariables false

/-- Nodes, the tokens that they are, and what a writer is told of them: of a value (none), or of parts (of a list or an object; is a comma ahead of the first one?); within each other at most so many. -/
inductive Wg : Nat → Option (Bool × Bool) → List UInt8 → List ND → List TK → List OP → Prop
  | leaf (n : Nat) (key : List UInt8) (t : TK) : ¬ tSign t.1 = true → Wg n none key [(t.1, key, t.2, 1)] [t] [⟨t.1, t.2, 0⟩]
  | node (n : Nat) (ob : Bool) (key : List UInt8) (l : List ND) (tk : List TK) (O : List OP) : Wg n (some (ob, true)) [] l tk O → Wg (n + 1) none key ((opn ob, key, [], l.length + 1) :: l) ((opn ob, []) :: (tk ++ [(cls ob, [])])) (⟨opn ob, [], 0⟩ :: (O ++ [⟨101, [], 0⟩]))
  | none (n : Nat) (ob fst : Bool) : Wg n (some (ob, fst)) [] [] [] []
  | cons (n : Nat) (ob fst : Bool) (key : List UInt8) (l1 l2 : List ND) (k1 k2 : List TK) (O1 O2 : List OP) : Wg n none key l1 k1 O1 → Wg n (some (ob, false)) [] l2 k2 O2 → (ob = false → key = []) →
      Wg n (some (ob, fst)) [] (l1 ++ l2) ((if fst then [] else [(44, [])]) ++ ((if ob then [(115, key), (58, [])] else []) ++ (k1 ++ k2))) ((if ob then [⟨107, key, 0⟩] else []) ++ (O1 ++ O2))
theorem wg_wf {n : Nat} {o : Option (Bool × Bool)} {key : List UInt8} {l : List ND} {tk : List TK} {O : List OP} (h : Wg n o key l tk O) : Wf o key l tk := by
  induction h with
  | leaf n key t ht => exact .leaf key t ht
  | node n ob key l tk O _ ih => exact .node ob key l tk ih
  | none n ob fst => exact .none ob fst
  | cons n ob fst key l1 l2 k1 k2 O1 O2 _ _ hk i1 i2 => exact .cons ob fst key l1 l2 k1 k2 i1 i2 hk
theorem wg_comma {n : Nat} {ob : Bool} {l : List ND} {tk : List TK} {O : List OP} (h : Wg n (some (ob, true)) [] l tk O) (hl : l ≠ []) : Wg n (some (ob, false)) [] l ((44, []) :: tk) O := by
  generalize ho : (some (ob, true) : Option (Bool × Bool)) = o at h
  cases h with
  | leaf => cases ho
  | node => cases ho
  | none => exact absurd rfl hl
  | cons n ob2 fst key l1 l2 k1 k2 O1 O2 h1 h2 h3 =>
    simp only [Option.some.injEq, Prod.mk.injEq] at ho
    obtain ⟨rfl, rfl⟩ := ho
    exact Wg.cons n ob false key l1 l2 k1 k2 O1 O2 h1 h2 h3
/-- What was read is a tree, and no deeper than may be. -/
theorem tr_wg {E : Int} (hE : E ≠ 0) : ∀ f : Nat,
    (∀ t key d ts, d ≤ 32 → SgE (t :: ts) → (vTr E f t key d ts).e = 0 → ∃ tk O, t :: ts = tk ++ (vTr E f t key d ts).r ∧ Wg (32 - d) none key (vTr E f t key d ts).l tk O) ∧
    (∀ ob d ts, d ≤ 32 → SgE ts → (pTr E f ob d ts).e = 0 → ∃ n tk O, 32 - d = n + 1 ∧ ts = tk ++ (cls ob, []) :: (pTr E f ob d ts).r ∧ Wg n (some (ob, true)) [] (pTr E f ob d ts).l tk O) ∧
    (∀ ob u d keys ts, d ≤ 32 → SgE (u :: ts) → (gTr E f ob u d keys ts).e = 0 → ∃ key tk O, u :: ts = (if ob then [(115, key), (58, [])] else []) ++ (tk ++ (gTr E f ob u d keys ts).r) ∧ Wg (32 - d) none key (gTr E f ob u d keys ts).l tk O ∧ (ob = false → key = [])) ∧
    (∀ ob u d keys ts, d ≤ 32 → SgE (u :: ts) → (mTr E f ob u d keys ts).e = 0 → (mTr E f ob u d keys ts).l ≠ [] ∧ ∃ tk O, u :: ts = tk ++ (cls ob, []) :: (mTr E f ob u d keys ts).r ∧ Wg (32 - d) (some (ob, true)) [] (mTr E f ob u d keys ts).l tk O) := by
  intro f
  induction f with
  | zero => exact ⟨fun _ _ _ _ _ _ h => absurd h (by rw [vTr]; decide), fun _ _ _ _ _ h => absurd h (by rw [pTr]; decide), fun _ _ _ _ _ _ _ h => absurd h (by rw [gTr]; decide), fun _ _ _ _ _ _ _ h => absurd h (by rw [mTr]; decide)⟩
  | succ f ih =>
    obtain ⟨iv, ip, ig, im⟩ := ih
    refine ⟨?_, ?_, ?_, ?_⟩
    · intro t key d ts hd hs h
      by_cases h1 : ∃ ob, t.1 = opn ob
      · obtain ⟨ob, h1⟩ := h1
        rw [vTr_open h1] at h ⊢
        rw [wrap_e] at h
        rw [wrap_good h]
        obtain ⟨n, tk, O, en, e1, w1⟩ := ip ob d ts hd hs.tail h
        refine ⟨(opn ob, []) :: (tk ++ [(cls ob, [])]), _, ?_, by rw [en]; exact Wg.node n ob key _ tk O w1⟩
        rw [hs.sign h1 (opn_sign ob)]
        simp only [List.cons_append, List.append_assoc, List.nil_append]
        rw [← e1]
      · by_cases h2 : tSign t.1 = true
        · rw [vTr_bad h2 (fun ob e => h1 ⟨ob, e⟩)] at h
          exact absurd h (by decide)
        · rw [vTr_leaf h2]
          exact ⟨[t], _, rfl, Wg.leaf _ key t h2⟩
    · intro ob d ts hd hs h
      by_cases h1 : d = 32
      · rw [pTr_deep h1] at h; exact absurd h (by decide)
      · match ts with
        | [] => rw [pTr_cut h1] at h; exact absurd h hE
        | u :: ts1 =>
          by_cases h2 : u.1 = cls ob
          · rw [pTr_none h1 h2]
            refine ⟨31 - d, [], [], by omega, ?_, Wg.none _ ob true⟩
            rw [hs.sign h2 (cls_sign ob)]; rfl
          · rw [pTr_some h1 h2] at h ⊢
            obtain ⟨_, tk, O, e1, w1⟩ := im ob u (d + 1) [] ts1 (by omega) hs h
            exact ⟨32 - (d + 1), tk, O, by omega, e1, w1⟩
    · intro ob u d keys ts hd hs h
      cases ob with
      | false =>
        rw [gTr_list] at h ⊢
        obtain ⟨tk, O, e1, w1⟩ := iv u [] d ts hd hs h
        exact ⟨[], tk, O, e1, w1, fun _ => rfl⟩
      | true =>
        by_cases h1 : u.1 = 115
        · by_cases h2 : u.2 ∈ keys
          · rw [gTr_twice h1 h2] at h; exact absurd h (by decide)
          · match ts with
            | [] => rw [gTr_cut h1 h2] at h; exact absurd h hE
            | c :: ts1 =>
              by_cases h3 : c.1 = 58
              · match ts1 with
                | [] => rw [gTr_cut2 h1 h2 h3] at h; exact absurd h hE
                | v :: ts2 =>
                  rw [gTr_some h1 h2 h3] at h ⊢
                  obtain ⟨tk, O, e1, w1⟩ := iv v u.2 d ts2 hd hs.tail.tail h
                  refine ⟨u.2, tk, O, ?_, w1, fun e => by cases e⟩
                  rw [← e1, hs.tail.sign h3 rfl, ← h1]
                  rfl
              · rw [gTr_form h1 h2 h3] at h; exact absurd h (by decide)
        · rw [gTr_kind h1] at h; exact absurd h (by decide)
    · intro ob u d keys ts hd hs h
      by_cases g : (gTr E f ob u d keys ts).e = 0
      · obtain ⟨key, tk, O, e1, w1, hk⟩ := ig ob u d keys ts hd hs g
        match hr : (gTr E f ob u d keys ts).r with
        | [] => rw [mTr_cut g hr] at h; exact absurd h hE
        | c :: r1 =>
          rw [hr] at e1
          have hs' : SgE (c :: r1) := by rw [e1, ← List.append_assoc] at hs; exact hs.back
          have hpos := wf_pos (wg_wf w1) rfl
          by_cases c1 : c.1 = cls ob
          · rw [mTr_end g hr c1] at h ⊢
            have hw := Wg.cons _ ob true key _ [] tk [] _ _ w1 (Wg.none _ ob false) hk
            rw [List.append_nil, List.append_nil, List.append_nil] at hw
            refine ⟨fun e => ?_, _, _, ?_, hw⟩
            · simp only at e; rw [e] at hpos; exact absurd hpos (by decide)
            · rw [e1, hs'.sign c1 (cls_sign ob)]; simp
          · by_cases c2 : c.1 = 44
            · match r1 with
              | [] => rw [mTr_cut2 g hr c1 c2] at h; exact absurd h hE
              | u2 :: r2 =>
                rw [mTr_more g hr c1 c2] at h ⊢
                rw [front_e] at h
                rw [front_good _ h]
                obtain ⟨n2, tk2, O2, e2, w2⟩ := im ob u2 d (addK ob keys u) r2 hd hs'.tail h
                have hw := Wg.cons _ ob true key _ _ tk _ _ _ w1 (wg_comma w2 n2) hk
                refine ⟨fun e => ?_, _, _, ?_, hw⟩
                · simp only at e
                  exact n2 (List.append_eq_nil_iff.mp e).2
                · rw [e1, hs'.sign c2 rfl, e2]; simp
            · rw [mTr_form g hr c1 c2] at h; exact absurd h (by decide)
      · rw [mTr_bad g] at h; exact absurd h g
/-- A text that was read as a tree: what a writer has to be told of it. -/
theorem rdT_wg {ts : List TK} {la : Option Int} (hs : SgE ts) (h : (rdT ts la).2 = 0) : ∃ O, Wg 32 none [] (rdT ts la).1 ts O := by
  unfold rdT at h ⊢
  match ts with
  | [] => exact absurd h (eE_ne la)
  | t :: ts1 =>
    simp only at h ⊢
    by_cases h1 : (vTr (eE la) (4 * ts1.length + 2) t [] 0 ts1).e = 0
    · rw [if_pos h1] at h ⊢
      by_cases h2 : (vTr (eE la) (4 * ts1.length + 2) t [] 0 ts1).r = [] ∧ la = some 0
      · rw [if_pos h2] at h ⊢
        obtain ⟨tk, O, e1, w1⟩ := (tr_wg (eE_ne la) _).1 t [] 0 ts1 (by omega) hs h1
        rw [h2.1, List.append_nil] at e1
        rw [e1]
        exact ⟨O, w1⟩
      · rw [if_neg h2] at h; exact absurd h (by decide)
    · rw [if_neg h1] at h; exact absurd h h1

/-- What a reader tells of X, that begins with these tokens (then it tells L, and what is behind), or is cut off within them; or a key came twice. -/
structure Rs (E : Int) (tk : List TK) (L : List ND) (X : List TK) (R : TRs) : Prop where
  all : ∀ rest, X = tk ++ rest → R = ⟨L, rest, 0⟩ ∨ R.e = 8
  cut : ∀ q, q ≠ [] → tk = X ++ q → R.e = E ∨ R.e = 8
/-- What stands behind a part. -/
def aTr (E : Int) (f : Nat) (ob : Bool) (u : TK) (d : Nat) (keys : List (List UInt8)) (G : List ND) : List TK → TRs
  | [] => ⟨[], [], E⟩
  | c :: r1 => if c.1 = cls ob then ⟨G, r1, 0⟩ else if c.1 = 44 then (match r1 with
    | [] => ⟨[], [], E⟩
    | u2 :: r2 => (mTr E f ob u2 d (addK ob keys u) r2).front G) else ⟨[], [], 3⟩
theorem mTr_eq {E : Int} {f : Nat} {ob : Bool} {u : TK} {d : Nat} {keys : List (List UInt8)} {ts : List TK} : mTr E (f + 1) ob u d keys ts = if (gTr E f ob u d keys ts).e = 0 then aTr E f ob u d keys (gTr E f ob u d keys ts).l (gTr E f ob u d keys ts).r else ⟨[], [], (gTr E f ob u d keys ts).e⟩ := by
  rw [mTr.eq_def]
  simp only
  split
  · unfold aTr
    rename_i h
    generalize (gTr E f ob u d keys ts).r = r
    cases r with
    | nil => rfl
    | cons c r1 =>
      simp only
      cases r1 <;> rfl
  · rfl
section
variable {E : Int} {f : Nat} {ob : Bool} {u : TK} {d : Nat} {keys : List (List UInt8)} {G : List ND} {c u2 : TK} {r1 : List TK}
theorem aTr_end (hc : c.1 = cls ob) : aTr E f ob u d keys G (c :: r1) = ⟨G, r1, 0⟩ := by simp only [aTr, if_pos hc]
theorem aTr_cut (hc : ¬ c.1 = cls ob) (h : c.1 = 44) : aTr E f ob u d keys G [c] = ⟨[], [], E⟩ := by simp only [aTr, if_neg hc, if_pos h]
theorem aTr_more (hc : ¬ c.1 = cls ob) (h : c.1 = 44) : aTr E f ob u d keys G (c :: u2 :: r1) = (mTr E f ob u2 d (addK ob keys u) r1).front G := by simp only [aTr, if_neg hc, if_pos h]
end
theorem cls_ne (ob : Bool) : cls ob ≠ 44 := by cases ob <;> decide
theorem cat_cut {A B X q : List TK} (hq : q ≠ []) (h : A ++ B = X ++ q) : (∃ Y, X = A ++ Y ∧ B = Y ++ q) ∨ (∃ p, p ≠ [] ∧ A = X ++ p) := by
  rcases List.append_eq_append_iff.mp h with ⟨Y, e1, e2⟩ | ⟨p, e1, e2⟩
  · exact .inl ⟨Y, e1, e2⟩
  · cases p with
    | nil => exact .inl ⟨[], by rw [e1]; simp, by simpa using e2.symm⟩
    | cons x p => exact .inr ⟨x :: p, by simp, e1⟩
/-- What begins a value. -/
theorem wg_first {n : Nat} {o : Option (Bool × Bool)} {key : List UInt8} {l : List ND} {tk : List TK} {O : List OP} (h : Wg n o key l tk O) : o = none → ∃ x r, tk = x :: r ∧ ∀ ob, x.1 ≠ cls ob := by
  induction h with
  | leaf n key t ht => exact fun _ => ⟨t, [], rfl, fun ob e => ht (by rw [e]; exact cls_sign ob)⟩
  | node n ob key l tk O _ _ => exact fun _ => ⟨_, _, rfl, fun ob2 => by cases ob <;> cases ob2 <;> decide⟩
  | none => intro e; cases e
  | cons => intro e; cases e
section
variable {E : Int} {tk X : List TK} {L G : List ND} {R : TRs}
theorem Rs.nil (h : R.e = E) (ht : tk ≠ []) : Rs E tk L [] R := ⟨fun rest e => absurd (List.append_eq_nil_iff.mp e.symm).1 ht, fun _ _ _ => .inl h⟩
theorem Rs.cons (h : Rs E tk L X R) (c : TK) : Rs E (c :: tk) L (c :: X) R := ⟨fun rest e => h.all rest (List.cons.inj e).2, fun q hq e => h.cut q hq (List.cons.inj e).2⟩
theorem Rs.other {x c : TK} (h : x ≠ c) : Rs E (c :: tk) L (x :: X) R := ⟨fun rest e => absurd (List.cons.inj e).1 h, fun q _ e => absurd (List.cons.inj e).1.symm h⟩
theorem Rs.twice (h : R.e = 8) : Rs E tk L X R := ⟨fun _ _ => .inr h, fun _ _ _ => .inr h⟩
theorem Rs.front (h : Rs E tk L X R) : Rs E tk (G ++ L) X (R.front G) := ⟨fun rest e => (h.all rest e).imp (fun e => by rw [e]; rfl) (fun e => by rw [front_e]; exact e), fun q hq e => by rw [front_e]; exact h.cut q hq e⟩
theorem Rs.wrap (h : Rs E tk L X R) (k : UInt8) (key : List UInt8) : Rs E tk ((k, key, [], L.length + 1) :: L) X (R.wrap k key) := ⟨fun rest e => (h.all rest e).imp (fun e => by rw [e]; rfl) (fun e => by rw [wrap_e]; exact e), fun q hq e => by rw [wrap_e]; exact h.cut q hq e⟩
theorem Rs.done : Rs E [] L X ⟨L, X, 0⟩ := ⟨fun rest e => .inl (by rw [e]; rfl), fun q hq e => absurd (List.append_eq_nil_iff.mp e.symm).2 hq⟩
end
/-- One part, and those behind it. -/
theorem rd_part {E : Int} (hE : E ≠ 0) {n : Nat} {ob : Bool} {key : List UInt8} {l1 l2 : List ND} {k1 k2 : List TK} (hk1 : ∃ x r, k1 = x :: r)
    (I1 : ∀ t tk' d X f, k1 = t :: tk' → d + n ≤ 32 → 4 * X.length + 2 ≤ f → Rs E tk' l1 X (vTr E f t key d X))
    (I2 : ∀ u d keys G X f, d + n ≤ 32 → 4 * X.length ≤ f + 4 → Rs E (k2 ++ [(cls ob, [])]) (G ++ l2) X (aTr E f ob u d keys G X)) (hk : ob = false → key = []) :
    ∀ u tkr d keys Y f, (if ob then [((115 : UInt8), key), (58, [])] else []) ++ k1 = u :: tkr → d + n ≤ 32 → 4 * Y.length + 4 ≤ f → Rs E (tkr ++ (k2 ++ [(cls ob, [])])) (l1 ++ l2) Y (mTr E f ob u d keys Y) := by
  intro u tkr d keys Y f hu hd hf
  obtain ⟨f1, rfl⟩ : ∃ g, f = g + 2 := ⟨f - 2, by omega⟩
  have hG : Rs E tkr l1 Y (gTr E (f1 + 1) ob u d keys Y) := by
    cases ob with
    | false =>
      rw [gTr_list]
      have := I1 u tkr d Y f1 (by simpa using hu) hd (by omega)
      rw [hk rfl] at this; exact this
    | true =>
      obtain ⟨v, k1', rfl⟩ := hk1
      simp only [if_true, List.cons_append, List.nil_append, List.cons.injEq] at hu
      obtain ⟨rfl, rfl⟩ := hu
      by_cases h2 : key ∈ keys
      · rw [gTr_twice rfl h2]; exact .twice rfl
      · match Y, hf with
        | [], _ => rw [gTr_cut rfl h2]; exact Rs.nil (tk := (58, []) :: v :: k1') rfl (by simp)
        | c :: Y1, hf =>
          by_cases hc : c = (58, [])
          · subst hc
            match Y1, hf with
            | [], _ => rw [gTr_cut2 rfl h2 rfl]; exact (Rs.nil (R := ⟨[], [], E⟩) (tk := v :: k1') rfl (by simp)).cons _
            | x :: Y2, hf =>
              rw [gTr_some rfl h2 rfl]
              by_cases hx : x = v
              · subst hx
                exact ((I1 x k1' d Y2 f1 rfl hd (by simp only [List.length_cons] at hf; omega)).cons _).cons _
              · exact (Rs.other hx).cons _
          · exact .other hc
  rw [show f1 + 2 = (f1 + 1) + 1 from rfl, mTr_eq]
  refine ⟨fun rest e => ?_, fun q hq e => ?_⟩
  · rw [List.append_assoc] at e
    rcases hG.all _ e with h | h
    · rw [h, if_pos rfl]
      have hl := congrArg List.length e
      rw [List.length_append] at hl
      exact (I2 u d keys l1 (k2 ++ [(cls ob, [])] ++ rest) (f1 + 1) hd (by omega)).all rest rfl
    · rw [if_neg (by rw [h]; decide)]; exact .inr h
  · rcases cat_cut hq e with ⟨Z, e1, e2⟩ | ⟨p, hp, e1⟩
    · rcases hG.all _ e1 with h | h
      · rw [h, if_pos rfl]
        have hl := congrArg List.length e1
        rw [List.length_append] at hl
        exact (I2 u d keys l1 Z (f1 + 1) hd (by omega)).cut q hq e2
      · rw [if_neg (by rw [h]; decide)]; exact .inr h
    · rcases hG.cut p hp e1 with h | h
      · rw [if_neg (by rw [h]; exact hE)]; exact .inl h
      · rw [if_neg (by rw [h]; decide)]; exact .inr h
theorem parts_first {n : Nat} {ob : Bool} {key : List UInt8} {k1 : List TK} {u : TK} {tkr : List TK} (hk1 : ∃ x r, k1 = x :: r ∧ ∀ ob, x.1 ≠ cls ob) (hu : (if ob then [((115 : UInt8), key), (58, [])] else []) ++ k1 = u :: tkr) : ∀ ob, u.1 ≠ cls ob := by
  obtain ⟨x, r, rfl, hx⟩ := hk1
  cases ob with
  | false => simp only [Bool.false_eq_true, if_false, List.nil_append, List.cons.injEq] at hu; rw [← hu.1]; exact hx
  | true => simp only [if_true, List.cons_append, List.cons.injEq] at hu; rw [← hu.1]; intro ob; show (115 : UInt8) ≠ cls ob; cases ob <;> decide
theorem parts_some {ob : Bool} {key : List UInt8} {k1 : List TK} (hk1 : ∃ x r, k1 = x :: r) : ∃ u tkr, (if ob then [((115 : UInt8), key), (58, [])] else []) ++ k1 = u :: tkr := by
  obtain ⟨x, r, rfl⟩ := hk1
  cases ob with
  | false => exact ⟨x, r, rfl⟩
  | true => exact ⟨_, _, rfl⟩
/-- Reading a tree's tokens, or those ahead of a cut. -/
theorem rd_wg {E : Int} (hE : E ≠ 0) {n : Nat} {o : Option (Bool × Bool)} {key : List UInt8} {l : List ND} {tk : List TK} {O : List OP} (h : Wg n o key l tk O) :
    (o = none → ∀ t tk' d X f, tk = t :: tk' → d + n ≤ 32 → 4 * X.length + 2 ≤ f → Rs E tk' l X (vTr E f t key d X)) ∧
    (∀ ob, o = some (ob, false) → ∀ u d keys G X f, d + n ≤ 32 → 4 * X.length ≤ f + 4 → Rs E (tk ++ [(cls ob, [])]) (G ++ l) X (aTr E f ob u d keys G X)) ∧
    (∀ ob, o = some (ob, true) → (tk = [] ∧ l = []) ∨ ∃ u tkr, tk = u :: tkr ∧ (∀ ob, u.1 ≠ cls ob) ∧ ∀ d keys Y f, d + n ≤ 32 → 4 * Y.length + 4 ≤ f → Rs E (tkr ++ [(cls ob, [])]) l Y (mTr E f ob u d keys Y)) := by
  induction h with
  | leaf n key t ht =>
    refine ⟨fun _ t' tk' d X f e hd hf => ?_, fun ob e => (by cases e), fun ob e => (by cases e)⟩
    obtain ⟨f, rfl⟩ : ∃ g, f = g + 1 := ⟨f - 1, by omega⟩
    simp only [List.cons.injEq] at e
    obtain ⟨rfl, rfl⟩ := e
    rw [vTr_leaf ht]; exact .done
  | node n ob key l tk O hw ih =>
    refine ⟨fun _ t' tk' d X f e hd hf => ?_, fun ob e => (by cases e), fun ob e => (by cases e)⟩
    simp only [List.cons.injEq] at e
    obtain ⟨rfl, rfl⟩ := e
    obtain ⟨f, rfl⟩ : ∃ g, f = g + 2 := ⟨f - 2, by omega⟩
    rw [show f + 2 = (f + 1) + 1 from rfl, vTr_open rfl]
    refine Rs.wrap ?_ _ _
    have hd2 : ¬ d = 32 := by omega
    match X, hf with
    | [], _ => rw [pTr_cut hd2]; exact .nil rfl (by simp)
    | x :: X1, hf =>
      rcases ih.2.2 ob rfl with ⟨rfl, rfl⟩ | ⟨u, tkr, rfl, hu, hr⟩
      · by_cases hx : x = (cls ob, [])
        · subst hx
          rw [pTr_none hd2 rfl]
          exact Rs.cons .done _
        · exact .other hx
      · by_cases hx : x = u
        · subst hx
          rw [pTr_some hd2 (hu ob)]
          exact (hr (d + 1) [] X1 f (by omega) (by simp only [List.length_cons] at hf; omega)).cons _
        · exact .other hx
  | none n ob fst =>
    refine ⟨fun e => (by cases e), fun ob2 e u d keys G X f hd hf => ?_, fun ob2 e => .inl ⟨rfl, rfl⟩⟩
    simp only [Option.some.injEq, Prod.mk.injEq] at e
    obtain ⟨rfl, rfl⟩ := e
    rw [List.append_nil, List.nil_append]
    match X with
    | [] => exact .nil rfl (by simp)
    | c :: r1 =>
      by_cases hc : c = (cls ob, [])
      · subst hc
        rw [aTr_end rfl]
        exact Rs.cons .done _
      · exact .other hc
  | cons n ob fst key l1 l2 k1 k2 O1 O2 h1 h2 hk i1 i2 =>
    have hk1 : ∃ x r, k1 = x :: r ∧ ∀ ob, x.1 ≠ cls ob := wg_first h1 rfl
    have hk1' : ∃ x r, k1 = x :: r := by obtain ⟨x, r, e, _⟩ := hk1; exact ⟨x, r, e⟩
    have hM := rd_part hE hk1' (i1.1 rfl) (i2.2.1 ob rfl) hk
    obtain ⟨u0, tkr0, hu0⟩ := parts_some (ob := ob) (key := key) hk1'
    refine ⟨fun e => (by cases e), fun ob2 e u d keys G X f hd hf => ?_, fun ob2 e => ?_⟩
    · simp only [Option.some.injEq, Prod.mk.injEq] at e
      obtain ⟨rfl, rfl⟩ := e
      simp only [Bool.false_eq_true, if_false]
      rw [← List.append_assoc _ k1, hu0]
      simp only [List.cons_append, List.nil_append, List.append_assoc]
      match X, hf with
      | [], _ => exact .nil rfl (by simp)
      | c :: r1, hf =>
        by_cases hc : c = (44, [])
        · subst hc
          match r1, hf with
          | [], _ =>
            rw [aTr_cut (fun e => cls_ne ob e.symm) rfl]
            exact (Rs.nil (R := ⟨[], [], E⟩) (tk := u0 :: (tkr0 ++ (k2 ++ [(cls ob, [])]))) rfl (by simp)).cons _
          | u2 :: r2, hf =>
            rw [aTr_more (fun e => cls_ne ob e.symm) rfl]
            by_cases hx : u2 = u0
            · subst hx
              exact ((Rs.front (hM u2 tkr0 d (addK ob keys u) r2 f hu0 hd (by simp only [List.length_cons] at hf; omega))).cons _).cons _
            · exact (Rs.other hx).cons _
        · exact .other hc
    · simp only [Option.some.injEq, Prod.mk.injEq] at e
      obtain ⟨rfl, rfl⟩ := e
      refine .inr ⟨u0, tkr0 ++ k2, ?_, parts_first (n := n) hk1 hu0, fun d keys Y f hd hf => ?_⟩
      · simp only [if_true, List.nil_append]
        rw [← List.append_assoc, hu0]; rfl
      · rw [List.append_assoc]
        exact hM u0 tkr0 d keys Y f hu0 hd hf
/-- A text's tokens that are a tree's: it is read, or a key came twice; those ahead of a cut: what is wrong there, or a key came twice. -/
theorem rdT_of {L : List ND} {tk : List TK} {O : List OP} (h : Wg 32 none [] L tk O) : rdT tk (some 0) = (L, 0) ∨ (rdT tk (some 0)).2 = 8 := by
  obtain ⟨t, tk', rfl, _⟩ := wg_first h rfl
  have := ((rd_wg (eE_ne (some 0)) h).1 rfl t tk' 0 tk' (4 * tk'.length + 2) rfl (by omega) (Nat.le_refl _)).all [] (by simp)
  unfold rdT
  simp only
  rcases this with h | h
  · rw [h]; exact .inl (by simp)
  · rw [if_neg (by rw [h]; decide)]; exact .inr h
theorem rdT_cut {L : List ND} {X q : List TK} {O : List OP} {c : Int} (h : Wg 32 none [] L (X ++ q) O) (hq : q ≠ []) (hc : c ≠ 0) : (rdT X (some c)).2 = c ∨ (rdT X (some c)).2 = 8 := by
  have hE : eE (some c) = c := by simp only [eE, if_neg hc]
  unfold rdT
  match X, h with
  | [], h => exact .inl hE
  | t :: X1, h =>
    have := ((rd_wg (eE_ne (some c)) h).1 rfl t (X1 ++ q) 0 X1 (4 * X1.length + 2) rfl (by omega) (Nat.le_refl _)).cut q hq rfl
    simp only
    rw [hE] at this ⊢
    rcases this with h | h
    · rw [if_neg (by rw [h]; exact hc)]; exact .inl h
    · rw [if_neg (by rw [h]; decide)]; exact .inr h

/-- A token, as a value that is no list and no object. -/
theorem tok_val {t : TK} (h : TOk t) (hs : ¬ tSign t.1 = true) (hn : t.1 ≠ 110) (s : WS) : wDo s ⟨t.1, t.2, 0⟩ = s.val (tPut t) := by
  have hv : rVal ⟨t.1, t.2, 0⟩ = tPut t := by
    unfold rVal tPut
    simp only
    rcases h with ⟨h1, _⟩ | ⟨h1, _⟩ | ⟨h1, _⟩ | ⟨h1, h2⟩
    · exact absurd h1 hs
    · rw [if_pos h1, if_pos h1]
    · exact absurd h1 hn
    · rcases h1 with e | e | e <;> rw [e] <;> rfl
  have hk : ¬ t.1 = 123 ∧ ¬ t.1 = 91 ∧ ¬ t.1 = 101 ∧ ¬ t.1 = 107 := by
    rcases h with ⟨h1, _⟩ | ⟨h1, _⟩ | ⟨h1, _⟩ | ⟨h1, h2⟩
    · exact absurd h1 hs
    · rw [h1]; decide
    · exact absurd h1 hn
    · rcases h1 with e | e | e <;> rw [e] <;> decide
  unfold wDo
  simp only
  rw [if_neg hk.1, if_neg hk.2.1, if_neg hk.2.2.1, if_neg hk.2.2.2, hv]
theorem tksB_one {k : UInt8} (hk : tSign k = true) : tksB [(k, [])] = [k] := by simp [tksB, tPut_sign hk]
theorem lst_snoc (c : Int) (o e : List UInt8) (x : UInt8) (a b : Bool) : (⟨c, o, e ++ [x], a, b⟩ : WS).lst = x := by unfold WS.lst; simp
/-- What writing a tree makes. -/
theorem run_wg {n : Nat} {o : Option (Bool × Bool)} {key : List UInt8} {l : List ND} {tk : List TK} {O : List OP} (h : Wg n o key l tk O) : (∀ x ∈ tk, TOk x ∧ x.1 ≠ 110) → ∀ s : WS, s.c = 0 → s.en.length + n ≤ 32 →
    (o = none → s.isO = true → wRun s O = ⟨0, s.out ++ s.cm ++ tksB tk, s.en, true, false⟩) ∧
    (∀ ob fst, o = some (ob, fst) → s.lst = cls ob → s.kd = false → s.sm = !fst → wRun s O = ⟨0, s.out ++ tksB tk, s.en, s.sm || decide (l ≠ []), false⟩) := by
  induction h with
  | leaf n key t ht =>
    intro htk s hc hl
    refine ⟨fun _ ho => ?_, fun ob fst e => (by cases e)⟩
    obtain ⟨h1, h2⟩ := htk t (by simp)
    show wDo s _ = _
    rw [tok_val h1 ht h2, val_ok hc ho]
    simp [tksB]
  | node n ob key l tk O hw ih =>
    intro htk s hc hl
    refine ⟨fun _ ho => ?_, fun ob fst e => (by cases e)⟩
    have h1 : wDo s ⟨opn ob, [], 0⟩ = ⟨0, s.out ++ s.cm ++ [opn ob], s.en ++ [cls ob], false, false⟩ := by
      rw [← beg_ok hc (by omega) ho]
      unfold wDo
      cases ob <;> rfl
    have h2 := (ih (fun x hx => htk x (by simp [hx])) ⟨0, s.out ++ s.cm ++ [opn ob], s.en ++ [cls ob], false, false⟩ rfl (by simp only [List.length_append, List.length_cons, List.length_nil]; omega)).2 ob true rfl (lst_snoc _ _ _ _ _ _) rfl rfl
    show wRun (wDo s ⟨opn ob, [], 0⟩) (O ++ [⟨101, [], 0⟩]) = _
    have h3 : ∀ s : WS, wDo s ⟨101, [], 0⟩ = s.fin := fun s => by unfold wDo; simp
    rw [h1, wRun_snoc, h2, h3]
    rw [fin_ok rfl (by rw [lst_snoc]; simp; cases ob <;> decide), lst_snoc, tksB_cons, tksB_app, tksB_one (cls_sign ob), tPut_sign (opn_sign ob)]
    simp
  | none n ob fst =>
    intro htk s hc hl
    refine ⟨fun e => (by cases e), fun ob2 fst2 e h1 h2 h3 => ?_⟩
    obtain ⟨c, out, en, sm, kd⟩ := s
    simp only at hc h2
    subst hc h2
    simp [wRun, tksB]
  | cons n ob fst key l1 l2 k1 k2 O1 O2 h1 h2 hk i1 i2 =>
    intro htk s hc hl
    refine ⟨fun e => (by cases e), fun ob2 fst2 e hls hkd hsm => ?_⟩
    simp only [Option.some.injEq, Prod.mk.injEq] at e
    obtain ⟨rfl, rfl⟩ := e
    have hl1 : l1 ++ l2 ≠ [] := fun e => by have := wf_pos (wg_wf h1) rfl; rw [(List.append_eq_nil_iff.mp e).1] at this; exact absurd this (by decide)
    have hcm : tksB (if fst then [] else [(44, [])]) = s.cm := by
      unfold WS.cm
      rw [hsm, hkd]
      cases fst
      · exact tksB_one rfl
      · rfl
    have hk1 : ∀ x ∈ k1, TOk x ∧ x.1 ≠ 110 := fun x hx => htk x (by simp [hx])
    have hk2 : ∀ x ∈ k2, TOk x ∧ x.1 ≠ 110 := fun x hx => htk x (by simp [hx])
    have hlst : ∀ (c : Int) (o : List UInt8) (a b : Bool), (⟨c, o, s.en, a, b⟩ : WS).lst = cls ob := fun _ _ _ _ => hls
    rw [wRun_app, wRun_app, tksB_app, tksB_app, tksB_app, hcm, decide_eq_true hl1, Bool.or_true]
    cases ob with
    | false =>
      have ho : s.isO = true := by unfold WS.isO; rw [hls]; rfl
      have e1 := (i1 hk1 s hc hl).1 rfl ho
      have e2 := (i2 hk2 ⟨0, s.out ++ s.cm ++ tksB k1, s.en, true, false⟩ rfl hl).2 false false rfl (hlst _ _ _ _) rfl rfl
      show wRun (wRun s O1) O2 = _
      rw [e1, e2]
      simp [tksB]
    | true =>
      have e0 : wRun s [⟨107, key, 0⟩] = ⟨0, s.out ++ s.cm ++ jText key ++ [58], s.en, s.sm, true⟩ := by
        rw [← key_ok hc (by rw [hls, hkd]; decide) key]; rfl
      have e1 := (i1 hk1 ⟨0, s.out ++ s.cm ++ jText key ++ [58], s.en, s.sm, true⟩ rfl hl).1 rfl (by unfold WS.isO; rw [hlst]; rfl)
      have ecm : (⟨0, s.out ++ s.cm ++ jText key ++ [58], s.en, s.sm, true⟩ : WS).cm = [] := by unfold WS.cm; rw [if_neg (by simp)]
      have e2 := (i2 hk2 ⟨0, s.out ++ s.cm ++ jText key ++ [58] ++ tksB k1, s.en, true, false⟩ rfl hl).2 true false rfl (hlst _ _ _ _) rfl rfl
      have ek : tksB [((115 : UInt8), key), (58, [])] = jText key ++ [58] := by
        rw [tksB_cons, tksB_one rfl]; rfl
      simp only [if_true]
      rw [e0, e1, ecm, List.append_nil, e2, ek]
      simp
/-- A tree without numbers, written. -/
theorem run_tree {L : List ND} {tk : List TK} {O : List OP} (h : Wg 32 none [] L tk O) (ht : ∀ x ∈ tk, TOk x ∧ x.1 ≠ 110) : wRun WS.nw O = ⟨0, tksB tk, [], true, false⟩ := by
  have := (run_wg h ht WS.nw rfl (by simp [WS.nw])).1 rfl rfl
  rw [this]
  simp [WS.nw, WS.cm]
theorem no_num {n : Nat} {o : Option (Bool × Bool)} {key : List UInt8} {l : List ND} {tk : List TK} {O : List OP} (h : Wg n o key l tk O) : (∀ x ∈ l, x.1 ≠ 110) → ∀ t ∈ tk, t.1 ≠ 110 := by
  induction h with
  | leaf n key t ht => intro hx t' ht'; rw [List.mem_singleton.mp ht']; exact hx (t.1, key, t.2, 1) (by simp)
  | node n ob key l tk O _ ih =>
    intro hx t ht
    simp only [List.mem_cons, List.mem_append, List.not_mem_nil, or_false] at ht
    rcases ht with rfl | ht | rfl
    · cases ob <;> decide
    · exact ih (fun x h => hx x (by simp [h])) t ht
    · cases ob <;> decide
  | none => intro _ t ht; simp at ht
  | cons n ob fst key l1 l2 k1 k2 O1 O2 _ _ _ i1 i2 =>
    intro hx t ht
    simp only [List.mem_append] at ht
    rcases ht with ht | ht | ht | ht
    · cases fst <;> simp at ht; rw [ht]; decide
    · cases ob <;> simp at ht; rcases ht with rfl | rfl <;> (first | decide | (show (115 : UInt8) ≠ 110; decide))
    · exact i1 (fun x h => hx x (by simp [h])) t ht
    · exact i2 (fun x h => hx x (by simp [h])) t ht
end Go.Proofs.YtnbhhnkcfbfdcaaGreatDoor
