/- Several texts in one (JrNum, JrTok, JwNum): each begins with its own words. -/
import Derived.Test.YtnbhhnkcfbfdcaaGreatDoorZC
/- Trees over tokens: which tree some tokens are, node by node, or what is wrong first; a tree's own tokens; its kids. Of no program. -/
namespace Go.Proofs.YtnbhhnkcfbfdcaaGreatDoor
open Go Go.RowKit
set_option linter.unusedVariables false

/-- A node: its kind, key, text, size. -/
abbrev ND := UInt8 × List UInt8 × List UInt8 × Nat
/-- Nodes, the tokens that are left, what is wrong. -/
structure TRs where
  l : List ND
  r : List TK
  e : Int
/-- The bytes l are the tokens ts, and behind them la tells what is wrong (some 0: they end; none: it is not told). -/
def SfL : List TK → Option Int → List UInt8 → Prop
  | [], la, l => la = none ∨ ((tNx l).tok.1 = 0 ∧ la = some (tNx l).e)
  | t :: ts, la, l => ((tNx l).e = 0 ∧ (tNx l).tok = t ∧ t.1 ≠ 0) ∧ SfL ts la (l.drop (tNx l).k)
def sfDec : (ts : List TK) → (la : Option Int) → (l : List UInt8) → Decidable (SfL ts la l)
  | [], la, l => inferInstanceAs (Decidable (la = none ∨ ((tNx l).tok.1 = 0 ∧ la = some (tNx l).e)))
  | t :: ts, la, l => match sfDec ts la (l.drop (tNx l).k) with
    | .isTrue h => if h1 : (tNx l).e = 0 ∧ (tNx l).tok = t ∧ t.1 ≠ 0 then .isTrue ⟨h1, h⟩ else .isFalse (fun h2 => h1 h2.1)
    | .isFalse h => .isFalse (fun h2 => h h2.2)
instance (ts : List TK) (la : Option Int) (l : List UInt8) : Decidable (SfL ts la l) := sfDec ts la l
def eE : Option Int → Int
  | none => -1
  | some e => if e = 0 then 1 else e
theorem eE_ne (la : Option Int) : eE la ≠ 0 := by
  cases la with
  | none => decide
  | some e =>
    unfold eE
    by_cases h : e = 0
    · simp only [if_pos h]; decide
    · simp only [if_neg h]; exact h
def tsz : List TK → Nat
  | [] => 0
  | t :: ts => t.2.length + tsz ts
def opn (ob : Bool) : UInt8 := if ob then 123 else 91
def cls (ob : Bool) : UInt8 := if ob then 125 else 93
def TRs.wrap (R : TRs) (k : UInt8) (key : List UInt8) : TRs := if R.e = 0 then ⟨(k, key, [], R.l.length + 1) :: R.l, R.r, 0⟩ else ⟨[], [], R.e⟩
def TRs.front (R : TRs) (l : List ND) : TRs := if R.e = 0 then ⟨l ++ R.l, R.r, 0⟩ else ⟨[], [], R.e⟩
def addK (ob : Bool) (keys : List (List UInt8)) (u : TK) : List (List UInt8) := if ob then keys ++ [u.2] else keys
mutual
/-- The value that begins with t, that was read. -/
def vTr (E : Int) : Nat → TK → List UInt8 → Nat → List TK → TRs
  | 0, _, _, _, _ => ⟨[], [], 1⟩
  | f + 1, t, key, d, ts =>
    if t.1 = 91 then (pTr E f false d ts).wrap 91 key
    else if t.1 = 123 then (pTr E f true d ts).wrap 123 key
    else if tSign t.1 = true then ⟨[], [], 3⟩ else ⟨[(t.1, key, t.2, 1)], ts, 0⟩
/-- What stands behind the first sign. -/
def pTr (E : Int) : Nat → Bool → Nat → List TK → TRs
  | 0, _, _, _ => ⟨[], [], 1⟩
  | f + 1, ob, d, ts => if d = 32 then ⟨[], [], 33⟩ else match ts with
    | [] => ⟨[], [], E⟩
    | u :: ts1 => if u.1 = cls ob then ⟨[], ts1, 0⟩ else mTr E f ob u (d + 1) [] ts1
/-- A part, that begins with u, that was read. -/
def gTr (E : Int) : Nat → Bool → TK → Nat → List (List UInt8) → List TK → TRs
  | 0, _, _, _, _, _ => ⟨[], [], 1⟩
  | f + 1, ob, u, d, keys, ts =>
    if ob = false then vTr E f u [] d ts
    else if u.1 = 115 then (if u.2 ∈ keys then ⟨[], [], 8⟩ else match ts with
      | [] => ⟨[], [], E⟩
      | c :: ts1 => if c.1 = 58 then (match ts1 with
        | [] => ⟨[], [], E⟩
        | v :: ts2 => vTr E f v u.2 d ts2) else ⟨[], [], 3⟩)
    else ⟨[], [], 3⟩
/-- The parts from the one on that begins with u, that was read. -/
def mTr (E : Int) : Nat → Bool → TK → Nat → List (List UInt8) → List TK → TRs
  | 0, _, _, _, _, _ => ⟨[], [], 1⟩
  | f + 1, ob, u, d, keys, ts =>
    if (gTr E f ob u d keys ts).e = 0 then (match (gTr E f ob u d keys ts).r with
      | [] => ⟨[], [], E⟩
      | c :: r1 => if c.1 = cls ob then ⟨(gTr E f ob u d keys ts).l, r1, 0⟩ else if c.1 = 44 then (match r1 with
        | [] => ⟨[], [], E⟩
        | u2 :: r2 => (mTr E f ob u2 d (addK ob keys u) r2).front (gTr E f ob u d keys ts).l) else ⟨[], [], 3⟩)
    else ⟨[], [], (gTr E f ob u d keys ts).e⟩
end

theorem cls_sign (ob : Bool) : tSign (cls ob) = true := by cases ob <;> rfl
theorem opn_sign (ob : Bool) : tSign (opn ob) = true := by cases ob <;> rfl
section ways
variable {E : Int} {f : Nat} {t u : TK} {key : List UInt8} {d : Nat} {ts : List TK} {ob : Bool} {keys : List (List UInt8)}
theorem vTr_open (h : t.1 = opn ob) : vTr E (f + 1) t key d ts = (pTr E f ob d ts).wrap (opn ob) key := by
  cases ob
  · have h1 : t.1 = 91 := h
    rw [vTr, if_pos h1]; rfl
  · have h1 : t.1 = 123 := h
    rw [vTr, if_neg (by rw [h1]; decide), if_pos h1]; rfl
theorem vTr_bad (h : tSign t.1 = true) (h1 : ∀ ob, t.1 ≠ opn ob) : vTr E (f + 1) t key d ts = ⟨[], [], 3⟩ := by
  rw [vTr, if_neg (show ¬ t.1 = 91 from h1 false), if_neg (show ¬ t.1 = 123 from h1 true), if_pos h]
theorem vTr_leaf (h : ¬ tSign t.1 = true) : vTr E (f + 1) t key d ts = ⟨[(t.1, key, t.2, 1)], ts, 0⟩ := by
  rw [vTr, if_neg (fun e => h (by rw [e]; rfl)), if_neg (fun e => h (by rw [e]; rfl)), if_neg h]
theorem pTr_deep (h : d = 32) : pTr E (f + 1) ob d ts = ⟨[], [], 33⟩ := by rw [pTr.eq_def]; simp only [if_pos h]
theorem pTr_cut (h : ¬ d = 32) : pTr E (f + 1) ob d [] = ⟨[], [], E⟩ := by rw [pTr.eq_def]; simp only [if_neg h]
theorem pTr_none (h : ¬ d = 32) (hu : u.1 = cls ob) : pTr E (f + 1) ob d (u :: ts) = ⟨[], ts, 0⟩ := by rw [pTr.eq_def]; simp only [if_neg h, if_pos hu]
theorem pTr_some (h : ¬ d = 32) (hu : ¬ u.1 = cls ob) : pTr E (f + 1) ob d (u :: ts) = mTr E f ob u (d + 1) [] ts := by rw [pTr.eq_def]; simp only [if_neg h, if_neg hu]
theorem gTr_list : gTr E (f + 1) false u d keys ts = vTr E f u [] d ts := by rw [gTr.eq_def]; rfl
theorem gTr_kind (hu : ¬ u.1 = 115) : gTr E (f + 1) true u d keys ts = ⟨[], [], 3⟩ := by rw [gTr.eq_def]; simp [hu]
theorem gTr_twice (hu : u.1 = 115) (hk : u.2 ∈ keys) : gTr E (f + 1) true u d keys ts = ⟨[], [], 8⟩ := by rw [gTr.eq_def]; simp [hu, hk]
theorem gTr_cut (hu : u.1 = 115) (hk : ¬ u.2 ∈ keys) : gTr E (f + 1) true u d keys [] = ⟨[], [], E⟩ := by rw [gTr.eq_def]; simp [hu, hk]
theorem gTr_form {c : TK} (hu : u.1 = 115) (hk : ¬ u.2 ∈ keys) (hc : ¬ c.1 = 58) : gTr E (f + 1) true u d keys (c :: ts) = ⟨[], [], 3⟩ := by rw [gTr.eq_def]; simp [hu, hk, hc]
theorem gTr_cut2 {c : TK} (hu : u.1 = 115) (hk : ¬ u.2 ∈ keys) (hc : c.1 = 58) : gTr E (f + 1) true u d keys [c] = ⟨[], [], E⟩ := by rw [gTr.eq_def]; simp [hu, hk, hc]
theorem gTr_some {c v : TK} (hu : u.1 = 115) (hk : ¬ u.2 ∈ keys) (hc : c.1 = 58) : gTr E (f + 1) true u d keys (c :: v :: ts) = vTr E f v u.2 d ts := by rw [gTr.eq_def]; simp [hu, hk, hc]
theorem mTr_bad (h : ¬ (gTr E f ob u d keys ts).e = 0) : mTr E (f + 1) ob u d keys ts = ⟨[], [], (gTr E f ob u d keys ts).e⟩ := by rw [mTr.eq_def]; simp only [if_neg h]
theorem mTr_cut (h : (gTr E f ob u d keys ts).e = 0) (hr : (gTr E f ob u d keys ts).r = []) : mTr E (f + 1) ob u d keys ts = ⟨[], [], E⟩ := by rw [mTr.eq_def]; simp only [if_pos h]; rw [hr]
theorem mTr_end {c : TK} {r1 : List TK} (h : (gTr E f ob u d keys ts).e = 0) (hr : (gTr E f ob u d keys ts).r = c :: r1) (hc : c.1 = cls ob) : mTr E (f + 1) ob u d keys ts = ⟨(gTr E f ob u d keys ts).l, r1, 0⟩ := by rw [mTr.eq_def]; simp only [if_pos h]; rw [hr]; simp only [if_pos hc]
theorem mTr_form {c : TK} {r1 : List TK} (h : (gTr E f ob u d keys ts).e = 0) (hr : (gTr E f ob u d keys ts).r = c :: r1) (hc : ¬ c.1 = cls ob) (hc2 : ¬ c.1 = 44) : mTr E (f + 1) ob u d keys ts = ⟨[], [], 3⟩ := by rw [mTr.eq_def]; simp only [if_pos h]; rw [hr]; simp only [if_neg hc, if_neg hc2]
theorem mTr_cut2 {c : TK} (h : (gTr E f ob u d keys ts).e = 0) (hr : (gTr E f ob u d keys ts).r = [c]) (hc : ¬ c.1 = cls ob) (hc2 : c.1 = 44) : mTr E (f + 1) ob u d keys ts = ⟨[], [], E⟩ := by rw [mTr.eq_def]; simp only [if_pos h]; rw [hr]; simp only [if_neg hc, if_pos hc2]
theorem mTr_more {c u2 : TK} {r2 : List TK} (h : (gTr E f ob u d keys ts).e = 0) (hr : (gTr E f ob u d keys ts).r = c :: u2 :: r2) (hc : ¬ c.1 = cls ob) (hc2 : c.1 = 44) : mTr E (f + 1) ob u d keys ts = (mTr E f ob u2 d (addK ob keys u) r2).front (gTr E f ob u d keys ts).l := by rw [mTr.eq_def]; simp only [if_pos h]; rw [hr]; simp only [if_neg hc, if_pos hc2]
theorem wrap_good {R : TRs} {k : UInt8} (h : R.e = 0) : R.wrap k key = ⟨(k, key, [], R.l.length + 1) :: R.l, R.r, 0⟩ := by unfold TRs.wrap; rw [if_pos h]
theorem wrap_bad {R : TRs} {k : UInt8} (h : ¬ R.e = 0) : R.wrap k key = ⟨[], [], R.e⟩ := by unfold TRs.wrap; rw [if_neg h]
theorem wrap_e (R : TRs) (k : UInt8) : (R.wrap k key).e = R.e := by
  by_cases h : R.e = 0
  · rw [wrap_good h, h]
  · rw [wrap_bad h]
theorem front_e (R : TRs) (l : List ND) : (R.front l).e = R.e := by
  unfold TRs.front
  by_cases h : R.e = 0
  · rw [if_pos h, h]
  · rw [if_neg h]
theorem front_good {R : TRs} (l : List ND) (h : R.e = 0) : R.front l = ⟨l ++ R.l, R.r, 0⟩ := by unfold TRs.front; rw [if_pos h]
end ways

/-- Nodes and the tokens that they are: of a value (none), or of parts (of a list or an object; is a comma ahead of the first one?). -/
inductive Wf : Option (Bool × Bool) → List UInt8 → List ND → List TK → Prop
  | leaf (key : List UInt8) (t : TK) : ¬ tSign t.1 = true → Wf none key [(t.1, key, t.2, 1)] [t]
  | node (ob : Bool) (key : List UInt8) (l : List ND) (tk : List TK) : Wf (some (ob, true)) [] l tk → Wf none key ((opn ob, key, [], l.length + 1) :: l) ((opn ob, []) :: (tk ++ [(cls ob, [])]))
  | none (ob fst : Bool) : Wf (some (ob, fst)) [] [] []
  | cons (ob fst : Bool) (key : List UInt8) (l1 l2 : List ND) (k1 k2 : List TK) : Wf none key l1 k1 → Wf (some (ob, false)) [] l2 k2 → (ob = false → key = []) →
      Wf (some (ob, fst)) [] (l1 ++ l2) ((if fst then [] else [(44, [])]) ++ ((if ob then [(115, key), (58, [])] else []) ++ (k1 ++ k2)))
/-- Signs have no text; no text is out of all measure. -/
def SgE (ts : List TK) : Prop := ∀ x ∈ ts, (tSign x.1 = true → x.2 = []) ∧ x.2.length ≤ 1099511627776
theorem SgE.tail {x : TK} {ts : List TK} (h : SgE (x :: ts)) : SgE ts := fun y hy => h y (List.mem_cons_of_mem _ hy)
theorem SgE.sign {x : TK} {ts : List TK} (h : SgE (x :: ts)) {k : UInt8} (hk : x.1 = k) (hs : tSign k = true) : x = (k, []) := by
  have := (h x List.mem_cons_self).1 (by rw [hk]; exact hs)
  rw [← hk, ← this]
theorem SgE.back {x : List TK} {ts : List TK} (h : SgE (x ++ ts)) : SgE ts := fun y hy => h y (List.mem_append_right _ hy)
theorem wf_pos {o : Option (Bool × Bool)} {key : List UInt8} {l : List ND} {tk : List TK} (h : Wf o key l tk) : o = none → 0 < l.length := by
  induction h with
  | leaf => intro _; simp
  | node => intro _; simp
  | none => intro e; cases e
  | cons => intro e; cases e
theorem wf_len {o : Option (Bool × Bool)} {key : List UInt8} {l : List ND} {tk : List TK} (h : Wf o key l tk) : l.length ≤ tk.length := by
  induction h with
  | leaf => simp
  | node ob key l tk _ ih => simp only [List.length_cons, List.length_append]; omega
  | none => simp
  | cons ob fst key l1 l2 k1 k2 _ _ _ ih1 ih2 => simp only [List.length_append]; omega
/-- Parts with a comma ahead. -/
theorem wf_comma {ob : Bool} {l : List ND} {tk : List TK} (h : Wf (some (ob, true)) [] l tk) (hl : l ≠ []) : Wf (some (ob, false)) [] l ((44, []) :: tk) := by
  generalize ho : (some (ob, true) : Option (Bool × Bool)) = o at h
  cases h with
  | leaf => cases ho
  | node => cases ho
  | none => exact absurd rfl hl
  | cons ob2 fst key l1 l2 k1 k2 h1 h2 h3 =>
    simp only [Option.some.injEq, Prod.mk.injEq] at ho
    obtain ⟨rfl, rfl⟩ := ho
    exact Wf.cons ob false key l1 l2 k1 k2 h1 h2 h3
/-- What was read is a tree, of just the tokens that were taken. -/
theorem tr_wf {E : Int} (hE : E ≠ 0) : ∀ f : Nat,
    (∀ t key d ts, SgE (t :: ts) → (vTr E f t key d ts).e = 0 → ∃ tk, t :: ts = tk ++ (vTr E f t key d ts).r ∧ Wf none key (vTr E f t key d ts).l tk) ∧
    (∀ ob d ts, SgE ts → (pTr E f ob d ts).e = 0 → ∃ tk, ts = tk ++ (cls ob, []) :: (pTr E f ob d ts).r ∧ Wf (some (ob, true)) [] (pTr E f ob d ts).l tk) ∧
    (∀ ob u d keys ts, SgE (u :: ts) → (gTr E f ob u d keys ts).e = 0 → ∃ key tk, u :: ts = (if ob then [(115, key), (58, [])] else []) ++ (tk ++ (gTr E f ob u d keys ts).r) ∧ Wf none key (gTr E f ob u d keys ts).l tk ∧ (ob = false → key = [])) ∧
    (∀ ob u d keys ts, SgE (u :: ts) → (mTr E f ob u d keys ts).e = 0 → (mTr E f ob u d keys ts).l ≠ [] ∧ ∃ tk, u :: ts = tk ++ (cls ob, []) :: (mTr E f ob u d keys ts).r ∧ Wf (some (ob, true)) [] (mTr E f ob u d keys ts).l tk) := by
  intro f
  induction f with
  | zero => exact ⟨fun _ _ _ _ _ h => absurd h (by rw [vTr]; decide), fun _ _ _ _ h => absurd h (by rw [pTr]; decide), fun _ _ _ _ _ _ h => absurd h (by rw [gTr]; decide), fun _ _ _ _ _ _ h => absurd h (by rw [mTr]; decide)⟩
  | succ f ih =>
    obtain ⟨iv, ip, ig, im⟩ := ih
    refine ⟨?_, ?_, ?_, ?_⟩
    · intro t key d ts hs h
      by_cases h1 : ∃ ob, t.1 = opn ob
      · obtain ⟨ob, h1⟩ := h1
        rw [vTr_open h1] at h ⊢
        rw [wrap_e] at h
        rw [wrap_good h]
        obtain ⟨tk, e1, w1⟩ := ip ob d ts hs.tail h
        refine ⟨(opn ob, []) :: (tk ++ [(cls ob, [])]), ?_, Wf.node ob key _ tk w1⟩
        rw [hs.sign h1 (opn_sign ob)]
        simp only [List.cons_append, List.append_assoc, List.nil_append]
        rw [← e1]
      · by_cases h2 : tSign t.1 = true
        · rw [vTr_bad h2 (fun ob e => h1 ⟨ob, e⟩)] at h
          exact absurd h (by decide)
        · rw [vTr_leaf h2]
          exact ⟨[t], rfl, Wf.leaf key t h2⟩
    · intro ob d ts hs h
      by_cases h1 : d = 32
      · rw [pTr_deep h1] at h; exact absurd h (by decide)
      · match ts with
        | [] => rw [pTr_cut h1] at h; exact absurd h hE
        | u :: ts1 =>
          by_cases h2 : u.1 = cls ob
          · rw [pTr_none h1 h2]
            refine ⟨[], ?_, Wf.none ob true⟩
            rw [hs.sign h2 (cls_sign ob)]; rfl
          · rw [pTr_some h1 h2] at h ⊢
            exact (im ob u (d + 1) [] ts1 hs h).2
    · intro ob u d keys ts hs h
      cases ob with
      | false =>
        rw [gTr_list] at h ⊢
        obtain ⟨tk, e1, w1⟩ := iv u [] d ts hs h
        exact ⟨[], tk, e1, w1, fun _ => rfl⟩
      | true =>
        by_cases h1 : u.1 = 115
        · by_cases h2 : u.2 ∈ keys
          · rw [gTr_twice h1 h2] at h; exact absurd h (by decide)
          · match ts with
            | [] => rw [gTr_cut h1 h2] at h; exact absurd h hE
            | c :: ts1 =>
              by_cases h3 : c.1 = 58
              · match ts1 with
                | [] => rw [gTr_cut2 h1 h2 h3] at h; exact absurd h hE
                | v :: ts2 =>
                  rw [gTr_some h1 h2 h3] at h ⊢
                  obtain ⟨tk, e1, w1⟩ := iv v u.2 d ts2 hs.tail.tail h
                  refine ⟨u.2, tk, ?_, w1, fun e => by cases e⟩
                  rw [← e1, hs.tail.sign h3 rfl, ← h1]
                  rfl
              · rw [gTr_form h1 h2 h3] at h; exact absurd h (by decide)
        · rw [gTr_kind h1] at h; exact absurd h (by decide)
    · intro ob u d keys ts hs h
      by_cases g : (gTr E f ob u d keys ts).e = 0
      · obtain ⟨key, tk, e1, w1, hk⟩ := ig ob u d keys ts hs g
        match hr : (gTr E f ob u d keys ts).r with
        | [] => rw [mTr_cut g hr] at h; exact absurd h hE
        | c :: r1 =>
          rw [hr] at e1
          have hs' : SgE (c :: r1) := by rw [e1, ← List.append_assoc] at hs; exact hs.back
          have hpos := wf_pos w1 rfl
          by_cases c1 : c.1 = cls ob
          · rw [mTr_end g hr c1] at h ⊢
            have hw := Wf.cons ob true key _ [] tk [] w1 (Wf.none ob false) hk
            rw [List.append_nil, List.append_nil] at hw
            refine ⟨fun e => ?_, _, ?_, hw⟩
            · simp only at e; rw [e] at hpos; exact absurd hpos (by decide)
            · rw [e1, hs'.sign c1 (cls_sign ob)]; simp
          · by_cases c2 : c.1 = 44
            · match r1 with
              | [] => rw [mTr_cut2 g hr c1 c2] at h; exact absurd h hE
              | u2 :: r2 =>
                rw [mTr_more g hr c1 c2] at h ⊢
                rw [front_e] at h
                rw [front_good _ h]
                obtain ⟨n2, tk2, e2, w2⟩ := im ob u2 d (addK ob keys u) r2 hs'.tail h
                have hw := Wf.cons ob true key _ _ tk _ w1 (wf_comma w2 n2) hk
                refine ⟨fun e => ?_, _, ?_, hw⟩
                · simp only at e
                  exact n2 (List.append_eq_nil_iff.mp e).2
                · rw [e1, hs'.sign c2 rfl, e2]; simp
            · rw [mTr_form g hr c1 c2] at h; exact absurd h (by decide)
      · rw [mTr_bad g] at h; exact absurd h g
theorem gTr_len {E : Int} (hE : E ≠ 0) {f : Nat} {ob : Bool} {u : TK} {d : Nat} {keys : List (List UInt8)} {ts : List TK} (hs : SgE (u :: ts)) (h : (gTr E f ob u d keys ts).e = 0) :
    (gTr E f ob u d keys ts).r.length ≤ ts.length ∧ (gTr E f ob u d keys ts).l.length + (gTr E f ob u d keys ts).r.length ≤ ts.length + 1 ∧ SgE (gTr E f ob u d keys ts).r := by
  obtain ⟨key, tk, e1, w1, _⟩ := (tr_wf hE f).2.2.1 ob u d keys ts hs h
  have h1 := wf_pos w1 rfl
  have h2 := wf_len w1
  have h3 := congrArg List.length e1
  simp only [List.length_append, List.length_cons] at h3
  refine ⟨by omega, by omega, ?_⟩
  rw [e1, ← List.append_assoc] at hs
  exact hs.back
theorem vTr_len {E : Int} (hE : E ≠ 0) {f : Nat} {t : TK} {key : List UInt8} {d : Nat} {ts : List TK} (hs : SgE (t :: ts)) (h : (vTr E f t key d ts).e = 0) :
    (vTr E f t key d ts).r.length ≤ ts.length ∧ (vTr E f t key d ts).l.length + (vTr E f t key d ts).r.length ≤ ts.length + 1 ∧ SgE (vTr E f t key d ts).r := by
  obtain ⟨tk, e1, w1⟩ := (tr_wf hE f).1 t key d ts hs h
  have h1 := wf_pos w1 rfl
  have h2 := wf_len w1
  have h3 := congrArg List.length e1
  simp only [List.length_append, List.length_cons] at h3
  refine ⟨by omega, by omega, ?_⟩
  rw [e1] at hs
  exact hs.back
end Go.Proofs.YtnbhhnkcfbfdcaaGreatDoor
/- Tokens of bytes, and trees' tokens written and read again; what a text's tree is. Of no program. -/
namespace Go.Proofs.YtnbhhnkcfbfdcaaGreatDoor
open Go Go.RowKit
set_option linter.unusedVariables false

theorem tok_sign {x : TK} (h : TOk x) (hs : tSign x.1 = true) : x.2 = [] := by
  rcases h with ⟨_, h⟩ | ⟨h, _⟩ | ⟨h, _⟩ | ⟨h, _⟩
  · exact h
  · rw [h] at hs; exact absurd hs (by decide)
  · rw [h] at hs; exact absurd hs (by decide)
  · rcases h with e | e | e <;> rw [e] at hs <;> exact absurd hs (by decide)
theorem tsz_mem : ∀ {ts : List TK} {x : TK}, x ∈ ts → x.2.length ≤ tsz ts
  | t :: ts, x, h => by
    unfold tsz
    rcases List.mem_cons.mp h with rfl | h
    · omega
    · have := tsz_mem h; omega
theorem sg_of {ts : List TK} (h : ∀ x ∈ ts, TOk x) (hz : tsz ts ≤ 1099511627776) : SgE ts := fun x hx => ⟨fun hs => tok_sign (h x hx) hs, Nat.le_trans (tsz_mem hx) hz⟩
/-- Each text has its tokens. -/
theorem sf_all : ∀ (n : Nat) (l : List UInt8), l.length = n → ∃ ts e, SfL ts (some e) l ∧ ts.length ≤ l.length ∧ tsz ts ≤ l.length ∧ ∀ x ∈ ts, TOk x := by
  intro n
  induction n using Nat.strongRecOn with
  | _ n ih =>
    intro l hn
    by_cases he : (tNx l).e = 0
    · by_cases h0 : (tNx l).tok.1 = 0
      · exact ⟨[], (tNx l).e, .inr ⟨h0, rfl⟩, Nat.zero_le _, Nat.zero_le _, fun x hx => by simp at hx⟩
      · obtain ⟨h1, h2, h3, h4⟩ := tNx_fine he h0
        have hl : (l.drop (tNx l).k).length = l.length - (tNx l).k := List.length_drop
        obtain ⟨ts, e, i1, i2, i3, i4⟩ := ih _ (by omega) (l.drop (tNx l).k) rfl
        refine ⟨(tNx l).tok :: ts, e, ⟨⟨he, rfl, h0⟩, i1⟩, by rw [List.length_cons]; omega, by unfold tsz; omega, fun x hx => ?_⟩
        rcases List.mem_cons.mp hx with rfl | hx
        · exact h4
        · exact i4 x hx
    · exact ⟨[], (tNx l).e, .inr ⟨by rw [tNx_bad he], rfl⟩, Nat.zero_le _, Nat.zero_le _, fun x hx => by simp at hx⟩
theorem sf_len : ∀ (ts : List TK) (la : Option Int) (l : List UInt8), SfL ts la l → ts.length ≤ l.length
  | [], _, _, _ => Nat.zero_le _
  | t :: ts, la, l, h => by
    obtain ⟨⟨h1, h2, h3⟩, h4⟩ := h
    obtain ⟨k1, k2, _⟩ := tNx_fine h1 (by rw [h2]; exact h3)
    have := sf_len ts la _ h4
    rw [List.length_drop] at this
    rw [List.length_cons]; omega
/-- What is read is right. -/
theorem sf_ok : ∀ (ts : List TK) (la : Option Int) (l : List UInt8), SfL ts la l → ∀ x ∈ ts, TOk x
  | [], _, _, _ => fun x hx => by simp at hx
  | t :: ts, la, l, h => fun x hx => by
    obtain ⟨⟨h1, h2, h3⟩, h4⟩ := h
    rcases List.mem_cons.mp hx with rfl | hx
    · rw [← h2]; exact (tNx_fine h1 (by rw [h2]; exact h3)).2.2.2
    · exact sf_ok ts la _ h4 x hx
/-- A sign, and what stands behind it. -/
theorem nx_sign {k : UInt8} (hk : tSign k = true) (R : List UInt8) : tNx (k :: R) = ⟨(k, []), 1, 0⟩ := by
  have hb : tBl k = false := by
    rcases tSign_iff.mp hk with rfl | rfl | rfl | rfl | rfl | rfl <;> rfl
  have h2 : (k :: R).drop (bL (k :: R)) = k :: R := by rw [bl_none hb]; rfl
  rw [tNx_some h2, bl_none hb]
  unfold tBeg
  rw [if_pos hk]
  rfl
theorem sf_sign {k : UInt8} (hk : tSign k = true) {ts : List TK} {la : Option Int} {R : List UInt8} (h : SfL ts la R) : SfL ((k, []) :: ts) la (k :: R) := by
  have hn := nx_sign hk R
  unfold SfL
  rw [hn]
  exact ⟨⟨rfl, rfl, fun e => by simp only at e; rw [e] at hk; exact absurd hk (by decide)⟩, h⟩
theorem sf_tok {x : TK} (hx : TOk x) {ts : List TK} {la : Option Int} {R : List UInt8} (hR : tStop R) (h : SfL ts la R) : SfL (x :: ts) la (tPut x ++ R) := by
  have hn := tNx_again hx (S := []) (R := R) (fun b hb => by simp at hb) hR
  rw [List.nil_append, List.length_nil, Nat.zero_add] at hn
  unfold SfL
  rw [hn]
  refine ⟨⟨rfl, rfl, tOk_kind hx⟩, ?_⟩
  simp only
  rw [List.drop_left' rfl]; exact h
theorem sf_nil : SfL [] (some 0) [] := .inr ⟨rfl, rfl⟩
def tksB (tk : List TK) : List UInt8 := tk.flatMap tPut
theorem tksB_cons (x : TK) (tk : List TK) : tksB (x :: tk) = tPut x ++ tksB tk := rfl
theorem tksB_app (a b : List TK) : tksB (a ++ b) = tksB a ++ tksB b := List.flatMap_append
theorem tPut_sign {k : UInt8} (hk : tSign k = true) : tPut (k, []) = [k] := by
  unfold tPut
  rw [if_neg (by rcases tSign_iff.mp hk with rfl | rfl | rfl | rfl | rfl | rfl <;> decide), if_pos hk]
theorem tStop_sign {k : UInt8} (hk : tSign k = true) (R : List UInt8) : tStop (k :: R) := fun x t e => by rw [← (List.cons.inj e).1]; exact .inr hk
/-- A tree's tokens, written without blanks, are read again, whatever stands behind that ends a number. -/
theorem sf_wf {o : Option (Bool × Bool)} {key : List UInt8} {l : List ND} {tk : List TK} (h : Wf o key l tk) : (∀ x ∈ tk, TOk x) → ∀ (rest : List TK) (la : Option Int) (R : List UInt8), tStop R → SfL rest la R →
    SfL (tk ++ rest) la (tksB tk ++ R) ∧ ((∃ ob, o = some (ob, false)) → tStop (tksB tk ++ R)) := by
  induction h with
  | leaf key t ht =>
    intro hx rest la R hR hs
    refine ⟨?_, fun ⟨_, e⟩ => by cases e⟩
    have := sf_tok (hx t (by simp)) hR hs
    simpa [tksB] using this
  | node ob key l tk _ ih =>
    intro hx rest la R hR hs
    refine ⟨?_, fun ⟨_, e⟩ => by cases e⟩
    have hc := sf_sign (cls_sign ob) hs
    have h1 := (ih (fun x hxx => hx x (by simp [hxx])) ((cls ob, []) :: rest) la (cls ob :: R) (tStop_sign (cls_sign ob) R) hc).1
    have h2 := sf_sign (opn_sign ob) h1
    rw [tksB_cons, tksB_app, tksB_cons, tPut_sign (opn_sign ob), tPut_sign (cls_sign ob)]
    simpa [tksB] using h2
  | none ob fst =>
    intro hx rest la R hR hs
    exact ⟨hs, fun _ => hR⟩
  | cons ob fst key l1 l2 k1 k2 h1 h2 hk ih1 ih2 =>
    intro hx rest la R hR hs
    have hk2 : ∀ x ∈ k2, TOk x := fun x hxx => hx x (by simp [hxx])
    have hk1 : ∀ x ∈ k1, TOk x := fun x hxx => hx x (by simp [hxx])
    obtain ⟨s2, t2⟩ := ih2 hk2 rest la R hR hs
    have s1 := (ih1 hk1 (k2 ++ rest) la (tksB k2 ++ R) (t2 ⟨ob, rfl⟩) s2).1
    have sk : SfL (((if ob then [((115 : UInt8), key), (58, [])] else []) : List TK) ++ (k1 ++ (k2 ++ rest))) la (tksB ((if ob then [((115 : UInt8), key), (58, [])] else []) : List TK) ++ (tksB k1 ++ (tksB k2 ++ R))) := by
      cases ob with
      | false => exact s1
      | true =>
        have hkey : TOk (115, key) := hx (115, key) (by simp)
        have hcol := sf_sign (k := 58) rfl s1
        have := sf_tok hkey (tStop_sign (k := 58) rfl _) hcol
        have e : tksB ((if true then [((115 : UInt8), key), (58, [])] else []) : List TK) = tPut (115, key) ++ [58] := by
          simp [tksB, tPut_sign (k := 58) rfl]
        rw [e]
        simpa using this
    refine ⟨?_, ?_⟩
    · cases fst with
      | true => simpa [tksB_app, List.append_assoc, tksB] using sk
      | false =>
        have := sf_sign (k := 44) rfl sk
        have e : tksB ([(44, [])] : List TK) = [44] := by simp [tksB, tPut_sign (k := 44) rfl]
        simp only [Bool.false_eq_true, if_false]
        rw [tksB_app, tksB_app, tksB_app, e]
        simpa [List.append_assoc] using this
    · rintro ⟨ob2, e2⟩
      simp only [Option.some.injEq, Prod.mk.injEq] at e2
      obtain ⟨_, rfl⟩ := e2
      have e : tksB ([(44, [])] : List TK) = [44] := by simp [tksB, tPut_sign (k := 44) rfl]
      simp only [Bool.false_eq_true, if_false]
      rw [tksB_app, e]
      exact tStop_sign (k := 44) rfl _
/-- What a text's tokens are: a tree, or what is wrong first. -/
def rdT (ts : List TK) (la : Option Int) : List ND × Int := match ts with
  | [] => ([], eE la)
  | t :: ts1 => if (vTr (eE la) (4 * ts1.length + 2) t [] 0 ts1).e = 0 then (if (vTr (eE la) (4 * ts1.length + 2) t [] 0 ts1).r = [] ∧ la = some 0 then ((vTr (eE la) (4 * ts1.length + 2) t [] 0 ts1).l, 0) else ([], 2))
    else ([], (vTr (eE la) (4 * ts1.length + 2) t [] 0 ts1).e)
theorem rdT_bad {ts : List TK} {la : Option Int} (h : ¬ (rdT ts la).2 = 0) : (rdT ts la).1 = [] := by
  unfold rdT at h ⊢
  match ts with
  | [] => rfl
  | t :: ts1 =>
    simp only at h ⊢
    by_cases h1 : (vTr (eE la) (4 * ts1.length + 2) t [] 0 ts1).e = 0
    · rw [if_pos h1] at h ⊢
      by_cases h2 : (vTr (eE la) (4 * ts1.length + 2) t [] 0 ts1).r = [] ∧ la = some 0
      · rw [if_pos h2] at h; exact absurd rfl h
      · rw [if_neg h2]
    · rw [if_neg h1]
theorem rdT_good {ts : List TK} {la : Option Int} (hs : SgE ts) (h : (rdT ts la).2 = 0) : la = some 0 ∧ Wf none [] (rdT ts la).1 ts := by
  unfold rdT at h ⊢
  match ts with
  | [] => exact absurd h (eE_ne la)
  | t :: ts1 =>
    simp only at h ⊢
    by_cases h1 : (vTr (eE la) (4 * ts1.length + 2) t [] 0 ts1).e = 0
    · rw [if_pos h1] at h ⊢
      by_cases h2 : (vTr (eE la) (4 * ts1.length + 2) t [] 0 ts1).r = [] ∧ la = some 0
      · rw [if_pos h2] at h ⊢
        obtain ⟨tk, e1, w1⟩ := (tr_wf (eE_ne la) _).1 t [] 0 ts1 hs h1
        rw [h2.1, List.append_nil] at e1
        rw [e1]
        exact ⟨h2.2, w1⟩
      · rw [if_neg h2] at h; exact absurd h (by decide)
    · rw [if_neg h1] at h; exact absurd h h1
/-- Written without blanks, and read again: the same tokens. -/
theorem rdT_again {ts : List TK} {la : Option Int} (hs : ∀ x ∈ ts, TOk x) (hz : tsz ts ≤ 1099511627776) (h : (rdT ts la).2 = 0) : SfL ts (some 0) (tksB ts) := by
  have h1 := (sf_wf (rdT_good (sg_of hs hz) h).2 hs [] (some 0) [] (fun x t e => by cases e) sf_nil).1
  rw [List.append_nil, List.append_nil] at h1
  exact h1
theorem tksB_len : ∀ ts : List TK, (tksB ts).length ≤ 6 * tsz ts + 5 * ts.length
  | [] => Nat.zero_le _
  | x :: ts => by
    have h1 := tPut_len x
    have ih := tksB_len ts
    rw [tksB_cons, List.length_append, List.length_cons]
    unfold tsz; omega

/-- Sizes of nodes: each is of one at least, and ends where the nodes do, or ahead. -/
def SzOk (l : List ND) : Prop := ∀ i (h : i < l.length), 1 ≤ l[i].2.2.2 ∧ i + l[i].2.2.2 ≤ l.length
theorem wf_head {o : Option (Bool × Bool)} {key : List UInt8} {l : List ND} {tk : List TK} (h : Wf o key l tk) : o = none → ∃ x r, l = x :: r ∧ x.2.2.2 = l.length := by
  induction h with
  | leaf key t _ => exact fun _ => ⟨_, _, rfl, rfl⟩
  | node ob key l tk _ _ => exact fun _ => ⟨_, _, rfl, rfl⟩
  | none => intro e; cases e
  | cons => intro e; cases e
theorem wf_sz {o : Option (Bool × Bool)} {key : List UInt8} {l : List ND} {tk : List TK} (h : Wf o key l tk) : SzOk l := by
  induction h with
  | leaf key t _ =>
    intro i hi
    have : i = 0 := by simpa using hi
    subst this
    exact ⟨Nat.le_refl _, Nat.le_refl _⟩
  | node ob key l tk _ ih =>
    intro i hi
    match i with
    | 0 => exact ⟨by simp, by simp⟩
    | i + 1 =>
      have := ih i (by simpa using hi)
      simp only [List.getElem_cons_succ, List.length_cons]
      omega
  | none => intro i hi; simp at hi
  | cons ob fst key l1 l2 k1 k2 _ _ _ ih1 ih2 =>
    intro i hi
    by_cases h : i < l1.length
    · have := ih1 i h
      rw [List.getElem_append_left h, List.length_append]
      omega
    · have hi2 : i - l1.length < l2.length := by rw [List.length_append] at hi; omega
      have := ih2 (i - l1.length) hi2
      rw [List.getElem_append_right (by omega), List.length_append]
      omega
/-- The places of the kids from k on, ahead of e. -/
def kdL (l : List ND) : Nat → Nat → Nat → List Nat
  | 0, _, _ => []
  | f + 1, k, e => if k < e then k :: kdL l f (k + (l.getD k (0, [], [], 0)).2.2.2) e else []
def kidsL (l : List ND) (at_ : Int) : List Nat := if at_ < 0 ∨ (l.length : Int) ≤ at_ then [] else kdL l l.length (at_.toNat + 1) (at_.toNat + (l.getD at_.toNat (0, [], [], 0)).2.2.2)
end Go.Proofs.YtnbhhnkcfbfdcaaGreatDoor
/- JSON written value by value, over bytes: what a writer makes of what it is told ('wDo', 'wDone'); the same by the document's words ('rDo', 'rDone'); both tell the same. Of no program. -/
namespace Go.Proofs.YtnbhhnkcfbfdcaaGreatDoor
open Go Go.RowKit
set_option linter.unusedVariables false

/-- What a writer is told: its kind, its text, its number. -/
structure OP where
  k : UInt8
  t : List UInt8
  n : Int
/-- A writer: its error, what it wrote, the signs that end what was begun, whether a value stands ahead, whether a key waits. -/
structure WS where
  c : Int
  out : List UInt8
  en : List UInt8
  sm : Bool
  kd : Bool
def WS.nw : WS := ⟨0, [], [], false, false⟩
def WS.bad (s : WS) (c : Int) : WS := ⟨c, [], [], false, false⟩
def WS.lst (s : WS) : UInt8 := s.en.getLastD 0
def WS.isO (s : WS) : Bool := if s.lst = 125 then s.kd else if s.lst = 93 then true else !s.sm
def WS.cm (s : WS) : List UInt8 := if s.sm = true ∧ s.kd = false then [44] else []
/-- What stands ahead of a value is written, if a value may be next. -/
def WS.nxB (s : WS) : Bool := decide (s.c = 0) && s.isO
def WS.nx (s : WS) : WS := if s.c = 0 then (if s.isO = true then ⟨0, s.out ++ s.cm, s.en, true, false⟩ else s.bad 12) else s
def WS.val (s : WS) (v : List UInt8) : WS := if s.nxB = true then ⟨0, s.nx.out ++ v, s.en, true, false⟩ else s.nx
def WS.beg (s : WS) (o c : UInt8) : WS := if s.c = 0 ∧ s.en.length = 32 then s.bad 33 else if s.nxB = true then ⟨0, s.nx.out ++ [o], s.en ++ [c], false, false⟩ else s.nx
def WS.fin (s : WS) : WS := if s.c = 0 then (if s.lst = 0 ∨ s.kd = true then s.bad 12 else ⟨0, s.out ++ [s.lst], s.en.dropLast, true, false⟩) else s
def WS.key (s : WS) (t : List UInt8) : WS := if s.c = 0 then (if s.lst ≠ 125 ∨ s.kd = true then s.bad 12 else ⟨0, s.out ++ s.cm ++ jText t ++ [58], s.en, s.sm, true⟩) else s
/-- The bytes of a value that is no list and no object. -/
def rVal (o : OP) : List UInt8 := if o.k = 115 then jText o.t else if o.k = 110 then Lib.itoa o.n else if o.k = 116 then [116, 114, 117, 101] else if o.k = 102 then [102, 97, 108, 115, 101] else [110, 117, 108, 108]
def wDo (s : WS) (o : OP) : WS := if o.k = 123 then s.beg 123 125 else if o.k = 91 then s.beg 91 93 else if o.k = 101 then s.fin else if o.k = 107 then s.key o.t else s.val (rVal o)
def wDone (s : WS) : List UInt8 × Int := if s.c = 0 then (if s.lst ≠ 0 ∨ s.sm = false then ([], 1) else (s.out, 0)) else ([], s.c)
def wRun (s : WS) (l : List OP) : WS := l.foldl wDo s

/-- The document's writer. -/
structure RfS where
  out : List UInt8
  op : List UInt8
  kd : Bool
  af : Bool
  c : Int
def RfS.nw : RfS := ⟨[], [], false, false, 0⟩
def RfS.bad (r : RfS) (c : Int) : RfS := ⟨r.out, r.op, r.kd, r.af, c⟩
def RfS.lst (r : RfS) : UInt8 := r.op.getLastD 0
def RfS.cm (r : RfS) : List UInt8 := if r.af = true then [44] else []
def oBeg (o : OP) : Bool := decide (o.k = 123) || decide (o.k = 91)
def rDo (r : RfS) (o : OP) : RfS :=
  if r.c = 0 then
    (if o.k = 101 then (if r.op = [] ∨ r.kd = true then r.bad 12 else ⟨r.out ++ [r.lst + 2], r.op.dropLast, false, true, 0⟩)
    else if o.k = 107 then (if r.lst ≠ 123 ∨ r.kd = true then r.bad 12 else ⟨r.out ++ r.cm ++ jText o.t ++ [58], r.op, true, false, 0⟩)
    else if oBeg o = true ∧ 32 ≤ r.op.length then r.bad 33
    else if (r.op = [] ∧ r.out ≠ []) ∨ (r.lst = 123 ∧ r.kd = false) then r.bad 12
    else if oBeg o = true then ⟨r.out ++ r.cm ++ [o.k], r.op ++ [o.k], false, false, 0⟩ else ⟨r.out ++ r.cm ++ rVal o, r.op, false, true, 0⟩)
  else r
def rDone (r : RfS) : List UInt8 × Int := if r.c = 0 then (if r.out = [] ∨ r.op ≠ [] then ([], 1) else (r.out, 0)) else ([], r.c)

/-- What may be begun is known by the sign that ends it. -/
def EnOk (l : List UInt8) : Prop := ∀ x ∈ l, x = 93 ∨ x = 125
theorem lst_in {l : List UInt8} (h : l ≠ []) : l.getLastD 0 ∈ l := by
  rw [List.getLastD_eq_getLast?, List.getLast?_eq_some_getLast h]
  exact List.getLast_mem h
theorem lst_none (s : WS) (h : s.en = []) : s.lst = 0 := by unfold WS.lst; rw [h]; rfl
theorem lst_some {s : WS} (hok : EnOk s.en) (h : s.en ≠ []) : s.lst = 93 ∨ s.lst = 125 := hok _ (lst_in h)
theorem lst_zero {s : WS} (hok : EnOk s.en) : s.lst = 0 ↔ s.en = [] := by
  constructor
  · intro h
    by_cases he : s.en = []
    · exact he
    · rcases lst_some hok he with e | e <;> rw [h] at e <;> exact absurd e (by decide)
  · exact lst_none s
theorem en_bad (s : WS) (c : Int) : EnOk (s.bad c).en := fun x hx => by simp [WS.bad] at hx
theorem en_drop {l : List UInt8} (h : EnOk l) : EnOk l.dropLast := fun x hx => h x (List.dropLast_subset l hx)
theorem en_snoc {l : List UInt8} (h : EnOk l) {c : UInt8} (hc : c = 93 ∨ c = 125) : EnOk (l ++ [c]) := fun x hx => by
  rcases List.mem_append.mp hx with hx | hx
  · exact h x hx
  · rw [List.mem_singleton.mp hx]; exact hc
theorem bad_c (s : WS) (c : Int) : (s.bad c).c = c := rfl
section
variable {s : WS}
theorem nx_err (h : ¬ s.c = 0) : s.nx = s := by unfold WS.nx; rw [if_neg h]
theorem nx_ok (h : s.c = 0) (ho : s.isO = true) : s.nx = ⟨0, s.out ++ s.cm, s.en, true, false⟩ := by unfold WS.nx; rw [if_pos h, if_pos ho]
theorem nx_bad (h : s.c = 0) (ho : ¬ s.isO = true) : s.nx = s.bad 12 := by unfold WS.nx; rw [if_pos h, if_neg ho]
theorem nxB_err (h : ¬ s.c = 0) : s.nxB = false := by unfold WS.nxB; rw [decide_eq_false h]; rfl
theorem nxB_ok (h : s.c = 0) (ho : s.isO = true) : s.nxB = true := by unfold WS.nxB; rw [decide_eq_true h, ho]; rfl
theorem nxB_bad (h : s.c = 0) (ho : ¬ s.isO = true) : s.nxB = false := by unfold WS.nxB; rw [decide_eq_true h, (Bool.not_eq_true _).mp ho]; rfl
theorem val_err (h : ¬ s.c = 0) (v : List UInt8) : s.val v = s := by unfold WS.val; rw [nxB_err h, if_neg (by decide), nx_err h]
theorem val_ok (h : s.c = 0) (ho : s.isO = true) (v : List UInt8) : s.val v = ⟨0, s.out ++ s.cm ++ v, s.en, true, false⟩ := by unfold WS.val; rw [nxB_ok h ho, if_pos rfl, nx_ok h ho]
theorem val_bad (h : s.c = 0) (ho : ¬ s.isO = true) (v : List UInt8) : s.val v = s.bad 12 := by unfold WS.val; rw [nxB_bad h ho, if_neg (by decide), nx_bad h ho]
theorem beg_err (h : ¬ s.c = 0) (o c : UInt8) : s.beg o c = s := by unfold WS.beg; rw [if_neg (fun e => h e.1), nxB_err h, if_neg (by decide), nx_err h]
theorem beg_deep (h : s.c = 0) (hd : s.en.length = 32) (o c : UInt8) : s.beg o c = s.bad 33 := by unfold WS.beg; rw [if_pos ⟨h, hd⟩]
theorem beg_ok (h : s.c = 0) (hd : ¬ s.en.length = 32) (ho : s.isO = true) (o c : UInt8) : s.beg o c = ⟨0, s.out ++ s.cm ++ [o], s.en ++ [c], false, false⟩ := by unfold WS.beg; rw [if_neg (fun e => hd e.2), nxB_ok h ho, if_pos rfl, nx_ok h ho]
theorem beg_bad (h : s.c = 0) (hd : ¬ s.en.length = 32) (ho : ¬ s.isO = true) (o c : UInt8) : s.beg o c = s.bad 12 := by unfold WS.beg; rw [if_neg (fun e => hd e.2), nxB_bad h ho, if_neg (by decide), nx_bad h ho]
theorem fin_err (h : ¬ s.c = 0) : s.fin = s := by unfold WS.fin; rw [if_neg h]
theorem fin_bad (h : s.c = 0) (hb : s.lst = 0 ∨ s.kd = true) : s.fin = s.bad 12 := by unfold WS.fin; rw [if_pos h, if_pos hb]
theorem fin_ok (h : s.c = 0) (hb : ¬ (s.lst = 0 ∨ s.kd = true)) : s.fin = ⟨0, s.out ++ [s.lst], s.en.dropLast, true, false⟩ := by unfold WS.fin; rw [if_pos h, if_neg hb]
theorem key_err (h : ¬ s.c = 0) (t : List UInt8) : s.key t = s := by unfold WS.key; rw [if_neg h]
theorem key_bad (h : s.c = 0) (hb : s.lst ≠ 125 ∨ s.kd = true) (t : List UInt8) : s.key t = s.bad 12 := by unfold WS.key; rw [if_pos h, if_pos hb]
theorem key_ok (h : s.c = 0) (hb : ¬ (s.lst ≠ 125 ∨ s.kd = true)) (t : List UInt8) : s.key t = ⟨0, s.out ++ s.cm ++ jText t ++ [58], s.en, s.sm, true⟩ := by unfold WS.key; rw [if_pos h, if_neg hb]
end
theorem wDo_err {s : WS} (h : ¬ s.c = 0) (o : OP) : wDo s o = s := by
  unfold wDo
  rw [beg_err h, beg_err h, fin_err h, key_err h, val_err h]
  simp only [ite_self]
theorem cm_len (s : WS) : s.cm.length ≤ 1 := by unfold WS.cm; split <;> simp
theorem rcm_len (s : RfS) : s.cm.length ≤ 1 := by unfold RfS.cm; split <;> simp
theorem dec_first {m : Nat} (h : m ≠ 0) : ∃ x t, Lib.decDigits m = x :: t ∧ x ≠ 48 := by
  obtain ⟨x, t, hx⟩ := List.exists_cons_of_ne_nil (dec_ne m)
  refine ⟨x, t, hx, fun e => h (dec_head m ?_)⟩
  rw [hx, List.head?_cons, e]
theorem itoa_split (n : Int) : ∃ sg : List UInt8, (sg = [] ∨ sg = [45]) ∧ Lib.itoa n = sg ++ Lib.decDigits n.natAbs := by
  unfold Lib.itoa
  by_cases h : n < 0
  · rw [if_pos h]; exact ⟨[45], .inr rfl, rfl⟩
  · rw [if_neg h]; exact ⟨[], .inl rfl, by rw [List.nil_append, show n.toNat = n.natAbs by omega]⟩
theorem itoa_ne (n : Int) : Lib.itoa n ≠ [] := by
  obtain ⟨sg, _, e⟩ := itoa_split n
  rw [e]
  exact fun h => dec_ne _ (List.append_eq_nil_iff.mp h).2
theorem rVal_ne (o : OP) : rVal o ≠ [] := by
  unfold rVal
  repeat' split
  · exact fun h => by simp [jText] at h
  · exact itoa_ne _
  · decide
  · decide
  · decide
/-- A number is one that may be. -/
def OpOk (o : OP) : Prop := -9223372036854775808 ≤ o.n ∧ o.n ≤ 9223372036854775807
theorem rVal_len {o : OP} (h : OpOk o) : (rVal o).length ≤ 6 * o.t.length + 21 := by
  have h1 := (jT_len o.t).2
  have h2 := itoa_len o.n h.1 h.2
  unfold rVal
  repeat' split
  · rw [jText_len]; omega
  · omega
  · simp only [List.length_cons, List.length_nil]; omega
  · simp only [List.length_cons, List.length_nil]; omega
  · simp only [List.length_cons, List.length_nil]; omega
theorem wDo_len {s : WS} {o : OP} (h : OpOk o) : (wDo s o).out.length ≤ s.out.length + (6 * o.t.length + 25) := by
  by_cases hc : s.c = 0
  · have h1 := cm_len s
    have h2 := (jT_len o.t).2
    have h3 := rVal_len h
    have hb : ∀ x y, (s.beg x y).out.length ≤ s.out.length + 2 := fun x y => by
      by_cases hd : s.en.length = 32
      · rw [beg_deep hc hd]; simp [WS.bad]
      · by_cases ho : s.isO = true
        · rw [beg_ok hc hd ho]; simp only [List.length_append, List.length_cons, List.length_nil]; omega
        · rw [beg_bad hc hd ho]; simp [WS.bad]
    unfold wDo
    repeat' split
    · have := hb 123 125; omega
    · have := hb 91 93; omega
    · by_cases hf : s.lst = 0 ∨ s.kd = true
      · rw [fin_bad hc hf]; simp [WS.bad]
      · rw [fin_ok hc hf]; simp only [List.length_append, List.length_cons, List.length_nil]; omega
    · by_cases hf : s.lst ≠ 125 ∨ s.kd = true
      · rw [key_bad hc hf]; simp [WS.bad]
      · rw [key_ok hc hf]; simp only [List.length_append, List.length_cons, List.length_nil, jText_len]; omega
    · by_cases ho : s.isO = true
      · rw [val_ok hc ho]; simp only [List.length_append]; omega
      · rw [val_bad hc ho]; simp [WS.bad]
  · rw [wDo_err hc]; omega
theorem rDo_len {s : RfS} {o : OP} (h : OpOk o) : (rDo s o).out.length ≤ s.out.length + (6 * o.t.length + 25) := by
  have h1 := rcm_len s
  have h2 := (jT_len o.t).2
  have h3 := rVal_len h
  unfold rDo
  repeat' split
  all_goals first
    | (simp only [RfS.bad]; omega)
    | (simp only [List.length_append, List.length_cons, List.length_nil, jText_len]; omega)
    | omega
theorem rDo_op {s : RfS} {o : OP} (h : s.op.length ≤ 32) : (rDo s o).op.length ≤ 32 := by
  unfold rDo
  repeat' split
  all_goals first
    | (simp only [RfS.bad]; omega)
    | (simp only [List.length_dropLast]; omega)
    | omega
    | (rename_i h1 _ h2; simp only [List.length_append, List.length_cons, List.length_nil]; simp only [h2, true_and] at h1; omega)
/-- What holds of each writer. -/
structure WOk (s : WS) : Prop where
  en : EnOk s.en
  len : s.en.length ≤ 32
theorem WOk.nw : WOk WS.nw := ⟨fun x hx => by simp [WS.nw] at hx, by simp [WS.nw]⟩
theorem WOk.bad (s : WS) (c : Int) : WOk (s.bad c) := ⟨en_bad s c, by simp [WS.bad]⟩
theorem wDo_ok {s : WS} (o : OP) (h : WOk s) : WOk (wDo s o) := by
  by_cases hc : s.c = 0
  · have hb : ∀ x y, (y = 93 ∨ y = 125) → WOk (s.beg x y) := fun x y hy => by
      by_cases hd : s.en.length = 32
      · rw [beg_deep hc hd]; exact .bad _ _
      · by_cases ho : s.isO = true
        · rw [beg_ok hc hd ho]
          exact ⟨en_snoc h.en hy, by have := h.len; simp only [List.length_append, List.length_cons, List.length_nil]; omega⟩
        · rw [beg_bad hc hd ho]; exact .bad _ _
    unfold wDo
    repeat' split
    · exact hb _ _ (.inr rfl)
    · exact hb _ _ (.inl rfl)
    · by_cases hf : s.lst = 0 ∨ s.kd = true
      · rw [fin_bad hc hf]; exact .bad _ _
      · rw [fin_ok hc hf]; exact ⟨en_drop h.en, by have := h.len; simp only [List.length_dropLast]; omega⟩
    · by_cases hf : s.lst ≠ 125 ∨ s.kd = true
      · rw [key_bad hc hf]; exact .bad _ _
      · rw [key_ok hc hf]; exact ⟨h.en, h.len⟩
    · by_cases ho : s.isO = true
      · rw [val_ok hc ho]; exact ⟨h.en, h.len⟩
      · rw [val_bad hc ho]; exact .bad _ _
  · rw [wDo_err hc]; exact h
/-- The program's writer beside the document's. -/
structure RelW (s : WS) (r : RfS) : Prop where
  c : s.c = r.c
  out : s.c = 0 → r.out = s.out
  op : s.c = 0 → r.op = s.en.map fun x => x - 2
  kd : s.c = 0 → r.kd = s.kd
  af : s.c = 0 → (r.af = true ↔ s.sm = true ∧ s.kd = false)
  top : s.c = 0 → s.en = [] → s.kd = false ∧ (s.sm = true ↔ s.out ≠ [])
theorem RelW.nw : RelW WS.nw RfS.nw := ⟨rfl, fun _ => rfl, fun _ => rfl, fun _ => rfl, fun _ => by simp [WS.nw, RfS.nw], fun _ _ => by simp [WS.nw]⟩
theorem RelW.bad {s : WS} {r : RfS} {c : Int} (h : c ≠ 0) : RelW (s.bad c) (r.bad c) := ⟨rfl, fun e => absurd e h, fun e => absurd e h, fun e => absurd e h, fun e => absurd e h, fun e => absurd e h⟩
theorem map_lst {l : List UInt8} (h : l ≠ []) : (l.map fun x => x - 2).getLastD 0 = l.getLastD 0 - 2 := by
  rw [List.getLastD_eq_getLast?, List.getLastD_eq_getLast?, List.getLast?_map, List.getLast?_eq_some_getLast h]; rfl
theorem rel_do {s : WS} {r : RfS} (o : OP) (hk : WOk s) (h : RelW s r) : RelW (wDo s o) (rDo r o) := by
  by_cases hc : s.c = 0
  · have hr : r.c = 0 := h.c.symm.trans hc
    have h1 := h.out hc
    have h2 := h.op hc
    have h3 := h.kd hc
    have h4 := h.af hc
    have h5 := h.top hc
    have hcm : r.cm = s.cm := by
      unfold RfS.cm WS.cm
      by_cases e : r.af = true
      · rw [if_pos e, if_pos (h4.mp e)]
      · rw [if_neg e, if_neg (fun e2 => e (h4.mpr e2))]
    have hop : r.op = [] ↔ s.en = [] := by rw [h2]; simp
    have hln : r.op.length = s.en.length := by rw [h2, List.length_map]
    have hls : s.en ≠ [] → r.lst = s.lst - 2 := fun e => by unfold RfS.lst WS.lst; rw [h2]; exact map_lst e
    have hl123 : r.lst = 123 ↔ s.lst = 125 := by
      by_cases e : s.en = []
      · rw [lst_none s e]
        have : r.lst = 0 := by unfold RfS.lst; rw [hop.mpr e]; rfl
        rw [this]; decide
      · rw [hls e]
        rcases lst_some hk.en e with e2 | e2 <;> rw [e2] <;> decide
    have hO : s.isO = true ↔ ¬ ((r.op = [] ∧ r.out ≠ []) ∨ (r.lst = 123 ∧ r.kd = false)) := by
      rw [hl123, hop, h1, h3]
      unfold WS.isO
      by_cases e : s.en = []
      · have e0 := lst_none s e
        have e5 := (h5 e).2
        rw [e0, if_neg (by decide), if_neg (by decide)]
        simp only [e, true_and]
        rw [← e5]
        cases s.sm <;> simp
      · simp only [e, false_and, false_or]
        rcases lst_some hk.en e with e2 | e2
        · rw [e2, if_neg (by decide), if_pos rfl]; simp
        · rw [e2, if_pos rfl]; cases s.kd <;> simp
    have hbg : ∀ x y, (x = 123 ∧ y = 125 ∨ x = 91 ∧ y = 93) → o.k = x → RelW (s.beg x y) (rDo r o) := fun x y hxy hx => by
      have hob : oBeg o = true := by unfold oBeg; rw [hx]; rcases hxy with ⟨rfl, _⟩ | ⟨rfl, _⟩ <;> rfl
      have hn : ¬ o.k = 101 ∧ ¬ o.k = 107 := by rw [hx]; rcases hxy with ⟨rfl, _⟩ | ⟨rfl, _⟩ <;> decide
      unfold rDo
      rw [if_pos hr, if_neg hn.1, if_neg hn.2]
      by_cases hd : s.en.length = 32
      · rw [beg_deep hc hd, if_pos ⟨hob, by omega⟩]; exact .bad (by decide)
      · rw [if_neg (fun e => hd (by have := e.2; have := hk.len; omega))]
        by_cases ho : s.isO = true
        · rw [beg_ok hc hd ho, if_neg (hO.mp ho), if_pos hob, hx, h1, hcm]
          refine ⟨rfl, fun _ => rfl, fun _ => ?_, fun _ => rfl, fun _ => by simp, fun _ e => by simp at e⟩
          rw [h2, List.map_append]
          rcases hxy with ⟨rfl, rfl⟩ | ⟨rfl, rfl⟩ <;> rfl
        · rw [beg_bad hc hd ho, if_pos (Decidable.not_not.mp (fun e => ho (hO.mpr e)))]; exact .bad (by decide)
    by_cases k1 : o.k = 123
    · have := hbg 123 125 (.inl ⟨rfl, rfl⟩) k1
      unfold wDo; rw [if_pos k1]; exact this
    · by_cases k2 : o.k = 91
      · have := hbg 91 93 (.inr ⟨rfl, rfl⟩) k2
        unfold wDo; rw [if_neg k1, if_pos k2]; exact this
      · have hob : ¬ oBeg o = true := by unfold oBeg; rw [decide_eq_false k1, decide_eq_false k2]; decide
        unfold wDo rDo
        rw [if_neg k1, if_neg k2, if_pos hr]
        by_cases k3 : o.k = 101
        · rw [if_pos k3, if_pos k3]
          by_cases hf : s.lst = 0 ∨ s.kd = true
          · rw [fin_bad hc hf, if_pos (by rw [hop, h3, ← lst_zero hk.en]; exact hf)]; exact .bad (by decide)
          · have he : s.en ≠ [] := fun e => hf (.inl (lst_none s e))
            rw [fin_ok hc hf, if_neg (by rw [hop, h3, ← lst_zero hk.en]; exact hf), hls he]
            have e2 : s.lst - 2 + 2 = s.lst := by rcases lst_some hk.en he with e | e <;> rw [e] <;> rfl
            rw [e2, h1]
            refine ⟨rfl, fun _ => rfl, fun _ => by rw [h2]; exact (List.map_dropLast).symm, fun _ => rfl, fun _ => by simp, fun _ _ => ⟨rfl, by simp⟩⟩
        · rw [if_neg k3, if_neg k3]
          by_cases k4 : o.k = 107
          · rw [if_pos k4, if_pos k4]
            by_cases hf : s.lst ≠ 125 ∨ s.kd = true
            · rw [key_bad hc hf, if_pos (by rw [h3]; exact hf.imp (fun e e2 => e (hl123.mp e2)) id)]; exact .bad (by decide)
            · rw [key_ok hc hf, if_neg (by rw [h3]; exact fun e => hf (e.imp (fun e e2 => e (hl123.mpr e2)) id)), h1, hcm]
              have hne : s.en ≠ [] := fun e => hf (.inl (by rw [lst_none s e]; decide))
              exact ⟨rfl, fun _ => rfl, fun _ => h2, fun _ => rfl, fun _ => by simp, fun _ e => absurd e hne⟩
          · rw [if_neg k4, if_neg k4, if_neg (fun e => hob e.1)]
            by_cases ho : s.isO = true
            · rw [val_ok hc ho, if_neg (hO.mp ho), if_neg hob, h1, hcm]
              refine ⟨rfl, fun _ => rfl, fun _ => h2, fun _ => rfl, fun _ => by simp, fun _ _ => ⟨rfl, ?_⟩⟩
              simp only [true_iff]
              exact fun e => rVal_ne o (List.append_eq_nil_iff.mp e).2
            · rw [val_bad hc ho, if_pos (Decidable.not_not.mp (fun e => ho (hO.mpr e)))]; exact .bad (by decide)
  · rw [wDo_err hc]
    have hr : ¬ r.c = 0 := fun e => hc (h.c.trans e)
    unfold rDo
    rw [if_neg hr]; exact h
theorem rel_done {s : WS} {r : RfS} (hk : WOk s) (h : RelW s r) : wDone s = rDone r := by
  unfold wDone rDone
  by_cases hc : s.c = 0
  · have hr : r.c = 0 := h.c.symm.trans hc
    have h1 := h.out hc
    have h2 := h.op hc
    have h5 := h.top hc
    have hop : r.op = [] ↔ s.en = [] := by rw [h2]; simp
    rw [if_pos hc, if_pos hr]
    by_cases e : s.en = []
    · have e5 := (h5 e).2
      by_cases e6 : s.sm = false
      · rw [if_pos (.inr e6), if_pos (.inl (by
          rw [h1]
          by_cases e7 : s.out = []
          · exact e7
          · have := e5.mpr e7; rw [e6] at this; cases this))]
      · rw [if_neg (fun e7 => e7.elim (fun e8 => e8 (lst_none s e)) e6), if_neg (fun e7 => e7.elim (fun e8 => e5.mp ((Bool.not_eq_false _).mp e6) (h1 ▸ e8)) (fun e8 => e8 (hop.mpr e))), h1]
    · rw [if_pos (.inl (fun e2 => e ((lst_zero hk.en).mp e2))), if_pos (.inr (fun e2 => e (hop.mp e2)))]
  · rw [if_neg hc, if_neg (fun e => hc (h.c.trans e)), h.c]
/-- How long what is written can be. -/
def opz : List OP → Nat
  | [] => 0
  | o :: l => (6 * o.t.length + 25) + opz l
theorem opz_take : ∀ (l : List OP) (k : Nat), opz (l.take k) ≤ opz l
  | [], k => by simp [opz]
  | o :: l, 0 => by simp [opz]
  | o :: l, k + 1 => by have := opz_take l k; simp only [List.take_succ_cons, opz]; omega
theorem opz_at : ∀ (l : List OP) (k : Nat) (h : k < l.length), opz (l.take k) + (6 * l[k].t.length + 25) = opz (l.take (k + 1))
  | o :: l, 0, _ => by simp [opz]
  | o :: l, k + 1, h => by
    have := opz_at l k (by simpa using h)
    simp only [List.take_succ_cons, opz, List.getElem_cons_succ]; omega
theorem opz_app (a b : List OP) : opz (a ++ b) = opz a + opz b := by
  induction a with
  | nil => simp [opz]
  | cons o a ih => simp only [List.cons_append, opz, ih]; omega
theorem wRun_snoc (s : WS) (l : List OP) (o : OP) : wRun s (l ++ [o]) = wDo (wRun s l) o := by simp [wRun]
theorem wRun_app (s : WS) (l m : List OP) : wRun s (l ++ m) = wRun (wRun s l) m := by simp [wRun]
theorem wRun_take (s : WS) (l : List OP) (k : Nat) (h : k < l.length) : wRun s (l.take (k + 1)) = wDo (wRun s (l.take k)) l[k] := by
  rw [List.take_succ_eq_append_getElem h, wRun_snoc]
def rRun (s : RfS) (l : List OP) : RfS := l.foldl rDo s
theorem rRun_take (s : RfS) (l : List OP) (k : Nat) (h : k < l.length) : rRun s (l.take (k + 1)) = rDo (rRun s (l.take k)) l[k] := by
  rw [List.take_succ_eq_append_getElem h]; unfold rRun; rw [List.foldl_append]; rfl
theorem run_all : ∀ (l : List OP) (s : WS) (r : RfS), WOk s → RelW s r → r.op.length ≤ 32 → (∀ o ∈ l, OpOk o) →
    WOk (wRun s l) ∧ RelW (wRun s l) (rRun r l) ∧ (rRun r l).op.length ≤ 32 ∧ (wRun s l).out.length ≤ s.out.length + opz l ∧ (rRun r l).out.length ≤ r.out.length + opz l
  | [], s, r, h1, h2, h3, _ => ⟨h1, h2, h3, by simp [opz, wRun], by simp [opz, rRun]⟩
  | o :: l, s, r, h1, h2, h3, h4 => by
    have ho := h4 o List.mem_cons_self
    obtain ⟨a, b, c, d, e⟩ := run_all l (wDo s o) (rDo r o) (wDo_ok o h1) (rel_do o h1 h2) (rDo_op h3) (fun x hx => h4 x (List.mem_cons_of_mem _ hx))
    have l1 := wDo_len (s := s) ho
    have l2 := rDo_len (s := r) ho
    refine ⟨a, b, c, ?_, ?_⟩
    · show (wRun (wDo s o) l).out.length ≤ _
      simp only [opz]; omega
    · show (rRun (rDo r o) l).out.length ≤ _
      simp only [opz]; omega
end Go.Proofs.YtnbhhnkcfbfdcaaGreatDoor
