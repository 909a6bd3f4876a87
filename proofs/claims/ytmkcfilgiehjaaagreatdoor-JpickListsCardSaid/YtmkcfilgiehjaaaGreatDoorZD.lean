/- Several texts in one (JrNum, JrTok, Cur, Cur2): each begins with its own words. -/
import Derived.Test.YtmkcfilgiehjaaaGreatDoorZC
import Derived.Test.YtmkcfilgiehjaaaGreatDoorRows
import Derived.Test.YtmkcfilgiehjaaaGreatDoorZA
import Derived.Deep.QuietTactic
import Derived.BigQuiet
import Derived.Handy
import Derived.WalkSpells
import Derived.WalkLawsBesides
/- Trees over tokens: which tree some tokens are, node by node, or what is wrong first; a tree's own tokens; its kids. Of no program. -/
namespace Go.Proofs.YtmkcfilgiehjaaaGreatDoor
open Go Go.RowKit
set_option linter.unusedVariables false

/-- A node: its kind, key, text, size. -/
abbrev ND := UInt8 × List UInt8 × List UInt8 × Nat
/-- Nodes, the tokens that are left, what is wrong. -/
structure TRs where
  l : List ND
  r : List TK
  e : Int
/-- The bytes l are the tokens ts, and behind them la tells what is wrong (some 0: they end; none: it is not told). -/
def SfL : List TK → Option Int → List UInt8 → Prop
  | [], la, l => la = none ∨ ((tNx l).tok.1 = 0 ∧ la = some (tNx l).e)
  | t :: ts, la, l => ((tNx l).e = 0 ∧ (tNx l).tok = t ∧ t.1 ≠ 0) ∧ SfL ts la (l.drop (tNx l).k)
def sfDec : (ts : List TK) → (la : Option Int) → (l : List UInt8) → Decidable (SfL ts la l)
  | [], la, l => inferInstanceAs (Decidable (la = none ∨ ((tNx l).tok.1 = 0 ∧ la = some (tNx l).e)))
  | t :: ts, la, l => match sfDec ts la (l.drop (tNx l).k) with
    | .isTrue h => if h1 : (tNx l).e = 0 ∧ (tNx l).tok = t ∧ t.1 ≠ 0 then .isTrue ⟨h1, h⟩ else .isFalse (fun h2 => h1 h2.1)
    | .isFalse h => .isFalse (fun h2 => h h2.2)
instance (ts : List TK) (la : Option Int) (l : List UInt8) : Decidable (SfL ts la l) := sfDec ts la l
def eE : Option Int → Int
  | none => -1
  | some e => if e = 0 then 1 else e
theorem eE_ne (la : Option Int) : eE la ≠ 0 := by
  cases la with
  | none => decide
  | some e =>
    unfold eE
    by_cases h : e = 0
    · simp only [if_pos h]; decide
    · simp only [if_neg h]; exact h
def tsz : List TK → Nat
  | [] => 0
  | t :: ts => t.2.length + tsz ts
def opn (ob : Bool) : UInt8 := if ob then 123 else 91
def cls (ob : Bool) : UInt8 := if ob then 125 else 93
def TRs.wrap (R : TRs) (k : UInt8) (key : List UInt8) : TRs := if R.e = 0 then ⟨(k, key, [], R.l.length + 1) :: R.l, R.r, 0⟩ else ⟨[], [], R.e⟩
def TRs.front (R : TRs) (l : List ND) : TRs := if R.e = 0 then ⟨l ++ R.l, R.r, 0⟩ else ⟨[], [], R.e⟩
def addK (ob : Bool) (keys : List (List UInt8)) (u : TK) : List (List UInt8) := if ob then keys ++ [u.2] else keys
mutual
/-- The value that begins with t, that was read. -/
def vTr (E : Int) : Nat → TK → List UInt8 → Nat → List TK → TRs
  | 0, _, _, _, _ => ⟨[], [], 1⟩
  | f + 1, t, key, d, ts =>
    if t.1 = 91 then (pTr E f false d ts).wrap 91 key
    else if t.1 = 123 then (pTr E f true d ts).wrap 123 key
    else if tSign t.1 = true then ⟨[], [], 3⟩ else ⟨[(t.1, key, t.2, 1)], ts, 0⟩
/-- What stands behind the first sign. -/
def pTr (E : Int) : Nat → Bool → Nat → List TK → TRs
  | 0, _, _, _ => ⟨[], [], 1⟩
  | f + 1, ob, d, ts => if d = 32 then ⟨[], [], 33⟩ else match ts with
    | [] => ⟨[], [], E⟩
    | u :: ts1 => if u.1 = cls ob then ⟨[], ts1, 0⟩ else mTr E f ob u (d + 1) [] ts1
/-- A part, that begins with u, that was read. -/
def gTr (E : Int) : Nat → Bool → TK → Nat → List (List UInt8) → List TK → TRs
  | 0, _, _, _, _, _ => ⟨[], [], 1⟩
  | f + 1, ob, u, d, keys, ts =>
    if ob = false then vTr E f u [] d ts
    else if u.1 = 115 then (if u.2 ∈ keys then ⟨[], [], 8⟩ else match ts with
      | [] => ⟨[], [], E⟩
      | c :: ts1 => if c.1 = 58 then (match ts1 with
        | [] => ⟨[], [], E⟩
        | v :: ts2 => vTr E f v u.2 d ts2) else ⟨[], [], 3⟩)
    else ⟨[], [], 3⟩
/-- The parts from the one on that begins with u, that was read. -/
def mTr (E : Int) : Nat → Bool → TK → Nat → List (List UInt8) → List TK → TRs
  | 0, _, _, _, _, _ => ⟨[], [], 1⟩
  | f + 1, ob, u, d, keys, ts =>
    if (gTr E f ob u d keys ts).e = 0 then (match (gTr E f ob u d keys ts).r with
      | [] => ⟨[], [], E⟩
      | c :: r1 => if c.1 = cls ob then ⟨(gTr E f ob u d keys ts).l, r1, 0⟩ else if c.1 = 44 then (match r1 with
        | [] => ⟨[], [], E⟩
        | u2 :: r2 => (mTr E f ob u2 d (addK ob keys u) r2).front (gTr E f ob u d keys ts).l) else ⟨[], [], 3⟩)
    else ⟨[], [], (gTr E f ob u d keys ts).e⟩
end

theorem cls_sign (ob : Bool) : tSign (cls ob) = true := by cases ob <;> rfl
theorem opn_sign (ob : Bool) : tSign (opn ob) = true := by cases ob <;> rfl
section ways
variable {E : Int} {f : Nat} {t u : TK} {key : List UInt8} {d : Nat} {ts : List TK} {ob : Bool} {keys : List (List UInt8)}
theorem vTr_open (h : t.1 = opn ob) : vTr E (f + 1) t key d ts = (pTr E f ob d ts).wrap (opn ob) key := by
  cases ob
  · have h1 : t.1 = 91 := h
    rw [vTr, if_pos h1]; rfl
  · have h1 : t.1 = 123 := h
    rw [vTr, if_neg (by rw [h1]; decide), if_pos h1]; rfl
theorem vTr_bad (h : tSign t.1 = true) (h1 : ∀ ob, t.1 ≠ opn ob) : vTr E (f + 1) t key d ts = ⟨[], [], 3⟩ := by
  rw [vTr, if_neg (show ¬ t.1 = 91 from h1 false), if_neg (show ¬ t.1 = 123 from h1 true), if_pos h]
theorem vTr_leaf (h : ¬ tSign t.1 = true) : vTr E (f + 1) t key d ts = ⟨[(t.1, key, t.2, 1)], ts, 0⟩ := by
  rw [vTr, if_neg (fun e => h (by rw [e]; rfl)), if_neg (fun e => h (by rw [e]; rfl)), if_neg h]
theorem pTr_deep (h : d = 32) : pTr E (f + 1) ob d ts = ⟨[], [], 33⟩ := by rw [pTr.eq_def]; simp only [if_pos h]
theorem pTr_cut (h : ¬ d = 32) : pTr E (f + 1) ob d [] = ⟨[], [], E⟩ := by rw [pTr.eq_def]; simp only [if_neg h]
theorem pTr_none (h : ¬ d = 32) (hu : u.1 = cls ob) : pTr E (f + 1) ob d (u :: ts) = ⟨[], ts, 0⟩ := by rw [pTr.eq_def]; simp only [if_neg h, if_pos hu]
theorem pTr_some (h : ¬ d = 32) (hu : ¬ u.1 = cls ob) : pTr E (f + 1) ob d (u :: ts) = mTr E f ob u (d + 1) [] ts := by rw [pTr.eq_def]; simp only [if_neg h, if_neg hu]
theorem gTr_list : gTr E (f + 1) false u d keys ts = vTr E f u [] d ts := by rw [gTr.eq_def]; rfl
theorem gTr_kind (hu : ¬ u.1 = 115) : gTr E (f + 1) true u d keys ts = ⟨[], [], 3⟩ := by rw [gTr.eq_def]; simp [hu]
theorem gTr_twice (hu : u.1 = 115) (hk : u.2 ∈ keys) : gTr E (f + 1) true u d keys ts = ⟨[], [], 8⟩ := by rw [gTr.eq_def]; simp [hu, hk]
theorem gTr_cut (hu : u.1 = 115) (hk : ¬ u.2 ∈ keys) : gTr E (f + 1) true u d keys [] = ⟨[], [], E⟩ := by rw [gTr.eq_def]; simp [hu, hk]
theorem gTr_form {c : TK} (hu : u.1 = 115) (hk : ¬ u.2 ∈ keys) (hc : ¬ c.1 = 58) : gTr E (f + 1) true u d keys (c :: ts) = ⟨[], [], 3⟩ := by rw [gTr.eq_def]; simp [hu, hk, hc]
theorem gTr_cut2 {c : TK} (hu : u.1 = 115) (hk : ¬ u.2 ∈ keys) (hc : c.1 = 58) : gTr E (f + 1) true u d keys [c] = ⟨[], [], E⟩ := by rw [gTr.eq_def]; simp [hu, hk, hc]
theorem gTr_some {c v : TK} (hu : u.1 = 115) (hk : ¬ u.2 ∈ keys) (hc : c.1 = 58) : gTr E (f + 1) true u d keys (c :: v :: ts) = vTr E f v u.2 d ts := by rw [gTr.eq_def]; simp [hu, hk, hc]
theorem mTr_bad (h : ¬ (gTr E f ob u d keys ts).e = 0) : mTr E (f + 1) ob u d keys ts = ⟨[], [], (gTr E f ob u d keys ts).e⟩ := by rw [mTr.eq_def]; simp only [if_neg h]
theorem mTr_cut (h : (gTr E f ob u d keys ts).e = 0) (hr : (gTr E f ob u d keys ts).r = []) : mTr E (f + 1) ob u d keys ts = ⟨[], [], E⟩ := by rw [mTr.eq_def]; simp only [if_pos h]; rw [hr]
theorem mTr_end {c : TK} {r1 : List TK} (h : (gTr E f ob u d keys ts).e = 0) (hr : (gTr E f ob u d keys ts).r = c :: r1) (hc : c.1 = cls ob) : mTr E (f + 1) ob u d keys ts = ⟨(gTr E f ob u d keys ts).l, r1, 0⟩ := by rw [mTr.eq_def]; simp only [if_pos h]; rw [hr]; simp only [if_pos hc]
theorem mTr_form {c : TK} {r1 : List TK} (h : (gTr E f ob u d keys ts).e = 0) (hr : (gTr E f ob u d keys ts).r = c :: r1) (hc : ¬ c.1 = cls ob) (hc2 : ¬ c.1 = 44) : mTr E (f + 1) ob u d keys ts = ⟨[], [], 3⟩ := by rw [mTr.eq_def]; simp only [if_pos h]; rw [hr]; simp only [if_neg hc, if_neg hc2]
theorem mTr_cut2 {c : TK} (h : (gTr E f ob u d keys ts).e = 0) (hr : (gTr E f ob u d keys ts).r = [c]) (hc : ¬ c.1 = cls ob) (hc2 : c.1 = 44) : mTr E (f + 1) ob u d keys ts = ⟨[], [], E⟩ := by rw [mTr.eq_def]; simp only [if_pos h]; rw [hr]; simp only [if_neg hc, if_pos hc2]
theorem mTr_more {c u2 : TK} {r2 : List TK} (h : (gTr E f ob u d keys ts).e = 0) (hr : (gTr E f ob u d keys ts).r = c :: u2 :: r2) (hc : ¬ c.1 = cls ob) (hc2 : c.1 = 44) : mTr E (f + 1) ob u d keys ts = (mTr E f ob u2 d (addK ob keys u) r2).front (gTr E f ob u d keys ts).l := by rw [mTr.eq_def]; simp only [if_pos h]; rw [hr]; simp only [if_neg hc, if_pos hc2]
theorem wrap_good {R : TRs} {k : UInt8} (h : R.e = 0) : R.wrap k key = ⟨(k, key, [], R.l.length + 1) :: R.l, R.r, 0⟩ := by unfold TRs.wrap; rw [if_pos h]
theorem wrap_bad {R : TRs} {k : UInt8} (h : ¬ R.e = 0) : R.wrap k key = ⟨[], [], R.e⟩ := by unfold TRs.wrap; rw [if_neg h]
theorem wrap_e (R : TRs) (k : UInt8) : (R.wrap k key).e = R.e := by
  by_cases h : R.e = 0
  · rw [wrap_good h, h]
  · rw [wrap_bad h]
theorem front_e (R : TRs) (l : List ND) : (R.front l).e = R.e := by
  unfold TRs.front
  by_cases h : R.e = 0
  · rw [if_pos h, h]
  · rw [if_neg h]
theorem front_good {R : TRs} (l : List ND) (h : R.e = 0) : R.front l = ⟨l ++ R.l, R.r, 0⟩ := by unfold TRs.front; rw [if_pos h]
end ways

/-- Nodes and the tokens that they are: of a value (none), or of parts (of a list or an object; is a comma ahead of the first one?). -/
inductive Wf : Option (Bool × Bool) → List UInt8 → List ND → List TK → Prop
  | leaf (key : List UInt8) (t : TK) : ¬ tSign t.1 = true → Wf none key [(t.1, key, t.2, 1)] [t]
  | node (ob : Bool) (key : List UInt8) (l : List ND) (tk : List TK) : Wf (some (ob, true)) [] l tk → Wf none key ((opn ob, key, [], l.length + 1) :: l) ((opn ob, []) :: (tk ++ [(cls ob, [])]))
  | none (ob fst : Bool) : Wf (some (ob, fst)) [] [] []
  | cons (ob fst : Bool) (key : List UInt8) (l1 l2 : List ND) (k1 k2 : List TK) : Wf none key l1 k1 → Wf (some (ob, false)) [] l2 k2 → (ob = false → key = []) →
      Wf (some (ob, fst)) [] (l1 ++ l2) ((if fst then [] else [(44, [])]) ++ ((if ob then [(115, key), (58, [])] else []) ++ (k1 ++ k2)))
/-- Signs have no text; no text is out of all measure. -/
def SgE (ts : List TK) : Prop := ∀ x ∈ ts, (tSign x.1 = true → x.2 = []) ∧ x.2.length ≤ 1099511627776
theorem SgE.tail {x : TK} {ts : List TK} (h : SgE (x :: ts)) : SgE ts := fun y hy => h y (List.mem_cons_of_mem _ hy)
theorem SgE.sign {x : TK} {ts : List TK} (h : SgE (x :: ts)) {k : UInt8} (hk : x.1 = k) (hs : tSign k = true) : x = (k, []) := by
  have := (h x List.mem_cons_self).1 (by rw [hk]; exact hs)
  rw [← hk, ← this]
theorem SgE.back {x : List TK} {ts : List TK} (h : SgE (x ++ ts)) : SgE ts := fun y hy => h y (List.mem_append_right _ hy)
theorem wf_pos {o : Option (Bool × Bool)} {key : List UInt8} {l : List ND} {tk : List TK} (h : Wf o key l tk) : o = none → 0 < l.length := by
  induction h with
  | leaf => intro _; simp
  | node => intro _; simp
  | none => intro e; cases e
  | cons => intro e; cases e
theorem wf_len {o : Option (Bool × Bool)} {key : List UInt8} {l : List ND} {tk : List TK} (h : Wf o key l tk) : l.length ≤ tk.length := by
  induction h with
  | leaf => simp
  | node ob key l tk _ ih => simp only [List.length_cons, List.length_append]; omega
  | none => simp
  | cons ob fst key l1 l2 k1 k2 _ _ _ ih1 ih2 => simp only [List.length_append]; omega
/-- Parts with a comma ahead. -/
theorem wf_comma {ob : Bool} {l : List ND} {tk : List TK} (h : Wf (some (ob, true)) [] l tk) (hl : l ≠ []) : Wf (some (ob, false)) [] l ((44, []) :: tk) := by
  generalize ho : (some (ob, true) : Option (Bool × Bool)) = o at h
  cases h with
  | leaf => cases ho
  | node => cases ho
  | none => exact absurd rfl hl
  | cons ob2 fst key l1 l2 k1 k2 h1 h2 h3 =>
    simp only [Option.some.injEq, Prod.mk.injEq] at ho
    obtain ⟨rfl, rfl⟩ := ho
    exact Wf.cons ob false key l1 l2 k1 k2 h1 h2 h3
/-- What was read is a tree, of just the tokens that were taken. -/
theorem tr_wf {E : Int} (hE : E ≠ 0) : ∀ f : Nat,
    (∀ t key d ts, SgE (t :: ts) → (vTr E f t key d ts).e = 0 → ∃ tk, t :: ts = tk ++ (vTr E f t key d ts).r ∧ Wf none key (vTr E f t key d ts).l tk) ∧
    (∀ ob d ts, SgE ts → (pTr E f ob d ts).e = 0 → ∃ tk, ts = tk ++ (cls ob, []) :: (pTr E f ob d ts).r ∧ Wf (some (ob, true)) [] (pTr E f ob d ts).l tk) ∧
    (∀ ob u d keys ts, SgE (u :: ts) → (gTr E f ob u d keys ts).e = 0 → ∃ key tk, u :: ts = (if ob then [(115, key), (58, [])] else []) ++ (tk ++ (gTr E f ob u d keys ts).r) ∧ Wf none key (gTr E f ob u d keys ts).l tk ∧ (ob = false → key = [])) ∧
    (∀ ob u d keys ts, SgE (u :: ts) → (mTr E f ob u d keys ts).e = 0 → (mTr E f ob u d keys ts).l ≠ [] ∧ ∃ tk, u :: ts = tk ++ (cls ob, []) :: (mTr E f ob u d keys ts).r ∧ Wf (some (ob, true)) [] (mTr E f ob u d keys ts).l tk) := by
  intro f
  induction f with
  | zero => exact ⟨fun _ _ _ _ _ h => absurd h (by rw [vTr]; decide), fun _ _ _ _ h => absurd h (by rw [pTr]; decide), fun _ _ _ _ _ _ h => absurd h (by rw [gTr]; decide), fun _ _ _ _ _ _ h => absurd h (by rw [mTr]; decide)⟩
  | succ f ih =>
    obtain ⟨iv, ip, ig, im⟩ := ih
    refine ⟨?_, ?_, ?_, ?_⟩
    · intro t key d ts hs h
      by_cases h1 : ∃ ob, t.1 = opn ob
      · obtain ⟨ob, h1⟩ := h1
        rw [vTr_open h1] at h ⊢
        rw [wrap_e] at h
        rw [wrap_good h]
        obtain ⟨tk, e1, w1⟩ := ip ob d ts hs.tail h
        refine ⟨(opn ob, []) :: (tk ++ [(cls ob, [])]), ?_, Wf.node ob key _ tk w1⟩
        rw [hs.sign h1 (opn_sign ob)]
        simp only [List.cons_append, List.append_assoc, List.nil_append]
        rw [← e1]
      · by_cases h2 : tSign t.1 = true
        · rw [vTr_bad h2 (fun ob e => h1 ⟨ob, e⟩)] at h
          exact absurd h (by decide)
        · rw [vTr_leaf h2]
          exact ⟨[t], rfl, Wf.leaf key t h2⟩
    · intro ob d ts hs h
      by_cases h1 : d = 32
      · rw [pTr_deep h1] at h; exact absurd h (by decide)
      · match ts with
        | [] => rw [pTr_cut h1] at h; exact absurd h hE
        | u :: ts1 =>
          by_cases h2 : u.1 = cls ob
          · rw [pTr_none h1 h2]
            refine ⟨[], ?_, Wf.none ob true⟩
            rw [hs.sign h2 (cls_sign ob)]; rfl
          · rw [pTr_some h1 h2] at h ⊢
            exact (im ob u (d + 1) [] ts1 hs h).2
    · intro ob u d keys ts hs h
      cases ob with
      | false =>
        rw [gTr_list] at h ⊢
        obtain ⟨tk, e1, w1⟩ := iv u [] d ts hs h
        exact ⟨[], tk, e1, w1, fun _ => rfl⟩
      | true =>
        by_cases h1 : u.1 = 115
        · by_cases h2 : u.2 ∈ keys
          · rw [gTr_twice h1 h2] at h; exact absurd h (by decide)
          · match ts with
            | [] => rw [gTr_cut h1 h2] at h; exact absurd h hE
            | c :: ts1 =>
              by_cases h3 : c.1 = 58
              · match ts1 with
                | [] => rw [gTr_cut2 h1 h2 h3] at h; exact absurd h hE
                | v :: ts2 =>
                  rw [gTr_some h1 h2 h3] at h ⊢
                  obtain ⟨tk, e1, w1⟩ := iv v u.2 d ts2 hs.tail.tail h
                  refine ⟨u.2, tk, ?_, w1, fun e => by cases e⟩
                  rw [← e1, hs.tail.sign h3 rfl, ← h1]
                  rfl
              · rw [gTr_form h1 h2 h3] at h; exact absurd h (by decide)
        · rw [gTr_kind h1] at h; exact absurd h (by decide)
    · intro ob u d keys ts hs h
      by_cases g : (gTr E f ob u d keys ts).e = 0
      · obtain ⟨key, tk, e1, w1, hk⟩ := ig ob u d keys ts hs g
        match hr : (gTr E f ob u d keys ts).r with
        | [] => rw [mTr_cut g hr] at h; exact absurd h hE
        | c :: r1 =>
          rw [hr] at e1
          have hs' : SgE (c :: r1) := by rw [e1, ← List.append_assoc] at hs; exact hs.back
          have hpos := wf_pos w1 rfl
          by_cases c1 : c.1 = cls ob
          · rw [mTr_end g hr c1] at h ⊢
            have hw := Wf.cons ob true key _ [] tk [] w1 (Wf.none ob false) hk
            rw [List.append_nil, List.append_nil] at hw
            refine ⟨fun e => ?_, _, ?_, hw⟩
            · simp only at e; rw [e] at hpos; exact absurd hpos (by decide)
            · rw [e1, hs'.sign c1 (cls_sign ob)]; simp
          · by_cases c2 : c.1 = 44
            · match r1 with
              | [] => rw [mTr_cut2 g hr c1 c2] at h; exact absurd h hE
              | u2 :: r2 =>
                rw [mTr_more g hr c1 c2] at h ⊢
                rw [front_e] at h
                rw [front_good _ h]
                obtain ⟨n2, tk2, e2, w2⟩ := im ob u2 d (addK ob keys u) r2 hs'.tail h
                have hw := Wf.cons ob true key _ _ tk _ w1 (wf_comma w2 n2) hk
                refine ⟨fun e => ?_, _, ?_, hw⟩
                · simp only at e
                  exact n2 (List.append_eq_nil_iff.mp e).2
                · rw [e1, hs'.sign c2 rfl, e2]; simp
            · rw [mTr_form g hr c1 c2] at h; exact absurd h (by decide)
      · rw [mTr_bad g] at h; exact absurd h g
theorem gTr_len {E : Int} (hE : E ≠ 0) {f : Nat} {ob : Bool} {u : TK} {d : Nat} {keys : List (List UInt8)} {ts : List TK} (hs : SgE (u :: ts)) (h : (gTr E f ob u d keys ts).e = 0) :
    (gTr E f ob u d keys ts).r.length ≤ ts.length ∧ (gTr E f ob u d keys ts).l.length + (gTr E f ob u d keys ts).r.length ≤ ts.length + 1 ∧ SgE (gTr E f ob u d keys ts).r := by
  obtain ⟨key, tk, e1, w1, _⟩ := (tr_wf hE f).2.2.1 ob u d keys ts hs h
  have h1 := wf_pos w1 rfl
  have h2 := wf_len w1
  have h3 := congrArg List.length e1
  simp only [List.length_append, List.length_cons] at h3
  refine ⟨by omega, by omega, ?_⟩
  rw [e1, ← List.append_assoc] at hs
  exact hs.back
theorem vTr_len {E : Int} (hE : E ≠ 0) {f : Nat} {t : TK} {key : List UInt8} {d : Nat} {ts : List TK} (hs : SgE (t :: ts)) (h : (vTr E f t key d ts).e = 0) :
    (vTr E f t key d ts).r.length ≤ ts.length ∧ (vTr E f t key d ts).l.length + (vTr E f t key d ts).r.length ≤ ts.length + 1 ∧ SgE (vTr E f t key d ts).r := by
  obtain ⟨tk, e1, w1⟩ := (tr_wf hE f).1 t key d ts hs h
  have h1 := wf_pos w1 rfl
  have h2 := wf_len w1
  have h3 := congrArg List.length e1
  simp only [List.length_append, List.length_cons] at h3
  refine ⟨by omega, by omega, ?_⟩
  rw [e1] at hs
  exact hs.back
end Go.Proofs.YtmkcfilgiehjaaaGreatDoor
/- Tokens of bytes, and trees' tokens written and read again; what a text's tree is. Of no program. -/
namespace Go.Proofs.YtmkcfilgiehjaaaGreatDoor
open Go Go.RowKit
set_option linter.unusedVariables false

theorem tok_sign {x : TK} (h : TOk x) (hs : tSign x.1 = true) : x.2 = [] := by
  rcases h with ⟨_, h⟩ | ⟨h, _⟩ | ⟨h, _⟩ | ⟨h, _⟩
  · exact h
  · rw [h] at hs; exact absurd hs (by decide)
  · rw [h] at hs; exact absurd hs (by decide)
  · rcases h with e | e | e <;> rw [e] at hs <;> exact absurd hs (by decide)
theorem tsz_mem : ∀ {ts : List TK} {x : TK}, x ∈ ts → x.2.length ≤ tsz ts
  | t :: ts, x, h => by
    unfold tsz
    rcases List.mem_cons.mp h with rfl | h
    · omega
    · have := tsz_mem h; omega
theorem sg_of {ts : List TK} (h : ∀ x ∈ ts, TOk x) (hz : tsz ts ≤ 1099511627776) : SgE ts := fun x hx => ⟨fun hs => tok_sign (h x hx) hs, Nat.le_trans (tsz_mem hx) hz⟩
/-- Each text has its tokens. -/
theorem sf_all : ∀ (n : Nat) (l : List UInt8), l.length = n → ∃ ts e, SfL ts (some e) l ∧ ts.length ≤ l.length ∧ tsz ts ≤ l.length ∧ ∀ x ∈ ts, TOk x := by
  intro n
  induction n using Nat.strongRecOn with
  | _ n ih =>
    intro l hn
    by_cases he : (tNx l).e = 0
    · by_cases h0 : (tNx l).tok.1 = 0
      · exact ⟨[], (tNx l).e, .inr ⟨h0, rfl⟩, Nat.zero_le _, Nat.zero_le _, fun x hx => by simp at hx⟩
      · obtain ⟨h1, h2, h3, h4⟩ := tNx_fine he h0
        have hl : (l.drop (tNx l).k).length = l.length - (tNx l).k := List.length_drop
        obtain ⟨ts, e, i1, i2, i3, i4⟩ := ih _ (by omega) (l.drop (tNx l).k) rfl
        refine ⟨(tNx l).tok :: ts, e, ⟨⟨he, rfl, h0⟩, i1⟩, by rw [List.length_cons]; omega, by unfold tsz; omega, fun x hx => ?_⟩
        rcases List.mem_cons.mp hx with rfl | hx
        · exact h4
        · exact i4 x hx
    · exact ⟨[], (tNx l).e, .inr ⟨by rw [tNx_bad he], rfl⟩, Nat.zero_le _, Nat.zero_le _, fun x hx => by simp at hx⟩
theorem sf_len : ∀ (ts : List TK) (la : Option Int) (l : List UInt8), SfL ts la l → ts.length ≤ l.length
  | [], _, _, _ => Nat.zero_le _
  | t :: ts, la, l, h => by
    obtain ⟨⟨h1, h2, h3⟩, h4⟩ := h
    obtain ⟨k1, k2, _⟩ := tNx_fine h1 (by rw [h2]; exact h3)
    have := sf_len ts la _ h4
    rw [List.length_drop] at this
    rw [List.length_cons]; omega
/-- What is read is right. -/
theorem sf_ok : ∀ (ts : List TK) (la : Option Int) (l : List UInt8), SfL ts la l → ∀ x ∈ ts, TOk x
  | [], _, _, _ => fun x hx => by simp at hx
  | t :: ts, la, l, h => fun x hx => by
    obtain ⟨⟨h1, h2, h3⟩, h4⟩ := h
    rcases List.mem_cons.mp hx with rfl | hx
    · rw [← h2]; exact (tNx_fine h1 (by rw [h2]; exact h3)).2.2.2
    · exact sf_ok ts la _ h4 x hx
/-- A sign, and what stands behind it. -/
theorem nx_sign {k : UInt8} (hk : tSign k = true) (R : List UInt8) : tNx (k :: R) = ⟨(k, []), 1, 0⟩ := by
  have hb : tBl k = false := by
    rcases tSign_iff.mp hk with rfl | rfl | rfl | rfl | rfl | rfl <;> rfl
  have h2 : (k :: R).drop (bL (k :: R)) = k :: R := by rw [bl_none hb]; rfl
  rw [tNx_some h2, bl_none hb]
  unfold tBeg
  rw [if_pos hk]
  rfl
theorem sf_sign {k : UInt8} (hk : tSign k = true) {ts : List TK} {la : Option Int} {R : List UInt8} (h : SfL ts la R) : SfL ((k, []) :: ts) la (k :: R) := by
  have hn := nx_sign hk R
  unfold SfL
  rw [hn]
  exact ⟨⟨rfl, rfl, fun e => by simp only at e; rw [e] at hk; exact absurd hk (by decide)⟩, h⟩
theorem sf_tok {x : TK} (hx : TOk x) {ts : List TK} {la : Option Int} {R : List UInt8} (hR : tStop R) (h : SfL ts la R) : SfL (x :: ts) la (tPut x ++ R) := by
  have hn := tNx_again hx (S := []) (R := R) (fun b hb => by simp at hb) hR
  rw [List.nil_append, List.length_nil, Nat.zero_add] at hn
  unfold SfL
  rw [hn]
  refine ⟨⟨rfl, rfl, tOk_kind hx⟩, ?_⟩
  simp only
  rw [List.drop_left' rfl]; exact h
theorem sf_nil : SfL [] (some 0) [] := .inr ⟨rfl, rfl⟩
def tksB (tk : List TK) : List UInt8 := tk.flatMap tPut
theorem tksB_cons (x : TK) (tk : List TK) : tksB (x :: tk) = tPut x ++ tksB tk := rfl
theorem tksB_app (a b : List TK) : tksB (a ++ b) = tksB a ++ tksB b := List.flatMap_append
theorem tPut_sign {k : UInt8} (hk : tSign k = true) : tPut (k, []) = [k] := by
  unfold tPut
  rw [if_neg (by rcases tSign_iff.mp hk with rfl | rfl | rfl | rfl | rfl | rfl <;> decide), if_pos hk]
theorem tStop_sign {k : UInt8} (hk : tSign k = true) (R : List UInt8) : tStop (k :: R) := fun x t e => by rw [← (List.cons.inj e).1]; exact .inr hk
/-- A tree's tokens, written without blanks, are read again, whatever stands behind that ends a number. -/
theorem sf_wf {o : Option (Bool × Bool)} {key : List UInt8} {l : List ND} {tk : List TK} (h : Wf o key l tk) : (∀ x ∈ tk, TOk x) → ∀ (rest : List TK) (la : Option Int) (R : List UInt8), tStop R → SfL rest la R →
    SfL (tk ++ rest) la (tksB tk ++ R) ∧ ((∃ ob, o = some (ob, false)) → tStop (tksB tk ++ R)) := by
  induction h with
  | leaf key t ht =>
    intro hx rest la R hR hs
    refine ⟨?_, fun ⟨_, e⟩ => by cases e⟩
    have := sf_tok (hx t (by simp)) hR hs
    simpa [tksB] using this
  | node ob key l tk _ ih =>
    intro hx rest la R hR hs
    refine ⟨?_, fun ⟨_, e⟩ => by cases e⟩
    have hc := sf_sign (cls_sign ob) hs
    have h1 := (ih (fun x hxx => hx x (by simp [hxx])) ((cls ob, []) :: rest) la (cls ob :: R) (tStop_sign (cls_sign ob) R) hc).1
    have h2 := sf_sign (opn_sign ob) h1
    rw [tksB_cons, tksB_app, tksB_cons, tPut_sign (opn_sign ob), tPut_sign (cls_sign ob)]
    simpa [tksB] using h2
  | none ob fst =>
    intro hx rest la R hR hs
    exact ⟨hs, fun _ => hR⟩
  | cons ob fst key l1 l2 k1 k2 h1 h2 hk ih1 ih2 =>
    intro hx rest la R hR hs
    have hk2 : ∀ x ∈ k2, TOk x := fun x hxx => hx x (by simp [hxx])
    have hk1 : ∀ x ∈ k1, TOk x := fun x hxx => hx x (by simp [hxx])
    obtain ⟨s2, t2⟩ := ih2 hk2 rest la R hR hs
    have s1 := (ih1 hk1 (k2 ++ rest) la (tksB k2 ++ R) (t2 ⟨ob, rfl⟩) s2).1
    have sk : SfL (((if ob then [((115 : UInt8), key), (58, [])] else []) : List TK) ++ (k1 ++ (k2 ++ rest))) la (tksB ((if ob then [((115 : UInt8), key), (58, [])] else []) : List TK) ++ (tksB k1 ++ (tksB k2 ++ R))) := by
      cases ob with
      | false => exact s1
      | true =>
        have hkey : TOk (115, key) := hx (115, key) (by simp)
        have hcol := sf_sign (k := 58) rfl s1
        have := sf_tok hkey (tStop_sign (k := 58) rfl _) hcol
        have e : tksB ((if true then [((115 : UInt8), key), (58, [])] else []) : List TK) = tPut (115, key) ++ [58] := by
          simp [tksB, tPut_sign (k := 58) rfl]
        rw [e]
        simpa using this
    refine ⟨?_, ?_⟩
    · cases fst with
      | true => simpa [tksB_app, List.append_assoc, tksB] using sk
      | false =>
        have := sf_sign (k := 44) rfl sk
        have e : tksB ([(44, [])] : List TK) = [44] := by simp [tksB, tPut_sign (k := 44) rfl]
        simp only [Bool.false_eq_true, if_false]
        rw [tksB_app, tksB_app, tksB_app, e]
        simpa [List.append_assoc] using this
    · rintro ⟨ob2, e2⟩
      simp only [Option.some.injEq, Prod.mk.injEq] at e2
      obtain ⟨_, rfl⟩ := e2
      have e : tksB ([(44, [])] : List TK) = [44] := by simp [tksB, tPut_sign (k := 44) rfl]
      simp only [Bool.false_eq_true, if_false]
      rw [tksB_app, e]
      exact tStop_sign (k := 44) rfl _
/-- What a text's tokens are: a tree, or what is wrong first. -/
def rdT (ts : List TK) (la : Option Int) : List ND × Int := match ts with
  | [] => ([], eE la)
  | t :: ts1 => if (vTr (eE la) (4 * ts1.length + 2) t [] 0 ts1).e = 0 then (if (vTr (eE la) (4 * ts1.length + 2) t [] 0 ts1).r = [] ∧ la = some 0 then ((vTr (eE la) (4 * ts1.length + 2) t [] 0 ts1).l, 0) else ([], 2))
    else ([], (vTr (eE la) (4 * ts1.length + 2) t [] 0 ts1).e)
theorem rdT_bad {ts : List TK} {la : Option Int} (h : ¬ (rdT ts la).2 = 0) : (rdT ts la).1 = [] := by
  unfold rdT at h ⊢
  match ts with
  | [] => rfl
  | t :: ts1 =>
    simp only at h ⊢
    by_cases h1 : (vTr (eE la) (4 * ts1.length + 2) t [] 0 ts1).e = 0
    · rw [if_pos h1] at h ⊢
      by_cases h2 : (vTr (eE la) (4 * ts1.length + 2) t [] 0 ts1).r = [] ∧ la = some 0
      · rw [if_pos h2] at h; exact absurd rfl h
      · rw [if_neg h2]
    · rw [if_neg h1]
theorem rdT_good {ts : List TK} {la : Option Int} (hs : SgE ts) (h : (rdT ts la).2 = 0) : la = some 0 ∧ Wf none [] (rdT ts la).1 ts := by
  unfold rdT at h ⊢
  match ts with
  | [] => exact absurd h (eE_ne la)
  | t :: ts1 =>
    simp only at h ⊢
    by_cases h1 : (vTr (eE la) (4 * ts1.length + 2) t [] 0 ts1).e = 0
    · rw [if_pos h1] at h ⊢
      by_cases h2 : (vTr (eE la) (4 * ts1.length + 2) t [] 0 ts1).r = [] ∧ la = some 0
      · rw [if_pos h2] at h ⊢
        obtain ⟨tk, e1, w1⟩ := (tr_wf (eE_ne la) _).1 t [] 0 ts1 hs h1
        rw [h2.1, List.append_nil] at e1
        rw [e1]
        exact ⟨h2.2, w1⟩
      · rw [if_neg h2] at h; exact absurd h (by decide)
    · rw [if_neg h1] at h; exact absurd h h1
/-- Written without blanks, and read again: the same tokens. -/
theorem rdT_again {ts : List TK} {la : Option Int} (hs : ∀ x ∈ ts, TOk x) (hz : tsz ts ≤ 1099511627776) (h : (rdT ts la).2 = 0) : SfL ts (some 0) (tksB ts) := by
  have h1 := (sf_wf (rdT_good (sg_of hs hz) h).2 hs [] (some 0) [] (fun x t e => by cases e) sf_nil).1
  rw [List.append_nil, List.append_nil] at h1
  exact h1
theorem tksB_len : ∀ ts : List TK, (tksB ts).length ≤ 6 * tsz ts + 5 * ts.length
  | [] => Nat.zero_le _
  | x :: ts => by
    have h1 := tPut_len x
    have ih := tksB_len ts
    rw [tksB_cons, List.length_append, List.length_cons]
    unfold tsz; omega

/-- Sizes of nodes: each is of one at least, and ends where the nodes do, or ahead. -/
def SzOk (l : List ND) : Prop := ∀ i (h : i < l.length), 1 ≤ l[i].2.2.2 ∧ i + l[i].2.2.2 ≤ l.length
theorem wf_head {o : Option (Bool × Bool)} {key : List UInt8} {l : List ND} {tk : List TK} (h : Wf o key l tk) : o = none → ∃ x r, l = x :: r ∧ x.2.2.2 = l.length := by
  induction h with
  | leaf key t _ => exact fun _ => ⟨_, _, rfl, rfl⟩
  | node ob key l tk _ _ => exact fun _ => ⟨_, _, rfl, rfl⟩
  | none => intro e; cases e
  | cons => intro e; cases e
theorem wf_sz {o : Option (Bool × Bool)} {key : List UInt8} {l : List ND} {tk : List TK} (h : Wf o key l tk) : SzOk l := by
  induction h with
  | leaf key t _ =>
    intro i hi
    have : i = 0 := by simpa using hi
    subst this
    exact ⟨Nat.le_refl _, Nat.le_refl _⟩
  | node ob key l tk _ ih =>
    intro i hi
    match i with
    | 0 => exact ⟨by simp, by simp⟩
    | i + 1 =>
      have := ih i (by simpa using hi)
      simp only [List.getElem_cons_succ, List.length_cons]
      omega
  | none => intro i hi; simp at hi
  | cons ob fst key l1 l2 k1 k2 _ _ _ ih1 ih2 =>
    intro i hi
    by_cases h : i < l1.length
    · have := ih1 i h
      rw [List.getElem_append_left h, List.length_append]
      omega
    · have hi2 : i - l1.length < l2.length := by rw [List.length_append] at hi; omega
      have := ih2 (i - l1.length) hi2
      rw [List.getElem_append_right (by omega), List.length_append]
      omega
/-- The places of the kids from k on, ahead of e. -/
def kdL (l : List ND) : Nat → Nat → Nat → List Nat
  | 0, _, _ => []
  | f + 1, k, e => if k < e then k :: kdL l f (k + (l.getD k (0, [], [], 0)).2.2.2) e else []
def kidsL (l : List ND) (at_ : Int) : List Nat := if at_ < 0 ∨ (l.length : Int) ≤ at_ then [] else kdL l l.length (at_.toNat + 1) (at_.toNat + (l.getD at_.toNat (0, [], [], 0)).2.2.2)
end Go.Proofs.YtmkcfilgiehjaaaGreatDoor
/- The calls of package cursor, each as a contract over the cursor's block. -/
namespace Go.Proofs.YtmkcfilgiehjaaaGreatDoor
open Go Go.RowKit
set_option linter.unusedVariables false

theorem ret_int {k : IntKind} {a b : Int} (h : a = b) : Ending.returned (.int k a) = .returned (.int k b) := by rw [h]

theorem new_any (s : ByteArray) (w : World) (hs : s.size ≤ 9223372036854775807) :
    Calls Tryz.prog 36 #[.string s] w fun e w' => e = .returned (.pointer (some ⟨w.heap.size, 0, none⟩)) ∧ w' = w.alloc (.cells #[.string s, .int .i64 0, .int .i64 s.size, .int .i64 0] 110) := by
  go_enter Tryz.func36, Tryz.ntmps36
  go_wp2
  go_ret
  exact ⟨rfl, rfl⟩


theorem err_any {b : Nat} {c : CS} {w : World} (h : CurT 110 w b c) :
    Calls Tryz.prog 61 #[.pointer (some ⟨b, 0, none⟩)] w fun e w' => e = .returned (.int .i64 c.er) ∧ w' = w := by
  have h1 := h.c3
  go_enter Tryz.func61, Tryz.ntmps61
  go_wp2
  go_ret
  exact ⟨rfl, rfl⟩

theorem err_nil (w : World) :
    Calls Tryz.prog 61 #[.pointer none] w fun e w' => e = .returned (.int .i64 9) ∧ w' = w := by
  go_enter Tryz.func61, Tryz.ntmps61
  go_wp2
  go_ret
  exact ⟨rfl, rfl⟩

theorem left_nil (w : World) :
    Calls Tryz.prog 71 #[.pointer none] w fun e w' => e = .returned (.int .i64 0) ∧ w' = w := by
  go_enter Tryz.func71, Tryz.ntmps71
  go_wp2
  go_ret
  exact ⟨rfl, rfl⟩

theorem left_any {b : Nat} {c : CS} {w : World} (h : CurT 110 w b c) (hc : c.ok) :
    Calls Tryz.prog 71 #[.pointer (some ⟨b, 0, none⟩)] w fun e w' => e = .returned (.int .i64 ((c.en : Int) - c.at_)) ∧ ∃ n, w' = w.drewN n := by
  obtain ⟨k1, k2, k3⟩ := hc
  have h1 := h.c1
  have h2 := h.c2
  have hw : IntKind.i64.wrap ((c.en : Int) - c.at_) = (c.en : Int) - c.at_ := IntWalk.i64_in _ (by omega)
  go_enter Tryz.func71, Tryz.ntmps71
  go_wp2
  go_quiet (fail)
  go_wp2
  go_ret
  exact ⟨rfl, _, rfl⟩

theorem fail_any {b : Nat} {c : CS} {w : World} (h : CurT 110 w b c) (k : Int) :
    Calls Tryz.prog 60 #[.pointer (some ⟨b, 0, none⟩), .int .i64 k] w fun e w' => e = .returned (.tuple #[]) ∧ CurT 110 w' b (c.fail k) ∧ Only b w w' := by
  have h3 := h.c3
  have f3 := h.fr 3
  by_cases h0 : c.er = 0
  · have hb : (c.er == 0) = true := by simp [h0]
    have HR := Lib.hid (show CurT 110 (w.setCell ⟨b, 3, none⟩ (.int .i64 k)) b (c.fail k) from by unfold CS.fail; rw [if_pos h0]; exact h.setEr k)
    clear h0
    go_enter Tryz.func60, Tryz.ntmps60
    go_wp2_with ((with_reducible refine (err_any h).mono ?_); rintro e w' ⟨rfl, rfl⟩)
    go_end0
    exact ⟨rfl, HR.out, (Only.refl _ _).setCell _ _⟩
  · have hb : (c.er == 0) = false := by simp [h0]
    have HR := Lib.hid (show CurT 110 w b (c.fail k) from by unfold CS.fail; rw [if_neg h0]; exact h)
    clear h0
    go_enter Tryz.func60, Tryz.ntmps60
    go_wp2_with ((with_reducible refine (err_any h).mono ?_); rintro e w' ⟨rfl, rfl⟩)
    go_end0
    exact ⟨rfl, HR.out, Only.refl _ _⟩

theorem fail_nil (w : World) (k : Int) :
    Calls Tryz.prog 60 #[.pointer none, .int .i64 k] w fun e w' => e = .returned (.tuple #[]) ∧ w' = w := by
  go_enter Tryz.func60, Tryz.ntmps60
  go_wp2_with ((with_reducible refine (err_nil _).mono ?_); rintro e w' ⟨rfl, rfl⟩)
  go_end0
  exact ⟨rfl, rfl⟩

end Go.Proofs.YtmkcfilgiehjaaaGreatDoor
/- More calls of package cursor: End, Peek, Byte, allows, and what reads a part (Take, Sub). -/
namespace Go.Proofs.YtmkcfilgiehjaaaGreatDoor
open Go Go.RowKit
set_option linter.unusedVariables false

theorem ret_peek {a b : Int} {c d : Bool} (h : a = b) (k : c = d) : Ending.returned (.tuple #[.int .u8 a, .bool c]) = .returned (.tuple #[.int .u8 b, .bool d]) := by rw [h, k]

theorem end_any {b : Nat} {c : CS} {w : World} (h : CurT 110 w b c) (hc : c.ok) :
    Calls Tryz.prog 48 #[.pointer (some ⟨b, 0, none⟩)] w fun e w' => e = .returned (.int .i64 c.endC) ∧ ∃ n, w' = w.drewN n := by
  by_cases h0 : c.er = 0
  · have hb : (c.er == 0) = true := by simp [h0]
    by_cases h1 : c.at_ < c.en
    · have hd : decide (c.at_ < c.en) = true := by simp [h1]
      have HR := Lib.hid (show c.endC = 2 from by unfold CS.endC; rw [if_pos ⟨h0, h1⟩])
      clear h0 h1
      go_enter Tryz.func48, Tryz.ntmps48
      go_wp2_with (first | ((with_reducible refine (err_any h).mono ?_); rintro e w' ⟨rfl, rfl⟩) | ((with_reducible refine (left_any h hc).mono ?_); rintro e w' ⟨rfl, n, rfl⟩))
      go_ret
      exact ⟨ret_int HR.out.symm, _, rfl⟩
    · have hd : decide (c.at_ < c.en) = false := by simp [h1]
      have HR := Lib.hid (show c.endC = c.er from by unfold CS.endC; rw [if_neg (fun x => h1 x.2)])
      clear h0 h1
      go_enter Tryz.func48, Tryz.ntmps48
      go_wp2_with (first | ((with_reducible refine (err_any h).mono ?_); rintro e w' ⟨rfl, rfl⟩) | ((with_reducible refine (err_any (h.drewN _)).mono ?_); rintro e w' ⟨rfl, rfl⟩) | ((with_reducible refine (left_any h hc).mono ?_); rintro e w' ⟨rfl, n, rfl⟩))
      go_ret
      exact ⟨ret_int HR.out.symm, _, rfl⟩
  · have hb : (c.er == 0) = false := by simp [h0]
    have HR := Lib.hid (show c.endC = c.er from by unfold CS.endC; rw [if_neg (fun x => h0 x.1)])
    clear h0
    go_enter Tryz.func48, Tryz.ntmps48
    go_wp2_with (first | ((with_reducible refine (err_any h).mono ?_); rintro e w' ⟨rfl, rfl⟩) | ((with_reducible refine (left_any h hc).mono ?_); rintro e w' ⟨rfl, n, rfl⟩))
    go_ret
    exact ⟨ret_int HR.out.symm, 0, rfl⟩

theorem end_nil (w : World) :
    Calls Tryz.prog 48 #[.pointer none] w fun e w' => e = .returned (.int .i64 9) ∧ w' = w := by
  go_enter Tryz.func48, Tryz.ntmps48
  go_wp2_with ((with_reducible refine (err_nil _).mono ?_); rintro e w' ⟨rfl, rfl⟩)
  go_ret
  exact ⟨rfl, rfl⟩

theorem peek_any {b : Nat} {c : CS} {w : World} (h : CurT 110 w b c) (hc : c.ok) :
    Calls Tryz.prog 98 #[.pointer (some ⟨b, 0, none⟩)] w fun e w' => e = .returned (.tuple #[.int .u8 c.peekB, .bool c.peekIs]) ∧ ∃ n, w' = w.drewN n := by
  by_cases h0 : c.er = 0
  · have hb : (c.er == 0) = true := by simp [h0]
    have hb' : (c.er != 0) = false := by simp [h0]
    by_cases h1 : c.at_ < c.en
    · have hs : c.at_ < c.s.size := Nat.lt_of_lt_of_le h1 hc.2.1
      have hd : ((c.en : Int) - c.at_ == 0) = false := by simp; omega
      have HR := Lib.hid (show c.peekB = c.s[c.at_].toNat ∧ c.peekIs = true from by
        have hp : c.peekIs = true := by unfold CS.peekIs; simp [h0, h1]
        refine ⟨?_, hp⟩
        unfold CS.peekB
        rw [if_pos hp]
        have : c.s.data[c.at_]? = some c.s[c.at_] := by rw [Array.getElem?_eq_getElem (by simpa using hs)]; rfl
        rw [this]; rfl)
      have g0 := h.c0
      have g1 := h.c1
      clear h0 h1
      go_enter Tryz.func98, Tryz.ntmps98
      go_wp2_with (first | ((with_reducible refine (err_any h).mono ?_); rintro e w' ⟨rfl, rfl⟩) | ((with_reducible refine (left_any h hc).mono ?_); rintro e w' ⟨rfl, n, rfl⟩))
      go_quiet (fail)
      go_wp2
      go_ret2
      exact ⟨ret_peek HR.out.1.symm HR.out.2.symm, _, World.drewN_drewN ..⟩
    · have hd : ((c.en : Int) - c.at_ == 0) = true := by have := hc.1; simp; omega
      have HR := Lib.hid (show c.peekB = 0 ∧ c.peekIs = false from by
        have hp : c.peekIs = false := by unfold CS.peekIs; simp [h1]
        refine ⟨?_, hp⟩
        unfold CS.peekB
        rw [if_neg (by simp [hp])])
      clear h0 h1
      go_enter Tryz.func98, Tryz.ntmps98
      go_wp2_with (first | ((with_reducible refine (err_any h).mono ?_); rintro e w' ⟨rfl, rfl⟩) | ((with_reducible refine (left_any h hc).mono ?_); rintro e w' ⟨rfl, n, rfl⟩))
      go_ret2
      exact ⟨ret_peek HR.out.1.symm HR.out.2.symm, _, rfl⟩
  · have hb : (c.er == 0) = false := by simp [h0]
    have hb' : (c.er != 0) = true := by simp [h0]
    have HR := Lib.hid (show c.peekB = 0 ∧ c.peekIs = false from by
        have hp : c.peekIs = false := by unfold CS.peekIs; simp [h0]
        refine ⟨?_, hp⟩
        unfold CS.peekB
        rw [if_neg (by simp [hp])])
    clear h0
    go_enter Tryz.func98, Tryz.ntmps98
    go_wp2_with (first | ((with_reducible refine (err_any h).mono ?_); rintro e w' ⟨rfl, rfl⟩) | ((with_reducible refine (left_any h hc).mono ?_); rintro e w' ⟨rfl, n, rfl⟩))
    go_ret2
    exact ⟨ret_peek HR.out.1.symm HR.out.2.symm, 0, rfl⟩

def CS.byte (c : CS) : CS := c.take 1

theorem CS.byte_yes {c : CS} (h : c.peekIs = true) : c.byte = { c with at_ := c.at_ + 1 } := by
  have := of_decide_eq_true h
  unfold CS.byte CS.take
  rw [if_pos (CS.why_mk this.1 (by omega) (by omega))]; rfl
theorem CS.byte_no {c : CS} (hc : c.ok) (h : c.peekIs = false) : c.byte = c.fail 1 := by
  have h' := of_decide_eq_false h
  unfold CS.byte CS.take CS.fail CS.why
  obtain ⟨k1, k2, k3⟩ := hc
  by_cases h0 : c.er = 0
  · have h1 : (c.en : Int) - c.at_ < 1 := by have : ¬ c.at_ < c.en := fun x => h' ⟨h0, x⟩; omega
    simp [h0, h1]
  · simp [h0]
theorem CS.peekB_no {c : CS} (h : c.peekIs = false) : c.peekB = 0 := by unfold CS.peekB; rw [h]; rfl

theorem byte_any {b : Nat} {c : CS} {w : World} (h : CurT 110 w b c) (hc : c.ok) :
    Calls Tryz.prog 123 #[.pointer (some ⟨b, 0, none⟩)] w fun e w' => e = .returned (.int .u8 c.peekB) ∧ CurT 110 w' b c.byte ∧ Only b w w' := by
  have HP := peek_any h hc
  cases hp : c.peekIs with
  | true =>
    have HR := Lib.hid (CS.byte_yes hp)
    have hlt := (of_decide_eq_true hp).2
    have hen := hc.2.1
    have hmx := hc.2.2
    rw [hp] at HP
    clear hp
    have g1 := h.c1
    have f1 := h.fr 1
    go_enter Tryz.func123, Tryz.ntmps123
    go_wp2_with ((with_reducible refine HP.mono ?_); rintro e w' ⟨rfl, n, rfl⟩)
    go_ret
    refine ⟨rfl, ?_, ((Only.refl _ _).drewN _).setCell _ _⟩
    rw [HR.out]
    exact (h.drewN n).setAt (c.at_ + 1)
  | false =>
    have HR := Lib.hid (CS.byte_no hc hp)
    have HB := Lib.hid (CS.peekB_no hp)
    rw [hp] at HP
    clear hp
    go_enter Tryz.func123, Tryz.ntmps123
    go_wp2_with (first | ((with_reducible refine HP.mono ?_); rintro e w' ⟨rfl, n, rfl⟩) | ((with_reducible refine (fail_any (h.drewN _) 1).mono ?_); rintro e w' ⟨rfl, hq, ho⟩))
    go_ret
    exact ⟨ret_int HB.out.symm, by rw [HR.out]; exact hq, ((Only.refl _ _).drewN _).trans ho⟩

end Go.Proofs.YtmkcfilgiehjaaaGreatDoor
