/- Several texts in one (JrNum, JrTok, JrMem, JrA, JrK): each begins with its own words. -/
import Derived.Test.YtfighopfgllneaaGreatDoorZI
import Derived.Test.YtfighopfgllneaaGreatDoorJtD
import Derived.Laws.AppendOwnNone
import Derived.Laws.OwnMore
import Derived.Deep.AppendLies
import Derived.Lib.SmallJoins
import Derived.Defers
import Derived.Recover
import Derived.WalkLawsBesides
/- Trees over tokens: which tree some tokens are, node by node, or what is wrong first; a tree's own tokens; its kids. Of no program. -/
namespace Go.Proofs.YtfighopfgllneaaGreatDoor
open Go Go.RowKit
set_option linter.unusedVariables false

/-- A node: its kind, key, text, size. -/
abbrev ND := UInt8 × List UInt8 × List UInt8 × Nat
/-- Nodes, the tokens that are left, what is wrong. -/
structure TRs where
  l : List ND
  r : List TK
  e : Int
/-- The bytes l are the tokens ts, and behind them la tells what is wrong (some 0: they end; none: it is not told). -/
def SfL : List TK → Option Int → List UInt8 → Prop
  | [], la, l => la = none ∨ ((tNx l).tok.1 = 0 ∧ la = some (tNx l).e)
  | t :: ts, la, l => ((tNx l).e = 0 ∧ (tNx l).tok = t ∧ t.1 ≠ 0) ∧ SfL ts la (l.drop (tNx l).k)
def sfDec : (ts : List TK) → (la : Option Int) → (l : List UInt8) → Decidable (SfL ts la l)
  | [], la, l => inferInstanceAs (Decidable (la = none ∨ ((tNx l).tok.1 = 0 ∧ la = some (tNx l).e)))
  | t :: ts, la, l => match sfDec ts la (l.drop (tNx l).k) with
    | .isTrue h => if h1 : (tNx l).e = 0 ∧ (tNx l).tok = t ∧ t.1 ≠ 0 then .isTrue ⟨h1, h⟩ else .isFalse (fun h2 => h1 h2.1)
    | .isFalse h => .isFalse (fun h2 => h h2.2)
instance (ts : List TK) (la : Option Int) (l : List UInt8) : Decidable (SfL ts la l) := sfDec ts la l
def eE : Option Int → Int
  | none => -1
  | some e => if e = 0 then 1 else e
theorem eE_ne (la : Option Int) : eE la ≠ 0 := by
  cases la with
  | none => decide
  | some e =>
    unfold eE
    by_cases h : e = 0
    · simp only [if_pos h]; decide
    · simp only [if_neg h]; exact h
def tsz : List TK → Nat
  | [] => 0
  | t :: ts => t.2.length + tsz ts
def opn (ob : Bool) : UInt8 := if ob then 123 else 91
def cls (ob : Bool) : UInt8 := if ob then 125 else 93
def TRs.wrap (R : TRs) (k : UInt8) (key : List UInt8) : TRs := if R.e = 0 then ⟨(k, key, [], R.l.length + 1) :: R.l, R.r, 0⟩ else ⟨[], [], R.e⟩
def TRs.front (R : TRs) (l : List ND) : TRs := if R.e = 0 then ⟨l ++ R.l, R.r, 0⟩ else ⟨[], [], R.e⟩
def addK (ob : Bool) (keys : List (List UInt8)) (u : TK) : List (List UInt8) := if ob then keys ++ [u.2] else keys
mutual
/-- The value that begins with t, that was read. -/
def vTr (E : Int) : Nat → TK → List UInt8 → Nat → List TK → TRs
  | 0, _, _, _, _ => ⟨[], [], 1⟩
  | f + 1, t, key, d, ts =>
    if t.1 = 91 then (pTr E f false d ts).wrap 91 key
    else if t.1 = 123 then (pTr E f true d ts).wrap 123 key
    else if tSign t.1 = true then ⟨[], [], 3⟩ else ⟨[(t.1, key, t.2, 1)], ts, 0⟩
/-- What stands behind the first sign. -/
def pTr (E : Int) : Nat → Bool → Nat → List TK → TRs
  | 0, _, _, _ => ⟨[], [], 1⟩
  | f + 1, ob, d, ts => if d = 32 then ⟨[], [], 33⟩ else match ts with
    | [] => ⟨[], [], E⟩
    | u :: ts1 => if u.1 = cls ob then ⟨[], ts1, 0⟩ else mTr E f ob u (d + 1) [] ts1
/-- A part, that begins with u, that was read. -/
def gTr (E : Int) : Nat → Bool → TK → Nat → List (List UInt8) → List TK → TRs
  | 0, _, _, _, _, _ => ⟨[], [], 1⟩
  | f + 1, ob, u, d, keys, ts =>
    if ob = false then vTr E f u [] d ts
    else if u.1 = 115 then (if u.2 ∈ keys then ⟨[], [], 8⟩ else match ts with
      | [] => ⟨[], [], E⟩
      | c :: ts1 => if c.1 = 58 then (match ts1 with
        | [] => ⟨[], [], E⟩
        | v :: ts2 => vTr E f v u.2 d ts2) else ⟨[], [], 3⟩)
    else ⟨[], [], 3⟩
/-- The parts from the one on that begins with u, that was read. -/
def mTr (E : Int) : Nat → Bool → TK → Nat → List (List UInt8) → List TK → TRs
  | 0, _, _, _, _, _ => ⟨[], [], 1⟩
  | f + 1, ob, u, d, keys, ts =>
    if (gTr E f ob u d keys ts).e = 0 then (match (gTr E f ob u d keys ts).r with
      | [] => ⟨[], [], E⟩
      | c :: r1 => if c.1 = cls ob then ⟨(gTr E f ob u d keys ts).l, r1, 0⟩ else if c.1 = 44 then (match r1 with
        | [] => ⟨[], [], E⟩
        | u2 :: r2 => (mTr E f ob u2 d (addK ob keys u) r2).front (gTr E f ob u d keys ts).l) else ⟨[], [], 3⟩)
    else ⟨[], [], (gTr E f ob u d keys ts).e⟩
end

theorem cls_sign (ob : Bool) : tSign (cls ob) = true := by cases ob <;> rfl
theorem opn_sign (ob : Bool) : tSign (opn ob) = true := by cases ob <;> rfl
section ways
variable {E : Int} {f : Nat} {t u : TK} {key : List UInt8} {d : Nat} {ts : List TK} {ob : Bool} {keys : List (List UInt8)}
theorem vTr_open (h : t.1 = opn ob) : vTr E (f + 1) t key d ts = (pTr E f ob d ts).wrap (opn ob) key := by
  cases ob
  · have h1 : t.1 = 91 := h
    rw [vTr, if_pos h1]; rfl
  · have h1 : t.1 = 123 := h
    rw [vTr, if_neg (by rw [h1]; decide), if_pos h1]; rfl
theorem vTr_bad (h : tSign t.1 = true) (h1 : ∀ ob, t.1 ≠ opn ob) : vTr E (f + 1) t key d ts = ⟨[], [], 3⟩ := by
  rw [vTr, if_neg (show ¬ t.1 = 91 from h1 false), if_neg (show ¬ t.1 = 123 from h1 true), if_pos h]
theorem vTr_leaf (h : ¬ tSign t.1 = true) : vTr E (f + 1) t key d ts = ⟨[(t.1, key, t.2, 1)], ts, 0⟩ := by
  rw [vTr, if_neg (fun e => h (by rw [e]; rfl)), if_neg (fun e => h (by rw [e]; rfl)), if_neg h]
theorem pTr_deep (h : d = 32) : pTr E (f + 1) ob d ts = ⟨[], [], 33⟩ := by rw [pTr.eq_def]; simp only [if_pos h]
theorem pTr_cut (h : ¬ d = 32) : pTr E (f + 1) ob d [] = ⟨[], [], E⟩ := by rw [pTr.eq_def]; simp only [if_neg h]
theorem pTr_none (h : ¬ d = 32) (hu : u.1 = cls ob) : pTr E (f + 1) ob d (u :: ts) = ⟨[], ts, 0⟩ := by rw [pTr.eq_def]; simp only [if_neg h, if_pos hu]
theorem pTr_some (h : ¬ d = 32) (hu : ¬ u.1 = cls ob) : pTr E (f + 1) ob d (u :: ts) = mTr E f ob u (d + 1) [] ts := by rw [pTr.eq_def]; simp only [if_neg h, if_neg hu]
theorem gTr_list : gTr E (f + 1) false u d keys ts = vTr E f u [] d ts := by rw [gTr.eq_def]; rfl
theorem gTr_kind (hu : ¬ u.1 = 115) : gTr E (f + 1) true u d keys ts = ⟨[], [], 3⟩ := by rw [gTr.eq_def]; simp [hu]
theorem gTr_twice (hu : u.1 = 115) (hk : u.2 ∈ keys) : gTr E (f + 1) true u d keys ts = ⟨[], [], 8⟩ := by rw [gTr.eq_def]; simp [hu, hk]
theorem gTr_cut (hu : u.1 = 115) (hk : ¬ u.2 ∈ keys) : gTr E (f + 1) true u d keys [] = ⟨[], [], E⟩ := by rw [gTr.eq_def]; simp [hu, hk]
theorem gTr_form {c : TK} (hu : u.1 = 115) (hk : ¬ u.2 ∈ keys) (hc : ¬ c.1 = 58) : gTr E (f + 1) true u d keys (c :: ts) = ⟨[], [], 3⟩ := by rw [gTr.eq_def]; simp [hu, hk, hc]
theorem gTr_cut2 {c : TK} (hu : u.1 = 115) (hk : ¬ u.2 ∈ keys) (hc : c.1 = 58) : gTr E (f + 1) true u d keys [c] = ⟨[], [], E⟩ := by rw [gTr.eq_def]; simp [hu, hk, hc]
theorem gTr_some {c v : TK} (hu : u.1 = 115) (hk : ¬ u.2 ∈ keys) (hc : c.1 = 58) : gTr E (f + 1) true u d keys (c :: v :: ts) = vTr E f v u.2 d ts := by rw [gTr.eq_def]; simp [hu, hk, hc]
theorem mTr_bad (h : ¬ (gTr E f ob u d keys ts).e = 0) : mTr E (f + 1) ob u d keys ts = ⟨[], [], (gTr E f ob u d keys ts).e⟩ := by rw [mTr.eq_def]; simp only [if_neg h]
theorem mTr_cut (h : (gTr E f ob u d keys ts).e = 0) (hr : (gTr E f ob u d keys ts).r = []) : mTr E (f + 1) ob u d keys ts = ⟨[], [], E⟩ := by rw [mTr.eq_def]; simp only [if_pos h]; rw [hr]
theorem mTr_end {c : TK} {r1 : List TK} (h : (gTr E f ob u d keys ts).e = 0) (hr : (gTr E f ob u d keys ts).r = c :: r1) (hc : c.1 = cls ob) : mTr E (f + 1) ob u d keys ts = ⟨(gTr E f ob u d keys ts).l, r1, 0⟩ := by rw [mTr.eq_def]; simp only [if_pos h]; rw [hr]; simp only [if_pos hc]
theorem mTr_form {c : TK} {r1 : List TK} (h : (gTr E f ob u d keys ts).e = 0) (hr : (gTr E f ob u d keys ts).r = c :: r1) (hc : ¬ c.1 = cls ob) (hc2 : ¬ c.1 = 44) : mTr E (f + 1) ob u d keys ts = ⟨[], [], 3⟩ := by rw [mTr.eq_def]; simp only [if_pos h]; rw [hr]; simp only [if_neg hc, if_neg hc2]
theorem mTr_cut2 {c : TK} (h : (gTr E f ob u d keys ts).e = 0) (hr : (gTr E f ob u d keys ts).r = [c]) (hc : ¬ c.1 = cls ob) (hc2 : c.1 = 44) : mTr E (f + 1) ob u d keys ts = ⟨[], [], E⟩ := by rw [mTr.eq_def]; simp only [if_pos h]; rw [hr]; simp only [if_neg hc, if_pos hc2]
theorem mTr_more {c u2 : TK} {r2 : List TK} (h : (gTr E f ob u d keys ts).e = 0) (hr : (gTr E f ob u d keys ts).r = c :: u2 :: r2) (hc : ¬ c.1 = cls ob) (hc2 : c.1 = 44) : mTr E (f + 1) ob u d keys ts = (mTr E f ob u2 d (addK ob keys u) r2).front (gTr E f ob u d keys ts).l := by rw [mTr.eq_def]; simp only [if_pos h]; rw [hr]; simp only [if_neg hc, if_pos hc2]
theorem wrap_good {R : TRs} {k : UInt8} (h : R.e = 0) : R.wrap k key = ⟨(k, key, [], R.l.length + 1) :: R.l, R.r, 0⟩ := by unfold TRs.wrap; rw [if_pos h]
theorem wrap_bad {R : TRs} {k : UInt8} (h : ¬ R.e = 0) : R.wrap k key = ⟨[], [], R.e⟩ := by unfold TRs.wrap; rw [if_neg h]
theorem wrap_e (R : TRs) (k : UInt8) : (R.wrap k key).e = R.e := by
  by_cases h : R.e = 0
  · rw [wrap_good h, h]
  · rw [wrap_bad h]
theorem front_e (R : TRs) (l : List ND) : (R.front l).e = R.e := by
  unfold TRs.front
  by_cases h : R.e = 0
  · rw [if_pos h, h]
  · rw [if_neg h]
theorem front_good {R : TRs} (l : List ND) (h : R.e = 0) : R.front l = ⟨l ++ R.l, R.r, 0⟩ := by unfold TRs.front; rw [if_pos h]
end ways

/-- Nodes and the tokens that they are: of a value (none), or of parts (of a list or an object; is a comma ahead of the first one?). -/
inductive Wf : Option (Bool × Bool) → List UInt8 → List ND → List TK → Prop
  | leaf (key : List UInt8) (t : TK) : ¬ tSign t.1 = true → Wf none key [(t.1, key, t.2, 1)] [t]
  | node (ob : Bool) (key : List UInt8) (l : List ND) (tk : List TK) : Wf (some (ob, true)) [] l tk → Wf none key ((opn ob, key, [], l.length + 1) :: l) ((opn ob, []) :: (tk ++ [(cls ob, [])]))
  | none (ob fst : Bool) : Wf (some (ob, fst)) [] [] []
  | cons (ob fst : Bool) (key : List UInt8) (l1 l2 : List ND) (k1 k2 : List TK) : Wf none key l1 k1 → Wf (some (ob, false)) [] l2 k2 → (ob = false → key = []) →
      Wf (some (ob, fst)) [] (l1 ++ l2) ((if fst then [] else [(44, [])]) ++ ((if ob then [(115, key), (58, [])] else []) ++ (k1 ++ k2)))
/-- Signs have no text; no text is out of all measure. -/
def SgE (ts : List TK) : Prop := ∀ x ∈ ts, (tSign x.1 = true → x.2 = []) ∧ x.2.length ≤ 1099511627776
theorem SgE.tail {x : TK} {ts : List TK} (h : SgE (x :: ts)) : SgE ts := fun y hy => h y (List.mem_cons_of_mem _ hy)
theorem SgE.sign {x : TK} {ts : List TK} (h : SgE (x :: ts)) {k : UInt8} (hk : x.1 = k) (hs : tSign k = true) : x = (k, []) := by
  have := (h x List.mem_cons_self).1 (by rw [hk]; exact hs)
  rw [← hk, ← this]
theorem SgE.back {x : List TK} {ts : List TK} (h : SgE (x ++ ts)) : SgE ts := fun y hy => h y (List.mem_append_right _ hy)
theorem wf_pos {o : Option (Bool × Bool)} {key : List UInt8} {l : List ND} {tk : List TK} (h : Wf o key l tk) : o = none → 0 < l.length := by
  induction h with
  | leaf => intro _; simp
  | node => intro _; simp
  | none => intro e; cases e
  | cons => intro e; cases e
theorem wf_len {o : Option (Bool × Bool)} {key : List UInt8} {l : List ND} {tk : List TK} (h : Wf o key l tk) : l.length ≤ tk.length := by
  induction h with
  | leaf => simp
  | node ob key l tk _ ih => simp only [List.length_cons, List.length_append]; omega
  | none => simp
  | cons ob fst key l1 l2 k1 k2 _ _ _ ih1 ih2 => simp only [List.length_append]; omega
/-- Parts with a comma ahead. -/
theorem wf_comma {ob : Bool} {l : List ND} {tk : List TK} (h : Wf (some (ob, true)) [] l tk) (hl : l ≠ []) : Wf (some (ob, false)) [] l ((44, []) :: tk) := by
  generalize ho : (some (ob, true) : Option (Bool × Bool)) = o at h
  cases h with
  | leaf => cases ho
  | node => cases ho
  | none => exact absurd rfl hl
  | cons ob2 fst key l1 l2 k1 k2 h1 h2 h3 =>
    simp only [Option.some.injEq, Prod.mk.injEq] at ho
    obtain ⟨rfl, rfl⟩ := ho
    exact Wf.cons ob false key l1 l2 k1 k2 h1 h2 h3
/-- What was read is a tree, of just the tokens that were taken. -/
theorem tr_wf {E : Int} (hE : E ≠ 0) : ∀ f : Nat,
    (∀ t key d ts, SgE (t :: ts) → (vTr E f t key d ts).e = 0 → ∃ tk, t :: ts = tk ++ (vTr E f t key d ts).r ∧ Wf none key (vTr E f t key d ts).l tk) ∧
    (∀ ob d ts, SgE ts → (pTr E f ob d ts).e = 0 → ∃ tk, ts = tk ++ (cls ob, []) :: (pTr E f ob d ts).r ∧ Wf (some (ob, true)) [] (pTr E f ob d ts).l tk) ∧
    (∀ ob u d keys ts, SgE (u :: ts) → (gTr E f ob u d keys ts).e = 0 → ∃ key tk, u :: ts = (if ob then [(115, key), (58, [])] else []) ++ (tk ++ (gTr E f ob u d keys ts).r) ∧ Wf none key (gTr E f ob u d keys ts).l tk ∧ (ob = false → key = [])) ∧
    (∀ ob u d keys ts, SgE (u :: ts) → (mTr E f ob u d keys ts).e = 0 → (mTr E f ob u d keys ts).l ≠ [] ∧ ∃ tk, u :: ts = tk ++ (cls ob, []) :: (mTr E f ob u d keys ts).r ∧ Wf (some (ob, true)) [] (mTr E f ob u d keys ts).l tk) := by
  intro f
  induction f with
  | zero => exact ⟨fun _ _ _ _ _ h => absurd h (by rw [vTr]; decide), fun _ _ _ _ h => absurd h (by rw [pTr]; decide), fun _ _ _ _ _ _ h => absurd h (by rw [gTr]; decide), fun _ _ _ _ _ _ h => absurd h (by rw [mTr]; decide)⟩
  | succ f ih =>
    obtain ⟨iv, ip, ig, im⟩ := ih
    refine ⟨?_, ?_, ?_, ?_⟩
    · intro t key d ts hs h
      by_cases h1 : ∃ ob, t.1 = opn ob
      · obtain ⟨ob, h1⟩ := h1
        rw [vTr_open h1] at h ⊢
        rw [wrap_e] at h
        rw [wrap_good h]
        obtain ⟨tk, e1, w1⟩ := ip ob d ts hs.tail h
        refine ⟨(opn ob, []) :: (tk ++ [(cls ob, [])]), ?_, Wf.node ob key _ tk w1⟩
        rw [hs.sign h1 (opn_sign ob)]
        simp only [List.cons_append, List.append_assoc, List.nil_append]
        rw [← e1]
      · by_cases h2 : tSign t.1 = true
        · rw [vTr_bad h2 (fun ob e => h1 ⟨ob, e⟩)] at h
          exact absurd h (by decide)
        · rw [vTr_leaf h2]
          exact ⟨[t], rfl, Wf.leaf key t h2⟩
    · intro ob d ts hs h
      by_cases h1 : d = 32
      · rw [pTr_deep h1] at h; exact absurd h (by decide)
      · match ts with
        | [] => rw [pTr_cut h1] at h; exact absurd h hE
        | u :: ts1 =>
          by_cases h2 : u.1 = cls ob
          · rw [pTr_none h1 h2]
            refine ⟨[], ?_, Wf.none ob true⟩
            rw [hs.sign h2 (cls_sign ob)]; rfl
          · rw [pTr_some h1 h2] at h ⊢
            exact (im ob u (d + 1) [] ts1 hs h).2
    · intro ob u d keys ts hs h
      cases ob with
      | false =>
        rw [gTr_list] at h ⊢
        obtain ⟨tk, e1, w1⟩ := iv u [] d ts hs h
        exact ⟨[], tk, e1, w1, fun _ => rfl⟩
      | true =>
        by_cases h1 : u.1 = 115
        · by_cases h2 : u.2 ∈ keys
          · rw [gTr_twice h1 h2] at h; exact absurd h (by decide)
          · match ts with
            | [] => rw [gTr_cut h1 h2] at h; exact absurd h hE
            | c :: ts1 =>
              by_cases h3 : c.1 = 58
              · match ts1 with
                | [] => rw [gTr_cut2 h1 h2 h3] at h; exact absurd h hE
                | v :: ts2 =>
                  rw [gTr_some h1 h2 h3] at h ⊢
                  obtain ⟨tk, e1, w1⟩ := iv v u.2 d ts2 hs.tail.tail h
                  refine ⟨u.2, tk, ?_, w1, fun e => by cases e⟩
                  rw [← e1, hs.tail.sign h3 rfl, ← h1]
                  rfl
              · rw [gTr_form h1 h2 h3] at h; exact absurd h (by decide)
        · rw [gTr_kind h1] at h; exact absurd h (by decide)
    · intro ob u d keys ts hs h
      by_cases g : (gTr E f ob u d keys ts).e = 0
      · obtain ⟨key, tk, e1, w1, hk⟩ := ig ob u d keys ts hs g
        match hr : (gTr E f ob u d keys ts).r with
        | [] => rw [mTr_cut g hr] at h; exact absurd h hE
        | c :: r1 =>
          rw [hr] at e1
          have hs' : SgE (c :: r1) := by rw [e1, ← List.append_assoc] at hs; exact hs.back
          have hpos := wf_pos w1 rfl
          by_cases c1 : c.1 = cls ob
          · rw [mTr_end g hr c1] at h ⊢
            have hw := Wf.cons ob true key _ [] tk [] w1 (Wf.none ob false) hk
            rw [List.append_nil, List.append_nil] at hw
            refine ⟨fun e => ?_, _, ?_, hw⟩
            · simp only at e; rw [e] at hpos; exact absurd hpos (by decide)
            · rw [e1, hs'.sign c1 (cls_sign ob)]; simp
          · by_cases c2 : c.1 = 44
            · match r1 with
              | [] => rw [mTr_cut2 g hr c1 c2] at h; exact absurd h hE
              | u2 :: r2 =>
                rw [mTr_more g hr c1 c2] at h ⊢
                rw [front_e] at h
                rw [front_good _ h]
                obtain ⟨n2, tk2, e2, w2⟩ := im ob u2 d (addK ob keys u) r2 hs'.tail h
                have hw := Wf.cons ob true key _ _ tk _ w1 (wf_comma w2 n2) hk
                refine ⟨fun e => ?_, _, ?_, hw⟩
                · simp only at e
                  exact n2 (List.append_eq_nil_iff.mp e).2
                · rw [e1, hs'.sign c2 rfl, e2]; simp
            · rw [mTr_form g hr c1 c2] at h; exact absurd h (by decide)
      · rw [mTr_bad g] at h; exact absurd h g
theorem gTr_len {E : Int} (hE : E ≠ 0) {f : Nat} {ob : Bool} {u : TK} {d : Nat} {keys : List (List UInt8)} {ts : List TK} (hs : SgE (u :: ts)) (h : (gTr E f ob u d keys ts).e = 0) :
    (gTr E f ob u d keys ts).r.length ≤ ts.length ∧ (gTr E f ob u d keys ts).l.length + (gTr E f ob u d keys ts).r.length ≤ ts.length + 1 ∧ SgE (gTr E f ob u d keys ts).r := by
  obtain ⟨key, tk, e1, w1, _⟩ := (tr_wf hE f).2.2.1 ob u d keys ts hs h
  have h1 := wf_pos w1 rfl
  have h2 := wf_len w1
  have h3 := congrArg List.length e1
  simp only [List.length_append, List.length_cons] at h3
  refine ⟨by omega, by omega, ?_⟩
  rw [e1, ← List.append_assoc] at hs
  exact hs.back
theorem vTr_len {E : Int} (hE : E ≠ 0) {f : Nat} {t : TK} {key : List UInt8} {d : Nat} {ts : List TK} (hs : SgE (t :: ts)) (h : (vTr E f t key d ts).e = 0) :
    (vTr E f t key d ts).r.length ≤ ts.length ∧ (vTr E f t key d ts).l.length + (vTr E f t key d ts).r.length ≤ ts.length + 1 ∧ SgE (vTr E f t key d ts).r := by
  obtain ⟨tk, e1, w1⟩ := (tr_wf hE f).1 t key d ts hs h
  have h1 := wf_pos w1 rfl
  have h2 := wf_len w1
  have h3 := congrArg List.length e1
  simp only [List.length_append, List.length_cons] at h3
  refine ⟨by omega, by omega, ?_⟩
  rw [e1] at hs
  exact hs.back
end Go.Proofs.YtfighopfgllneaaGreatDoor
/- Tokens of bytes, and trees' tokens written and read again; what a text's tree is. Of no program. -/
namespace Go.Proofs.YtfighopfgllneaaGreatDoor
open Go Go.RowKit
set_option linter.unusedVariables false

theorem tok_sign {x : TK} (h : TOk x) (hs : tSign x.1 = true) : x.2 = [] := by
  rcases h with ⟨_, h⟩ | ⟨h, _⟩ | ⟨h, _⟩ | ⟨h, _⟩
  · exact h
  · rw [h] at hs; exact absurd hs (by decide)
  · rw [h] at hs; exact absurd hs (by decide)
  · rcases h with e | e | e <;> rw [e] at hs <;> exact absurd hs (by decide)
theorem tsz_mem : ∀ {ts : List TK} {x : TK}, x ∈ ts → x.2.length ≤ tsz ts
  | t :: ts, x, h => by
    unfold tsz
    rcases List.mem_cons.mp h with rfl | h
    · omega
    · have := tsz_mem h; omega
theorem sg_of {ts : List TK} (h : ∀ x ∈ ts, TOk x) (hz : tsz ts ≤ 1099511627776) : SgE ts := fun x hx => ⟨fun hs => tok_sign (h x hx) hs, Nat.le_trans (tsz_mem hx) hz⟩
/-- Each text has its tokens. -/
theorem sf_all : ∀ (n : Nat) (l : List UInt8), l.length = n → ∃ ts e, SfL ts (some e) l ∧ ts.length ≤ l.length ∧ tsz ts ≤ l.length ∧ ∀ x ∈ ts, TOk x := by
  intro n
  induction n using Nat.strongRecOn with
  | _ n ih =>
    intro l hn
    by_cases he : (tNx l).e = 0
    · by_cases h0 : (tNx l).tok.1 = 0
      · exact ⟨[], (tNx l).e, .inr ⟨h0, rfl⟩, Nat.zero_le _, Nat.zero_le _, fun x hx => by simp at hx⟩
      · obtain ⟨h1, h2, h3, h4⟩ := tNx_fine he h0
        have hl : (l.drop (tNx l).k).length = l.length - (tNx l).k := List.length_drop
        obtain ⟨ts, e, i1, i2, i3, i4⟩ := ih _ (by omega) (l.drop (tNx l).k) rfl
        refine ⟨(tNx l).tok :: ts, e, ⟨⟨he, rfl, h0⟩, i1⟩, by rw [List.length_cons]; omega, by unfold tsz; omega, fun x hx => ?_⟩
        rcases List.mem_cons.mp hx with rfl | hx
        · exact h4
        · exact i4 x hx
    · exact ⟨[], (tNx l).e, .inr ⟨by rw [tNx_bad he], rfl⟩, Nat.zero_le _, Nat.zero_le _, fun x hx => by simp at hx⟩
theorem sf_len : ∀ (ts : List TK) (la : Option Int) (l : List UInt8), SfL ts la l → ts.length ≤ l.length
  | [], _, _, _ => Nat.zero_le _
  | t :: ts, la, l, h => by
    obtain ⟨⟨h1, h2, h3⟩, h4⟩ := h
    obtain ⟨k1, k2, _⟩ := tNx_fine h1 (by rw [h2]; exact h3)
    have := sf_len ts la _ h4
    rw [List.length_drop] at this
    rw [List.length_cons]; omega
/-- What is read is right. -/
theorem sf_ok : ∀ (ts : List TK) (la : Option Int) (l : List UInt8), SfL ts la l → ∀ x ∈ ts, TOk x
  | [], _, _, _ => fun x hx => by simp at hx
  | t :: ts, la, l, h => fun x hx => by
    obtain ⟨⟨h1, h2, h3⟩, h4⟩ := h
    rcases List.mem_cons.mp hx with rfl | hx
    · rw [← h2]; exact (tNx_fine h1 (by rw [h2]; exact h3)).2.2.2
    · exact sf_ok ts la _ h4 x hx
/-- A sign, and what stands behind it. -/
theorem nx_sign {k : UInt8} (hk : tSign k = true) (R : List UInt8) : tNx (k :: R) = ⟨(k, []), 1, 0⟩ := by
  have hb : tBl k = false := by
    rcases tSign_iff.mp hk with rfl | rfl | rfl | rfl | rfl | rfl <;> rfl
  have h2 : (k :: R).drop (bL (k :: R)) = k :: R := by rw [bl_none hb]; rfl
  rw [tNx_some h2, bl_none hb]
  unfold tBeg
  rw [if_pos hk]
  rfl
theorem sf_sign {k : UInt8} (hk : tSign k = true) {ts : List TK} {la : Option Int} {R : List UInt8} (h : SfL ts la R) : SfL ((k, []) :: ts) la (k :: R) := by
  have hn := nx_sign hk R
  unfold SfL
  rw [hn]
  exact ⟨⟨rfl, rfl, fun e => by simp only at e; rw [e] at hk; exact absurd hk (by decide)⟩, h⟩
theorem sf_tok {x : TK} (hx : TOk x) {ts : List TK} {la : Option Int} {R : List UInt8} (hR : tStop R) (h : SfL ts la R) : SfL (x :: ts) la (tPut x ++ R) := by
  have hn := tNx_again hx (S := []) (R := R) (fun b hb => by simp at hb) hR
  rw [List.nil_append, List.length_nil, Nat.zero_add] at hn
  unfold SfL
  rw [hn]
  refine ⟨⟨rfl, rfl, tOk_kind hx⟩, ?_⟩
  simp only
  rw [List.drop_left' rfl]; exact h
theorem sf_nil : SfL [] (some 0) [] := .inr ⟨rfl, rfl⟩
def tksB (tk : List TK) : List UInt8 := tk.flatMap tPut
theorem tksB_cons (x : TK) (tk : List TK) : tksB (x :: tk) = tPut x ++ tksB tk := rfl
theorem tksB_app (a b : List TK) : tksB (a ++ b) = tksB a ++ tksB b := List.flatMap_append
theorem tPut_sign {k : UInt8} (hk : tSign k = true) : tPut (k, []) = [k] := by
  unfold tPut
  rw [if_neg (by rcases tSign_iff.mp hk with rfl | rfl | rfl | rfl | rfl | rfl <;> decide), if_pos hk]
theorem tStop_sign {k : UInt8} (hk : tSign k = true) (R : List UInt8) : tStop (k :: R) := fun x t e => by rw [← (List.cons.inj e).1]; exact .inr hk
/-- A tree's tokens, written without blanks, are read again, whatever stands behind that ends a number. -/
theorem sf_wf {o : Option (Bool × Bool)} {key : List UInt8} {l : List ND} {tk : List TK} (h : Wf o key l tk) : (∀ x ∈ tk, TOk x) → ∀ (rest : List TK) (la : Option Int) (R : List UInt8), tStop R → SfL rest la R →
    SfL (tk ++ rest) la (tksB tk ++ R) ∧ ((∃ ob, o = some (ob, false)) → tStop (tksB tk ++ R)) := by
  induction h with
  | leaf key t ht =>
    intro hx rest la R hR hs
    refine ⟨?_, fun ⟨_, e⟩ => by cases e⟩
    have := sf_tok (hx t (by simp)) hR hs
    simpa [tksB] using this
  | node ob key l tk _ ih =>
    intro hx rest la R hR hs
    refine ⟨?_, fun ⟨_, e⟩ => by cases e⟩
    have hc := sf_sign (cls_sign ob) hs
    have h1 := (ih (fun x hxx => hx x (by simp [hxx])) ((cls ob, []) :: rest) la (cls ob :: R) (tStop_sign (cls_sign ob) R) hc).1
    have h2 := sf_sign (opn_sign ob) h1
    rw [tksB_cons, tksB_app, tksB_cons, tPut_sign (opn_sign ob), tPut_sign (cls_sign ob)]
    simpa [tksB] using h2
  | none ob fst =>
    intro hx rest la R hR hs
    exact ⟨hs, fun _ => hR⟩
  | cons ob fst key l1 l2 k1 k2 h1 h2 hk ih1 ih2 =>
    intro hx rest la R hR hs
    have hk2 : ∀ x ∈ k2, TOk x := fun x hxx => hx x (by simp [hxx])
    have hk1 : ∀ x ∈ k1, TOk x := fun x hxx => hx x (by simp [hxx])
    obtain ⟨s2, t2⟩ := ih2 hk2 rest la R hR hs
    have s1 := (ih1 hk1 (k2 ++ rest) la (tksB k2 ++ R) (t2 ⟨ob, rfl⟩) s2).1
    have sk : SfL (((if ob then [((115 : UInt8), key), (58, [])] else []) : List TK) ++ (k1 ++ (k2 ++ rest))) la (tksB ((if ob then [((115 : UInt8), key), (58, [])] else []) : List TK) ++ (tksB k1 ++ (tksB k2 ++ R))) := by
      cases ob with
      | false => exact s1
      | true =>
        have hkey : TOk (115, key) := hx (115, key) (by simp)
        have hcol := sf_sign (k := 58) rfl s1
        have := sf_tok hkey (tStop_sign (k := 58) rfl _) hcol
        have e : tksB ((if true then [((115 : UInt8), key), (58, [])] else []) : List TK) = tPut (115, key) ++ [58] := by
          simp [tksB, tPut_sign (k := 58) rfl]
        rw [e]
        simpa using this
    refine ⟨?_, ?_⟩
    · cases fst with
      | true => simpa [tksB_app, List.append_assoc, tksB] using sk
      | false =>
        have := sf_sign (k := 44) rfl sk
        have e : tksB ([(44, [])] : List TK) = [44] := by simp [tksB, tPut_sign (k := 44) rfl]
        simp only [Bool.false_eq_true, if_false]
        rw [tksB_app, tksB_app, tksB_app, e]
        simpa [List.append_assoc] using this
    · rintro ⟨ob2, e2⟩
      simp only [Option.some.injEq, Prod.mk.injEq] at e2
      obtain ⟨_, rfl⟩ := e2
      have e : tksB ([(44, [])] : List TK) = [44] := by simp [tksB, tPut_sign (k := 44) rfl]
      simp only [Bool.false_eq_true, if_false]
      rw [tksB_app, e]
      exact tStop_sign (k := 44) rfl _
/-- What a text's tokens are: a tree, or what is wrong first. -/
def rdT (ts : List TK) (la : Option Int) : List ND × Int := match ts with
  | [] => ([], eE la)
  | t :: ts1 => if (vTr (eE la) (4 * ts1.length + 2) t [] 0 ts1).e = 0 then (if (vTr (eE la) (4 * ts1.length + 2) t [] 0 ts1).r = [] ∧ la = some 0 then ((vTr (eE la) (4 * ts1.length + 2) t [] 0 ts1).l, 0) else ([], 2))
    else ([], (vTr (eE la) (4 * ts1.length + 2) t [] 0 ts1).e)
theorem rdT_bad {ts : List TK} {la : Option Int} (h : ¬ (rdT ts la).2 = 0) : (rdT ts la).1 = [] := by
  unfold rdT at h ⊢
  match ts with
  | [] => rfl
  | t :: ts1 =>
    simp only at h ⊢
    by_cases h1 : (vTr (eE la) (4 * ts1.length + 2) t [] 0 ts1).e = 0
    · rw [if_pos h1] at h ⊢
      by_cases h2 : (vTr (eE la) (4 * ts1.length + 2) t [] 0 ts1).r = [] ∧ la = some 0
      · rw [if_pos h2] at h; exact absurd rfl h
      · rw [if_neg h2]
    · rw [if_neg h1]
theorem rdT_good {ts : List TK} {la : Option Int} (hs : SgE ts) (h : (rdT ts la).2 = 0) : la = some 0 ∧ Wf none [] (rdT ts la).1 ts := by
  unfold rdT at h ⊢
  match ts with
  | [] => exact absurd h (eE_ne la)
  | t :: ts1 =>
    simp only at h ⊢
    by_cases h1 : (vTr (eE la) (4 * ts1.length + 2) t [] 0 ts1).e = 0
    · rw [if_pos h1] at h ⊢
      by_cases h2 : (vTr (eE la) (4 * ts1.length + 2) t [] 0 ts1).r = [] ∧ la = some 0
      · rw [if_pos h2] at h ⊢
        obtain ⟨tk, e1, w1⟩ := (tr_wf (eE_ne la) _).1 t [] 0 ts1 hs h1
        rw [h2.1, List.append_nil] at e1
        rw [e1]
        exact ⟨h2.2, w1⟩
      · rw [if_neg h2] at h; exact absurd h (by decide)
    · rw [if_neg h1] at h; exact absurd h h1
/-- Written without blanks, and read again: the same tokens. -/
theorem rdT_again {ts : List TK} {la : Option Int} (hs : ∀ x ∈ ts, TOk x) (hz : tsz ts ≤ 1099511627776) (h : (rdT ts la).2 = 0) : SfL ts (some 0) (tksB ts) := by
  have h1 := (sf_wf (rdT_good (sg_of hs hz) h).2 hs [] (some 0) [] (fun x t e => by cases e) sf_nil).1
  rw [List.append_nil, List.append_nil] at h1
  exact h1
theorem tksB_len : ∀ ts : List TK, (tksB ts).length ≤ 6 * tsz ts + 5 * ts.length
  | [] => Nat.zero_le _
  | x :: ts => by
    have h1 := tPut_len x
    have ih := tksB_len ts
    rw [tksB_cons, List.length_append, List.length_cons]
    unfold tsz; omega

/-- Sizes of nodes: each is of one at least, and ends where the nodes do, or ahead. -/
def SzOk (l : List ND) : Prop := ∀ i (h : i < l.length), 1 ≤ l[i].2.2.2 ∧ i + l[i].2.2.2 ≤ l.length
theorem wf_head {o : Option (Bool × Bool)} {key : List UInt8} {l : List ND} {tk : List TK} (h : Wf o key l tk) : o = none → ∃ x r, l = x :: r ∧ x.2.2.2 = l.length := by
  induction h with
  | leaf key t _ => exact fun _ => ⟨_, _, rfl, rfl⟩
  | node ob key l tk _ _ => exact fun _ => ⟨_, _, rfl, rfl⟩
  | none => intro e; cases e
  | cons => intro e; cases e
theorem wf_sz {o : Option (Bool × Bool)} {key : List UInt8} {l : List ND} {tk : List TK} (h : Wf o key l tk) : SzOk l := by
  induction h with
  | leaf key t _ =>
    intro i hi
    have : i = 0 := by simpa using hi
    subst this
    exact ⟨Nat.le_refl _, Nat.le_refl _⟩
  | node ob key l tk _ ih =>
    intro i hi
    match i with
    | 0 => exact ⟨by simp, by simp⟩
    | i + 1 =>
      have := ih i (by simpa using hi)
      simp only [List.getElem_cons_succ, List.length_cons]
      omega
  | none => intro i hi; simp at hi
  | cons ob fst key l1 l2 k1 k2 _ _ _ ih1 ih2 =>
    intro i hi
    by_cases h : i < l1.length
    · have := ih1 i h
      rw [List.getElem_append_left h, List.length_append]
      omega
    · have hi2 : i - l1.length < l2.length := by rw [List.length_append] at hi; omega
      have := ih2 (i - l1.length) hi2
      rw [List.getElem_append_right (by omega), List.length_append]
      omega
/-- The places of the kids from k on, ahead of e. -/
def kdL (l : List ND) : Nat → Nat → Nat → List Nat
  | 0, _, _ => []
  | f + 1, k, e => if k < e then k :: kdL l f (k + (l.getD k (0, [], [], 0)).2.2.2) e else []
def kidsL (l : List ND) (at_ : Int) : List Nat := if at_ < 0 ∨ (l.length : Int) ≤ at_ then [] else kdL l l.length (at_.toNat + 1) (at_.toNat + (l.getD at_.toNat (0, [], [], 0)).2.2.2)
end Go.Proofs.YtfighopfgllneaaGreatDoor
/- Nodes in memory: lists of them that the call made ('NRow'), or that are there ('NIn'); 'append' of one, of many; what a reader of trees keeps ('Kp'). Of no package but the types' facts. -/
namespace Go.Proofs.YtfighopfgllneaaGreatDoor
open Go Go.RowKit
set_option linter.unusedVariables false

def ndC (x : ND) : List Value := [.int .u8 (x.1.toNat : Int), .string (bA x.2.1), .string (bA x.2.2.1), .int .i64 (x.2.2.2 : Nat)]
def ndV (x : ND) : Value := .agg #[.int .u8 (x.1.toNat : Int), .string (bA x.2.1), .string (bA x.2.2.1), .int .i64 (x.2.2.2 : Nat)]
/-- Nodes as cells. -/
def ndCs (l : List ND) : List Value := l.flatMap ndC
theorem ndCs_cons (x : ND) (l : List ND) : ndCs (x :: l) = .int .u8 (x.1.toNat : Int) :: .string (bA x.2.1) :: .string (bA x.2.2.1) :: .int .i64 (x.2.2.2 : Nat) :: ndCs l := rfl
theorem ndCs_append (l m : List ND) : ndCs (l ++ m) = ndCs l ++ ndCs m := List.flatMap_append
theorem ndCs_length : ∀ l : List ND, (ndCs l).length = l.length * 4
  | [] => rfl
  | x :: l => by rw [ndCs_cons]; simp only [List.length_cons]; rw [ndCs_length l]; omega
theorem ndCs_one (l : List ND) : ∀ v ∈ ndCs l, v.oneCell' = true := by
  intro v hv
  obtain ⟨x, _, hx⟩ := List.mem_flatMap.mp hv
  simp [ndC] at hx
  rcases hx with rfl | rfl | rfl | rfl <;> rfl
theorem ndCs_get : ∀ (l : List ND) (k : Nat) (h : k < l.length), (ndCs l)[k * 4]? = some (.int .u8 (l[k].1.toNat : Int)) ∧ (ndCs l)[k * 4 + 1]? = some (.string (bA l[k].2.1)) ∧ (ndCs l)[k * 4 + 2]? = some (.string (bA l[k].2.2.1)) ∧ (ndCs l)[k * 4 + 3]? = some (.int .i64 (l[k].2.2.2 : Nat))
  | x :: l, 0, _ => ⟨rfl, rfl, rfl, rfl⟩
  | x :: l, k + 1, h => by
    have := ndCs_get l k (by simpa using h)
    rw [ndCs_cons, show (k + 1) * 4 = k * 4 + 1 + 1 + 1 + 1 by omega]
    exact this
/-- A size written into a node. -/
theorem ndCs_set (L : List ND) (k : UInt8) (key t : List UInt8) (a n : Nat) (R : List ND) : (ndCs (L ++ [(k, key, t, a)] ++ R)).set (L.length * 4 + 3) (.int .i64 (n : Nat)) = ndCs (L ++ (k, key, t, n) :: R) := by
  rw [List.append_assoc, ndCs_append, ndCs_append L, List.set_append_right _ _ (by rw [ndCs_length]; omega), ndCs_length, show L.length * 4 + 3 - L.length * 4 = 3 by omega]
  rfl
/-- The slice v, that the call itself made, holds the nodes l. -/
def NRow (e : TypeId) (w : World) (B : Nat) (v : Value) (l : List ND) : Prop := w.ownsRow B e 4 v l.length (ndCs l)
/-- The slice at a, of so many nodes, holds l. -/
def NIn (w : World) (a : Option Addr) (l : List ND) : Prop :=
  ∀ j (h : j < l.length), ∃ b, a = some ⟨b, 0, none⟩ ∧ b < w.heap.size ∧ w.cell? ⟨b, j * 4, none⟩ = some (.int .u8 (l[j].1.toNat : Int)) ∧ w.cell? ⟨b, j * 4 + 1, none⟩ = some (.string (bA l[j].2.1)) ∧ w.cell? ⟨b, j * 4 + 2, none⟩ = some (.string (bA l[j].2.2.1)) ∧ w.cell? ⟨b, j * 4 + 3, none⟩ = some (.int .i64 (l[j].2.2.2 : Nat))
theorem NIn.below {w w' : World} {a : Option Addr} {l : List ND} {N : Nat} (h : NIn w a l) (hb : Below N w w') (hN : w.heap.size ≤ N) : NIn w' a l := fun j hj => by
  obtain ⟨b, e, hlt, h1, h2, h3, h4⟩ := h j hj
  have hl : b < N := Nat.lt_of_lt_of_le hlt hN
  exact ⟨b, e, Nat.lt_of_lt_of_le hlt hb.size, (hb.cell (p := ⟨b, j * 4, none⟩) hl).trans h1, (hb.cell (p := ⟨b, j * 4 + 1, none⟩) hl).trans h2, (hb.cell (p := ⟨b, j * 4 + 2, none⟩) hl).trans h3, (hb.cell (p := ⟨b, j * 4 + 3, none⟩) hl).trans h4⟩
theorem nrow_nil (e : TypeId) (w : World) (B : Nat) : NRow e w B (.slice none 0 0) [] := ⟨rfl, .inl ⟨rfl, rfl⟩⟩
theorem NRow.keep {e : TypeId} {w w' : World} {B : Nat} {v : Value} {l : List ND} (h : NRow e w B v l) (hk : ∀ g, v.ownBlock = some g → w'.heap[g]? = w.heap[g]?) : NRow e w' B v l := by
  obtain ⟨hl, h⟩ := h
  refine ⟨hl, ?_⟩
  rcases h with h | ⟨g, cap, cur, h1, h2, h3, h4⟩
  · exact .inl h
  · exact .inr ⟨g, cap, cur, h1, h2, (hk g (by rw [h1]; rfl)).trans h3, h4⟩
theorem NRow.own {e : TypeId} {w : World} {B : Nat} {v : Value} {l : List ND} (h : NRow e w B v l) {g : Nat} (hg : v.ownBlock = some g) : B ≤ g ∧ g < w.heap.size ∧ ∃ cur, w.heap[g]? = some (.cells cur e (0, 0)) := by
  rcases h.2 with ⟨rfl, _⟩ | ⟨g', cap, cur, rfl, h2, h3, _⟩
  · cases hg
  · simp [Value.ownBlock] at hg
    subst hg
    exact ⟨h2, lt_of_block h3, cur, h3⟩
theorem NRow.below {e : TypeId} {w w' : World} {B N : Nat} {v : Value} {l : List ND} (h : NRow e w B v l) (hb : Below N w w') (hN : w.heap.size ≤ N) : NRow e w' B v l :=
  h.keep fun g hg => hb.block g (Nat.lt_of_lt_of_le (h.own hg).2.1 hN)
theorem NRow.base {e : TypeId} {w : World} {B N : Nat} {v : Value} {l : List ND} (h : NRow e w N v l) (hB : B ≤ N) : NRow e w B v l := by
  obtain ⟨hl, h⟩ := h
  refine ⟨hl, ?_⟩
  rcases h with h | ⟨g, cap, cur, h1, h2, h3, h4⟩
  · exact .inl h
  · exact .inr ⟨g, cap, cur, h1, by omega, h3, h4⟩
theorem NRow.inn {e : TypeId} {w : World} {B : Nat} {v : Value} {l : List ND} (h : NRow e w B v l) : ∃ a cap, v = .slice a l.length cap ∧ NIn w a l := by
  rcases h.2 with ⟨rfl, hn⟩ | ⟨g, cap, cur, rfl, _, hg, _⟩
  · have h0 : l = [] := List.eq_nil_of_length_eq_zero hn
    subst h0
    exact ⟨none, 0, rfl, fun j hj => by simp at hj⟩
  · refine ⟨_, cap, rfl, fun j hj => ⟨g, rfl, lt_of_block hg, ?_, ?_, ?_, ?_⟩⟩
    · rw [World.ownsRow.cellAt h (j * 4) (by omega), (ndCs_get l j hj).1]
    · rw [World.ownsRow.cellAt h (j * 4 + 1) (by omega), (ndCs_get l j hj).2.1]
    · rw [World.ownsRow.cellAt h (j * 4 + 2) (by omega), (ndCs_get l j hj).2.2.1]
    · rw [World.ownsRow.cellAt h (j * 4 + 3) (by omega), (ndCs_get l j hj).2.2.2]
theorem infoN : (Tryz.prog.info? 40).map (fun i => (i.zero, i.size, i.bytes)) = some (some (.agg #[.int .u8 0, .string ⟨#[]⟩, .string ⟨#[]⟩, .int .i64 0]), 4, 48) := by kernel_rfl
theorem infoM : (Tryz.prog.info? 56).map (fun i => (i.zero, i.size, i.bytes)) = some (some (.agg #[.int .u8 0, .string ⟨#[]⟩, .string ⟨#[]⟩, .int .i64 0]), 4, 48) := by kernel_rfl
/-- A block that has just been laid is one node. -/
theorem node_cells {w : World} {g : Nat} {e : TypeId} {y : ND} {fz : Nat × Nat} (h : w.heap[g]? = some (.cells (ndC y).toArray e fz)) : ∀ j u, (ndCs [y])[j]? = some u → w.cell? ((Addr.mk g 0 none).add j) = some u := by
  intro j u hu
  have := World.news_of_block h j u (by simpa [ndCs] using hu)
  exact this
/-- 'append(list, x)' on a list that the call itself made, in a region that draws its order. -/
theorem step_append_nd {P : Program} {ops : Array Oper} {o : Oper} {a : Act} {w : World} {K : Act → World → Prop} {Q : Exit → Act → World → Prop} {E : Prop} (hgd : o.guard = none) (sl x : Operand) (t : TypeId)
    (ho : o.op = .call { callee := .builtin .append, args := #[sl, x], argTypes := #[t, t] })
    (e : TypeId) (ht : P.underlying t = some (.slice e)) (hi : (P.info? e).map (fun i => (i.zero, i.size, i.bytes)) = some (some (.agg #[.int .u8 0, .string ⟨#[]⟩, .string ⟨#[]⟩, .int .i64 0]), 4, 48))
    (v : Value) (B : Nat) (l : List ND) (hb : NRow e w B v l) (hB : B ≤ w.heap.size) (hs : a.eval sl = v)
    (g : Nat) (y : ND) (hg : w.heap[g]? = some (.cells (ndC y).toArray e (0, 0))) (hx : a.eval x = .slice (some ⟨g, 0, none⟩) 1 1) (hlen : l.length ≤ 1099511627776)
    (h : ∀ g cap w', NRow e w' B (.slice (some ⟨g, 0, none⟩) (l.length + 1) cap) (l ++ [y]) → w.grownBy w' v.ownBlock → g < w'.heap.size → K (a.put o.dst (.slice (some ⟨g, 0, none⟩) (l.length + 1) cap)) w') :
    if Region.wanted o (yielded ops a.tmps) = true then Oper.wp P o a w K Q else E := by
  obtain ⟨i0, hi, hz, hz1, hz2⟩ := info_parts hi
  refine step_append_lies w hgd sl x t ho B e i0 (.agg #[.int .u8 0, .string ⟨#[]⟩, .string ⟨#[]⟩, .int .i64 0]) 4 48 ht hi hz hz1 hz2 rfl (by decide) v l.length (ndCs l) hs hb ⟨g, 0, none⟩ 1 1 (ndCs [y]) hx rfl (node_cells hg) (ndCs_one _) (by decide) (by unfold maxLen; omega) (by omega) hB _ rfl ?_
  intro g' cap w' hown hgr _ hlt
  refine h g' cap w' ?_ hgr hlt
  unfold NRow
  rw [ndCs_append, List.length_append]
  exact hown
/-- .. elsewhere. -/
theorem wpList_append_nd {P : Program} {ops : Array Oper} {rest : List Oper} {o : Oper} {a : Act} {w : World} {Q : Exit → Act → World → Prop} (hgd : o.guard = none) (sl x : Operand) (t : TypeId)
    (ho : o.op = .call { callee := .builtin .append, args := #[sl, x], argTypes := #[t, t] })
    (e : TypeId) (ht : P.underlying t = some (.slice e)) (hi : (P.info? e).map (fun i => (i.zero, i.size, i.bytes)) = some (some (.agg #[.int .u8 0, .string ⟨#[]⟩, .string ⟨#[]⟩, .int .i64 0]), 4, 48))
    (v : Value) (B : Nat) (l : List ND) (hb : NRow e w B v l) (hB : B ≤ w.heap.size) (hs : a.eval sl = v)
    (g : Nat) (y : ND) (hg : w.heap[g]? = some (.cells (ndC y).toArray e (0, 0))) (hx : a.eval x = .slice (some ⟨g, 0, none⟩) 1 1) (hlen : l.length ≤ 1099511627776)
    (h : ∀ v' w', NRow e w' B v' (l ++ [y]) → Below B w w' → wpList P ops Q rest (a.put o.dst v') w') : wpList P ops Q (o :: rest) a w := by
  obtain ⟨i0, hi, hz, hz1, hz2⟩ := info_parts hi
  refine wpList_append_own w hgd sl x t ho B e i0 (.agg #[.int .u8 0, .string ⟨#[]⟩, .string ⟨#[]⟩, .int .i64 0]) 4 48 ht hi hz hz1 hz2 rfl (by decide) v l.length (ndCs l) hs hb ⟨g, 0, none⟩ 1 1 (ndCs [y]) hx rfl (node_cells hg) (ndCs_one _) (by unfold maxLen; omega) (by omega) hB ?_
  intro v' w' hown hgr _
  refine h v' w' ?_ ⟨hgr.os, hgr.tape, hgr.output, hgr.size, fun k hk => hgr.block k (by omega) (fun e => ?_)⟩
  · unfold NRow
    rw [ndCs_append, List.length_append]
    exact hown
  · have := (hb.own e.symm).1; omega
/-- 'append(list, more...)' of nodes that are there. -/
theorem wpList_append_nds {P : Program} {ops : Array Oper} {rest : List Oper} {o : Oper} {a : Act} {w : World} {Q : Exit → Act → World → Prop} (hgd : o.guard = none) (sl x : Operand) (t : TypeId)
    (ho : o.op = .call { callee := .builtin .append, args := #[sl, x], argTypes := #[t, t] })
    (e : TypeId) (ht : P.underlying t = some (.slice e)) (hi : (P.info? e).map (fun i => (i.zero, i.size, i.bytes)) = some (some (.agg #[.int .u8 0, .string ⟨#[]⟩, .string ⟨#[]⟩, .int .i64 0]), 4, 48))
    (v : Value) (B : Nat) (l : List ND) (hb : NRow e w B v l) (hB : B ≤ w.heap.size) (hs : a.eval sl = v)
    (u : Value) (C : Nat) (m : List ND) (hm : NRow e w C u m) (hx : a.eval x = u) (hlen : l.length + m.length ≤ 1099511627776)
    (h : ∀ v' w', NRow e w' B v' (l ++ m) → Below B w w' → wpList P ops Q rest (a.put o.dst v') w') : wpList P ops Q (o :: rest) a w := by
  obtain ⟨i0, hi, hz, hz1, hz2⟩ := info_parts hi
  rcases hm.2 with ⟨rfl, hn⟩ | ⟨g, cap, cur, rfl, _, hg, _⟩
  · have h0 : m = [] := List.eq_nil_of_length_eq_zero hn
    subst h0
    refine wpList_append_own_none hgd sl x t ho B e i0 4 ht hi v l.length (ndCs l) hs hb hx ?_
    exact h v w (by rw [List.append_nil]; exact hb) (Below.refl _ _)
  · refine wpList_append_own w hgd sl x t ho B e i0 (.agg #[.int .u8 0, .string ⟨#[]⟩, .string ⟨#[]⟩, .int .i64 0]) 4 48 ht hi hz hz1 hz2 rfl (by decide) v l.length (ndCs l) hs hb ⟨g, 0, none⟩ m.length cap (ndCs m) hx (ndCs_length m) (World.ownsRow.cells hm rfl) (ndCs_one _) (by unfold maxLen; omega) (by omega) hB ?_
    intro v' w' hown hgr _
    refine h v' w' ?_ ⟨hgr.os, hgr.tape, hgr.output, hgr.size, fun k hk => hgr.block k (by omega) (fun e => ?_)⟩
    · unfold NRow
      rw [ndCs_append, List.length_append]
      exact hown
    · have := (hb.own e.symm).1; omega

/-- Block k is no row of nodes. -/
def NN (w : World) (k : Nat) : Prop := ∀ cs fz, w.heap[k]? ≠ some (.cells cs 40 fz)
/-- What a reader leaves as it was: of what lay below M, all but the cursor, the reader, and rows of nodes from B on. -/
structure Kp (M cb rb B : Nat) (w w' : World) : Prop where
  os : w'.os = w.os
  tape : w'.tape = w.tape
  output : w'.output = w.output
  size : w.heap.size ≤ w'.heap.size
  block : ∀ k, k < M → k ≠ cb → k ≠ rb → (k < B ∨ NN w k) → w'.heap[k]? = w.heap[k]?
section
variable {M cb rb B : Nat} {w w1 w2 : World}
theorem Kp.refl (w : World) : Kp M cb rb B w w := ⟨rfl, rfl, rfl, Nat.le_refl _, fun _ _ _ _ _ => rfl⟩
theorem Kp.trans (h : Kp M cb rb B w w1) (h2 : Kp M cb rb B w1 w2) : Kp M cb rb B w w2 :=
  ⟨h2.os.trans h.os, h2.tape.trans h.tape, h2.output.trans h.output, Nat.le_trans h.size h2.size, fun k hk hc hr hn => by
    have e1 := h.block k hk hc hr hn
    refine (h2.block k hk hc hr ?_).trans e1
    rcases hn with hn | hn
    · exact .inl hn
    · exact .inr fun cs fz => by rw [e1]; exact hn cs fz⟩
theorem Kp.mono {N : Nat} (h : Kp N cb rb B w w1) (hM : M ≤ N) : Kp M cb rb B w w1 := ⟨h.os, h.tape, h.output, h.size, fun k hk => h.block k (by omega)⟩
theorem Kp.of_only (h : Only cb w w1) (hM : M ≤ w.heap.size) : Kp M cb rb B w w1 := ⟨h.os, h.tape, h.output, h.size, fun k hk hc _ _ => h.block k (by omega) hc⟩
theorem Kp.of_below {N : Nat} (h : Below N w w1) (hM : M ≤ N) : Kp M cb rb B w w1 := ⟨h.os, h.tape, h.output, h.size, fun k hk _ _ _ => h.block k (by omega)⟩
theorem Kp.grown {v : Value} {l : List ND} (h : w.grownBy w1 v.ownBlock) (hr : NRow 40 w B v l) (hM : M ≤ w.heap.size) : Kp M cb rb B w w1 :=
  ⟨h.os, h.tape, h.output, h.size, fun k hk _ _ hn => h.block k (by omega) (fun e => by
    obtain ⟨o1, _, cur, o3⟩ := hr.own e.symm
    rcases hn with hn | hn
    · omega
    · exact hn _ _ o3)⟩
theorem Kp.setRd (w : World) (o : Nat) (x : Value) : Kp M cb rb B w (w.setCell ⟨rb, o, none⟩ x) :=
  ⟨rfl, rfl, rfl, by simp, fun k hk _ hr _ => RowKit.Below.heap_setCell _ _ _ _ hr⟩
theorem Kp.drewN (h : Kp M cb rb B w w1) (n : Nat) : Kp M cb rb B w (w1.drewN n) := ⟨h.os, h.tape, h.output, h.size, h.block⟩
theorem Kp.drew (h : Kp M cb rb B w w1) : Kp M cb rb B w w1.drew := ⟨h.os, h.tape, h.output, h.size, h.block⟩
theorem Kp.below (h : Kp M cb rb B w w1) (hM : B ≤ M) {N : Nat} (hN : N ≤ B) (hc : N ≤ cb) (hr : N ≤ rb) : Below N w w1 :=
  ⟨h.os, h.tape, h.output, h.size, fun k hk => h.block k (by omega) (by omega) (by omega) (.inl (by omega))⟩
end
/-- A reader of trees: its cursor in block cb, itself in block rb; its nodes L, the tokens that are left ts, and la. -/
structure RdS (w : World) (cb rb B : Nat) (v : Value) (L : List ND) (ts : List TK) (la : Option Int) : Prop where
  cur : ∃ c, CurT 71 w cb c ∧ c.ok ∧ c.er = 0 ∧ c.s.size ≤ 140737488352256 ∧ SfL ts la c.bs
  rd : w.heap[rb]? = some (.cells #[.pointer (some ⟨cb, 0, none⟩), v] 51 (0, 0))
  row : NRow 40 w B v L
  lc : cb < B
  lr : rb < B
  ne : cb ≠ rb
  hB : B ≤ w.heap.size
  hd : Hds w
  hg : 0 < B ∧ 0 ≠ cb ∧ 0 ≠ rb
section
variable {cb rb B : Nat} {w w' : World} {v : Value} {L : List ND} {ts ts' : List TK} {la : Option Int}
theorem RdS.step (h : RdS w cb rb B v L ts la) (ho : Only cb w w') (hq : ∃ c, CurT 71 w' cb c ∧ c.ok ∧ c.er = 0 ∧ c.s.size ≤ 140737488352256 ∧ SfL ts' la c.bs) : RdS w' cb rb B v L ts' la where
  cur := hq
  rd := (ho.block rb (Nat.lt_of_lt_of_le h.lr h.hB) h.ne.symm).trans h.rd
  row := h.row.keep fun g hg => ho.block g (h.row.own hg).2.1 (by have := (h.row.own hg).1; have := h.lc; omega)
  lc := h.lc
  lr := h.lr
  ne := h.ne
  hB := Nat.le_trans h.hB ho.size
  hd := h.hd.only ho h.hg.2.1
  hg := h.hg
theorem RdS.next (h : RdS w cb rb B v L ts la) (hb : Below w.heap.size w w') : RdS w' cb rb B v L ts la := by
  refine h.step (Only.of_below hb) ?_
  obtain ⟨c, h1, h2⟩ := h.cur
  exact ⟨c, Below.cur hb h1 h1.lt, h2⟩
theorem RdS.drewN (h : RdS w cb rb B v L ts la) (n : Nat) : RdS (w.drewN n) cb rb B v L ts la := h.next (drew_below w n)
theorem RdS.drew (h : RdS w cb rb B v L ts la) : RdS w.drew cb rb B v L ts la := h.next (drew_below w 1)
theorem RdS.alloc (h : RdS w cb rb B v L ts la) (o : Obj) : RdS (w.alloc o) cb rb B v L ts la := h.next (alloc_below w o)
theorem RdS.c0 (h : RdS w cb rb B v L ts la) : w.cell? ⟨rb, 0, none⟩ = some (.pointer (some ⟨cb, 0, none⟩)) := by rw [cell_of_row w rb 0 _ _ _ h.rd]; rfl
theorem RdS.c1 (h : RdS w cb rb B v L ts la) : w.cell? ⟨rb, 1, none⟩ = some v := by rw [cell_of_row w rb 1 _ _ _ h.rd]; rfl
theorem RdS.fr (h : RdS w cb rb B v L ts la) (o : Nat) : w.frozen? ⟨rb, o, none⟩ = false := by have := h.rd; simp [World.frozen?, this]
/-- Behind an append to its nodes, that was stored. -/
theorem RdS.more {v' : Value} {M : List ND} (h : RdS w cb rb B v L ts la) (hg : w.grownBy w' v.ownBlock) (hr : NRow 40 w' B v' M) : RdS (w'.setCell ⟨rb, 1, none⟩ v') cb rb B v' M ts la := by
  have hlt : rb < w.heap.size := Nat.lt_of_lt_of_le h.lr h.hB
  have hlc : cb < w.heap.size := Nat.lt_of_lt_of_le h.lc h.hB
  have hne : ∀ k, k < B → some k ≠ v.ownBlock := fun k hk e => by have := (h.row.own e.symm).1; omega
  have hrd := (hg.block rb hlt (hne rb h.lr)).trans h.rd
  have hblk : ∀ k, k < B → k ≠ rb → (w'.setCell ⟨rb, 1, none⟩ v').heap[k]? = w.heap[k]? := fun k hk hkr =>
    (RowKit.Below.heap_setCell _ _ _ _ hkr).trans (hg.block k (Nat.lt_of_lt_of_le hk h.hB) (hne k hk))
  refine ⟨?_, heap_setCell_block hrd _, ?_, h.lc, h.lr, h.ne, ?_, ?_, h.hg⟩
  · obtain ⟨c, h1, h2⟩ := h.cur
    exact ⟨c, (hblk cb h.lc h.ne).trans h1, h2⟩
  · exact hr.keep fun g hg2 => RowKit.Below.heap_setCell _ _ _ _ (by have := (hr.own hg2).1; have := h.lr; show g ≠ rb; omega)
  · have := hg.size; have := h.hB; simp; omega
  · exact fun k hk => (World.cell?_of_block (hblk _ h.hg.1 h.hg.2.2)).trans (h.hd k hk)
end
end Go.Proofs.YtfighopfgllneaaGreatDoor
/- Package jtree: the next token, token, end, must. -/
namespace Go.Proofs.YtfighopfgllneaaGreatDoor
open Go Go.RowKit
set_option linter.unusedVariables false

/-- Given up with a code. -/
def pan (k : Int) : Ending := .panicked [{ v := .iface 24 (.int .i64 k), recovered := false }]
theorem RdS.belowN {cb rb B N : Nat} {w w' : World} {v : Value} {L : List ND} {ts : List TK} {la : Option Int} (h : RdS w cb rb B v L ts la) (hb : Below N w w') (hv : ∀ g, v.ownBlock = some g → g < N) (hN : B ≤ N) : RdS w' cb rb B v L ts la where
  cur := by
    obtain ⟨c, h1, h2⟩ := h.cur
    exact ⟨c, (hb.block cb (Nat.lt_of_lt_of_le h.lc hN)).trans h1, h2⟩
  rd := (hb.block rb (Nat.lt_of_lt_of_le h.lr hN)).trans h.rd
  row := h.row.keep fun g hg => hb.block g (hv g hg)
  lc := h.lc
  lr := h.lr
  ne := h.ne
  hB := Nat.le_trans h.hB hb.size
  hd := h.hd.below hb (Nat.lt_of_lt_of_le h.hg.1 hN)
  hg := h.hg
theorem nx_some {cb rb B : Nat} {w : World} {v : Value} {L : List ND} {t : TK} {ts : List TK} {la : Option Int} (h : RdS w cb rb B v L (t :: ts) la) :
    Calls Tryz.prog 30 #[.pointer (some ⟨cb, 0, none⟩)] w fun e w' => e = .returned (tkV t) ∧ RdS w' cb rb B v L ts la ∧ Only cb w w' := by
  obtain ⟨c, hq, hok, h0, hs, hsf⟩ := h.cur
  have hres : c.tRes = tNx c.bs := by unfold CS.tRes; rw [if_pos h0]
  obtain ⟨⟨s1, s2, s3⟩, s4⟩ := hsf
  refine (tnext_any hq hok hs h.hd h.hg.2.1).mono ?_
  rintro e w' ⟨he, ⟨c', hq', hA⟩, ho⟩
  rw [hres] at he hA
  refine ⟨by rw [he, s2], h.step ho ⟨c', hq', hA.1, by rw [hA.2.2.2.1]; exact s1, by rw [hA.2.1]; exact hs, ?_⟩, ho⟩
  rw [hA.2.2.2.2 s1, CS.bs_past]; exact s4
theorem nx_none {cb rb B : Nat} {w : World} {v : Value} {L : List ND} {x : Int} (h : RdS w cb rb B v L [] (some x)) :
    Calls Tryz.prog 30 #[.pointer (some ⟨cb, 0, none⟩)] w fun e w' => ∃ (y : TK) (c' : CS), e = .returned (tkV y) ∧ y.1 = 0 ∧ CurT 71 w' cb c' ∧ c'.er = x ∧ w'.cell? ⟨rb, 0, none⟩ = some (.pointer (some ⟨cb, 0, none⟩)) ∧ Only cb w w' := by
  obtain ⟨c, hq, hok, h0, hs, hsf⟩ := h.cur
  have hres : c.tRes = tNx c.bs := by unfold CS.tRes; rw [if_pos h0]
  obtain ⟨s1, s2⟩ : (tNx c.bs).tok.1 = 0 ∧ some x = some (tNx c.bs).e := by
    rcases hsf with e | e
    · cases e
    · exact e
  refine (tnext_any hq hok hs h.hd h.hg.2.1).mono ?_
  rintro e w' ⟨he, ⟨c', hq', hA⟩, ho⟩
  rw [hres] at he hA
  have hrd := (ho.block rb (Nat.lt_of_lt_of_le h.lr h.hB) h.ne.symm).trans h.rd
  exact ⟨_, c', he, s1, hq', by rw [hA.2.2.2.1]; exact (Option.some.inj s2).symm, by rw [cell_of_row w' rb 0 _ _ _ hrd]; rfl, ho⟩
theorem RdS.tok {cb rb B : Nat} {w : World} {v : Value} {L : List ND} {t : TK} {ts : List TK} {la : Option Int} (h : RdS w cb rb B v L (t :: ts) la) : t.1 ≠ 0 := by
  obtain ⟨c, _, _, _, _, hsf⟩ := h.cur
  exact hsf.1.2.2
theorem only_tk {cb N : Nat} {w w1 : World} (h : Only cb w w1) (hN : w.heap.size = N) (y : TK) : Only cb w ((w1.setCell ⟨N, 0, none⟩ (.int .u8 (y.1.toNat : Int))).setCell ⟨N, 1, none⟩ (.string (bA y.2))) := by
  subst hN
  exact only_then h ((Only.setTk w1 w.heap.size y).below (Nat.le_refl _) h.size) (Nat.le_refl _)

set_option maxRecDepth 20000 in
set_option maxHeartbeats 1000000 in
theorem token_some {cb rb B : Nat} {w : World} {v : Value} {L : List ND} {t : TK} {ts : List TK} {la : Option Int} (h : RdS w cb rb B v L (t :: ts) la) :
    Calls Tryz.prog 18 #[.pointer (some ⟨rb, 0, none⟩)] w fun e w' => e = .returned (tkV t) ∧ RdS w' cb rb B v L ts la ∧ Only cb w w' := by
  have p1 : ((t.1.toNat : Int) == 0) = false := (eq8 t.1 0).trans (decide_eq_false h.tok)
  have HN := Lib.hid (fun w (h : RdS w cb rb B v L (t :: ts) la) => nx_some h)
  have hne : w.heap.size ≠ cb := by have := h.lc; have := h.hB; omega
  have HO := Lib.hid (show ∀ g, v.ownBlock = some g → g < w.heap.size from fun g hg => (h.row.own hg).2.1)
  have hBN := h.hB
  have s0 := h.alloc (.cells #[.int .u8 0, .string ⟨#[]⟩] 54)
  have r0 : TkT 54 (w.alloc (.cells #[.int .u8 0, .string ⟨#[]⟩] 54)) w.heap.size (0, []) := tk_alloc (w := w) ((0, []) : TK) 54
  have o0 := (Only.refl cb w).alloc (.cells #[.int .u8 0, .string ⟨#[]⟩] 54)
  have c0 := s0.c0
  clear h
  go_enter Tryz.func18, Tryz.ntmps18
  go_wp2_with fail
  generalize w.alloc (.cells #[.int .u8 0, .string ⟨#[]⟩] 54) = w0 at *
  with_reducible refine (HN.out _ s0).mono ?_
  rintro e w1 ⟨rfl, s1, ho1⟩
  have r1 := r0.only ho1 hne
  have o1 := o0.trans ho1
  have g2 := tk_laid (w := w1) t 54
  have s2 := s1.alloc (.cells #[.int .u8 (t.1.toNat : Int), .string (bA t.2)] 54)
  have r2 := r1.alloc (.cells #[.int .u8 (t.1.toNat : Int), .string (bA t.2)] 54)
  have o2 := o1.alloc (.cells #[.int .u8 (t.1.toNat : Int), .string (bA t.2)] 54)
  have hn2 : w1.heap.size ≠ w.heap.size := by have := r1.lt; omega
  clear s0 r0 o0 c0 s1 r1 o1 ho1
  unfold tkV
  generalize hw2 : w1.alloc (.cells #[.int .u8 (t.1.toNat : Int), .string (bA t.2)] 54) = w2 at *
  go_upto_region 2 with fail
  (try rw [hw2])
  clear hw2
  generalize w1.heap.size = G at *
  have a0 := g2.c0; have a1 := g2.c1
  have b0 := r2.c0; have b1 := r2.c1; have bf := r2.fr
  have HX := Lib.hid (r2.setAll t)
  have HS := Lib.hid (s2.belowN ((Only.setTk w2 w.heap.size t).below (Nat.le_refl _) o2.size) HO.out hBN)
  have HO2 := Lib.hid (only_tk o2 rfl t)
  clear s2 o2 g2 r2
  go_wp2
  refine bodyPost_ret (tok_result Tryz.results18 HX.out rfl) rfl ?_
  exact ⟨rfl, HS.out, HO2.out⟩
set_option maxRecDepth 20000 in
set_option maxHeartbeats 1000000 in
theorem token_none {cb rb B : Nat} {w : World} {v : Value} {L : List ND} {x : Int} (h : RdS w cb rb B v L [] (some x)) :
    Calls Tryz.prog 18 #[.pointer (some ⟨rb, 0, none⟩)] w fun e w' => e = pan (eE (some x)) ∧ Only cb w w' := by
  have HN := Lib.hid (fun w (h : RdS w cb rb B v L [] (some x)) => nx_none h)
  have hne : w.heap.size ≠ cb := by have := h.lc; have := h.hB; omega
  have hrl : rb < w.heap.size := Nat.lt_of_lt_of_le h.lr h.hB
  have hrne : rb ≠ cb := h.ne.symm
  have s0 := h.alloc (.cells #[.int .u8 0, .string ⟨#[]⟩] 54)
  have o0 := (Only.refl cb w).alloc (.cells #[.int .u8 0, .string ⟨#[]⟩] 54)
  have c0 := s0.c0
  clear h
  go_enter Tryz.func18, Tryz.ntmps18
  go_wp2_with fail
  generalize w.alloc (.cells #[.int .u8 0, .string ⟨#[]⟩] 54) = w0 at *
  with_reducible refine (HN.out _ s0).mono ?_
  rintro e w1 ⟨y, c1, rfl, hy, q1, he1, d1, ho1⟩
  have o1 := o0.trans ho1
  have g2 := tk_laid (w := w1) y 54
  have q2 := q1.allocOld (.cells #[.int .u8 (y.1.toNat : Int), .string (bA y.2)] 54)
  have o2 := o1.alloc (.cells #[.int .u8 (y.1.toNat : Int), .string (bA y.2)] 54)
  have d2 : (w1.alloc (.cells #[.int .u8 (y.1.toNat : Int), .string (bA y.2)] 54)).cell? ⟨rb, 0, none⟩ = some (.pointer (some ⟨cb, 0, none⟩)) := by
    rw [World.cell?_alloc_some _ _ _ (by rw [d1]; rfl)]; exact d1
  have p1 : ((y.1.toNat : Int) == 0) = true := by rw [hy]; rfl
  have hrl2 : rb < (w1.alloc (.cells #[.int .u8 (y.1.toNat : Int), .string (bA y.2)] 54)).heap.size := Nat.lt_of_lt_of_le hrl o2.size
  have HE := Lib.hid (show (c1.fail 1).er = eE (some x) by
    unfold eE
    by_cases h : x = 0
    · simp only [if_pos h]
      rw [CS.fail_good (by rw [he1]; exact h)]; rfl
    · simp only [if_neg h]
      rw [CS.fail_bad (by rw [he1]; exact h)]; exact he1)
  clear s0 o0 c0 o1 ho1 q1 d1 hy
  unfold tkV
  generalize hw2 : w1.alloc (.cells #[.int .u8 (y.1.toNat : Int), .string (bA y.2)] 54) = w2 at *
  go_upto_region 2 with fail
  (try rw [hw2])
  clear hw2
  generalize w1.heap.size = G at *
  have a0 := g2.c0
  have HF := Lib.hid (fail_any q2 1)
  have HD := Lib.hid d2
  clear g2 he1
  go_wp2_with fail
  with_reducible refine HF.out.mono ?_
  rintro e w3 ⟨rfl, q3, ho3⟩
  have o3 := o2.trans ho3
  have d3 : w3.cell? ⟨rb, 0, none⟩ = some (.pointer (some ⟨cb, 0, none⟩)) := (World.cell?_of_block (ho3.block rb hrl2 hrne)).trans HD.out
  have HR := Lib.hid (err_any q3)
  rw [HE.out] at HR
  clear a0 d2 q2 o2 ho3 q3
  go_wp2_with fail
  with_reducible refine HR.out.mono ?_
  rintro e w4 ⟨rfl, hw4⟩
  rw [hw4]
  clear hw4
  go_wp2
  exact ⟨rfl, rfl, o3⟩
theorem must_ok (x : TK) (k : UInt8) (w : World) (h : x.1 = k) :
    Calls Tryz.prog 46 #[tkV x, .int .u8 (k.toNat : Int)] w fun e w' => e = .returned (.tuple #[]) ∧ Below w.heap.size w w' := by
  have p1 : ((x.1.toNat : Int) != (k.toNat : Int)) = false := by rw [h]; simp
  have a0 := (tk_laid (w := w) x 54).c0
  have hb := alloc_below w (.cells #[.int .u8 (x.1.toNat : Int), .string (bA x.2)] 54)
  clear h
  unfold tkV
  go_enter Tryz.func46, Tryz.ntmps46
  go_wp2
  go_end0
  exact ⟨rfl, hb⟩
theorem must_no (x : TK) (k : UInt8) (w : World) (h : ¬ x.1 = k) :
    Calls Tryz.prog 46 #[tkV x, .int .u8 (k.toNat : Int)] w fun e w' => e = pan 3 ∧ Below w.heap.size w w' := by
  have p1 : ((x.1.toNat : Int) != (k.toNat : Int)) = true := by
    have := eq8 x.1 k
    rw [decide_eq_false h] at this
    simp only [bne, this, Bool.not_false]
  have a0 := (tk_laid (w := w) x 54).c0
  have hb := alloc_below w (.cells #[.int .u8 (x.1.toNat : Int), .string (bA x.2)] 54)
  clear h
  unfold tkV
  go_enter Tryz.func46, Tryz.ntmps46
  go_wp2
  exact ⟨rfl, rfl, hb⟩
end Go.Proofs.YtfighopfgllneaaGreatDoor
/- Package jtree's Kids; lists of whole numbers from 0 on that the call made ('IRow'), or that are there ('IInt'). -/
namespace Go.Proofs.YtfighopfgllneaaGreatDoor
open Go Go.RowKit
set_option linter.unusedVariables false

def iV (l : List Nat) : List Value := l.map fun n => .int .i64 (n : Nat)
theorem iV_length (l : List Nat) : (iV l).length = l.length := List.length_map _
theorem iV_append (l m : List Nat) : iV (l ++ m) = iV l ++ iV m := List.map_append
theorem iV_one (l : List Nat) : ∀ v ∈ iV l, v.oneCell' = true := by
  intro v hv
  obtain ⟨b, _, rfl⟩ := List.mem_map.mp hv
  rfl
theorem iV_get (l : List Nat) (k : Nat) (h : k < l.length) : (iV l)[k]? = some (.int .i64 (l[k] : Nat)) := by
  simp [iV, List.getElem?_eq_getElem h]
/-- The slice v, that the call itself made, holds the numbers l. -/
def IRow (w : World) (B : Nat) (v : Value) (l : List Nat) : Prop := w.ownsRow B 3 1 v l.length (iV l)
/-- The slice at a, of so many numbers, holds l. -/
def IInt (w : World) (a : Option Addr) (l : List Nat) : Prop := ∀ j (h : j < l.length), ∃ b, a = some ⟨b, 0, none⟩ ∧ b < w.heap.size ∧ w.cell? ⟨b, j, none⟩ = some (.int .i64 (l[j] : Nat))
theorem IInt.below {w w' : World} {a : Option Addr} {l : List Nat} {N : Nat} (h : IInt w a l) (hb : Below N w w') (hN : w.heap.size ≤ N) : IInt w' a l := fun j hj => by
  obtain ⟨b, e, hlt, hc⟩ := h j hj
  exact ⟨b, e, Nat.lt_of_lt_of_le hlt hb.size, (hb.cell (p := ⟨b, j, none⟩) (Nat.lt_of_lt_of_le hlt hN)).trans hc⟩
theorem irow_nil (w : World) (B : Nat) : IRow w B (.slice none 0 0) [] := ⟨rfl, .inl ⟨rfl, rfl⟩⟩
theorem IRow.below {w w' : World} {B N : Nat} {v : Value} {l : List Nat} (h : IRow w B v l) (hb : Below N w w') (hN : w.heap.size ≤ N) : IRow w' B v l := by
  refine World.ownsRow.kept (row := none) h ⟨hb.os, hb.tape, hb.output, hb.size, fun k hk _ => hb.block k (by omega)⟩ ?_
  cases v.ownBlock <;> simp
theorem IRow.inn {w : World} {B : Nat} {v : Value} {l : List Nat} (h : IRow w B v l) : ∃ a cap, v = .slice a l.length cap ∧ IInt w a l := by
  rcases h.2 with ⟨rfl, hn⟩ | ⟨g, cap, cur, rfl, _, hg, _⟩
  · have h0 : l = [] := List.eq_nil_of_length_eq_zero hn
    subst h0
    exact ⟨none, 0, rfl, fun j hj => by simp at hj⟩
  · refine ⟨_, cap, rfl, fun j hj => ⟨g, rfl, lt_of_block hg, ?_⟩⟩
    rw [World.ownsRow.cellAt h j (by omega), iV_get l j hj]
theorem infoI : (Tryz.prog.info? 3).map (fun i => (i.zero, i.size, i.bytes)) = some (some (.int .i64 0), 1, 8) := by kernel_rfl
theorem wpList_append_nat {ops : Array Oper} {rest : List Oper} {o : Oper} {a : Act} {Q : Exit → Act → World → Prop} (hgd : o.guard = none) (sl x : Operand)
    (ho : o.op = .call { callee := .builtin .append, args := #[sl, x], argTypes := #[35, 35] })
    (v : Value) (wr : World) (B : Nat) (l : List Nat) (hb : IRow wr B v l) (hB : B ≤ wr.heap.size) (hs : a.eval sl = v)
    (s : Int) (n : Nat) (hn : s = (n : Nat)) (hx : a.eval x = .slice (some ⟨wr.heap.size, 0, none⟩) 1 1) (hlen : l.length ≤ 1099511627776)
    (h : ∀ v' w', IRow w' B v' (l ++ [n]) → Below B wr w' → wpList Tryz.prog ops Q rest (a.put o.dst v') w') :
    wpList Tryz.prog ops Q (o :: rest) a (wr.alloc (.cells #[.int .i64 s] 3)) := by
  subst hn
  obtain ⟨i0, hi, hz, hz1, hz2⟩ := info_parts infoI
  refine wpList_append_own _ hgd sl x 35 ho B 3 i0 (.int .i64 0) 1 8 Tryz.underlying35 hi hz hz1 hz2 rfl (by decide) v l.length (iV l) hs (World.ownsRow.alloc hb _) ⟨wr.heap.size, 0, none⟩ 1 1 [.int .i64 (n : Nat)] hx rfl ?_ ?_ (by unfold maxLen; omega) (by omega) (by simp; omega) ?_
  · intro j u hj
    match j, hj with
    | 0, hj =>
      simp at hj
      subst hj
      have h1 := heap_alloc_new wr (.cells #[.int .i64 (n : Nat)] 3)
      show World.cell? _ ⟨wr.heap.size, 0 + 0, none⟩ = _
      simp only [World.cell?]
      rw [h1]; rfl
  · intro u hu; simp at hu; subst hu; rfl
  · intro v' w' hown hgr _
    refine h v' w' ?_ ?_
    · unfold IRow
      rw [iV_append, List.length_append]
      exact hown
    · refine ⟨hgr.os, hgr.tape, hgr.output, by have := hgr.size; simp at this; omega, fun k hk => ?_⟩
      have hne : some k ≠ v.ownBlock := fun hk' => by
        have := (World.ownsRow.lt hb k hk'.symm).1
        omega
      rw [hgr.block k (by simp; omega) hne]
      exact Below.heap_alloc _ _ _ (by omega)
theorem getD_at {l : List ND} {k : Nat} {d : ND} (h : k < l.length) : l.getD k d = l[k] := by simp [List.getD, List.getElem?_eq_getElem h]
theorem kdL_go {l : List ND} {f k e : Nat} (h : k < e) (hk : k < l.length) : kdL l (f + 1) k e = k :: kdL l f (k + l[k].2.2.2) e := by
  rw [kdL, if_pos h, getD_at hk]
theorem kdL_end {l : List ND} {f k e : Nat} (h : ¬ k < e) : kdL l f k e = [] := by
  cases f with
  | zero => rfl
  | succ f => rw [kdL, if_neg h]
theorem kdL_len (l : List ND) : ∀ f k e, (kdL l f k e).length ≤ f
  | 0, _, _ => Nat.le_refl _
  | f + 1, k, e => by
    rw [kdL]
    by_cases h : k < e
    · rw [if_pos h, List.length_cons]
      have := kdL_len l f (k + (l.getD k (0, [], [], 0)).2.2.2) e
      omega
    · rw [if_neg h]; exact Nat.zero_le _
def KdRel (l : List ND) (p e : Nat) (W : World) (v i : Value) (wr : World) : Prop :=
  ∃ (k f : Nat) (D : List Nat), i = .int .i64 (k : Nat) ∧ IRow wr W.heap.size v D ∧ p + 1 ≤ k ∧ k ≤ l.length ∧ e ≤ f + k ∧ D.length ≤ k ∧ Hid (kdL l l.length (p + 1) e = D ++ kdL l f k e) ∧ Below W.heap.size W wr
set_option maxRecDepth 20000 in
set_option maxHeartbeats 2000000 in
theorem kids_any (a : Option Addr) (cap : Nat) (l : List ND) (x : Int) (w : World) (hl : l.length ≤ 1099511627776) (hin : NIn w a l) (hsz : SzOk l) (h0 : -9223372036854775808 ≤ x) (h1 : x ≤ 9223372036854775807) :
    Calls Tryz.prog 11 #[.slice a l.length cap, .int .i64 x] w fun e w' => ∃ v, e = .returned v ∧ IRow w' w.heap.size v (kidsL l x) ∧ Below w.heap.size w w' := by
  by_cases hx : x < 0
  · have p1 : decide (x < 0) = true := decide_eq_true hx
    have HK := Lib.hid (show kidsL l x = [] by unfold kidsL; rw [if_pos (.inl hx)])
    clear hin hsz
    go_enter Tryz.func11, Tryz.ntmps11
    go_wp2
    go_ret
    exact ⟨_, rfl, by rw [HK.out]; exact irow_nil _ _, Below.refl _ _⟩
  · have p1 : decide (x < 0) = false := decide_eq_false hx
    by_cases hx2 : (l.length : Int) ≤ x
    · have p2 : decide ((l.length : Int) ≤ x) = true := decide_eq_true hx2
      have HK := Lib.hid (show kidsL l x = [] by unfold kidsL; rw [if_pos (.inr hx2)])
      clear hin hsz
      go_enter Tryz.func11, Tryz.ntmps11
      go_wp2
      go_ret
      exact ⟨_, rfl, by rw [HK.out]; exact irow_nil _ _, Below.refl _ _⟩
    · have p2 : decide ((l.length : Int) ≤ x) = false := decide_eq_false hx2
      obtain ⟨p, rfl⟩ : ∃ p : Nat, x = p := ⟨x.toNat, by omega⟩
      have hp : p < l.length := by omega
      have HK := Lib.hid (show kidsL l (p : Nat) = kdL l l.length (p + 1) (p + l[p].2.2.2) by
        unfold kidsL
        rw [if_neg (by omega), Int.toNat_natCast, getD_at hp])
      obtain ⟨b, rfl, hb, _, _, _, hc3⟩ := hin p hp
      have HC := Lib.hid (show ∀ j (h : j < l.length), w.cell? ⟨b, j * 4 + 3, none⟩ = some (.int .i64 (l[j].2.2.2 : Nat)) from fun j h => by
        obtain ⟨b', e, _, _, _, _, hc⟩ := hin j h
        obtain rfl : b = b' := by simpa using e
        exact hc)
      have HS := Lib.hid hsz
      obtain ⟨z1, z2⟩ := hsz p hp
      obtain ⟨E, hE⟩ : ∃ E, E = p + l[p].2.2.2 := ⟨_, rfl⟩
      rw [← hE] at HK
      generalize hm : l[p].2.2.2 = m at *
      have q1 : (p : Int) < (l.length : Int) := by omega
      have q2 : (0 : Int) ≤ (p : Int) := by omega
      have zw : IntKind.i64.wrap ((p : Int) + (m : Int)) = (E : Int) := by rw [i64_small (by omega) (by omega)]; omega
      have zw1 : IntKind.i64.wrap ((p : Int) + 1) = ((p + 1 : Nat) : Int) := by rw [i64_small (by omega) (by omega)]; rfl
      have HE := Lib.hid (And.intro hE (And.intro z1 z2))
      have HX := Lib.hid (And.intro hx hx2)
      clear hin hsz hE z1 z2 hx hx2 hm h0 h1
      go_enter Tryz.func11, Tryz.ntmps11
      go_wp2_with fail
      go_loopw [5, 6] (fun v i wr => KdRel l p E w v i wr) (fun _ i _ => l.length - (intOf i).toNat)
      case atStart => exact ⟨p + 1, l.length, [], by go_num, irow_nil _ _, Nat.le_refl _, by omega, by have := HE.out; omega, Nat.zero_le _, Lib.hid rfl, Below.refl _ _⟩
      case round =>
        obtain ⟨k, f, D, rfl, hrow, hk1, hk2, hf, hD, hq, hbel⟩ := hrel
        have hcp := (hbel.cell (p := ⟨b, p * 4 + 3, none⟩) hb).trans hc3
        by_cases hlt : k < E
        · have p3 : decide (k < E) = true := decide_eq_true hlt
          have p4 : (k : Int) < (E : Int) := by omega
          have hkl : k < l.length := by have := HE.out; omega
          have hck := (hbel.cell (p := ⟨b, k * 4 + 3, none⟩) hb).trans (HC.out k hkl)
          obtain ⟨f, rfl⟩ : ∃ f', f = f' + 1 := ⟨f - 1, by omega⟩
          have HQ := Lib.hid (kdL_go (f := f) hlt hkl)
          obtain ⟨y1, y2⟩ := HS.out k hkl
          generalize l[k].2.2.2 = m2 at *
          have r1 : (k : Int) < (l.length : Int) := by omega
          have r2 : (0 : Int) ≤ (k : Int) := by omega
          have zw2 : IntKind.i64.wrap ((k : Int) + (m2 : Int)) = ((k + m2 : Nat) : Int) := by rw [i64_small (by omega) (by omega)]; omega
          have HF := Lib.hid (And.intro hf (And.intro y1 (And.intro y2 (And.intro hD hk1))))
          have hDl : D.length ≤ 1099511627776 := by omega
          have HH := Lib.hid hq
          have hsz := hbel.size
          clear hf y1 y2 hD hq hlt hk1
          go_wp2_with (at_builtin; go_loud (refine wpList_append_nat rfl (.tmp 33) (.tmp 35) rfl _ wr w.heap.size D hrow hsz rfl _ k rfl rfl hDl ?_; intro v5 w5 hv5 hb5; have hck5 := (hb5.cell (p := ⟨b, k * 4 + 3, none⟩) hb).trans hck))
          have hbel5 := hbel.trans hb5
          go_roundw
          case rel =>
            obtain ⟨hf, y1, y2, hD, hk1⟩ := HF.out
            refine ⟨k + m2, f, D ++ [k], by go_num, hv5, by omega, y2, by omega, by rw [List.length_append, List.length_singleton]; omega, Lib.hid ?_, hbel5⟩
            rw [HH.out.out, HQ.out]; simp
          case measure =>
            obtain ⟨hf, y1, y2, hD, hk1⟩ := HF.out
            simp [intOf]; omega
        · have p3 : decide (k < E) = false := decide_eq_false hlt
          have p4 : ¬ k < E := hlt
          have HQ := Lib.hid (show kdL l l.length (p + 1) E = D by rw [hq.out, kdL_end hlt, List.append_nil])
          have HR := Lib.hid (And.intro hrow hbel)
          clear hrow hq hlt hf
          go_wp2
          go_ret
          exact ⟨_, rfl, by rw [HK.out, HQ.out]; exact HR.out.1, HR.out.2⟩
end Go.Proofs.YtfighopfgllneaaGreatDoor
