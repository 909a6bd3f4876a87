/- What a writer wrote, told in whatever order: tokens of a tree, no deeper than may be; read, it is that tree, or a key came twice, or a text is not right. Of no program. -/
import Derived.Test.YtnbhhnkcfbfdcaaGreatDoorJwTree
namespace Go.Proofs.YtnbhhnkcfbfdcaaGreatDoor
open Go Go.RowKit
set_option linter.unusedVariables false

/-- A whole number's digits are a number's text. -/
theorem num_itoa (n : Int) : NumOk (Lib.itoa n) := by
  obtain ⟨sg, hs, hi⟩ := itoa_split n
  have hlead : Lib.decDigits n.natAbs = [48] ∨ ∃ x t, Lib.decDigits n.natAbs = x :: t ∧ x ≠ 48 := by
    by_cases h : n.natAbs = 0
    · rw [h]; exact .inl (by rw [dec_small (by decide)]; rfl)
    · exact .inr (dec_first h)
  have hf : NForm (Lib.itoa n) sg (Lib.decDigits n.natAbs) [] [] [] [] := ⟨by rw [hi]; simp, hs, dec_all _, hlead, .inl ⟨rfl, rfl⟩, .inl ⟨rfl, rfl⟩⟩
  obtain ⟨c0, cl, _⟩ := form_to hf
  refine ⟨?_, fun R hR => ?_⟩
  · rw [hi]
    rcases hs with rfl | rfl
    · obtain ⟨x, t, hx⟩ := List.exists_cons_of_ne_nil (dec_ne n.natAbs)
      refine ⟨x, t, by rw [hx]; rfl, tDig_iff.mpr (.inr ?_)⟩
      have := List.all_eq_true.mp (dec_all n.natAbs) x (by rw [hx]; exact List.mem_cons_self)
      exact dIs_iff.mp this
    · exact ⟨45, _, rfl, by decide⟩
  · have := num_on hR c0
    rw [cl, List.take_length] at this
    exact this
theorem uok_app {a b : List UInt8} (h : UOk a) (hb : UOk b) : UOk (a ++ b) := by
  induction h with
  | nil => exact hb
  | step r t hr _ ih => rw [List.append_assoc]; exact .step r _ hr ih
/-- A byte that does not stand for itself, written and read. -/
theorem jIn_lowly {c : UInt8} (h : jPl c = false) (Y : List UInt8) : jIn (jTb c ++ Y) = (⟨[c], (jTb c).length, 0⟩ : JT).and (jIn Y) ∧ UOk [c] := by
  have hc : c.toNat = 34 ∨ c.toNat = 92 ∨ c.toNat < 32 := by
    by_cases e : c.toNat = 34 ∨ c.toNat = 92 ∨ c.toNat < 32
    · exact e
    · have : jPl c = true := jPl_iff.mpr (by omega)
      rw [this] at h; cases h
  have hr : c.toNat < 128 := by omega
  have hu := uB_small hr
  rw [b8_b] at hu
  have hok : UOk [c] := by
    have := UOk.step c.toNat [] (uIs_iff.mpr (by omega)) .nil
    rwa [hu] at this
  refine ⟨?_, hok⟩
  by_cases h2 : c.toNat = 34 ∨ c.toNat = 92
  · have e : jTb c = [92, c] := by unfold jTb; rw [if_pos h2]
    have es : jEsc (c :: Y) = ⟨c.toNat, 1, 0⟩ := by
      simp only [jEsc]
      rw [if_neg (by omega)]
      have : jSim c.toNat = c.toNat := by rcases h2 with e | e <;> rw [e] <;> rfl
      rw [this, if_neg (by omega)]
    rw [e]
    show jIn (92 :: (c :: Y)) = _
    rw [jIn_esc _ _ (by decide), es, if_pos rfl, List.drop_succ_cons, List.drop_zero]
    simp only
    rw [hu]; rfl
  · have hlt : c.toNat < 32 := by omega
    have e : jTb c = [92, 117, 48, 48, hd (c.toNat / 16), hd (c.toNat % 16)] := by unfold jTb; rw [if_neg h2, if_pos hlt]
    have es := jEsc_low ⟨c.toNat, hlt⟩ Y
    simp only at es
    rw [e]
    show jIn (92 :: ([117, 48, 48, hd (c.toNat / 16), hd (c.toNat % 16)] ++ Y)) = _
    rw [jIn_esc _ _ (by decide), es, if_pos rfl]
    simp only
    rw [List.drop_left' (by simp), hu]; rfl
/-- What was written of a text that is not right: it is told. -/
theorem jIn_wrong : ∀ (n : Nat) (t : List UInt8), t.length = n → ¬ UOk t → ∀ X, (jIn (jT t ++ 34 :: X)).e = 5 := by
  intro n
  induction n using Nat.strongRecOn with
  | _ n ih =>
    intro t hn ht X
    have hsp : t = t.takeWhile jPl ++ t.dropWhile jPl := (List.takeWhile_append_dropWhile).symm
    have hR : ∀ b ∈ t.takeWhile jPl, jPl b = true := fun b hb => by
      have := List.all_takeWhile (l := t) (p := jPl)
      exact List.all_eq_true.mp this b hb
    generalize hRR : t.takeWhile jPl = R at *
    have hhd : ∀ c S, t.dropWhile jPl = c :: S → jPl c = false := fun c S e => by
      have := List.head_dropWhile_not jPl (l := t) (by rw [e]; simp)
      simpa [e] using this
    generalize t.dropWhile jPl = S at *
    rw [hsp, jT_append, jT_plain hR, List.append_assoc]
    have hZ : ∀ b u, jT S ++ 34 :: X = b :: u → jPl b = false := fun b u e => by
      cases S with
      | nil => simp only [jT, List.nil_append, List.cons.injEq] at e; rw [← e.1]; decide
      | cons c S =>
        have h1 := hhd c S rfl
        have h2 : ∃ v, jTb c = 92 :: v := by
          have hc : c.toNat = 34 ∨ c.toNat = 92 ∨ c.toNat < 32 := by
            by_cases e : c.toNat = 34 ∨ c.toNat = 92 ∨ c.toNat < 32
            · exact e
            · have : jPl c = true := jPl_iff.mpr (by omega)
              rw [this] at h1; cases h1
          unfold jTb
          by_cases h3 : c.toNat = 34 ∨ c.toNat = 92
          · rw [if_pos h3]; exact ⟨_, rfl⟩
          · rw [if_neg h3, if_pos (by omega)]; exact ⟨_, rfl⟩
        obtain ⟨v, hv⟩ := h2
        simp only [jT, hv, List.cons_append, List.cons.injEq] at e
        rw [← e.1]; decide
    obtain ⟨r1, r2⟩ := jIn_run _ R (jT S ++ 34 :: X) rfl hR hZ
    by_cases hu : UOk R
    · rw [r1 hu, JT.and_e]
      cases S with
      | nil => exact absurd (by rw [hsp, List.append_nil]; exact hu) ht
      | cons c S =>
        obtain ⟨l1, l2⟩ := jIn_lowly (hhd c S rfl) (jT S ++ 34 :: X)
        have hS : ¬ UOk S := fun h => ht (by rw [hsp]; exact uok_app hu (uok_app l2 h))
        simp only [jT, List.append_assoc]
        rw [l1, JT.and_e]
        exact ih S.length (by have := congrArg List.length hsp; rw [List.length_append, List.length_cons] at this; omega) S rfl hS X
    · rw [r2 hu]
theorem sf_wrong {t : List UInt8} (h : ¬ UOk t) (R : List UInt8) : SfL [] (some 5) (tPut (115, t) ++ R) := by
  have e : tPut (115, t) ++ R = 34 :: (jT t ++ 34 :: R) := by
    show jText t ++ R = _
    unfold jText; simp
  have hw := jIn_wrong _ t rfl h R
  have hj : jL (34 :: (jT t ++ 34 :: R)) = ⟨[], 0, 5⟩ := by
    rw [jL_cons, if_pos (show (34 : UInt8).toNat = 34 from rfl), if_neg (by rw [hw]; decide), hw]
  have hb : tBl 34 = false := by decide
  have h2 : (34 :: (jT t ++ 34 :: R)).drop (bL (34 :: (jT t ++ 34 :: R))) = 34 :: (jT t ++ 34 :: R) := by rw [bl_none hb]; rfl
  have hg : tBeg 34 (34 :: (jT t ++ 34 :: R)) = ⟨(0, []), 0, 5⟩ := by
    unfold tBeg
    rw [if_neg (by decide), if_pos rfl, hj, if_neg (by decide)]
  refine .inr ?_
  rw [e, tNx_some h2, hg]
  exact ⟨rfl, rfl⟩

/-- No number is followed by what could go on with it. -/
def NxW : List TK → Prop
  | [] => True
  | x :: ts => ((tSign x.1 = true ∧ x.2 = []) ∨ tStop (tksB ts)) ∧ NxW ts
theorem nxt_wf {o : Option (Bool × Bool)} {key : List UInt8} {l : List ND} {tk : List TK} (h : Wf o key l tk) : ∀ rest : List TK, NxW rest → tStop (tksB rest) → NxW (tk ++ rest) ∧ ((∃ ob, o = some (ob, false)) → tStop (tksB (tk ++ rest))) := by
  induction h with
  | leaf key t ht => exact fun rest h1 h2 => ⟨⟨.inr h2, h1⟩, fun ⟨_, e⟩ => by cases e⟩
  | node ob key l tk _ ih =>
    intro rest h1 h2
    refine ⟨⟨.inl ⟨opn_sign ob, rfl⟩, ?_⟩, fun ⟨_, e⟩ => by cases e⟩
    have := (ih ((cls ob, []) :: rest) ⟨.inl ⟨cls_sign ob, rfl⟩, h1⟩ (by rw [tksB_cons, tPut_sign (cls_sign ob)]; exact tStop_sign (cls_sign ob) _)).1
    simpa using this
  | none ob fst => exact fun rest h1 h2 => ⟨h1, fun _ => h2⟩
  | cons ob fst key l1 l2 k1 k2 h1 h2 hk i1 i2 =>
    intro rest hr hs
    obtain ⟨a1, a2⟩ := i2 rest hr hs
    have a3 := (i1 (k2 ++ rest) a1 (a2 ⟨ob, rfl⟩)).1
    have a4 : NxW (((if ob then [((115 : UInt8), key), (58, [])] else []) : List TK) ++ (k1 ++ (k2 ++ rest))) := by
      cases ob with
      | false => exact a3
      | true =>
        refine ⟨.inr ?_, .inl ⟨rfl, rfl⟩, a3⟩
        show tStop (tPut (58, []) ++ _)
        rw [tPut_sign rfl]; exact tStop_sign (k := 58) rfl _
    refine ⟨?_, ?_⟩
    · cases fst with
      | true => simpa using a4
      | false => exact ⟨.inl ⟨rfl, rfl⟩, by simpa using a4⟩
    · rintro ⟨ob2, e2⟩
      simp only [Option.some.injEq, Prod.mk.injEq] at e2
      obtain ⟨_, rfl⟩ := e2
      show tStop (tPut (44, []) ++ _)
      rw [tPut_sign rfl]; exact tStop_sign (k := 44) rfl _
/-- Tokens, written: they are read again, up to a text that is not right. -/
theorem sf_script : ∀ tks : List TK, NxW tks → (∀ x ∈ tks, TOk x ∨ x.1 = 115) → ∃ pre post, tks = pre ++ post ∧ (∀ x ∈ pre, TOk x) ∧ ((post = [] ∧ SfL pre (some 0) (tksB tks)) ∨ (post ≠ [] ∧ SfL pre (some 5) (tksB tks)))
  | [], _, _ => ⟨[], [], rfl, fun x hx => by simp at hx, .inl ⟨rfl, sf_nil⟩⟩
  | x :: ts, hn, hx => by
    obtain ⟨h1, h2⟩ := hn
    by_cases hok : TOk x
    · obtain ⟨pre, post, e, hp, hq⟩ := sf_script ts h2 (fun y hy => hx y (List.mem_cons_of_mem _ hy))
      have hst : ∀ la, SfL pre la (tksB ts) → SfL (x :: pre) la (tksB (x :: ts)) := fun la hs => by
        rw [tksB_cons]
        rcases h1 with ⟨s1, s2⟩ | s1
        · obtain ⟨k, t⟩ := x
          simp only at s1 s2
          subst s2
          rw [tPut_sign s1]
          exact sf_sign s1 hs
        · exact sf_tok hok s1 hs
      refine ⟨x :: pre, post, by rw [e]; rfl, fun y hy => ?_, ?_⟩
      · rcases List.mem_cons.mp hy with rfl | hy
        · exact hok
        · exact hp y hy
      · rcases hq with ⟨q1, q2⟩ | ⟨q1, q2⟩
        · exact .inl ⟨q1, hst _ q2⟩
        · exact .inr ⟨q1, hst _ q2⟩
    · refine ⟨[], x :: ts, rfl, fun y hy => by simp at hy, .inr ⟨by simp, ?_⟩⟩
      have hk := (hx x List.mem_cons_self).resolve_left hok
      obtain ⟨k, t⟩ := x
      simp only at hk
      subst hk
      rw [tksB_cons]
      exact sf_wrong (fun h => hok (.inr (.inl ⟨rfl, h⟩))) _

/-- A value, under whatever key. -/
def Vl (n : Nat) (V : List TK) : Prop := ∀ key, ∃ L O, Wg n none key L V O
def cmT (sm kd : Bool) : List TK := if sm = true ∧ kd = false then [(44, [])] else []
/-- The tokens of what was written, where so many lists (false) and objects (true) were begun and did not end, the last one first. -/
def Zp : List Bool → Bool → Bool → List TK → Prop
  | [], sm, kd, tks => kd = false ∧ ((sm = false ∧ tks = []) ∨ (sm = true ∧ ∃ L O, Wg 32 none [] L tks O))
  | ob :: st, sm, kd, tks => ∃ pre inner l O, st.length < 32 ∧ (∀ V, Vl (32 - st.length) V → Zp st true false (pre ++ V)) ∧ Wg (31 - st.length) (some (ob, true)) [] l inner O ∧ (sm = true ↔ l ≠ []) ∧
      ((kd = false ∧ tks = pre ++ (opn ob, []) :: inner) ∨ (kd = true ∧ ob = true ∧ ∃ key, tks = pre ++ (opn ob, []) :: (inner ++ ((if sm = true then [(44, [])] else []) ++ [(115, key), (58, [])]))))
theorem wg_snoc {n : Nat} {o : Option (Bool × Bool)} {k0 : List UInt8} {l : List ND} {tk : List TK} {O : List OP} (h : Wg n o k0 l tk O) {key : List UInt8} {l1 : List ND} {k1 : List TK} {O1 : List OP} : ∀ ob fst, o = some (ob, fst) → Wg n none key l1 k1 O1 → (ob = false → key = []) →
    ∃ O2, Wg n (some (ob, fst)) [] (l ++ l1) (tk ++ ((if fst = true ∧ l = [] then [] else [(44, [])]) ++ ((if ob then [(115, key), (58, [])] else []) ++ k1))) O2 := by
  induction h with
  | leaf => intro ob fst e; cases e
  | node => intro ob fst e; cases e
  | none n ob0 fst0 =>
    intro ob fst e h1 hk
    simp only [Option.some.injEq, Prod.mk.injEq] at e
    obtain ⟨rfl, rfl⟩ := e
    have := Wg.cons n ob0 fst0 key l1 [] k1 [] O1 [] h1 (Wg.none n ob0 false) hk
    rw [List.append_nil, List.append_nil] at this
    refine ⟨(if ob0 then [⟨107, key, 0⟩] else []) ++ (O1 ++ []), ?_⟩
    cases fst0 <;> simpa using this
  | cons n ob0 fst0 key0 la lb ka kb Oa Ob ha hb hk0 ia ib =>
    intro ob fst e h1 hk
    simp only [Option.some.injEq, Prod.mk.injEq] at e
    obtain ⟨rfl, rfl⟩ := e
    obtain ⟨O2, h2⟩ := ib ob0 false rfl h1 hk
    have := Wg.cons n ob0 fst0 key0 la (lb ++ l1) ka _ Oa O2 ha h2 hk0
    have hl : ¬ (fst0 = true ∧ la ++ lb = []) := fun e => by
      have := wf_pos (wg_wf ha) rfl
      rw [(List.append_eq_nil_iff.mp e.2).1] at this; exact absurd this (by decide)
    rw [if_neg hl]
    simp only [Bool.false_eq_true, false_and, if_false] at this
    simp only [List.append_assoc] at this ⊢
    exact ⟨_, this⟩
theorem zp_val {st : List Bool} {sm kd : Bool} {tks : List TK} (h : Zp st sm kd tks) (ho : (st = [] → sm = false) ∧ (∀ st', st = true :: st' → kd = true)) : ∀ V, Vl (32 - st.length) V → Zp st true false (tks ++ (cmT sm kd ++ V)) := by
  intro V hV
  cases st with
  | nil =>
    obtain ⟨rfl, h⟩ := h
    have := ho.1 rfl
    subst this
    rcases h with ⟨_, rfl⟩ | ⟨e, _⟩
    · obtain ⟨L, O, hw⟩ := hV []
      exact ⟨rfl, .inr ⟨rfl, L, O, hw⟩⟩
    · cases e
  | cons ob st =>
    obtain ⟨pre, inner, l, O, h1, h2, h3, h4, h5⟩ := h
    have hV2 : Vl (31 - st.length) V := by
      have : 32 - (ob :: st).length = 31 - st.length := by rw [List.length_cons]; omega
      rw [← this]; exact hV
    rcases h5 with ⟨rfl, rfl⟩ | ⟨rfl, rfl, key, rfl⟩
    · have hob : ob = false := by
        cases ob with
        | false => rfl
        | true => have := ho.2 st rfl; cases this
      subst hob
      obtain ⟨L1, O1, hw⟩ := hV2 []
      obtain ⟨O2, hw2⟩ := wg_snoc h3 false true rfl hw (fun _ => rfl)
      have hpos := wf_pos (wg_wf hw) rfl
      have hcm : (if (true : Bool) = true ∧ l = [] then ([] : List TK) else [(44, [])]) = cmT sm false := by
        unfold cmT
        by_cases e : l = []
        · rw [if_pos ⟨rfl, e⟩, if_neg (fun e2 => (h4.mp e2.1) e)]
        · rw [if_neg (fun e2 => e e2.2), if_pos ⟨h4.mpr e, rfl⟩]
      rw [hcm] at hw2
      refine ⟨pre, _, _, O2, h1, h2, hw2, ?_, .inl ⟨rfl, by simp⟩⟩
      simp only [true_iff]
      intro e
      rw [(List.append_eq_nil_iff.mp e).2] at hpos; exact absurd hpos (by decide)
    · obtain ⟨L1, O1, hw⟩ := hV2 key
      obtain ⟨O2, hw2⟩ := wg_snoc h3 true true rfl hw (fun e => by cases e)
      have hpos := wf_pos (wg_wf hw) rfl
      have hcm : (if (true : Bool) = true ∧ l = [] then ([] : List TK) else [(44, [])]) = (if sm = true then [(44, [])] else []) := by
        by_cases e : l = []
        · rw [if_pos ⟨rfl, e⟩, if_neg (fun e2 => (h4.mp e2) e)]
        · rw [if_neg (fun e2 => e e2.2), if_pos (h4.mpr e)]
      have hc2 : cmT sm true = [] := by unfold cmT; rw [if_neg (by simp)]
      rw [hcm] at hw2
      refine ⟨pre, _, _, O2, h1, h2, hw2, ?_, .inl ⟨rfl, by rw [hc2]; simp⟩⟩
      simp only [true_iff]
      intro e
      rw [(List.append_eq_nil_iff.mp e).2] at hpos; exact absurd hpos (by decide)
theorem zp_beg {st : List Bool} {sm kd : Bool} {tks : List TK} (ob : Bool) (h : Zp st sm kd tks) (ho : (st = [] → sm = false) ∧ (∀ st', st = true :: st' → kd = true)) (hl : st.length < 32) : Zp (ob :: st) false false (tks ++ (cmT sm kd ++ [(opn ob, [])])) :=
  ⟨tks ++ cmT sm kd, [], [], [], hl, fun V hV => by rw [List.append_assoc]; exact zp_val h ho V hV, Wg.none _ ob true, by simp, .inl ⟨rfl, by simp⟩⟩
theorem zp_fin {ob : Bool} {st : List Bool} {sm : Bool} {tks : List TK} (h : Zp (ob :: st) sm false tks) : Zp st true false (tks ++ [(cls ob, [])]) := by
  obtain ⟨pre, inner, l, O, h1, h2, h3, h4, h5⟩ := h
  rcases h5 with ⟨_, rfl⟩ | ⟨e, _⟩
  · have := h2 ((opn ob, []) :: (inner ++ [(cls ob, [])])) (fun key => by
      rw [show 32 - st.length = (31 - st.length) + 1 by omega]
      exact ⟨_, _, Wg.node _ ob key l inner O h3⟩)
    simpa using this
  · cases e
theorem zp_key {st : List Bool} {sm : Bool} {tks : List TK} (h : Zp (true :: st) sm false tks) (key : List UInt8) : Zp (true :: st) sm true (tks ++ (cmT sm false ++ [(115, key), (58, [])])) := by
  obtain ⟨pre, inner, l, O, h1, h2, h3, h4, h5⟩ := h
  rcases h5 with ⟨_, rfl⟩ | ⟨e, _⟩
  · refine ⟨pre, inner, l, O, h1, h2, h3, h4, .inr ⟨rfl, rfl, key, ?_⟩⟩
    have : cmT sm false = if sm = true then [(44, [])] else [] := by unfold cmT; simp
    rw [this]; simp
  · cases e
def stk (l : List UInt8) : List Bool := (l.map fun x => x == 125).reverse
theorem stk_snoc (l : List UInt8) (x : UInt8) : stk (l ++ [x]) = (x == 125) :: stk l := by simp [stk]
theorem stk_len (l : List UInt8) : (stk l).length = l.length := by simp [stk]
theorem stk_lst {l : List UInt8} (h : l ≠ []) : stk l = (l.getLastD 0 == 125) :: stk l.dropLast := by
  have := stk_snoc l.dropLast (l.getLast h)
  rw [List.dropLast_concat_getLast h] at this
  rw [this, List.getLastD_eq_getLast?, List.getLast?_eq_some_getLast h]; rfl
/-- What was written is such tokens. -/
def WI (s : WS) : Prop := s.c = 0 → ∃ tks, s.out = tksB tks ∧ Zp (stk s.en) s.sm s.kd tks ∧ ∀ x ∈ tks, TOk x ∨ x.1 = 115
theorem tksB_cm (s : WS) : tksB (cmT s.sm s.kd) = s.cm := by
  unfold cmT WS.cm
  split
  · exact tksB_one rfl
  · rfl
theorem cmT_ok (sm kd : Bool) : ∀ x ∈ cmT sm kd, TOk x ∨ x.1 = 115 := fun x hx => by
  unfold cmT at hx
  split at hx
  · rw [List.mem_singleton.mp hx]; exact .inl (.inl ⟨rfl, rfl⟩)
  · simp at hx
theorem sign_tok {k : UInt8} (h : tSign k = true) : TOk (k, []) := .inl ⟨h, rfl⟩
def oTok (o : OP) : TK := if o.k = 115 then (115, o.t) else if o.k = 110 then (110, Lib.itoa o.n) else if o.k = 116 then (116, []) else if o.k = 102 then (102, []) else (122, [])
theorem oTok_put (o : OP) : tPut (oTok o) = rVal o := by unfold oTok rVal; repeat' split
                                                         all_goals rfl
theorem oTok_ok (o : OP) : (TOk (oTok o) ∨ (oTok o).1 = 115) ∧ ¬ tSign (oTok o).1 = true := by
  unfold oTok
  repeat' split
  · exact ⟨.inr rfl, (by decide : ¬ tSign 115 = true)⟩
  · exact ⟨.inl (.inr (.inr (.inl ⟨rfl, num_itoa _⟩))), (by decide : ¬ tSign 110 = true)⟩
  · exact ⟨.inl (.inr (.inr (.inr ⟨.inl rfl, rfl⟩))), by decide⟩
  · exact ⟨.inl (.inr (.inr (.inr ⟨.inr (.inl rfl), rfl⟩))), by decide⟩
  · exact ⟨.inl (.inr (.inr (.inr ⟨.inr (.inr rfl), rfl⟩))), by decide⟩
theorem isO_stk {s : WS} (hk : WOk s) (h : s.isO = true) : (stk s.en = [] → s.sm = false) ∧ (∀ st', stk s.en = true :: st' → s.kd = true) := by
  by_cases e : s.en = []
  · have h0 := lst_none s e
    unfold WS.isO at h
    rw [h0, if_neg (by decide), if_neg (by decide)] at h
    exact ⟨fun _ => by simpa using h, fun st' e2 => by rw [e] at e2; cases e2⟩
  · rw [stk_lst e]
    refine ⟨fun e2 => (by cases e2), fun st' e2 => ?_⟩
    have e3 : s.lst = 125 := eq_of_beq (List.cons.inj e2).1
    unfold WS.isO at h
    rw [e3, if_pos rfl] at h; exact h
theorem wi_do {s : WS} {o : OP} (hk : WOk s) (h : WI s) : WI (wDo s o) := by
  by_cases hc : s.c = 0
  · obtain ⟨tks, h1, h2, h3⟩ := h hc
    have hbad : ∀ c : Int, c ≠ 0 → WI (s.bad c) := fun c hne e => absurd e hne
    have happ : ∀ V : List TK, (∀ x ∈ V, TOk x ∨ x.1 = 115) → ∀ x ∈ tks ++ (cmT s.sm s.kd ++ V), TOk x ∨ x.1 = 115 := fun V hV x hx => by
      rcases List.mem_append.mp hx with hx | hx
      · exact h3 x hx
      · rcases List.mem_append.mp hx with hx | hx
        · exact cmT_ok _ _ x hx
        · exact hV x hx
    have hb : ∀ ob, WI (s.beg (opn ob) (cls ob)) := fun ob => by
      by_cases hd : s.en.length = 32
      · rw [beg_deep hc hd]; exact hbad _ (by decide)
      · by_cases ho : s.isO = true
        · rw [beg_ok hc hd ho]
          refine fun _ => ⟨tks ++ (cmT s.sm s.kd ++ [(opn ob, [])]), ?_, ?_, happ _ (fun x hx => by rw [List.mem_singleton.mp hx]; exact .inl (sign_tok (opn_sign ob)))⟩
          · rw [tksB_app, tksB_app, tksB_cm, tksB_one (opn_sign ob), h1]; simp
          · have := zp_beg ob h2 (isO_stk hk ho) (by rw [stk_len]; have := hk.len; omega)
            simp only
            rw [stk_snoc, show (cls ob == 125) = ob by cases ob <;> rfl]; exact this
        · rw [beg_bad hc hd ho]; exact hbad _ (by decide)
    unfold wDo
    by_cases k1 : o.k = 123
    · rw [if_pos k1]; exact hb true
    · rw [if_neg k1]
      by_cases k2 : o.k = 91
      · rw [if_pos k2]; exact hb false
      · rw [if_neg k2]
        by_cases k3 : o.k = 101
        · rw [if_pos k3]
          by_cases hf : s.lst = 0 ∨ s.kd = true
          · rw [fin_bad hc hf]; exact hbad _ (by decide)
          · have he : s.en ≠ [] := fun e => hf (.inl (lst_none s e))
            have hkd : s.kd = false := (Bool.not_eq_true _).mp (fun e => hf (.inr e))
            rw [fin_ok hc hf]
            rw [stk_lst he, hkd] at h2
            obtain ⟨ob, hob⟩ : ∃ ob, s.lst = cls ob := by
              rcases lst_some hk.en he with e | e
              · exact ⟨false, e⟩
              · exact ⟨true, e⟩
            have e2 : (s.en.getLastD 0 == 125) = ob := by
              show (s.lst == 125) = ob
              rw [hob]; cases ob <;> rfl
            rw [e2] at h2
            refine fun _ => ⟨tks ++ [(cls ob, [])], ?_, zp_fin h2, fun x hx => ?_⟩
            · rw [tksB_app, tksB_one (cls_sign ob), h1, hob]
            · rcases List.mem_append.mp hx with hx | hx
              · exact h3 x hx
              · rw [List.mem_singleton.mp hx]; exact .inl (sign_tok (cls_sign ob))
        · rw [if_neg k3]
          by_cases k4 : o.k = 107
          · rw [if_pos k4]
            by_cases hf : s.lst ≠ 125 ∨ s.kd = true
            · rw [key_bad hc hf]; exact hbad _ (by decide)
            · have hkd : s.kd = false := (Bool.not_eq_true _).mp (fun e => hf (.inr e))
              have hl : s.lst = 125 := Decidable.not_not.mp (fun e => hf (.inl e))
              have he : s.en ≠ [] := fun e => by rw [lst_none s e] at hl; exact absurd hl (by decide)
              rw [key_ok hc hf]
              have e2 : (s.en.getLastD 0 == 125) = true := by
                show (s.lst == 125) = true
                rw [hl]; rfl
              rw [stk_lst he, e2, hkd] at h2
              refine fun _ => ⟨tks ++ (cmT s.sm s.kd ++ [(115, o.t), (58, [])]), ?_, ?_, happ _ (fun x hx => ?_)⟩
              · rw [tksB_app, tksB_app, tksB_cm, h1, tksB_cons, tksB_one rfl]
                simp only [List.append_assoc]; rfl
              · simp only
                rw [stk_lst he, e2, hkd]
                exact zp_key h2 o.t
              · simp only [List.mem_cons, List.not_mem_nil, or_false] at hx
                rcases hx with rfl | rfl
                · exact .inr rfl
                · exact .inl (sign_tok rfl)
          · rw [if_neg k4]
            by_cases ho : s.isO = true
            · rw [val_ok hc ho]
              refine fun _ => ⟨tks ++ (cmT s.sm s.kd ++ [oTok o]), ?_, ?_, happ _ (fun x hx => by rw [List.mem_singleton.mp hx]; exact (oTok_ok o).1)⟩
              · rw [tksB_app, tksB_app, tksB_cm, h1]
                simp [tksB, oTok_put]
              · exact zp_val h2 (isO_stk hk ho) _ (fun key => ⟨_, _, Wg.leaf _ key _ (oTok_ok o).2⟩)
            · rw [val_bad hc ho]; exact hbad _ (by decide)
  · rw [wDo_err hc]; exact h
theorem wi_run : ∀ (l : List OP) (s : WS), WOk s → WI s → WI (wRun s l)
  | [], s, _, h => h
  | o :: l, s, hk, h => wi_run l (wDo s o) (wDo_ok o hk) (wi_do hk h)
theorem wi_nw : WI WS.nw := fun _ => ⟨[], rfl, ⟨rfl, .inl ⟨rfl, rfl⟩⟩, fun x hx => by simp at hx⟩
theorem tok_len {x : TK} (h : TOk x) : x.2.length ≤ (tPut x).length := by
  unfold tPut
  rcases h with ⟨_, h⟩ | ⟨h, _⟩ | ⟨h, _⟩ | ⟨_, h⟩
  · rw [h]; exact Nat.zero_le _
  · rw [if_pos h, jText_len]; have := (jT_len x.2).1; omega
  · rw [h, if_neg (by decide), if_neg (by decide), if_pos rfl]; exact Nat.le_refl _
  · rw [h]; exact Nat.zero_le _
theorem toks_len : ∀ {ts : List TK}, (∀ x ∈ ts, TOk x) → tsz ts ≤ (tksB ts).length
  | [], _ => Nat.le_refl _
  | x :: ts, h => by
    have h1 := tok_len (h x List.mem_cons_self)
    have h2 := toks_len (fun y hy => h y (List.mem_cons_of_mem _ hy))
    rw [tksB_cons, List.length_append]
    unfold tsz; omega
/-- All that is asked of what a writer wrote without an error: read, it is a tree of just these bytes, or a key came twice, or a text is not right. -/
theorem right_facts (l : List OP) (hl : opz l ≤ 1099511627000) (hn : ∀ o ∈ l, OpOk o) (h : (wDone (wRun WS.nw l)).2 = 0) :
    ∃ (ts : List TK) (la : Int), SfL ts (some la) (wDone (wRun WS.nw l)).1 ∧ SgE ts ∧ (∀ x ∈ ts, TOk x) ∧ ((rdT ts (some la)).2 = 0 → tksB ts = (wDone (wRun WS.nw l)).1 ∧ Wf none [] (rdT ts (some la)).1 ts) ∧ ((rdT ts (some la)).2 = 0 ∨ (rdT ts (some la)).2 = 8 ∨ (rdT ts (some la)).2 = 5) := by
  obtain ⟨hk, _, _, hlen, _⟩ := run_all l WS.nw RfS.nw .nw .nw (by simp [RfS.nw]) hn
  have hi := wi_run l WS.nw .nw wi_nw
  generalize wRun WS.nw l = s at *
  unfold wDone at h ⊢
  by_cases hc : s.c = 0
  · rw [if_pos hc] at h ⊢
    by_cases he : s.lst ≠ 0 ∨ s.sm = false
    · rw [if_pos he] at h; exact absurd h (by decide)
    · rw [if_neg he] at h ⊢
      simp only
      have hen : s.en = [] := (lst_zero hk.en).mp (Decidable.not_not.mp (fun e => he (.inl e)))
      have hsm : s.sm = true := (Bool.not_eq_false _).mp (fun e => he (.inr e))
      obtain ⟨tks, h1, h2, h3⟩ := hi hc
      rw [hen, hsm] at h2
      obtain ⟨_, h4⟩ := h2
      rcases h4 with ⟨e, _⟩ | ⟨_, L, O, hw⟩
      · cases e
      · have hnx := (nxt_wf (wg_wf hw) [] trivial (fun x t e => by cases e)).1
        rw [List.append_nil] at hnx
        obtain ⟨pre, post, e1, hp, hq⟩ := sf_script tks hnx h3
        have hz : tsz pre ≤ 1099511627776 := by
          have h5 := toks_len hp
          have h6 := congrArg List.length (congrArg tksB e1)
          rw [tksB_app, List.length_append, ← h1] at h6
          simp only [WS.nw, List.length_nil] at hlen
          omega
        have hsg := sg_of hp hz
        rw [h1]
        rcases hq with ⟨rfl, hs⟩ | ⟨hne, hs⟩
        · rw [List.append_nil] at e1
          subst e1
          refine ⟨tks, 0, hs, hsg, hp, fun e => ⟨rfl, (rdT_good hsg e).2⟩, ?_⟩
          rcases rdT_of hw with e | e
          · exact .inl (by rw [e])
          · exact .inr (.inl e)
        · subst e1
          have hcut := rdT_cut hw hne (c := 5) (by decide)
          refine ⟨pre, 5, hs, hsg, hp, fun e => ?_, ?_⟩
          · rcases hcut with e2 | e2 <;> rw [e] at e2 <;> exact absurd e2 (by decide)
          · rcases hcut with e2 | e2
            · exact .inr (.inr e2)
            · exact .inr (.inl e2)
  · rw [if_neg hc] at h; exact absurd h hc
end Go.Proofs.YtnbhhnkcfbfdcaaGreatDoor
