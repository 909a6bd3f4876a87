/- Package jtree's lay, Put. -/
import Derived.Test.YtnbhhnkcfbfdcaaGreatDoorJrK
import Derived.Test.YtnbhhnkcfbfdcaaGreatDoorJtE
import Derived.Test.YtnbhhnkcfbfdcaaGreatDoorJsPut
import Derived.Test.YtnbhhnkcfbfdcaaGreatDoorApp
import Derived.Deep.Cut
import Derived.Deep.CutRange
namespace Go.Proofs.YtnbhhnkcfbfdcaaGreatDoor
open Go Go.RowKit
set_option linter.unusedVariables false

/-- Block k is no row of bytes. -/
def NB (w : World) (k : Nat) : Prop := ∀ cs fz, w.heap[k]? ≠ some (.cells cs 5 fz)
/-- What laying a tree leaves as it was: all but rows of bytes from B on. -/
structure GB (B : Nat) (w w' : World) : Prop where
  os : w'.os = w.os
  tape : w'.tape = w.tape
  output : w'.output = w.output
  size : w.heap.size ≤ w'.heap.size
  block : ∀ k, k < w.heap.size → (k < B ∨ NB w k) → w'.heap[k]? = w.heap[k]?
section
variable {B : Nat} {w w1 w2 : World}
theorem GB.refl (B : Nat) (w : World) : GB B w w := ⟨rfl, rfl, rfl, Nat.le_refl _, fun _ _ _ => rfl⟩
theorem GB.trans (h : GB B w w1) (h2 : GB B w1 w2) : GB B w w2 :=
  ⟨h2.os.trans h.os, h2.tape.trans h.tape, h2.output.trans h.output, Nat.le_trans h.size h2.size, fun k hk hn => by
    have e1 := h.block k hk hn
    refine (h2.block k (Nat.lt_of_lt_of_le hk h.size) ?_).trans e1
    rcases hn with hn | hn
    · exact .inl hn
    · exact .inr fun cs fz => by rw [e1]; exact hn cs fz⟩
theorem GB.of_below (h : Below w.heap.size w w1) : GB B w w1 := ⟨h.os, h.tape, h.output, h.size, fun k hk _ => h.block k hk⟩
theorem bts_own {e : TypeId} {v : Value} {l : List UInt8} (h : Bts e w B v l) {g : Nat} (hg : v.ownBlock = some g) : B ≤ g ∧ g < w.heap.size ∧ ∃ cur, w.heap[g]? = some (.cells cur e (0, 0)) := by
  rcases h.2 with ⟨rfl, _⟩ | ⟨g', cap, cur, rfl, h2, h3, _⟩
  · cases hg
  · simp [Value.ownBlock] at hg
    subst hg
    exact ⟨h2, lt_of_block h3, cur, h3⟩
theorem GB.grown {v : Value} {l : List UInt8} (h : w.grownBy w1 v.ownBlock) (hb : Bts 5 w B v l) : GB B w w1 :=
  ⟨h.os, h.tape, h.output, h.size, fun k hk hn => h.block k hk (fun e => by
    obtain ⟨o1, _, cur, o3⟩ := bts_own hb e.symm
    rcases hn with hn | hn
    · omega
    · exact hn _ _ o3)⟩
theorem GB.below (h : GB B w w1) (hB : B ≤ w.heap.size) : Below B w w1 := ⟨h.os, h.tape, h.output, h.size, fun k hk => h.block k (by omega) (.inl hk)⟩
theorem GB.keep {k : Nat} {cs : Array Value} {t : TypeId} {fz : Nat × Nat} (h : GB B w w1) (hk : w.heap[k]? = some (.cells cs t fz)) (hne : t ≠ 5) : w1.heap[k]? = some (.cells cs t fz) :=
  (h.block k (lt_of_block hk) (.inr fun cs2 fz2 e => by
    rw [hk] at e
    simp only [Option.some.injEq, Obj.cells.injEq] at e
    exact hne e.2.1)).trans hk
end
theorem bts_keep {e : TypeId} {w w' : World} {B : Nat} {v : Value} {l : List UInt8} (h : Bts e w B v l) (hb : Below w.heap.size w w') : Bts e w' B v l := by
  refine World.ownsRow.kept (row := none) h ⟨hb.os, hb.tape, hb.output, hb.size, fun k hk _ => hb.block k hk⟩ ?_
  cases v.ownBlock <;> simp
theorem irow_gb {w w' : World} {B C : Nat} {v : Value} {l : List Nat} (h : IRow w C v l) (hg : GB B w w') : IRow w' C v l := by
  obtain ⟨hl, h⟩ := h
  refine ⟨hl, ?_⟩
  rcases h with h | ⟨g, cap, cur, h1, h2, h3, h4⟩
  · exact .inl h
  · exact .inr ⟨g, cap, cur, h1, h2, hg.keep h3 (by decide), h4⟩
/-- 'append(list, m...)' of another list of bytes. -/
theorem wpList_append_bgb {ops : Array Oper} {rest : List Oper} {o : Oper} {a : Act} {Q : Exit → Act → World → Prop} (hgd : o.guard = none) (s x : Operand)
    (ho : o.op = .call { callee := .builtin .append, args := #[s, x], argTypes := #[43, 43] })
    (v v2 : Value) (w : World) (B B2 : Nat) (l m : List UInt8) (hb : Bts 5 w B v l) (hb2 : Bts 5 w B2 v2 m) (hm : m ≠ []) (hB : B ≤ w.heap.size) (hs : a.eval s = v) (hx : a.eval x = v2) (hlen : l.length + m.length ≤ 140737488355328)
    (h : ∀ v' w', Bts 5 w' B v' (l ++ m) → GB B w w' → wpList Tryz.prog ops Q rest (a.put o.dst v') w') :
    wpList Tryz.prog ops Q (o :: rest) a w := by
  obtain ⟨i, hi, hz, hsize, hby⟩ := info_parts info8
  rcases hb2.2 with ⟨_, hn⟩ | ⟨g, cap, cur, rfl, _, hg, _⟩
  · exact absurd (List.eq_nil_of_length_eq_zero hn) hm
  · refine wpList_append_own w hgd s x 43 ho B 5 i (.int .u8 0) 1 1 Tryz.underlying43 hi hz hsize hby rfl (by decide) v l.length (bV l) hs hb ⟨g, 0, none⟩ m.length cap (bV m) hx (by rw [bV_length, Nat.mul_one]) ?_ (bV_one m) (by unfold maxLen; omega) (by omega) hB ?_
    · intro j u hj
      have hjl : j < m.length := by
        have := (List.getElem?_eq_some_iff.1 hj).1
        rwa [bV_length] at this
      have e1 : (Addr.mk g 0 none).add j = ⟨g, j, none⟩ := by unfold Addr.add; split <;> simp_all
      rw [e1, World.ownsRow.cellAt hb2 j (by omega)]
      exact hj
    · intro v' w' hown hgr _
      refine h v' w' ?_ (GB.grown hgr hb)
      unfold Bts
      rw [bV_append, List.length_append]
      exact hown
/-- 'append(list, b)'. -/
theorem wpList_append_ogb {ops : Array Oper} {rest : List Oper} {o : Oper} {a : Act} {Q : Exit → Act → World → Prop} (hgd : o.guard = none) (s x : Operand)
    (ho : o.op = .call { callee := .builtin .append, args := #[s, x], argTypes := #[43, 43] })
    (v : Value) (wr : World) (B : Nat) (l : List UInt8) (hb : Bts 5 wr B v l) (hB : B ≤ wr.heap.size) (hs : a.eval s = v)
    (z : Int) (b : UInt8) (hzb : z = (b.toNat : Int)) (hx : a.eval x = .slice (some ⟨wr.heap.size, 0, none⟩) 1 1) (hlen : l.length + 1 ≤ 140737488355328)
    (h : ∀ v' w', Bts 5 w' B v' (l ++ [b]) → GB B wr w' → wpList Tryz.prog ops Q rest (a.put o.dst v') w') :
    wpList Tryz.prog ops Q (o :: rest) a (wr.alloc (.cells #[.int .u8 z] 5)) := by
  subst hzb
  obtain ⟨i, hi, hz, hsize, hby⟩ := info_parts info8
  have hb1 : Bts 5 (wr.alloc (.cells #[.int .u8 (b.toNat : Int)] 5)) B v l := World.ownsRow.alloc hb _
  refine wpList_append_own _ hgd s x 43 ho B 5 i (.int .u8 0) 1 1 Tryz.underlying43 hi hz hsize hby rfl (by decide) v l.length (bV l) hs hb1 ⟨wr.heap.size, 0, none⟩ 1 1 [.int .u8 (b.toNat : Int)] hx rfl ?_ ?_ (by unfold maxLen; omega) (by omega) (by simp; omega) ?_
  · intro j u hj
    match j, hj with
    | 0, hj =>
      simp at hj
      subst hj
      have h1 := heap_alloc_new wr (.cells #[.int .u8 (b.toNat : Int)] 5)
      show World.cell? _ ⟨wr.heap.size, 0 + 0, none⟩ = _
      simp only [World.cell?]
      rw [h1]; rfl
  · intro u hu; simp at hu; subst hu; rfl
  · intro v' w' hown hgr _
    refine h v' w' ?_ ((GB.of_below (alloc_below wr _)).trans (GB.grown hgr hb1))
    unfold Bts
    rw [bV_append, List.length_append]
    exact hown
theorem wf_inv0 {key : List UInt8} {l : List ND} {tk : List TK} (h : Wf none key l tk) : (∃ t : TK, ¬ tSign t.1 = true ∧ l = [(t.1, key, t.2, 1)] ∧ tk = [t]) ∨ ∃ ob lm km, Wf (some (ob, true)) [] lm km ∧ l = (opn ob, key, [], lm.length + 1) :: lm ∧ tk = (opn ob, []) :: (km ++ [(cls ob, [])]) := by
  generalize ho : (none : Option (Bool × Bool)) = o at h
  cases h with
  | leaf key t h1 => exact .inl ⟨t, h1, rfl, rfl⟩
  | node ob key l tk h1 => exact .inr ⟨ob, l, tk, h1, rfl, rfl⟩
  | none => cases ho
  | cons => cases ho
theorem wf_inv1 {ob fst : Bool} {l : List ND} {tk : List TK} (h : Wf (some (ob, fst)) [] l tk) : (l = [] ∧ tk = []) ∨ ∃ key l1 l2 k1 k2, Wf none key l1 k1 ∧ Wf (some (ob, false)) [] l2 k2 ∧ l = l1 ++ l2 ∧ tk = (if fst then [] else [(44, [])]) ++ ((if ob then [(115, key), (58, [])] else []) ++ (k1 ++ k2)) := by
  generalize ho : (some (ob, fst) : Option (Bool × Bool)) = o at h
  generalize hk : ([] : List UInt8) = kk at h
  cases h with
  | leaf => cases ho
  | node => cases ho
  | none => exact .inl ⟨rfl, rfl⟩
  | cons ob2 fst2 key l1 l2 k1 k2 h1 h2 h3 =>
    simp only [Option.some.injEq, Prod.mk.injEq] at ho
    obtain ⟨rfl, rfl⟩ := ho
    exact .inr ⟨key, l1, l2, k1, k2, h1, h2, rfl, rfl⟩
theorem wf_key {key : List UInt8} {l : List ND} {tk : List TK} (h : Wf none key l tk) : ∃ x r, l = x :: r ∧ x.2.2.2 = l.length ∧ x.2.1 = key := by
  rcases wf_inv0 h with ⟨t, _, rfl, _⟩ | ⟨ob, lm, km, _, rfl, _⟩
  · exact ⟨_, _, rfl, rfl, rfl⟩
  · exact ⟨_, _, rfl, rfl, rfl⟩
theorem tPut_some {x : TK} (h : TOk x) : tPut x ≠ [] := fun e => by
  obtain ⟨b, t, e2, _⟩ := tPut_again h (R := []) (fun x t e => by cases e)
  rw [e] at e2; cases e2
theorem jText_some (l : List UInt8) : jText l ≠ [] := by unfold jText; simp
theorem tPut_text115 (key : List UInt8) : tPut (115, key) = jText key := by unfold tPut; rw [if_pos rfl]
theorem jput_nil (s : ByteArray) (w : World) (hs : s.size ≤ 1099511627776) :
    Calls Tryz.prog 24 #[.slice none 0 0, .string s] w fun e w' => ∃ v, e = .returned v ∧ Bts 5 w' w.heap.size v (jText s.data.toList) ∧ Below w.heap.size w w' :=
  jput_any none 0 [] s w (by decide) hs (fun j hj => by simp at hj)
theorem tput_nil (k : UInt8) (t : List UInt8) (w : World) (hs : t.length ≤ 1099511627776) :
    Calls Tryz.prog 58 #[.slice none 0 0, .agg #[.int .u8 (k.toNat : Int), .string (bA t)]] w fun e w' => ∃ v, e = .returned v ∧ Bts 5 w' w.heap.size v (tPut (k, t)) ∧ Below w.heap.size w w' :=
  put_any none 0 [] (k, t) w (by decide) hs (fun j hj => by simp at hj)
/-- Block b is the node x. -/
def NdT (t : TypeId) (w : World) (b : Nat) (x : ND) : Prop := w.heap[b]? = some (.cells (ndC x).toArray t (0, 0))
theorem NdT.c0 {t : TypeId} {w : World} {b : Nat} {x : ND} (h : NdT t w b x) : w.cell? ⟨b, 0, none⟩ = some (.int .u8 (x.1.toNat : Int)) := by rw [cell_of_row w b 0 _ _ _ h]; rfl
theorem NdT.c2 {t : TypeId} {w : World} {b : Nat} {x : ND} (h : NdT t w b x) : w.cell? ⟨b, 2, none⟩ = some (.string (bA x.2.2.1)) := by rw [cell_of_row w b 2 _ _ _ h]; rfl
/-- The nodes of l, from now on. -/
def NUp (B : Nat) (w : World) (a : Option Addr) (l : List ND) : Prop := ∀ wx, Below B w wx → NIn wx a l
theorem NUp.on {B : Nat} {w w1 : World} {a : Option Addr} {l : List ND} (h : NUp B w a l) (hb : Below B w w1) : NUp B w1 a l := fun wx hx => h wx (hb.trans hx)
theorem wrap64_next {j : Nat} (h : j < 1099511627776) : wrap64 ((j : Int) + 1) = ((j + 1 : Nat) : Int) := by
  unfold wrap64
  rw [Int.natCast_succ, Int.emod_eq_of_lt (by omega) (by omega)]; omega
/-- What stands ahead of a part. -/
def sepB (j : Nat) : List UInt8 := if j = 0 then [] else [44]
def keyB (ob : Bool) (key : List UInt8) : List UInt8 := if ob then jText key ++ [58] else []
theorem part_bytes (j : Nat) (ob : Bool) (key : List UInt8) (k1 k2 : List TK) : tksB ((if decide (j = 0) then [] else [(44, [])]) ++ ((if ob then [(115, key), (58, [])] else []) ++ (k1 ++ k2))) = sepB j ++ (keyB ob key ++ (tksB k1 ++ tksB k2)) := by
  rw [tksB_app, tksB_app, tksB_app]
  have e1 : tksB (if decide (j = 0) then [] else [((44 : UInt8), [])]) = sepB j := by
    unfold sepB
    by_cases h : j = 0
    · simp [h, tksB]
    · simp [h, tksB, tPut_sign (k := 44) rfl]
  have e2 : tksB (if ob then [((115 : UInt8), key), (58, [])] else []) = keyB ob key := by
    unfold keyB
    cases ob
    · simp [tksB]
    · simp [tksB, tPut_sign (k := 58) rfl, tPut_text115]
  rw [e1, e2]
/-- Between two kids. -/
def LyRel (B C : Nat) (l : List ND) (ob : Bool) (kx : UInt8) (T P0 : Nat) (kv : Value) (Kd : List Nat) (E : Nat) (all : List UInt8) (W : World) (v i : Value) (wr : World) : Prop :=
  ∃ (j f : Nat) (pB lr rs : List ND) (tr : List TK) (bs : List UInt8), i = .int .i64 (j : Nat) ∧ j ≤ Kd.length ∧ Bts 5 wr B v bs ∧ Kd.drop j = kdL l f pB.length E ∧ E ≤ f + pB.length ∧ P0 ≤ pB.length ∧ l = pB ++ (lr ++ rs) ∧ E = pB.length + lr.length ∧ Wf (some (ob, decide (j = 0))) [] lr tr ∧ (lr ≠ [] → kx = opn ob) ∧
    (∀ x ∈ tr, TOk x ∧ x.2.length ≤ 1099511627776) ∧ Hid (bs ++ tksB tr = all) ∧ GB B W wr ∧ (∃ x, NdT 90 wr T x ∧ x.1 = kx) ∧ IRow wr C kv Kd
/-- What lay does with the tree at a place. -/
def LayC (B : Nat) (a : Option Addr) (cap : Nat) (l : List ND) (n : Nat) : Prop := ∀ (seg pA rs : List ND) (tk : List TK) (key : List UInt8) (v : Value) (bs : List UInt8) (w : World), seg.length ≤ n → Wf none key seg tk → l = pA ++ (seg ++ rs) → (∀ x ∈ tk, TOk x ∧ x.2.length ≤ 1099511627776) → (bs ++ tksB tk).length ≤ 70368744177664 → Bts 5 w B v bs → B ≤ w.heap.size → NUp B w a l →
  Calls Tryz.prog 34 #[v, .slice a l.length cap, .int .i64 (pA.length : Nat)] w fun e w' => ∃ v', e = .returned v' ∧ Bts 5 w' B v' (bs ++ tksB tk) ∧ GB B w w'
theorem at_front {l pA seg rs : List ND} (h : l = pA ++ (seg ++ rs)) {x : ND} {r : List ND} (hs : seg = x :: r) : ∃ hp : pA.length < l.length, l[pA.length] = x := by
  subst h hs
  refine ⟨by simp, ?_⟩
  rw [List.getElem_append_right (Nat.le_refl _)]
  simp
set_option maxRecDepth 20000 in
set_option maxHeartbeats 4000000 in
theorem lay_core {B : Nat} {a : Option Addr} {cap : Nat} {l : List ND} {n : Nat} (hI : LayC B a cap l n) (hl : l.length ≤ 1099511627776) (hsz : SzOk l) (x : ND) (lm pA rs : List ND) (km : List TK) (ob : Bool) (endb : List UInt8) (v : Value) (bs : List UInt8) (w : World)
    (hn : lm.length ≤ n) (hw : Wf (some (ob, true)) [] lm km) (hx : x.2.2.2 = lm.length + 1) (hle : l = pA ++ ((x :: lm) ++ rs)) (hk : lm ≠ [] → x.1 = opn ob) (hend : (¬ tSign x.1 = true ∧ endb = []) ∨ (x.1 = opn ob ∧ endb = [cls ob]))
    (ht : ∀ t ∈ km, TOk t ∧ t.2.length ≤ 1099511627776) (hx0 : TOk (x.1, x.2.2.1) ∧ x.2.2.1.length ≤ 1099511627776) (hlen : (bs ++ (tPut (x.1, x.2.2.1) ++ (tksB km ++ endb))).length ≤ 70368744177664) (hb : Bts 5 w B v bs) (hB : B ≤ w.heap.size) (hu : NUp B w a l) :
    Calls Tryz.prog 34 #[v, .slice a l.length cap, .int .i64 (pA.length : Nat)] w fun e w' => ∃ v', e = .returned v' ∧ Bts 5 w' B v' (bs ++ (tPut (x.1, x.2.2.1) ++ (tksB km ++ endb))) ∧ GB B w w' := by
  obtain ⟨hp, hat⟩ := at_front hle (x := x) (r := lm) rfl
  obtain ⟨g, rfl, hgl, c0, c1, c2, c3⟩ := hu w (Below.refl _ _) pA.length hp
  rw [hat] at c0 c1 c2 c3
  generalize hP : pA.length = p at *
  have q1 : (p : Int) < (l.length : Int) := by omega
  have q2 : (0 : Int) ≤ (p : Int) := by omega
  have HT := Lib.hid (fun w => tput_nil x.1 x.2.2.1 w hx0.2)
  have HTS := Lib.hid (tPut_some hx0.1)
  have d0 : NdT 90 (w.alloc (.cells (ndC x).toArray 90)) w.heap.size x := heap_alloc_new w (.cells (ndC x).toArray 90)
  have e0 := d0.c0; have e2 := d0.c2
  have b0 := alloc_below w (.cells (ndC x).toArray 90)
  have hb0 := Lib.hid (bts_keep hb b0)
  have hB0 := Nat.le_trans hB b0.size
  have HG0 := Lib.hid (GB.of_below (B := B) b0)
  have D0 := Lib.hid d0
  have HL := Lib.hid hlen
  have HALL := Lib.hid (And.intro hn (And.intro hw (And.intro hx (And.intro hle (And.intro hk (And.intro hend ht))))))
  have HUP := Lib.hid hu
  have HSZ := Lib.hid hsz
  have HAT := Lib.hid hat
  have HI := Lib.hid hI
  simp only [List.length_append] at hlen
  have hl1 : bs.length + (tPut (x.1, x.2.2.1)).length ≤ 140737488355328 := by omega
  unfold ndC at e0 e2 hb0 HG0 D0 hB0
  simp only [List.toArray] at e0 e2
  clear hn hw hx hle hk hend ht hx0 hlen hb hu hsz hat hI d0 b0
  go_enter Tryz.func34, Tryz.ntmps34
  go_wp2_with fail
  generalize w.alloc (.cells #[.int .u8 (x.1.toNat : Int), .string (bA x.2.1), .string (bA x.2.2.1), .int .i64 (x.2.2.2 : Nat)] 90) = w0 at *
  with_reducible refine (HT.out _).mono ?_
  rintro e w1 ⟨v1, rfl, hv1, b1⟩
  have hb1 := Lib.hid (bts_keep hb0.out b1)
  have hB1 := Nat.le_trans hB0 b1.size
  have HG1 := Lib.hid (HG0.out.trans (GB.of_below b1))
  have D1 := Lib.hid (show NdT 90 w1 w.heap.size x from (b1.block _ (lt_of_block D0.out)).trans D0.out)
  have HV1 := Lib.hid hv1
  clear hv1 b1 hb0 hB0 HG0 D0 e0 e2 c0 c1 c2 HT
  go_wp2_with (at_builtin; go_loud (refine wpList_append_bgb rfl (.tmp 14) (.tmp 20) rfl v v1 w1 B w0.heap.size bs (tPut (x.1, x.2.2.1)) hb1.out HV1.out HTS.out hB1 rfl rfl hl1 ?_; intro v2 w2 hv2 g2; have D2 := Lib.hid (show NdT 90 w2 w.heap.size x from g2.keep D1.out (by decide)); have HG2 := Lib.hid (HG1.out.trans g2); have HV2 := Lib.hid hv2; have hB2 := Nat.le_trans hB1 g2.size; clear hv2 g2))
  have hBW := HG2.out.below hB
  have HN2 := Lib.hid (HUP.out w2 hBW)
  have HKD := Lib.hid (kids_any (some ⟨g, 0, none⟩) cap l (p : Nat) w2 hl HN2.out HSZ.out (by omega) (by omega))
  with_reducible refine HKD.out.mono ?_
  rintro e w3 ⟨kv, rfl, hkv, b3⟩
  have hb3 := Lib.hid (bts_keep HV2.out b3)
  have HG3 := Lib.hid (HG2.out.trans (GB.of_below b3))
  have D3 := Lib.hid (show NdT 90 w3 w.heap.size x from (b3.block _ (lt_of_block D2.out)).trans D2.out)
  obtain ⟨ka, kc, rfl, hki⟩ := hkv.inn
  have HKV := Lib.hid hkv
  have HKL := Lib.hid (show kidsL l (p : Nat) = kdL l l.length (p + 1) (p + x.2.2.2) by
    unfold kidsL
    rw [if_neg (by omega), Int.toNat_natCast, getD_at hp, HAT.out])
  rw [HKL.out] at hki HKV
  rw [HKL.out]
  have HKB := Lib.hid (show (kdL l l.length (p + 1) (p + x.2.2.2)).length ≤ l.length from kdL_len l _ _ _)
  generalize hKd : kdL l l.length (p + 1) (p + x.2.2.2) = Kd at *
  have HKd := Lib.hid hKd
  clear hkv b3 hki HKD HKL HV2 hB2 HG2 D2 D1 HG1 hb1 hB1 HV1 HN2 hKd
  go_wp2_with fail
  have R0 := Lib.hid (show LyRel B w2.heap.size l ob x.1 w.heap.size (p + 1) (.slice ka Kd.length kc) Kd (p + x.2.2.2) (bs ++ (tPut (x.1, x.2.2.1) ++ tksB km)) w v2 (.int .i64 0) w3 from by
    obtain ⟨hn, hw, hx, hle, hk, hend, ht⟩ := HALL.out
    have hll : l.length = p + ((lm.length + 1) + rs.length) := by rw [hle]; simp [hP]; omega
    refine ⟨0, l.length, pA ++ [x], lm, rs, km, bs ++ tPut (x.1, x.2.2.1), rfl, Nat.zero_le _, hb3.out, ?_, by rw [List.length_append, hP]; omega, by rw [List.length_append, hP]; simp, by rw [hle]; simp, by have h1 : (pA ++ [x]).length = p + 1 := by { rw [List.length_append, hP]; rfl }; omega, hw, hk, ht, Lib.hid (by rw [List.append_assoc]), HG3.out, ⟨x, D3.out, rfl⟩, HKV.out⟩
    rw [List.drop_zero, List.length_append, hP, ← HKd.out]; rfl)
  clear hb3 HG3 D3 HKV
  go_loopw [0, 26] (fun v i wr => LyRel B w2.heap.size l ob x.1 w.heap.size (p + 1) (.slice ka Kd.length kc) Kd (p + x.2.2.2) (bs ++ (tPut (x.1, x.2.2.1) ++ tksB km)) w v i wr) (fun _ i _ => Kd.length - (intOf i).toNat)
  case atStart => exact R0.out
  case round =>
    clear R0
    obtain ⟨j, f, pB, lr, rs2, tr, bs2, rfl, hj, hb, hdr, hf, hP0, hle, hE, hw, hkx, htr, hall, hg, ⟨xn, hnd, hxn⟩, hik⟩ := hrel
    have hBr := Nat.le_trans hB hg.size
    have HLE := Lib.hid hle
    clear hle
    obtain ⟨ka2, kc2, ek, hkI⟩ := hik.inn
    simp only [Value.slice.injEq, true_and] at ek
    obtain ⟨rfl, rfl⟩ := ek
    by_cases hlt : j < Kd.length
    · have p3 : decide (j < Kd.length) = true := decide_eq_true hlt
      have p4 : (j : Int) < (Kd.length : Int) := by omega
      have HIK := Lib.hid hik
      have hj1 : (j : Int) ≤ 1099511627776 := by have := HKB.out; omega
      have hj2 : j < 1099511627776 := by have := HKB.out; omega
      obtain ⟨kb, rfl, hkb, hck⟩ := hkI j hlt
      have hd2 : Kd.drop j = Kd[j] :: Kd.drop (j + 1) := List.drop_eq_getElem_cons hlt
      rw [hd2] at hdr
      have hlr : lr ≠ [] := fun e => by
        rw [kdL_end (by rw [hE, e]; simp)] at hdr; cases hdr
      obtain ⟨f, rfl⟩ : ∃ f', f = f' + 1 := by
        cases f with
        | zero => rw [show kdL l 0 pB.length (p + x.2.2.2) = [] from rfl] at hdr; cases hdr
        | succ f => exact ⟨f, rfl⟩
      rcases wf_inv1 hw with ⟨e, _⟩ | ⟨key, l1, l2, k1, k2, w1, w2', e1, e2⟩
      · exact absurd e hlr
      · have HKX := Lib.hid (hkx hlr)
        obtain ⟨y, ys, hy1, hy2, hy3⟩ := wf_key w1
        have hll1 := wf_pos w1 rfl
        obtain ⟨hq, hqa⟩ := at_front (l := l) (pA := pB) (seg := l1) (rs := l2 ++ rs2) (by rw [HLE.out, e1]; simp) hy1
        have hlt2 : pB.length < p + x.2.2.2 := by rw [hE, e1, List.length_append]; omega
        rw [kdL_go hlt2 hq, hqa, hy2] at hdr
        obtain ⟨hk0, hkr⟩ := List.cons.inj hdr
        rw [hk0] at hck
        have HE := Lib.hid (And.intro hE (And.intro hkr (And.intro e1 (And.intro hf (And.intro hP0 hlt)))))
        have HW := Lib.hid (And.intro w1 w2')
        have HTR := Lib.hid (And.intro htr e2)
        have HAL := Lib.hid hall
        have HB := Lib.hid hb
        have HG := Lib.hid hg
        have HND := Lib.hid hnd
        have hbel := hg.below hB
        have HUW := Lib.hid (HUP.out.on hbel)
        obtain ⟨g2, eg2, _, n0, n1, _, _⟩ := HUW.out wr (Below.refl _ _) pB.length hq
        obtain rfl : g = g2 := by simpa using eg2
        have HQK := Lib.hid (show ∀ wx, Below B wr wx → wx.cell? ⟨g, pB.length * 4 + 1, none⟩ = some (.string (bA key)) from fun wx hx => by
          obtain ⟨g3, eg3, _, _, m1, _⟩ := HUW.out wx hx pB.length hq
          obtain rfl : g = g3 := by simpa using eg3
          rw [hqa, hy3] at m1; exact m1)
        have hLb := HL.out
        have hkl : key.length ≤ 1099511627776 ∨ ob = false := by
          cases ob with
          | false => exact .inr rfl
          | true => exact .inl (htr (115, key) (by rw [e2]; simp)).2
        have hall3 := hall.out
        rw [e2, part_bytes] at hall3
        have hSZ : bs2.length + ((sepB j).length + ((keyB ob key).length + ((tksB k1).length + (tksB k2).length))) ≤ 70368744177664 := by
          have h1 := congrArg List.length hall3
          simp only [List.length_append] at h1 hLb
          omega
        have HAL3 := Lib.hid hall3
        clear hall3 hLb
        generalize hqq : pB.length = q at *
        have r1 : (q : Int) < (l.length : Int) := by omega
        have r2 : (0 : Int) ≤ (q : Int) := by omega
        clear hdr hlr hk0 hkr hy1 hy2 hE e1 e2 hw hkx htr hall hb hg hnd hik hd2 hf hP0 hlt2 hkI n0 n1 hqa hll1 w1 w2' eg2
        go_upto_if 32 with fail
        go_cut [0] from 31 to 53 (fun v1 wx => Bts 5 wx B v1 (bs2 ++ sepB j) ∧ GB B wr wx)
        case first =>
          by_cases h0 : j = 0
          · have r3 : decide ((0 : Int) < (j : Int)) = false := decide_eq_false (by omega)
            have r4 : decide (0 < j) = false := decide_eq_false (by omega)
            have r5 : ¬ 0 < j := by omega
            have HQ := Lib.hid (show Bts 5 wr B u0 (bs2 ++ sepB j) from by unfold sepB; rw [if_pos h0, List.append_nil]; exact HB.out)
            clear h0
            go_wp2_with fail
            go_meet
            case rel => exact (⟨HQ.out, GB.refl _ _⟩ : Bts 5 wr B u0 (bs2 ++ sepB j) ∧ GB B wr wr)
          · have r3 : decide ((0 : Int) < (j : Int)) = true := decide_eq_true (by omega)
            have r4 : decide (0 < j) = true := decide_eq_true (by omega)
            have r5 : 0 < j := by omega
            have hs1 : sepB j = [44] := by unfold sepB; rw [if_neg h0]
            have hz : bs2.length + 1 ≤ 140737488355328 := by omega
            have HS1 := Lib.hid hs1
            clear h0 hs1
            go_wp2_with (at_builtin; go_loud (refine wpList_append_ogb rfl (.tmp 33) (.tmp 34) rfl u0 wr B bs2 HB.out hBr rfl _ 44 rfl rfl hz ?_; intro vA wA hvA gA; have HQ := Lib.hid (And.intro hvA gA); clear hvA gA))
            go_meet
            case rel => exact (⟨by rw [HS1.out]; exact HQ.out.1, HQ.out.2⟩ : Bts 5 wA B vA (bs2 ++ sepB j) ∧ GB B wr wA)
        case rest =>
          obtain ⟨hbA, gA⟩ := hcut
          have ndA := gA.keep HND.out (by decide)
          have c0A : wc.cell? ⟨w.heap.size, 0, none⟩ = some (.int .u8 (x.1.toNat : Int)) := by have := NdT.c0 (t := 90) (x := xn) ndA; rw [hxn] at this; exact this
          have hBA := Nat.le_trans hBr gA.size
          have HIA := Lib.hid (irow_gb HIK.out gA)
          have HUA := Lib.hid (HUW.out.on (gA.below hBr))
          have n1A := HQK.out wc (gA.below hBr)
          have HGA := Lib.hid gA
          have HBA := Lib.hid hbA
          clear hbA gA ndA
          go_upto_if 38 with fail
          go_cut [0] from 36 to 53 (fun v2 wx => Bts 5 wx B v2 (bs2 ++ sepB j ++ keyB ob key) ∧ GB B wc wx)
          case first =>
            cases ob with
            | false =>
              have s3 : ((x.1.toNat : Int) == 123) = false := by rw [HKX.out]; rfl
              have HQ := Lib.hid (show Bts 5 wc B u0 (bs2 ++ sepB j ++ keyB false key) from by unfold keyB; simp only [Bool.false_eq_true, if_false, List.append_nil]; exact HBA.out)
              go_wp2_with fail
              go_meet
              case rel => exact (⟨HQ.out, GB.refl _ _⟩ : Bts 5 wc B u0 (bs2 ++ sepB j ++ keyB false key) ∧ GB B wc wc)
            | true =>
              have s3 : ((x.1.toNat : Int) == 123) = true := by rw [HKX.out]; rfl
              have hkz : key.length ≤ 1099511627776 := by
                rcases hkl with h | h
                · exact h
                · cases h
              have HJ := Lib.hid (fun w => jput_nil (bA key) w (by rw [bA_size]; exact hkz))
              have hz1 : (bs2 ++ sepB j).length + (jText key).length ≤ 140737488355328 := by
                unfold keyB at hSZ
                simp only [if_true, List.length_append] at hSZ ⊢
                omega
              have hz2 : ((bs2 ++ sepB j) ++ jText key).length + 1 ≤ 140737488355328 := by
                unfold keyB at hSZ
                simp only [if_true, List.length_append, List.length_singleton] at hSZ ⊢
                omega
              have HJS := Lib.hid (jText_some key)
              clear hSZ hkl
              go_wp2_with fail
              with_reducible refine (HJ.out _).mono ?_
              rintro e wB ⟨vB, rfl, hvB, bB⟩
              have hbB := Lib.hid (bts_keep HBA.out bB)
              have hBB := Nat.le_trans hBA bB.size
              have GBB := Lib.hid (GB.of_below (B := B) bB)
              have HVB := Lib.hid (show Bts 5 wB wc.heap.size vB (jText key) from by have := hvB; simpa [bA] using this)
              clear hvB bB HJ
              go_wp2_with (first
                | (at_builtin; (refine wpList_append_bgb rfl (.tmp 39) (.tmp 45) rfl u0 vB wB B wc.heap.size (bs2 ++ sepB j) (jText key) hbB.out HVB.out HJS.out hBB rfl rfl hz1 ?_; intro vC wC hvC gC; have HVC := Lib.hid hvC; have HGC := Lib.hid gC; have hBC := Nat.le_trans hBB gC.size; clear hvC gC))
                | (at_builtin; (refine wpList_append_ogb rfl (.tmp 47) (.tmp 48) rfl vC wC B ((bs2 ++ sepB j) ++ jText key) HVC.out hBC rfl _ 58 rfl rfl hz2 ?_; intro vD wD hvD gD; have HQ := Lib.hid (And.intro hvD gD); clear hvD gD)))
              go_meet
              case rel => exact (⟨by have := HQ.out.1; unfold keyB; simpa using this, (GBB.out.trans HGC.out).trans HQ.out.2⟩ : Bts 5 wD B vD (bs2 ++ sepB j ++ keyB true key) ∧ GB B wc wD)
          case rest =>
            obtain ⟨hbB, gB⟩ := hcut
            have HGB := Lib.hid (HGA.out.trans gB)
            have hBB := Nat.le_trans hBA gB.size
            have HUB := Lib.hid (HUA.out.on (gB.below hBA))
            have HIB := Lib.hid (irow_gb HIA.out gB)
            obtain ⟨hn, hw0, hx, hle0, hk, hend, ht⟩ := HALL.out
            have hzc : (bs2 ++ sepB j ++ keyB ob key ++ tksB k1).length ≤ 70368744177664 := by
              simp only [List.length_append]
              omega
            have hln : l1.length ≤ n := by
              obtain ⟨d1, d2, d3, d4, d5, d6⟩ := HE.out
              have h1 := congrArg List.length d3
              rw [List.length_append] at h1
              omega
            obtain ⟨htr, e2⟩ := HTR.out
            have HC := Lib.hid (HI.out l1 pB (l2 ++ rs2) k1 key _ (bs2 ++ sepB j ++ keyB ob key) _ hln HW.out.1 (by rw [HLE.out, HE.out.2.2.1]; simp) (fun t hm => htr t (by rw [e2]; simp [hm])) hzc hbB hBB HUB.out)
            rw [hqq] at HC
            clear hn hw0 hx hle0 hk hend ht htr e2 hzc hln hbB gB
            go_wp2_with fail
            with_reducible refine HC.out.mono ?_
            rintro e wE ⟨vE, rfl, hbE, gE⟩
            have HBE := Lib.hid hbE
            have HGE := Lib.hid (HGB.out.trans gE)
            have HIE := Lib.hid (irow_gb HIB.out gE)
            clear hbE gE HC
            go_wp2_with fail
            go_roundw
            case rel =>
              obtain ⟨d1, d2, d3, d4, d5, d6⟩ := HE.out
              obtain ⟨htr, e2⟩ := HTR.out
              have hw1 := HW.out.2
              refine (⟨j + 1, f, pB ++ l1, l2, rs2, k2, bs2 ++ sepB j ++ keyB ob key ++ tksB k1, by go_num, d6, HBE.out, ?_, ?_, ?_, ?_, ?_, by simpa using hw1, fun _ => HKX.out, fun t hm => htr t (by rw [e2]; simp [hm]), Lib.hid ?_, HG.out.trans HGE.out, ⟨xn, HGE.out.keep HND.out (by decide), hxn⟩, HIE.out⟩ : LyRel B w2.heap.size l ob x.1 w.heap.size (p + 1) (.slice (some ⟨kb, 0, none⟩) Kd.length kc) Kd (p + x.2.2.2) (bs ++ (tPut (x.1, x.2.2.1) ++ tksB km)) w vE _ wE)
              · rw [List.length_append, hqq]; exact d2
              · rw [List.length_append, hqq]; have := wf_pos HW.out.1 rfl; omega
              · rw [List.length_append, hqq]; omega
              · rw [HLE.out, d3]; simp
              · rw [List.length_append, hqq]
                have h1 := congrArg List.length d3
                rw [List.length_append] at h1
                omega
              · rw [← HAL3.out]; simp
            case measure =>
              simp [intOf]; have := HE.out.2.2.2.2.2; omega
    · have p3 : decide (j < Kd.length) = false := decide_eq_false hlt
      have p4 : ¬ j < Kd.length := hlt
      have hlr : lr = [] := by
        cases lr with
        | nil => rfl
        | cons y ys =>
          have h1 : Kd.drop j = [] := List.drop_eq_nil_of_le (by omega)
          have hE2 := hE
          simp only [List.length_cons] at hE2
          cases f with
          | zero => omega
          | succ f =>
            rw [kdL, if_pos (by omega)] at hdr
            rw [h1] at hdr; cases hdr
      subst hlr
      have htk : tr = [] := by
        rcases wf_inv1 hw with ⟨_, e⟩ | ⟨key, l1, l2, k1, k2, w1, _, e, _⟩
        · exact e
        · have := wf_pos w1 rfl
          have h2 := congrArg List.length e
          rw [List.length_append, List.length_nil] at h2
          omega
      subst htk
      have hall2 : bs2 = bs ++ (tPut (x.1, x.2.2.1) ++ tksB km) := by have := hall.out; simpa [tksB] using this
      have HB := Lib.hid hb
      have HG := Lib.hid hg
      have c0 := hnd.c0
      rw [hxn] at c0
      have HA2 := Lib.hid hall2
      have hend := HALL.out.2.2.2.2.2.1
      have hLb := HL.out
      simp only [List.length_append] at hLb
      have hl2 : bs2.length + 1 ≤ 140737488355328 := by rw [hall2]; simp only [List.length_append]; omega
      clear hall hall2 hdr hw hkx htr hik hnd hkI hb hg hlt hLb
      rcases hend with ⟨hs, rfl⟩ | ⟨hxo, rfl⟩
      · have r1 : ((x.1.toNat : Int) == 91) = false := (eq8 x.1 91).trans (decide_eq_false (fun e => hs (by rw [e]; rfl)))
        have r2 : ((x.1.toNat : Int) == 123) = false := (eq8 x.1 123).trans (decide_eq_false (fun e => hs (by rw [e]; rfl)))
        have HQ := Lib.hid (show Bts 5 wr B u0 (bs ++ (tPut (x.1, x.2.2.1) ++ (tksB km ++ []))) from by rw [List.append_nil, ← HA2.out]; exact HB.out)
        clear hs
        go_wp2
        go_ret
        exact ⟨u0, rfl, by have := HQ.out; simpa using this, HG.out⟩
      · cases ob
        · have r1 : ((x.1.toNat : Int) == 91) = true := by rw [hxo]; rfl
          clear hxo
          go_wp2_with (at_builtin; go_loud (refine wpList_append_ogb rfl (.tmp 59) (.tmp 60) rfl u0 wr B bs2 HB.out hBr rfl _ 93 rfl rfl hl2 ?_; intro v5 w5 hv5 g5; have HQ := Lib.hid (And.intro hv5 g5); clear hv5 g5))
          go_ret
          exact ⟨_, rfl, by have := HQ.out.1; rw [HA2.out] at this; simpa [cls] using this, HG.out.trans HQ.out.2⟩
        · have r1 : ((x.1.toNat : Int) == 91) = false := by rw [hxo]; rfl
          have r2 : ((x.1.toNat : Int) == 123) = true := by rw [hxo]; rfl
          clear hxo
          go_wp2_with (at_builtin; go_loud (refine wpList_append_ogb rfl (.tmp 64) (.tmp 65) rfl u0 wr B bs2 HB.out hBr rfl _ 125 rfl rfl hl2 ?_; intro v5 w5 hv5 g5; have HQ := Lib.hid (And.intro hv5 g5); clear hv5 g5))
          go_ret
          exact ⟨_, rfl, by have := HQ.out.1; rw [HA2.out] at this; simpa [cls] using this, HG.out.trans HQ.out.2⟩
theorem lay_any {B : Nat} {a : Option Addr} {cap : Nat} {l : List ND} (hl : l.length ≤ 1099511627776) (hsz : SzOk l) : ∀ n, LayC B a cap l n := by
  intro n
  induction n with
  | zero =>
    intro seg pA rs tk key v bs w hn hw
    have := wf_pos hw rfl
    omega
  | succ n ih =>
    intro seg pA rs tk key v bs w hn hw hle ht hlen hb hB hu
    rcases wf_inv0 hw with ⟨t, h1, rfl, rfl⟩ | ⟨ob, lm, km, h1, rfl, rfl⟩
    · have hc := lay_core ih hl hsz (t.1, key, t.2, 1) [] pA rs [] false [] v bs w (Nat.zero_le _) (Wf.none false true) rfl hle (fun h => absurd rfl h) (.inl ⟨h1, rfl⟩) (fun t hm => by simp at hm) (ht t (by simp)) (by simpa [tksB] using hlen) hb hB hu
      have e : tksB [t] = tPut (t.1, t.2) ++ (tksB [] ++ []) := by simp [tksB]
      rw [e]; exact hc
    · have e : tksB ((opn ob, []) :: (km ++ [(cls ob, [])])) = tPut (opn ob, []) ++ (tksB km ++ [cls ob]) := by
        rw [tksB_cons, tksB_app]
        simp [tksB, tPut_sign (cls_sign ob)]
      rw [e] at hlen ⊢
      have hl2 : lm.length ≤ n := by simp only [List.length_cons] at hn; omega
      exact lay_core ih hl hsz (opn ob, key, [], lm.length + 1) lm pA rs km ob [cls ob] v bs w hl2 h1 rfl hle (fun _ => rfl) (.inr ⟨rfl, rfl⟩) (fun t hm => ht t (by simp [hm])) (ht (opn ob, []) (by simp)) hlen hb hB hu
theorem bts_nil8 (w : World) (B : Nat) : Bts 5 w B (.slice none 0 0) [] := ⟨rfl, .inl ⟨rfl, rfl⟩⟩
/-- 'append(list, b...)' of bytes that came in. -/
theorem wpList_append_in8 {ops : Array Oper} {rest : List Oper} {o : Oper} {a : Act} {Q : Exit → Act → World → Prop} (hgd : o.guard = none) (s x : Operand)
    (ho : o.op = .call { callee := .builtin .append, args := #[s, x], argTypes := #[43, 43] })
    (v : Value) (w : World) (B : Nat) (l : List UInt8) (hb : Bts 5 w B v l) (hB : B ≤ w.heap.size) (hs : a.eval s = v) (ad : Option Addr) (cap : Nat) (m : List UInt8) (hx : a.eval x = .slice ad m.length cap) (hz : ad = none → cap = 0) (hm : BIn w ad m) (hlen : l.length + m.length ≤ 140737488355328)
    (h : ∀ v' w', Bts 5 w' B v' (l ++ m) → Below B w w' → wpList Tryz.prog ops Q rest (a.put o.dst v') w') :
    wpList Tryz.prog ops Q (o :: rest) a w := by
  obtain ⟨i, hi, hz0, hsize, hby⟩ := info_parts info8
  cases ad with
  | none =>
    have hm0 : m = [] := by
      cases m with
      | nil => rfl
      | cons y r => obtain ⟨b, off, e, _⟩ := hm 0 (by simp); cases e
    subst hm0
    rw [hz rfl] at hx
    refine wpList_append_own_none hgd s x 43 ho B 5 i 1 Tryz.underlying43 hi v l.length (bV l) hs hb hx ?_
    exact h v w (by rw [List.append_nil]; exact hb) (Below.refl _ _)
  | some ad =>
    refine wpList_append_own w hgd s x 43 ho B 5 i (.int .u8 0) 1 1 Tryz.underlying43 hi hz0 hsize hby rfl (by decide) v l.length (bV l) hs hb ad m.length cap (bV m) hx (by rw [bV_length, Nat.mul_one]) ?_ (bV_one m) (by unfold maxLen; omega) (by omega) hB ?_
    · intro j u hj
      have hjl : j < m.length := by
        have := (List.getElem?_eq_some_iff.1 hj).1
        rwa [bV_length] at this
      obtain ⟨b, off, e, _, hc⟩ := hm j hjl
      obtain rfl : ad = ⟨b, off, none⟩ := Option.some.inj e
      have e1 : (Addr.mk b off none).add j = ⟨b, off + j, none⟩ := by unfold Addr.add; split <;> simp_all
      rw [e1, hc, ← bV_get m j hjl]; exact hj
    · intro v' w' hown hgr _
      refine h v' w' ?_ ⟨hgr.os, hgr.tape, hgr.output, hgr.size, fun k hk => hgr.block k (by omega) (fun e => by have := (bts_own hb e.symm).1; omega)⟩
      unfold Bts
      rw [bV_append, List.length_append]
      exact hown
/-- Put, of a tree that was read, behind bytes that are there. -/
theorem jrput_any (a0 : Option Addr) (cap0 : Nat) (bs : List UInt8) (a : Option Addr) (cap : Nat) (l : List ND) (tk : List TK) (w : World) (hl : l.length ≤ 1099511627776) (hbs : bs.length ≤ 1000) (hin0 : BIn w a0 bs) (hc0 : a0 = none → cap0 = 0) (hin : NIn w a l)
    (hw : l = [] ∧ tk = [] ∨ Wf none [] l tk) (ht : ∀ x ∈ tk, TOk x ∧ x.2.length ≤ 1099511627776) (hlen : (bs ++ tksB tk).length ≤ 70368744177664) :
    Calls Tryz.prog 13 #[.slice a0 bs.length cap0, .slice a l.length cap] w fun e w' => ∃ v, e = .returned v ∧ Bts 5 w' w.heap.size v (bs ++ tksB tk) ∧ Below w.heap.size w w' := by
  have HC := Lib.hid (show ∀ (v1 : Value) (w1 : World), Bts 5 w1 w.heap.size v1 bs → Below w.heap.size w w1 → Wf none [] l tk → Calls Tryz.prog 34 #[v1, .slice a l.length cap, .int .i64 0] w1 fun e w' => ∃ v', e = .returned v' ∧ Bts 5 w' w.heap.size v' (bs ++ tksB tk) ∧ GB w.heap.size w1 w' from fun v1 w1 hb hbe hwf =>
    lay_any hl (wf_sz hwf) l.length l [] [] tk [] v1 bs w1 (Nat.le_refl _) hwf (by simp) ht hlen hb hbe.size (fun wx hx => hin.below (hbe.trans hx) (Nat.le_refl _)))
  have hI := Lib.hid hin0
  have HZ := Lib.hid hc0
  rcases hw with ⟨rfl, rfl⟩ | hw
  · clear hin0 hc0 hin HC ht hlen
    go_enter Tryz.func13, Tryz.ntmps13
    go_wp2_with (at_builtin; go_loud (refine wpList_append_in8 rfl (.const (.slice none 0 0)) (.tmp 6) rfl (.slice none 0 0) w w.heap.size [] (bts_nil8 _ _) (Nat.le_refl _) rfl a0 cap0 bs rfl HZ.out hI.out (by simp; omega) ?_; intro v1 w1 hv1 hb1; have HQ := Lib.hid (And.intro hv1 hb1); clear hv1 hb1))
    go_ret
    exact ⟨_, rfl, by have := HQ.out.1; simpa [tksB] using this, HQ.out.2⟩
  · have hpos := wf_pos hw rfl
    have p1 : ((l.length : Int) == 0) = false := beq_eq_false_iff_ne.mpr (by omega)
    have p2 : (l.length == 0) = false := beq_eq_false_iff_ne.mpr (by omega)
    have p3 : ¬ l = [] := fun e => by rw [e] at hpos; exact absurd hpos (by decide)
    have HW := Lib.hid hw
    clear hin0 hc0 hin ht hlen hw hpos
    go_enter Tryz.func13, Tryz.ntmps13
    go_wp2_with (at_builtin; go_loud (refine wpList_append_in8 rfl (.const (.slice none 0 0)) (.tmp 6) rfl (.slice none 0 0) w w.heap.size [] (bts_nil8 _ _) (Nat.le_refl _) rfl a0 cap0 bs rfl HZ.out hI.out (by simp; omega) ?_; intro v1 w1 hv1 hb1; have HQ := Lib.hid (And.intro hv1 hb1); clear hv1 hb1))
    refine (HC.out v1 w1 (by have := HQ.out.1; simpa using this) HQ.out.2 HW.out).mono ?_
    rintro e w2 ⟨v2, rfl, hv2, g2⟩
    have HR := Lib.hid (And.intro hv2 (HQ.out.2.trans (g2.below HQ.out.2.size)))
    clear hv2 g2
    go_wp2
    go_ret
    exact ⟨_, rfl, HR.out.1, HR.out.2⟩
end Go.Proofs.YtnbhhnkcfbfdcaaGreatDoor
