/- Several texts in one (Rng, PrE, PrF, PrApp): each begins with its own words. -/
import Derived.Test.YtjpppnfkpnfhoaaDoorZA
import Derived.RangeFuncOwn
import Derived.RangeFuncBox
import Derived.RangeFuncCalls
import Derived.RangeFuncLeaves
import Derived.Shelf.RegionOpen
import Derived.Shelf.Abstract
import Derived.WalkKit
import Derived.OwnWalkIn
import Derived.TacticsInMore
import Derived.LoopIn
import Derived.Test.YtjpppnfkpnfhoaaDoorPrB
import Derived.Laws.AppendOwnNone
/- A range over a function, at the fence that lets everything in: the statement's own book-keeping (its record, the block for deferred calls) is settled here; the iterator may keep what it likes. Of no program. -/
namespace Go.Proofs.YtjpppnfkpnfhoaaDoor
open Go Go.RowKit
set_option linter.unusedVariables false

/-- What the loop's record, block l, answers to the four things that are done to it. -/
structure Rec (P : Program) (l : Nat) (rec : LoopState → Option Code → Loop) : Prop where
  beg : ∀ W, W.heap[l]? = some (.loop (rec .ready none)) → (Instr.beginRound l).run P W = .ok () (W.putObj l (.loop (rec .busy none)))
  fin : ∀ W jump, W.heap[l]? = some (.loop (rec .busy none)) → (Instr.endRound l jump).run P W = .ok (.bool jump.isNone) (W.putObj l (.loop (rec (if jump.isNone then .ready else .done) jump)))
  all : ∀ W, W.heap[l]? = some (.loop (rec .ready none)) → (Instr.endLoop l).run P W = .ok none (W.putObj l (.loop (rec .exhausted none)))
  cut : ∀ W c, W.heap[l]? = some (.loop (rec .done (some c))) → (Instr.endLoop l).run P W = .ok (some c) (W.putObj l (.loop (rec .exhausted (some c))))
/-- A round of the loop l: what yield owes at arguments and a world, out of the walks of the assignment and the body. -/
def Rnd (P : Program) (l : Nat) (rec : LoopState → Option Code → Loop) (ps : Array Tmp) (tmps : Array Value) (assign body : Code) (n : Nat) : Prop :=
  ∀ (args : Array Value) (W : World) (R : Ending → World → Prop), args.size = ps.size → W.heap[l]? = some (.loop (rec .ready none)) →
    assign.wpIn (Fence.wide.inRound l) n P (Exit.then (fun a₁ w₁ => w₁.heap[l]? = some (.loop (rec .ready none)) ∧ body.wpIn (Fence.wide.inRound l) n P (roundPost P l R) a₁ (w₁.putObj l (.loop (rec .busy none)))) (fun _ _ _ => False))
      { tmps := (ps.zip args).foldl (fun t (p, v) => t.setIfInBounds p v) tmps, defers := [] } W →
    YieldAt Fence.wide n P l args W R
theorem wide_rangeFunc {P : Program} {n : Nat} {g : Operand} {ps : Array Tmp} {assign body : Code} {Q : Exit → Act → World → Prop} {a : Act} {w : World} {gf : Nat} {lb : Array Value}
    (hg : a.eval g = .func (.func gf) #[] lb) (eg : ∀ args w, (callFunc gf args).run P w = .ok (.enter gf args) w)
    (h : ∀ (rec : LoopState → Option Code → Loop), Rec P (w.heap.size + 1) rec → Rnd P (w.heap.size + 1) rec ps a.tmps assign body (n - 1 - 1) →
      CallsIn Fence.wide (n - 1) P gf (#[.func (.yield (w.heap.size + 1)) #[] #[]] ++ lb) ((w.alloc (.deferred (some []))).alloc (.loop (rec .ready none)))
        fun e W => (∃ v, e = .returned v) ∧
          ((W.heap[w.heap.size + 1]? = some (.loop (rec .ready none)) ∧ Q .normal { a with defers := { target := .collected w.heap.size, args := #[] } :: a.defers } (W.putObj (w.heap.size + 1) (.loop (rec .exhausted none)))) ∨
           (∃ c, W.heap[w.heap.size + 1]? = some (.loop (rec .done (some c))) ∧ c.wpIn Fence.wide n P Q { a with defers := { target := .collected w.heap.size, args := #[] } :: a.defers } (W.putObj (w.heap.size + 1) (.loop (rec .exhausted (some c))))))) :
    (Code.rangeFunc g ps assign body).wpIn Fence.wide n P Q a w := by
  refine wpIn_rangeFunc fun fn hfn => ?_
  obtain ⟨rec, hrec⟩ : ∃ rec : LoopState → Option Code → Loop, rec = fun st pe => { state := st, pending := pe, fn, tmps := a.tmps, params := ps, assign, body, defers := w.heap.size } := ⟨_, rfl⟩
  have hR : Rec P (w.heap.size + 1) rec := by
    subst hrec
    exact ⟨fun W hl => run_beginRound hl rfl, fun W jump hl => run_endRound jump hl, fun W hl => run_endLoop hl (by simp), fun W c hl => run_endLoop hl (by simp)⟩
  have hY : Rnd P (w.heap.size + 1) rec ps a.tmps assign body (n - 1 - 1) := fun args W R hs hl hw => by
    have hy := run_yield (P := P) (args := args) hl (by rw [hrec]; exact hs)
    rw [hrec] at hy
    refine ⟨fn, _, assign, body, hy, roundIn_of_wpIn trivial (wpIn_mono hw ?_)⟩
    intro e a₁ w₁ he
    cases e with
    | normal => exact ⟨_, hR.beg w₁ he.1, he.2⟩
    | _ => exact he
  refine ⟨w.heap.size + 1, [{ target := .collected w.heap.size, args := #[] }], (w.alloc (.deferred (some []))).alloc (.loop (rec .ready none)), { target := .fn (.func gf) lb, args := #[.func (.yield (w.heap.size + 1)) #[] #[]] }, (w.alloc (.deferred (some []))).alloc (.loop (rec .ready none)), gf, #[.func (.yield (w.heap.size + 1)) #[] #[]] ++ lb, (w.alloc (.deferred (some []))).alloc (.loop (rec .ready none)),
    ?_, ?_, fun f' _ => trivial, ?_, fun hd => absurd hd (by decide), ?_⟩
  · rw [hrec]; exact run_enterLoop_outer fn a.tmps ps assign body
  · simp only [resolve, hg]
    simp [go_sem]
  · simp [invoke, go_sem, eg]
  · refine (h rec hR hY).mono ?_
    rintro e W ⟨⟨v, rfl⟩, (⟨hl, hq⟩ | ⟨c, hl, hq⟩)⟩
    · exact ⟨none, _, hR.all W hl, hq⟩
    · exact ⟨some c, _, hR.cut W c hl, hq⟩
end Go.Proofs.YtjpppnfkpnfhoaaDoor
/- Package pread: fields: the function over which All ranges. -/
namespace Go.Proofs.YtjpppnfkpnfhoaaDoor
open Go Go.RowKit
set_option linter.unusedVariables false
attribute [local go_sem] Oper.semAt_some

theorem fields_any (s : ByteArray) (w : World) :
    Calls Tryd.prog 18 #[.string s] w fun e w' => e = .returned (.func (.func 30) #[] #[.pointer (some ⟨w.heap.size, 0, none⟩)]) ∧ w' = w.alloc (.cells #[.string s] 9) := by
  have hmf : ∀ (fn : Fn) (first cap : Array Value) (w : World), (Instr.makeFunc fn first cap).run Tryd.prog w = .ok (.func fn first cap) w := fun _ _ _ _ => rfl
  go_enter Tryd.func18, Tryd.ntmps18
  go_wp2
  go_ret
  exact ⟨rfl, rfl⟩

/-- There are not too many fields for a list: the text is short, or it is just so many fields. -/
def FFew (l : List UInt8) : Prop := l.length ≤ 1099511627776 ∨ ((fAll l).2 = 0 ∧ (fAll l).1.length ≤ 1099511627776)
/-- Behind k bytes, and the fields that came. -/
def FPre (l : List UInt8) (k : Nat) (pre : List FD) : Prop := k ≤ l.length ∧ pre.length ≤ k ∧
  fAll l = if (fAll (l.drop k)).2 ≠ 0 then ([], (fAll (l.drop k)).2) else (pre ++ (fAll (l.drop k)).1, 0)
theorem FPre.first (l : List UInt8) : FPre l 0 [] := by
  refine ⟨Nat.zero_le _, Nat.le_refl _, ?_⟩
  rw [List.drop_zero]
  by_cases h : (fAll l).2 ≠ 0
  · rw [if_pos h]; exact Prod.ext (fAll_none l h) rfl
  · rw [if_neg h]; exact Prod.ext rfl (by simpa using h)
theorem FPre.few {l : List UInt8} {k : Nat} {pre : List FD} (h : FPre l k pre) (hf : FFew l) : pre.length ≤ 1099511627776 := by
  obtain ⟨h1, h2, h3⟩ := h
  rcases hf with hf | ⟨hf, hn⟩
  · omega
  · rw [h3] at hf hn
    by_cases hd : (fAll (l.drop k)).2 ≠ 0
    · rw [if_pos hd] at hf; exact absurd hf hd
    · rw [if_neg hd] at hn
      rw [List.length_append] at hn
      omega
theorem FPre.last {l : List UInt8} {pre : List FD} (h : FPre l l.length pre) : fAll l = (pre, 0) := by
  have := h.2.2
  rw [List.drop_length, fAll_nil] at this
  rw [this]; simp
theorem FPre.more {l : List UInt8} {k : Nat} {pre : List FD} (h : FPre l k pre) (hk : k < l.length) (h0 : (fRd (l.drop k)).1 = 0) :
    FPre l (k + (fRd (l.drop k)).2.1) (pre ++ [(fRd (l.drop k)).2.2]) ∧ k < k + (fRd (l.drop k)).2.1 := by
  obtain ⟨h1, h2, h3⟩ := h
  have hne : l.drop k ≠ [] := fun e => by have := congrArg List.length e; rw [List.length_drop] at this; simp at this; omega
  have hp := fRd_pos h0
  rw [List.length_drop] at hp
  refine ⟨⟨by omega, by rw [List.length_append]; simp; omega, ?_⟩, by omega⟩
  rw [h3, fAll_more hne h0, List.drop_drop]
  by_cases hd : (fAll (l.drop (k + (fRd (l.drop k)).2.1))).2 ≠ 0
  · rw [if_pos hd, if_pos hd, if_pos hd]
  · rw [if_neg hd, if_neg hd, if_neg (by simp)]; simp
theorem FPre.stop {l : List UInt8} {k : Nat} {pre : List FD} (h : FPre l k pre) (hk : k < l.length) (h0 : ¬ (fRd (l.drop k)).1 = 0) : fAll l = ([], (fRd (l.drop k)).1) := by
  obtain ⟨h1, h2, h3⟩ := h
  have hne : l.drop k ≠ [] := fun e => by have := congrArg List.length e; rw [List.length_drop] at this; simp at this; omega
  rw [fAll_bad hne h0] at h3
  rw [h3, if_pos h0]
/-- A field behind k bytes of a text. -/
theorem past_fTo (s : ByteArray) (k : Nat) (hk : k ≤ s.size) (hs : s.size ≤ 9223372036854775807) :
    ((CS.new s).past k).fTo.er = (fRd (s.data.toList.drop k)).1 ∧ ((fRd (s.data.toList.drop k)).1 = 0 → ((CS.new s).past k).fTo = (CS.new s).past (k + (fRd (s.data.toList.drop k)).2.1)) ∧ ((CS.new s).past k).fVal = (fRd (s.data.toList.drop k)).2.2 := by
  have hok : ((CS.new s).past k).ok := ⟨by show 0 + k ≤ s.size; omega, Nat.le_refl _, hs⟩
  have := CS.fTo_l hok rfl
  rw [CS.rest_past, new_rest, CS.past_past] at this
  exact this

set_option maxRecDepth 100000 in
set_option maxHeartbeats 4000000 in
theorem iter_any (s : ByteArray) (l Bn m : Nat) (W : World) (hs : s.size ≤ 9223372036854775807) (hfew : FFew s.data.toList)
    (St : Nat → CS → List FD → World → Prop) (Sx : Int → World → Prop)
    (h0 : ∀ b W', W.heap.size ≤ b → CurT 82 W' b (CS.new s) → Below W.heap.size W W' → St b (CS.new s) [] W')
    (h1 : ∀ b c c2 pre W1 W2, St b c pre W1 → Only b W1 W2 → CurT 82 W2 b c2 → St b c2 pre W2)
    (hc : ∀ b c pre W1, St b c pre W1 → CurT 82 W1 b c ∧ Tab W1 ∧ 0 ≠ b)
    (hY0 : ∀ b c pre x W1, St b c pre W1 → pre.length ≤ 1099511627776 → YieldAt Fence.wide m Tryd.prog l #[pfV x, .int .i64 0] W1 fun r W' => r = .returned (.bool true) ∧ St b c (pre ++ [x]) W')
    (hY1 : ∀ b c pre x e W1, ¬ e = 0 → St b c pre W1 → YieldAt Fence.wide m Tryd.prog l #[pfV x, .int .i64 e] W1 fun r W' => r = .returned (.bool false) ∧ Sx e W')
    (hB : W.cell? ⟨Bn, 0, none⟩ = some (.string s)) :
    CallsIn Fence.wide (m + 1) Tryd.prog 30 #[.func (.yield l) #[] #[], .pointer (some ⟨Bn, 0, none⟩)] W fun e W' => (∃ v, e = .returned v) ∧
      ((∃ b c pre, St b c pre W' ∧ fAll s.data.toList = (pre, 0)) ∨ (∃ e, ¬ e = 0 ∧ fAll s.data.toList = ([], e) ∧ Sx e W')) := by
  have hlen := toList_size s
  have H0 := Lib.hid h0
  have H1 := Lib.hid h1
  have HC := Lib.hid hc
  have HY0 := Lib.hid hY0
  have HY1 := Lib.hid hY1
  have HF := Lib.hid hfew
  have HLn := Lib.hid hlen
  clear h0 h1 hc hY0 hY1 hfew hlen
  refine callsIn_of_wp Tryd.func30 rfl trivial ?_ rfl
  simp only [Tryd.ntmps30, List.size_toArray, List.length_cons, List.length_nil, Nat.reduceAdd, Nat.reduceSub, Array.replicate_succ, Array.replicate_zero, List.push_toArray, List.append_toArray, List.nil_append, List.cons_append]
  gi_wp2_with (refine ⟨trivial, ?_⟩; gi_at_call 31; refine (callsIn_wide.2 (new_cur s _ hs)).mono ?_; rintro e w1 ⟨b, rfl, hb, hc1, hb1⟩)
  have S0 := Lib.hid (H0.out b w1 hb hc1 hb1)
  clear hb1 hc1 hb
  gi_loopw [] (fun wr => ∃ k pre, St b ((CS.new s).past k) pre wr ∧ FPre s.data.toList k pre) (fun wr => s.size - atOf b wr)
  case atStart => exact ⟨0, [], S0.out, FPre.first _⟩
  case round =>
    obtain ⟨k, pre, hst, hpre⟩ := hrel
    obtain ⟨q1, q2, q3⟩ := HC.out _ _ _ _ hst
    have hk : k ≤ s.size := by have := hpre.1; rw [HLn.out] at this; exact this
    have hok : ((CS.new s).past k).ok := ⟨by show 0 + k ≤ s.size; omega, Nat.le_refl _, hs⟩
    have HE := Lib.hid (show Calls Tryd.prog 32 #[.pointer (some ⟨b, 0, none⟩)] wr fun e w' => e = .returned (.int .i64 0) ∧ w' = wr from err_any q1)
    obtain ⟨L, hL⟩ : ∃ L, Hid (L = ((CS.new s).past k).en - ((CS.new s).past k).at_) := ⟨_, Lib.hid rfl⟩
    have eL : L = s.size - k := by rw [hL.out]; show s.size - (0 + k) = _; omega
    have HL := Lib.hid (left_nat q1 hok hL)
    have HS := Lib.hid hst
    have HP := Lib.hid hpre
    have hat := Lib.hid (atOf_cur q1)
    by_cases hlt : k < s.size
    · have p1 : decide ((0 : Int) < (L : Int)) = true := decide_eq_true (by omega)
      have p2 : decide (0 < L) = true := decide_eq_true (by omega)
      obtain ⟨f1, f2, f3⟩ := past_fTo s k hk hs
      have hm := fun h => HP.out.more (by rw [HLn.out]; exact hlt) h
      have hx := fun h => HP.out.stop (by rw [HLn.out]; exact hlt) h
      have HN := Lib.hid (fun w (h : CurT 82 w b ((CS.new s).past k)) (ht : Tab w) => fnext_any h hok ht q3)
      have hTab := Lib.hid q2
      have hCur := Lib.hid q1
      clear q1 q2 q3 hst hpre hok eL hL hlt
      generalize fRd (s.data.toList.drop k) = R at *
      rw [f3] at HN
      generalize ((CS.new s).past k).fTo = D at *
      obtain ⟨x, hxx⟩ : ∃ x, x = R.2.2 := ⟨_, rfl⟩
      rw [← hxx] at HN hm
      obtain ⟨x0, x1, x2, x3⟩ := x
      unfold pfV at HN
      dsimp only at HN
      by_cases he : R.1 = 0
      · have f2' := f2 he
        have hD : D.er = 0 := f1.trans he
        have HE2 := Lib.hid (fun w (h : CurT 82 w b D) => err_any h)
        rw [hD] at HE2
        obtain ⟨m1, m2⟩ := hm he
        have M1 := Lib.hid m1
        have M2 := Lib.hid m2
        have M3 := Lib.hid f2'
        clear hm hx f1 f2 f3 f2' hD he m1 m2 hxx
        gi_wp2_with (first
          | (refine ⟨trivial, ?_⟩; gi_at_call 32; refine (callsIn_wide.2 HE.out).mono ?_; rintro e w1 ⟨rfl, hw1⟩; rw [hw1]; clear hw1)
          | (refine ⟨trivial, ?_⟩; gi_at_call 33; refine (callsIn_wide.2 HL.out).mono ?_; rintro e w2 ⟨rfl, n, rfl⟩)
          | (refine ⟨trivial, ?_⟩; gi_at_call 34; refine (callsIn_wide.2 (HN.out _ (hCur.out.drewN n) hTab.out)).mono ?_; rintro e w3 ⟨rfl, c3, o3⟩))
        have S3 := H1.out _ _ D _ _ _ HS.out ((Only.drewN (Only.refl b wr) n).trans o3) c3
        have S4 := H1.out _ _ D _ _ (w3.alloc (.cells #[.int .i64 x0, .int .i64 x1, .int .u64 (x2 : Nat), .string x3] 38)) S3 ((Only.refl b w3).alloc _) (c3.allocOld _)
        have F4 := fd_alloc w3 (x0, x1, x2, x3) 38
        obtain ⟨w4, hw4⟩ : ∃ w4, w4 = w3.alloc (.cells #[.int .i64 x0, .int .i64 x1, .int .u64 (x2 : Nat), .string x3] 38) := ⟨_, rfl⟩
        have C4 := c3.allocOld (.cells #[.int .i64 x0, .int .i64 x1, .int .u64 (x2 : Nat), .string x3] 38)
        rw [← hw4] at S4 F4 C4 ⊢
        have g0 := F4.c0; have g1 := F4.c1; have g2 := F4.c2; have g3 := F4.c3
        have S5 := H1.out _ _ D _ _ w4.drew S4 ((Only.refl b w4).drew) C4
        have hmx : Tryd.prog.follows .mixedOrders = true := by kernel_rfl
        obtain ⟨fn, tm, ass, bo, hy, hR⟩ := HY0.out b D pre (x0, x1, x2, x3) w4.drew S5 (HP.out.few HF.out)
        unfold pfV at hy
        dsimp only at hy
        have C5 := Lib.hid (show CurT 82 w4.drew b D from C4)
        have hM := Lib.hid M2.out
        clear S3 S4 S5 c3 o3 hw4 F4 C4 M2
        generalize w3.heap.size = G at *
        gi_region_with_o (first
          | (refine ⟨trivial, ?_⟩; gi_at_call 32; refine (callsIn_wide.2 (HE2.out _ C5.out)).mono ?_; rintro e w1 ⟨rfl, hw1⟩; rw [hw1]; clear hw1)
          | (refine hR.mono ?_; rintro e w6 ⟨rfl, hst6⟩))
        all_goals (rw [M3.out] at hst6)
        all_goals simp only [Act.put, List.getElem_toArray, List.getElem_cons_succ, List.getElem_cons_zero, List.setIfInBounds_toArray, List.set_cons_succ, List.set_cons_zero]
        all_goals gi_wp2
        all_goals go_roundw
        all_goals first
          | exact ⟨_, _, hst6, M1.out⟩
          | (rw [hat.out, atOf_cur (HC.out _ _ _ _ hst6).1]
             show s.size - (0 + (k + R.2.1)) < s.size - (0 + k)
             have := M1.out.1
             rw [HLn.out] at this
             have := hM.out
             omega)
      · have hne : ¬ D.er = 0 := by rw [f1]; exact he
        have HE2 := Lib.hid (fun w (h : CurT 82 w b D) => err_any h)
        have HX := Lib.hid (hx he)
        rw [← f1] at HX
        have HNE := Lib.hid hne
        clear hm hx f1 f2 f3 he hne hxx
        gi_wp2_with (first
          | (refine ⟨trivial, ?_⟩; gi_at_call 32; refine (callsIn_wide.2 HE.out).mono ?_; rintro e w1 ⟨rfl, hw1⟩; rw [hw1]; clear hw1)
          | (refine ⟨trivial, ?_⟩; gi_at_call 33; refine (callsIn_wide.2 HL.out).mono ?_; rintro e w2 ⟨rfl, n, rfl⟩)
          | (refine ⟨trivial, ?_⟩; gi_at_call 34; refine (callsIn_wide.2 (HN.out _ (hCur.out.drewN n) hTab.out)).mono ?_; rintro e w3 ⟨rfl, c3, o3⟩))
        have S3 := H1.out _ _ D _ _ _ HS.out ((Only.drewN (Only.refl b wr) n).trans o3) c3
        have S4 := H1.out _ _ D _ _ (w3.alloc (.cells #[.int .i64 x0, .int .i64 x1, .int .u64 (x2 : Nat), .string x3] 38)) S3 ((Only.refl b w3).alloc _) (c3.allocOld _)
        have F4 := fd_alloc w3 (x0, x1, x2, x3) 38
        obtain ⟨w4, hw4⟩ : ∃ w4, w4 = w3.alloc (.cells #[.int .i64 x0, .int .i64 x1, .int .u64 (x2 : Nat), .string x3] 38) := ⟨_, rfl⟩
        have C4 := c3.allocOld (.cells #[.int .i64 x0, .int .i64 x1, .int .u64 (x2 : Nat), .string x3] 38)
        rw [← hw4] at S4 F4 C4 ⊢
        have g0 := F4.c0; have g1 := F4.c1; have g2 := F4.c2; have g3 := F4.c3
        have S5 := H1.out _ _ D _ _ w4.drew S4 ((Only.refl b w4).drew) C4
        have hmx : Tryd.prog.follows .mixedOrders = true := by kernel_rfl
        obtain ⟨fn, tm, ass, bo, hy, hR⟩ := HY1.out b D pre (x0, x1, x2, x3) D.er w4.drew HNE.out S5
        unfold pfV at hy
        dsimp only at hy
        have C5 := Lib.hid (show CurT 82 w4.drew b D from C4)
        clear S3 S4 S5 c3 o3 hw4 F4 C4
        generalize w3.heap.size = G at *
        gi_region_with_o (first
          | (refine ⟨trivial, ?_⟩; gi_at_call 32; refine (callsIn_wide.2 (HE2.out _ C5.out)).mono ?_; rintro e w1 ⟨rfl, hw1⟩; rw [hw1]; clear hw1)
          | (refine hR.mono ?_; rintro e w6 ⟨rfl, hst6⟩))
        all_goals gi_wp2
        all_goals exact bodyPost_ret (results_none rfl _ _ _) rfl ⟨⟨_, rfl⟩, .inr ⟨_, HNE.out, HX.out, hst6⟩⟩
    · have p1 : decide ((0 : Int) < (L : Int)) = false := decide_eq_false (by omega)
      have p2 : decide (0 < L) = false := decide_eq_false (by omega)
      have hks : k = s.size := by omega
      subst hks
      have HR := Lib.hid (HP.out)
      rw [← HLn.out] at HR
      have HA := Lib.hid HR.out.last
      have hcu := Lib.hid q1
      clear q1 q2 q3 hst hpre hok eL hL hlt HR
      gi_wp2_with (first
        | (refine ⟨trivial, ?_⟩; gi_at_call 32; refine (callsIn_wide.2 HE.out).mono ?_; rintro e w1 ⟨rfl, hw1⟩; rw [hw1]; clear hw1)
        | (refine ⟨trivial, ?_⟩; gi_at_call 33; refine (callsIn_wide.2 HL.out).mono ?_; rintro e w2 ⟨rfl, n, rfl⟩))
      go_end0
      exact ⟨⟨_, rfl⟩, .inl ⟨b, _, pre, H1.out _ _ _ _ _ _ HS.out ((Only.refl b wr).drewN n) (hcu.out.drewN n), HA.out⟩⟩
end Go.Proofs.YtjpppnfkpnfhoaaDoor
/- Package pread: All. -/
namespace Go.Proofs.YtjpppnfkpnfhoaaDoor
open Go Go.RowKit
set_option linter.unusedVariables false
attribute [local go_sem] Oper.semAt_some

/-- Block b holds one value. -/
def Cel1 (t : TypeId) (W : World) (b : Nat) (v : Value) : Prop := W.heap[b]? = some (.cells #[v] t (0, 0))
theorem Cel1.lt {t : TypeId} {W : World} {b : Nat} {v : Value} (h : Cel1 t W b v) : b < W.heap.size := lt_of_block h
theorem Cel1.c {t : TypeId} {W : World} {b : Nat} {v : Value} (h : Cel1 t W b v) : W.cell? ⟨b, 0, none⟩ = some v := by unfold Cel1 at h; simp [World.cell?, h]
theorem Cel1.f {t : TypeId} {W : World} {b : Nat} {v : Value} (h : Cel1 t W b v) : W.frozen? ⟨b, 0, none⟩ = false := by unfold Cel1 at h; simp [World.frozen?, h]
theorem Cel1.set {t : TypeId} {W : World} {b : Nat} {v : Value} (h : Cel1 t W b v) (u : Value) : Cel1 t (W.setCell ⟨b, 0, none⟩ u) b u := heap_setCell_block h u
theorem Cel1.at {t : TypeId} {W W' : World} {b : Nat} {v : Value} (h : Cel1 t W b v) (he : W'.heap[b]? = W.heap[b]?) : Cel1 t W' b v := he.trans h
theorem cel_alloc (t : TypeId) (W : World) (v : Value) : Cel1 t (W.alloc (.cells #[v] t)) W.heap.size v := heap_alloc_new W _
theorem set_at {W : World} {b k : Nat} {u : Value} (h : k ≠ b) : (W.setCell ⟨b, 0, none⟩ u).heap[k]? = W.heap[k]? := Below.heap_setCell _ _ _ _ h
theorem put_below {N l : Nat} {w W : World} {o : Obj} (h : Below N w W) (hl : N ≤ l) : Below N w (W.putObj l o) :=
  h.trans ⟨rfl, rfl, rfl, by simp, fun k hk => World.putObj_heap_other (by omega)⟩
/-- 'append(list, x)', inside a fence. -/
theorem wpListIn_append_fd {F : Fence} {n : Nat} {P : Program} {ops : Array Oper} {rest : List Oper} {o : Oper} {a : Act} {Q : Exit → Act → World → Prop} (hgd : o.guard = none) (sl x : Operand) (t : TypeId)
    (ho : o.op = .call { callee := .builtin .append, args := #[sl, x], argTypes := #[t, t] })
    (e : TypeId) (ht : P.underlying t = some (.slice e)) (hi : (P.info? e).map (fun i => (i.zero, i.size, i.bytes)) = some (some (.agg #[.int .i64 0, .int .i64 0, .int .u64 0, .string ⟨#[]⟩]), 4, 40))
    (v : Value) (wr : World) (B : Nat) (l : List FD) (hb : FRow e wr B v l) (hB : B ≤ wr.heap.size) (hs : a.eval sl = v)
    (x0 x1 x2 : Int) (x3 : ByteArray) (y : FD) (h0 : x0 = y.1) (h1 : x1 = y.2.1) (h2 : x2 = (y.2.2.1 : Nat)) (h3 : x3 = y.2.2.2) (hx : a.eval x = .slice (some ⟨wr.heap.size, 0, none⟩) 1 1) (hlen : l.length ≤ 1099511627776)
    (h : ∀ v' w' g c, v' = .slice (some ⟨g, 0, none⟩) (l.length + 1) c → FRow e w' B v' (l ++ [y]) → wr.grownBy w' v.ownBlock → wpListIn F n P ops Q rest (a.put o.dst v') w') :
    wpListIn F n P ops Q (o :: rest) a (wr.alloc (.cells #[.int .i64 x0, .int .i64 x1, .int .u64 x2, .string x3] e)) := by
  subst h0 h1 h2 h3
  obtain ⟨i0, hi, hz, hz1, hz2⟩ := info_parts hi
  refine wpListIn_append_own _ hgd sl x t ho B e i0 (.agg #[.int .i64 0, .int .i64 0, .int .u64 0, .string ⟨#[]⟩]) 4 40 ht hi hz hz1 hz2 rfl (by decide) v l.length (fV l) hs (World.ownsRow.alloc hb _) ⟨wr.heap.size, 0, none⟩ 1 1 (fV [y]) hx rfl ?_ (fV_one _) (by unfold maxLen; omega) (by omega) (by simp; omega) ?_
  · intro j u hj
    have h1 := heap_alloc_new wr (.cells #[.int .i64 y.1, .int .i64 y.2.1, .int .u64 (y.2.2.1 : Nat), .string y.2.2.2] e)
    have e1 : (Addr.mk wr.heap.size 0 none).add j = ⟨wr.heap.size, j, none⟩ := by unfold Addr.add; split <;> simp_all
    rw [e1]
    simp only [World.cell?]
    rw [h1]
    match j, hj with
    | 0, hj => simpa [fV] using hj
    | 1, hj => simpa [fV] using hj
    | 2, hj => simpa [fV] using hj
    | 3, hj => simpa [fV] using hj
    | j + 4, hj => simp [fV] at hj
  · intro v' w' hown hgr _
    obtain ⟨g, c, hv⟩ : ∃ g c, v' = .slice (some ⟨g, 0, none⟩) (l.length + 1) c := by
      rcases hown.2 with ⟨_, hn⟩ | ⟨g, cap, cur, he, _⟩
      · omega
      · exact ⟨g, cap, he⟩
    refine h v' w' g c hv ?_ ?_
    · unfold FRow
      rw [fV_append, List.length_append]
      exact hown
    · refine ⟨hgr.os, hgr.tape, hgr.output, by have := hgr.size; simp at this; omega, fun k hk hne => ?_⟩
      rw [hgr.block k (by simp; omega) hne]
      exact Below.heap_alloc _ _ _ hk
/-- A list's own block is none of another type. -/
theorem FRow.not_at {e : TypeId} {W : World} {B k : Nat} {v : Value} {l : List FD} (h : FRow e W B v l) {o : Obj} (hk : W.heap[k]? = some o) (ho : ∀ cs, o ≠ .cells cs e (0, 0)) : some k ≠ v.ownBlock := by
  rcases h.2 with ⟨rfl, _⟩ | ⟨g, cap, cur, rfl, _, hg, _⟩
  · simp [Value.ownBlock]
  · intro e1
    obtain rfl : k = g := by simpa [Value.ownBlock] using e1
    rw [hk] at hg
    exact ho cur (Option.some.inj hg)
/-- The list of a call and a number, each in a variable of its own, as results. -/
theorem lc_result {fn : Func} {p q : Tmp} (h : fn.results = #[.cell p 30, .cell q 31]) {tmps : Array Value} {w : World} {b d : Nat} {t u : TypeId} {v : Value} {c : Int} (hb : Cel1 t w b v) (hd : Cel1 u w d (.int .i64 c)) (hp : tmps.getD p undef = .pointer (some ⟨b, 0, none⟩)) (hq : tmps.getD q undef = .pointer (some ⟨d, 0, none⟩)) :
    (results fn tmps).run Tryd.prog w = .ok (.tuple #[v, .int .i64 c]) w := by
  have hp' : tmps[p]?.getD undef = .pointer (some ⟨b, 0, none⟩) := by simpa using hp
  have hq' : tmps[q]?.getD undef = .pointer (some ⟨d, 0, none⟩) := by simpa using hq
  have h1 := hb.c
  have h2 := hd.c
  simp [results, h, hp', hq', asAddr, go_sem, loadVar, h1, h2]

/-- All, between two rounds, or within one: o is the loop's record. -/
structure AlQ (w : World) (o : Obj) (b : Nat) (c : CS) (pre : List FD) (W : World) : Prop where
  cur : CurT 82 W b c
  row : ∃ v, Cel1 30 W (w.heap.size + 1 + 1) v ∧ FRow 38 W w.heap.size v pre
  r2 : Cel1 30 W w.heap.size (.slice none 0 0)
  r3 : Cel1 31 W (w.heap.size + 1) (.int .i64 0)
  lp : W.heap[w.heap.size + 1 + 1 + 1 + 1 + 1]? = some o
  df : W.heap[w.heap.size + 1 + 1 + 1 + 1]? = some (.deferred (some []))
  bel : Below w.heap.size w W
  far : w.heap.size + 1 + 1 + 1 + 1 + 1 < b
abbrev AlS (w : World) (rec : LoopState → Option Code → Loop) (b : Nat) (c : CS) (pre : List FD) (W : World) : Prop := AlQ w (.loop (rec .ready none)) b c pre W
/-- All, behind a round that has left it. -/
structure AlX (w : World) (rec : LoopState → Option Code → Loop) (e : Int) (W : World) : Prop where
  r2 : Cel1 30 W w.heap.size (.slice none 0 0)
  r3 : Cel1 31 W (w.heap.size + 1) (.int .i64 e)
  lp : W.heap[w.heap.size + 1 + 1 + 1 + 1 + 1]? = some (.loop (rec .done (some .ret)))
  df : W.heap[w.heap.size + 1 + 1 + 1 + 1]? = some (.deferred (some []))
  bel : Below w.heap.size w W
theorem heap_lt {W : World} {k : Nat} {o : Obj} (h : W.heap[k]? = some o) : k < W.heap.size := (Array.getElem?_eq_some_iff.1 h).1
theorem AlQ.only {w : World} {o : Obj} {b : Nat} {c c2 : CS} {pre : List FD} {W1 W2 : World} (h : AlQ w o b c pre W1) (ho : Only b W1 W2) (hc : CurT 82 W2 b c2) : AlQ w o b c2 pre W2 := by
  obtain ⟨k1, ⟨v, k2, k3⟩, k4, k5, k6, k7, k8, k9⟩ := h
  refine ⟨hc, ⟨v, k2.at (ho.block _ k2.lt (by omega)), ?_⟩, k4.at (ho.block _ k4.lt (by omega)), k5.at (ho.block _ k5.lt (by omega)), (ho.block _ (heap_lt k6) (by omega)).trans k6, (ho.block _ (heap_lt k7) (by omega)).trans k7, k8.trans (ho.below (by omega) k8.size), k9⟩
  have hne := k3.not_at k1 (fun cs e => by cases e)
  exact World.ownsRow.kept (row := some b) k3 ⟨ho.os, ho.tape, ho.output, ho.size, fun k hk hkb => ho.block k hk (fun e => hkb (by rw [e]))⟩ (.inr (fun e => hne e.symm))
theorem AlQ.alloc {w : World} {o : Obj} {b : Nat} {c : CS} {pre : List FD} {W : World} (h : AlQ w o b c pre W) (x : Obj) : AlQ w o b c pre (W.alloc x) := h.only ((Only.refl b W).alloc x) (h.cur.allocOld x)
theorem AlQ.put {w : World} {r r' : Loop} {b : Nat} {c : CS} {pre : List FD} {W : World} (h : AlQ w (.loop r) b c pre W) : AlQ w (.loop r') b c pre (W.putObj (w.heap.size + 1 + 1 + 1 + 1 + 1) (.loop r')) := by
  obtain ⟨k1, ⟨v, k2, k3⟩, k4, k5, k6, k7, k8, k9⟩ := h
  have e : ∀ k, k ≠ w.heap.size + 1 + 1 + 1 + 1 + 1 → (W.putObj (w.heap.size + 1 + 1 + 1 + 1 + 1) (.loop r')).heap[k]? = W.heap[k]? := fun k hk => World.putObj_heap_other hk
  refine ⟨(e _ (by omega)).trans k1, ⟨v, k2.at (e _ (by omega)), ?_⟩, k4.at (e _ (by omega)), k5.at (e _ (by omega)), World.putObj_heap_same (heap_lt k6), (e _ (by omega)).trans k7, put_below k8 (by omega), k9⟩
  have hne := k3.not_at k6 (fun cs e => by cases e)
  exact World.ownsRow.kept (row := some _) k3 (grownBy_putObj' W _ _) (.inr (fun e => hne e.symm))
theorem AlQ.fld {w : World} {r r' : Loop} {b : Nat} {c : CS} {pre : List FD} {W : World} (h : AlQ w (.loop r) b c pre W) (x : FD) :
    PfT 38 ((W.alloc (.cells #[.int .i64 x.1, .int .i64 x.2.1, .int .u64 (x.2.2.1 : Nat), .string x.2.2.2] 38)).putObj (w.heap.size + 1 + 1 + 1 + 1 + 1) (.loop r')) W.heap.size x := by
  have := heap_lt h.lp
  exact (World.putObj_heap_other (by omega)).trans (fd_alloc W x 38)
/-- .. behind an append, and its store. -/
theorem AlQ.grown {w : World} {r : Loop} {b : Nat} {c : CS} {pre : List FD} {W W' : World} {v v' : Value} {x : FD} (h : AlQ w (.loop r) b c pre W) (hv : Cel1 30 W (w.heap.size + 1 + 1) v) (hr : FRow 38 W w.heap.size v pre)
    (hr' : FRow 38 W' w.heap.size v' (pre ++ [x])) (hg : W.grownBy W' v.ownBlock) :
    Cel1 30 W' (w.heap.size + 1 + 1) v ∧ AlQ w (.loop r) b c (pre ++ [x]) (W'.setCell ⟨w.heap.size + 1 + 1, 0, none⟩ v') := by
  obtain ⟨k1, -, k4, k5, k6, k7, k8, k9⟩ := h
  have e : ∀ (k : Nat) (o : Obj), W.heap[k]? = some o → (∀ cs, o ≠ .cells cs 38 (0, 0)) → W'.heap[k]? = W.heap[k]? := fun k o hk ho => hg.block k (heap_lt hk) (hr.not_at hk ho)
  have hv' : Cel1 30 W' (w.heap.size + 1 + 1) v := hv.at (e _ _ hv (fun cs e => by cases e))
  have m : ∀ k, k ≠ w.heap.size + 1 + 1 → (W'.setCell ⟨w.heap.size + 1 + 1, 0, none⟩ v').heap[k]? = W'.heap[k]? := fun k hk => set_at hk
  have hb : Below w.heap.size w W' := k8.grown hg k8.size (fun k hk => (World.ownsRow.lt hr k hk.symm.symm).1)
  refine ⟨hv', ⟨(m _ (by omega)).trans ((e _ _ k1 (fun cs e => by cases e)).trans k1), ⟨v', hv'.set v', ?_⟩, (k4.at (e _ _ k4 (fun cs e => by cases e))).at (m _ (by omega)), (k5.at (e _ _ k5 (fun cs e => by cases e))).at (m _ (by omega)),
    (m _ (by omega)).trans ((e _ _ k6 (fun cs e => by cases e)).trans k6), (m _ (by omega)).trans ((e _ _ k7 (fun cs e => by cases e)).trans k7), set_keeps hb (by omega), k9⟩⟩
  have hne := hr'.not_at hv' (fun cs e => by cases e)
  exact World.ownsRow.kept (row := some _) hr' (grownBy_setCell' W' _ v') (.inr (fun e => hne e.symm))
theorem AlQ.left {w : World} {rec : LoopState → Option Code → Loop} {b : Nat} {c : CS} {pre : List FD} {W : World} (h : AlQ w (.loop (rec .busy none)) b c pre W) (e : Int) :
    ((W.setCell ⟨w.heap.size, 0, none⟩ (.slice none 0 0)).setCell ⟨w.heap.size + 1, 0, none⟩ (.int .i64 e)).heap[w.heap.size + 1 + 1 + 1 + 1 + 1]? = some (.loop (rec .busy none)) ∧
    AlX w rec e (((W.setCell ⟨w.heap.size, 0, none⟩ (.slice none 0 0)).setCell ⟨w.heap.size + 1, 0, none⟩ (.int .i64 e)).putObj (w.heap.size + 1 + 1 + 1 + 1 + 1) (.loop (rec .done (some .ret)))) := by
  obtain ⟨-, -, k4, k5, k6, k7, k8, -⟩ := h
  have lp : ((W.setCell ⟨w.heap.size, 0, none⟩ (.slice none 0 0)).setCell ⟨w.heap.size + 1, 0, none⟩ (.int .i64 e)).heap[w.heap.size + 1 + 1 + 1 + 1 + 1]? = some (.loop (rec .busy none)) := ((set_at (by omega)).trans (set_at (by omega))).trans k6
  have p : ∀ k, k ≠ w.heap.size + 1 + 1 + 1 + 1 + 1 → (((W.setCell ⟨w.heap.size, 0, none⟩ (.slice none 0 0)).setCell ⟨w.heap.size + 1, 0, none⟩ (.int .i64 e)).putObj (w.heap.size + 1 + 1 + 1 + 1 + 1) (.loop (rec .done (some .ret)))).heap[k]? = ((W.setCell ⟨w.heap.size, 0, none⟩ (.slice none 0 0)).setCell ⟨w.heap.size + 1, 0, none⟩ (.int .i64 e)).heap[k]? := fun k hk => World.putObj_heap_other hk
  exact ⟨lp, ((k4.set _).at (set_at (by omega))).at (p _ (by omega)), ((k5.at (set_at (by omega))).set _).at (p _ (by omega)), World.putObj_heap_same (heap_lt lp), (p _ (by omega)).trans (((set_at (by omega)).trans (set_at (by omega))).trans k7), put_below (set_keeps (set_keeps k8 (by omega)) (by omega)) (by omega)⟩
/-- The function's own end: its results laid, the block for deferred calls shut. -/
theorem AlQ.done {w : World} {o : Obj} {b : Nat} {c : CS} {pre : List FD} {W : World} {u : Value} (h : AlQ w o b c pre W) (q : FRow 38 W w.heap.size u pre) :
    ((W.setCell ⟨w.heap.size, 0, none⟩ u).setCell ⟨w.heap.size + 1, 0, none⟩ (.int .i64 0)).heap[w.heap.size + 1 + 1 + 1 + 1]? = some (.deferred (some [])) ∧
    Cel1 30 (((W.setCell ⟨w.heap.size, 0, none⟩ u).setCell ⟨w.heap.size + 1, 0, none⟩ (.int .i64 0)).putObj (w.heap.size + 1 + 1 + 1 + 1) (.deferred none)) w.heap.size u ∧
    Cel1 31 (((W.setCell ⟨w.heap.size, 0, none⟩ u).setCell ⟨w.heap.size + 1, 0, none⟩ (.int .i64 0)).putObj (w.heap.size + 1 + 1 + 1 + 1) (.deferred none)) (w.heap.size + 1) (.int .i64 0) ∧
    FRow 38 (((W.setCell ⟨w.heap.size, 0, none⟩ u).setCell ⟨w.heap.size + 1, 0, none⟩ (.int .i64 0)).putObj (w.heap.size + 1 + 1 + 1 + 1) (.deferred none)) w.heap.size u pre ∧
    Below w.heap.size w (((W.setCell ⟨w.heap.size, 0, none⟩ u).setCell ⟨w.heap.size + 1, 0, none⟩ (.int .i64 0)).putObj (w.heap.size + 1 + 1 + 1 + 1) (.deferred none)) := by
  obtain ⟨-, -, k4, k5, k6, k7, k8, -⟩ := h
  have q1 : FRow 38 (W.setCell ⟨w.heap.size, 0, none⟩ u) w.heap.size u pre := World.ownsRow.kept (row := some _) q (grownBy_setCell' W _ u) (.inr (fun e => q.not_at k4 (fun cs e => by cases e) e.symm))
  have k5' : Cel1 31 (W.setCell ⟨w.heap.size, 0, none⟩ u) (w.heap.size + 1) (.int .i64 0) := k5.at (set_at (by omega))
  have q2 : FRow 38 ((W.setCell ⟨w.heap.size, 0, none⟩ u).setCell ⟨w.heap.size + 1, 0, none⟩ (.int .i64 0)) w.heap.size u pre := World.ownsRow.kept (row := some _) q1 (grownBy_setCell' _ _ _) (.inr (fun e => q1.not_at k5' (fun cs e => by cases e) e.symm))
  have df : ((W.setCell ⟨w.heap.size, 0, none⟩ u).setCell ⟨w.heap.size + 1, 0, none⟩ (.int .i64 0)).heap[w.heap.size + 1 + 1 + 1 + 1]? = some (.deferred (some [])) := ((set_at (by omega)).trans (set_at (by omega))).trans k7
  have p : ∀ k, k ≠ w.heap.size + 1 + 1 + 1 + 1 → (((W.setCell ⟨w.heap.size, 0, none⟩ u).setCell ⟨w.heap.size + 1, 0, none⟩ (.int .i64 0)).putObj (w.heap.size + 1 + 1 + 1 + 1) (.deferred none)).heap[k]? = ((W.setCell ⟨w.heap.size, 0, none⟩ u).setCell ⟨w.heap.size + 1, 0, none⟩ (.int .i64 0)).heap[k]? := fun k hk => World.putObj_heap_other hk
  refine ⟨df, ((k4.set u).at (set_at (by omega))).at (p _ (by omega)), (k5'.set _).at (p _ (by omega)), ?_, put_below (set_keeps (set_keeps k8 (by omega)) (by omega)) (by omega)⟩
  exact World.ownsRow.kept (row := some _) q2 (grownBy_putObj' _ _ _) (.inr (fun e => q2.not_at df (fun cs e => by cases e) e.symm))
theorem AlX.done {w : World} {rec : LoopState → Option Code → Loop} {e : Int} {W : World} {o : Obj} (h : AlX w rec e W) :
    (W.putObj (w.heap.size + 1 + 1 + 1 + 1 + 1) o).heap[w.heap.size + 1 + 1 + 1 + 1]? = some (.deferred (some [])) ∧
    Cel1 30 ((W.putObj (w.heap.size + 1 + 1 + 1 + 1 + 1) o).putObj (w.heap.size + 1 + 1 + 1 + 1) (.deferred none)) w.heap.size (.slice none 0 0) ∧
    Cel1 31 ((W.putObj (w.heap.size + 1 + 1 + 1 + 1 + 1) o).putObj (w.heap.size + 1 + 1 + 1 + 1) (.deferred none)) (w.heap.size + 1) (.int .i64 e) ∧
    Below w.heap.size w ((W.putObj (w.heap.size + 1 + 1 + 1 + 1 + 1) o).putObj (w.heap.size + 1 + 1 + 1 + 1) (.deferred none)) := by
  obtain ⟨k4, k5, k6, k7, k8⟩ := h
  exact ⟨(World.putObj_heap_other (by omega)).trans k7, (k4.at (World.putObj_heap_other (by omega))).at (World.putObj_heap_other (by omega)), (k5.at (World.putObj_heap_other (by omega))).at (World.putObj_heap_other (by omega)), put_below (put_below k8 (by omega)) (by omega)⟩
theorem AlQ.tab {w : World} {o : Obj} {b : Nat} {c : CS} {pre : List FD} {W : World} (h : AlQ w o b c pre W) (ht : Tab w) : Tab W := ht.below h.bel ht.lt

set_option maxRecDepth 100000 in
set_option maxHeartbeats 4000000 in
theorem all_any (s : ByteArray) (w : World) (hs : s.size ≤ 9223372036854775807) (hfew : FFew s.data.toList) (ht : Tab w) :
    Calls Tryd.prog 7 #[.string s] w fun e w' => ∃ v, e = .returned (.tuple #[v, .int .i64 (fAll s.data.toList).2]) ∧ FRow 38 w' w.heap.size v (fAll s.data.toList).1 ∧ Below w.heap.size w w' := by
  have HT := Lib.hid ht
  have HF := Lib.hid hfew
  have hgl := ht.lt
  clear ht hfew
  refine (callsIn_wide (n := 3)).1 ?_
  refine callsIn_of_wp_marks Tryd.func7 rfl trivial ?_ rfl
  simp only [Tryd.ntmps7, List.size_toArray, List.length_cons, List.length_nil, Nat.reduceAdd, Nat.reduceSub, Array.replicate_succ, Array.replicate_zero, List.push_toArray, List.append_toArray, List.nil_append, List.cons_append]
  gi_wp2_with (refine ⟨trivial, ?_⟩; gi_at_call 18; refine (callsIn_wide.2 (fields_any s _)).mono ?_; rintro e w1 ⟨rfl, hw1⟩; rw [hw1]; clear hw1)
  obtain ⟨w0, hw0⟩ : ∃ w0, w0 = (((w.alloc (.cells #[.slice none 0 0] 30)).alloc (.cells #[.int .i64 0] 31)).alloc (.cells #[.slice none 0 0] 30)).alloc (.cells #[.string s] 9) := ⟨_, rfl⟩
  rw [← hw0]
  have e0 : w0.heap.size = w.heap.size + 1 + 1 + 1 + 1 := by rw [hw0, World.size_alloc, World.size_alloc, World.size_alloc, World.size_alloc]
  have D2 : Cel1 30 w0 w.heap.size (.slice none 0 0) := by
    rw [hw0]; exact ((((cel_alloc _ w _).at (Below.heap_alloc _ _ _ (by simp))).at (Below.heap_alloc _ _ _ (by simp; omega))).at (Below.heap_alloc _ _ _ (by simp; omega)))
  have D3 : Cel1 31 w0 (w.heap.size + 1) (.int .i64 0) := by
    have := cel_alloc 31 (w.alloc (.cells #[.slice none 0 0] 30)) (.int .i64 0)
    rw [World.size_alloc] at this
    rw [hw0]; exact ((this.at (Below.heap_alloc _ _ _ (by simp))).at (Below.heap_alloc _ _ _ (by simp)))
  have D4 : Cel1 30 w0 (w.heap.size + 1 + 1) (.slice none 0 0) := by
    have := cel_alloc 30 ((w.alloc (.cells #[.slice none 0 0] 30)).alloc (.cells #[.int .i64 0] 31)) (.slice none 0 0)
    rw [World.size_alloc, World.size_alloc] at this
    rw [hw0]; exact this.at (Below.heap_alloc _ _ _ (by simp))
  have D5 : Cel1 9 w0 (w.heap.size + 1 + 1 + 1) (.string s) := by
    have := cel_alloc 9 (((w.alloc (.cells #[.slice none 0 0] 30)).alloc (.cells #[.int .i64 0] 31)).alloc (.cells #[.slice none 0 0] 30)) (.string s)
    rw [World.size_alloc, World.size_alloc, World.size_alloc] at this
    rw [hw0]; exact this
  have B0 : Below w.heap.size w w0 := by
    rw [hw0]; exact ((((Below.refl _ w).alloc (Nat.le_refl _) _).alloc (by simp) _).alloc (by simp; omega) _).alloc (by simp; omega) _
  clear hw0
  refine wide_rangeFunc (gf := 30) (lb := #[.pointer (some ⟨w.heap.size + 1 + 1 + 1, 0, none⟩)]) rfl (enters_of Tryd.func30 (by kernel_rfl) rfl) ?_
  intro rec hR hY
  have L1 := World.alloc_heap_new (w0.alloc (.deferred (some []))) (.loop (rec .ready none))
  have L2 := (Below.heap_alloc (w0.alloc (.deferred (some []))) (.loop (rec .ready none)) w0.heap.size (by simp)).trans (World.alloc_heap_new w0 (.deferred (some [])))
  have hB1 : Below w0.heap.size w0 ((w0.alloc (.deferred (some []))).alloc (.loop (rec .ready none))) := ((Below.refl _ w0).alloc (Nat.le_refl _) _).alloc (by simp) _
  have hS1 : ((w0.alloc (.deferred (some []))).alloc (.loop (rec .ready none))).heap.size = w0.heap.size + 1 + 1 := by rw [World.size_alloc, World.size_alloc]
  rw [World.size_alloc] at L1
  generalize ((w0.alloc (.deferred (some []))).alloc (.loop (rec .ready none))) = W1 at *
  rw [e0] at hR hY L1 L2 hB1 hS1 ⊢
  have K2 := D2.at (hB1.block _ (by omega)); have K3 := D3.at (hB1.block _ (by omega)); have K4 := D4.at (hB1.block _ (by omega)); have K5 := D5.at (hB1.block _ (by omega))
  have hB1 := B0.trans (hB1.mono (by omega))
  have HR := Lib.hid hR
  have HY := Lib.hid hY
  clear D2 D3 D4 D5 hR hY B0
  refine (iter_any s (w.heap.size + 1 + 1 + 1 + 1 + 1) (w.heap.size + 1 + 1 + 1) 1 W1 hs HF.out (AlS w rec) (AlX w rec) ?h0 ?h1 ?hc ?hY0 ?hY1 K5.c).mono ?_
  case h0 =>
    intro b W' hb hcur hbel
    exact ⟨hcur, ⟨_, K4.at (hbel.block _ (by omega)), frow_nil _ _ _⟩, K2.at (hbel.block _ (by omega)), K3.at (hbel.block _ (by omega)), (hbel.block _ (by omega)).trans L1, (hbel.block _ (by omega)).trans L2, hB1.trans (hbel.mono (by omega)), by omega⟩
  case h1 => exact fun b c c2 pre W1 W2 h ho hc => h.only ho hc
  case hc => exact fun b c pre W h => ⟨h.cur, h.tab HT.out, by have := h.far; have := HT.out.lt; omega⟩
  case hY0 =>
    intro b c pre x W hst hlen
    have hal := (heap_lt hst.lp)
    refine HY.out #[pfV x, .int .i64 0] W _ rfl hst.lp ?_
    have S5 := Lib.hid ((hst.alloc (.cells #[.int .i64 x.1, .int .i64 x.2.1, .int .u64 (x.2.2.1 : Nat), .string x.2.2.2] 38)).put (r' := rec .busy none))
    have F5 := hst.fld (r' := rec .busy none) x
    have A1 := Lib.hid ((Below.heap_alloc W (.cells #[.int .i64 x.1, .int .i64 x.2.1, .int .u64 (x.2.2.1 : Nat), .string x.2.2.2] 38) _ hal).trans hst.lp)
    obtain ⟨x0, x1, x2, x3⟩ := x
    unfold pfV
    dsimp only at S5 F5 A1 ⊢
    clear hst hal
    gi_wp2
    refine ⟨A1.out, ?_⟩
    obtain ⟨v, q1, q2⟩ := S5.out.row
    have q3 := S5.out.bel.size
    clear A1
    generalize ((W.alloc (.cells #[.int .i64 x0, .int .i64 x1, .int .u64 (x2 : Nat), .string x3] 38)).putObj (w.heap.size + 1 + 1 + 1 + 1 + 1) (.loop (rec .busy none))) = w5 at *
    generalize W.heap.size = F at *
    have g0 := F5.c0; have g1 := F5.c1; have g2 := F5.c2; have g3 := F5.c3
    have l0 := q1.c; have l1 := q1.f
    have Q1 := Lib.hid q1
    have Q2 := Lib.hid q2
    clear q1 q2 F5
    gi_wp2_with (gi_at_builtin; go_loud (refine wpListIn_append_fd rfl (.tmp 14) (.tmp 16) 30 rfl 38 Tryd.underlying30 infoPf v w5 w.heap.size pre Q2.out q3 rfl _ _ _ _ (x0, x1, x2, x3) rfl rfl rfl rfl rfl hlen ?_; intro v' w6 g cp hv' hr' hg; obtain ⟨z1, z2⟩ := S5.out.grown Q1.out Q2.out hr' hg; have Z2 := Lib.hid z2; have y0 := z1.c; have y1 := z1.f; clear z1 z2 hr' hg; subst hv'))
    exact ⟨_, _, HR.out.fin _ none Z2.out.lp, rfl, Z2.out.put⟩
  case hY1 =>
    intro b c pre x e W he hst
    have hal := (heap_lt hst.lp)
    refine HY.out #[pfV x, .int .i64 e] W _ rfl hst.lp ?_
    have p1 : (e != 0) = true := bne_iff_ne.mpr he
    have S5 := Lib.hid ((hst.alloc (.cells #[.int .i64 x.1, .int .i64 x.2.1, .int .u64 (x.2.2.1 : Nat), .string x.2.2.2] 38)).put (r' := rec .busy none))
    have A1 := Lib.hid ((Below.heap_alloc W (.cells #[.int .i64 x.1, .int .i64 x.2.1, .int .u64 (x.2.2.1 : Nat), .string x.2.2.2] 38) _ hal).trans hst.lp)
    obtain ⟨x0, x1, x2, x3⟩ := x
    unfold pfV
    dsimp only at S5 A1 ⊢
    clear hst hal he
    gi_wp2
    refine ⟨A1.out, ?_⟩
    clear A1
    generalize ((W.alloc (.cells #[.int .i64 x0, .int .i64 x1, .int .u64 (x2 : Nat), .string x3] 38)).putObj (w.heap.size + 1 + 1 + 1 + 1 + 1) (.loop (rec .busy none))) = w5 at *
    generalize W.heap.size = F at *
    have k2 := S5.out.r2.c; have j2 := S5.out.r2.f; have k3 := S5.out.r3.c; have j3 := S5.out.r3.f
    have Z2 := Lib.hid (S5.out.left e)
    clear S5
    gi_wp2
    exact ⟨_, _, HR.out.fin _ (some .ret) Z2.out.1, rfl, Z2.out.2⟩
  rintro e W2 ⟨⟨v, rfl⟩, (⟨b, c, pre, hst, hA⟩ | ⟨e, he, hA, hx⟩)⟩
  · refine ⟨⟨v, rfl⟩, .inl ⟨hst.lp, ?_⟩⟩
    have S := Lib.hid (hst.put (r' := rec .exhausted none))
    obtain ⟨u, q1, q2⟩ := S.out.row
    obtain ⟨ua, uc, hu, -⟩ := q2.inn
    subst hu
    have l0 := q1.c
    have k2 := S.out.r2.c; have j2 := S.out.r2.f; have k3 := S.out.r3.c; have j3 := S.out.r3.f
    have Z := Lib.hid (S.out.done q2)
    have HA := Lib.hid hA
    clear hA hst q1 q2 S
    generalize W2.putObj (w.heap.size + 1 + 1 + 1 + 1 + 1) (.loop (rec .exhausted none)) = W3 at *
    dsimp only
    gi_wp2
    refine ⟨by simp, .inl ⟨_, _, rfl, run_takeDeferred Z.out.1, ?_⟩⟩
    exact ⟨_, lc_result Tryd.results7 Z.out.2.1 Z.out.2.2.1 rfl rfl, ⟨_, by rw [HA.out], by rw [HA.out]; exact Z.out.2.2.2.1, Z.out.2.2.2.2⟩⟩
  · refine ⟨⟨v, rfl⟩, .inr ⟨.ret, hx.lp, ?_⟩⟩
    have Z := Lib.hid (hx.done (o := .loop (rec .exhausted (some .ret))))
    have HA := Lib.hid hA
    clear hA hx
    dsimp only
    gi_wp2
    refine ⟨by simp, .inl ⟨_, _, rfl, run_takeDeferred Z.out.1, ?_⟩⟩
    exact ⟨_, lc_result Tryd.results7 Z.out.2.1 Z.out.2.2.1 rfl rfl, ⟨_, by rw [HA.out], by rw [HA.out]; exact frow_nil _ _ _, Z.out.2.2.2⟩⟩
end Go.Proofs.YtjpppnfkpnfhoaaDoor
/- A list of fields put behind another one (the call's own), where the operation is wanted; All of a text that is not long. -/
namespace Go.Proofs.YtjpppnfkpnfhoaaDoor
open Go Go.RowKit
set_option linter.unusedVariables false

theorem jo_all (s : ByteArray) (w : World) (hs : s.size ≤ 1099511627776) (ht : Tab w) :
    Calls Tryd.prog 7 #[.string s] w fun e w' => ∃ v, e = .returned (.tuple #[v, .int .i64 (fAll s.data.toList).2]) ∧ FRow 38 w' w.heap.size v (fAll s.data.toList).1 ∧ Below w.heap.size w w' := by
  exact all_any s w (by omega) (.inl (by rw [toList_size]; exact hs)) ht
/-- 'append(list, more...)' of fields that are there, on a list that the call itself made, where the operation is wanted. -/
theorem wpList_append_fds {P : Program} {ops : Array Oper} {rest : List Oper} {o : Oper} {a : Act} {w : World} {Q : Exit → Act → World → Prop} (hw : Region.wanted o (yielded ops a.tmps) = true) (sl x : Operand) (t : TypeId)
    (ho : o.op = .call { callee := .builtin .append, args := #[sl, x], argTypes := #[t, t] })
    (e : TypeId) (ht : P.underlying t = some (.slice e)) (hi : (P.info? e).map (fun i => (i.zero, i.size, i.bytes)) = some (some (.agg #[.int .i64 0, .int .i64 0, .int .u64 0, .string ⟨#[]⟩]), 4, 40))
    (v : Value) (B : Nat) (l : List FD) (hb : FRow e w B v l) (hB : B ≤ w.heap.size) (hs : a.eval sl = v)
    (u : Value) (C : Nat) (m : List FD) (hm : FRow e w C u m) (hx : a.eval x = u) (hlen : l.length + m.length ≤ 1099511627776)
    (h : ∀ v' w', FRow e w' B v' (l ++ m) → Below B w w' → wpList P ops Q rest (a.put o.dst v') w') : wpList P ops Q (o :: rest) a w := by
  obtain ⟨i0, hi, hz, hz1, hz2⟩ := info_parts hi
  refine wpList_step fun K hK => ?_
  rw [if_pos hw]
  rcases hm.2 with ⟨rfl, hn⟩ | ⟨g, cap, cur, rfl, _, hg, _⟩
  · have h0 : m = [] := List.eq_nil_of_length_eq_zero hn
    subst h0
    have hrun := run_append_owned_none (P := P) (w := w) B t o.type e i0 4 ht hi v l.length (fV l) hb
    unfold Oper.wp
    simp [execOp, ho, resolve, invoke, builtin, hs, hx, hrun, Result.andThen]
    exact hK _ _ (h v w (by rw [List.append_nil]; exact hb) (Below.refl _ _))
  · refine wp_append_own w sl x t ho B e i0 (.agg #[.int .i64 0, .int .i64 0, .int .u64 0, .string ⟨#[]⟩]) 4 40 ht hi hz hz1 hz2 rfl (by decide) v l.length (fV l) hs hb ⟨g, 0, none⟩ m.length cap (fV m) hx (fV_length m) (World.ownsRow.cells hm rfl) (fV_one _) (by unfold maxLen; omega) (by omega) hB ?_
    intro v' w' hown hgr _
    refine hK _ _ (h v' w' ?_ ⟨hgr.os, hgr.tape, hgr.output, hgr.size, fun k hk => hgr.block k (by omega) (fun e => ?_)⟩)
    · unfold FRow
      rw [fV_append, List.length_append]
      exact hown
    · have := (World.ownsRow.lt hb k e.symm).1; omega
theorem frow_empty (w : World) (e : TypeId) : FRow e (w.alloc (.cells #[] e)) w.heap.size (.slice (some ⟨w.heap.size, 0, none⟩) 0 0) [] :=
  ⟨rfl, .inr ⟨w.heap.size, 0, #[], rfl, Nat.le_refl _, heap_alloc_new w _, Nat.le_refl _, by unfold maxLen; omega, rfl, rfl⟩⟩
end Go.Proofs.YtjpppnfkpnfhoaaDoor
