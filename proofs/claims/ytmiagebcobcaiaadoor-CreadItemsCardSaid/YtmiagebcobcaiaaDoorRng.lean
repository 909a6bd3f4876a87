/- A range over a function, at the fence that lets everything in: the statement's own book-keeping (its record, the block for deferred calls) is settled here; the iterator may keep what it likes. Of no program. -/
import Derived.Test.YtmiagebcobcaiaaDoorPlain
import Derived.RangeFuncOwn
import Derived.RangeFuncBox
import Derived.RangeFuncCalls
import Derived.RangeFuncLeaves
import Derived.Shelf.RegionOpen
import Derived.Shelf.Abstract
import Derived.WalkKit
import Derived.OwnWalkIn
import Derived.TacticsInMore
import Derived.LoopIn
namespace Go.Proofs.YtmiagebcobcaiaaDoor
open Go Go.RowKit
set_option linter.unusedVariables false

/-- What the loop's record, block l, answers to the four things that are done to it. -/
structure Rec (P : Program) (l : Nat) (rec : LoopState → Option Code → Loop) : Prop where
  beg : ∀ W, W.heap[l]? = some (.loop (rec .ready none)) → (Instr.beginRound l).run P W = .ok () (W.putObj l (.loop (rec .busy none)))
  fin : ∀ W jump, W.heap[l]? = some (.loop (rec .busy none)) → (Instr.endRound l jump).run P W = .ok (.bool jump.isNone) (W.putObj l (.loop (rec (if jump.isNone then .ready else .done) jump)))
  all : ∀ W, W.heap[l]? = some (.loop (rec .ready none)) → (Instr.endLoop l).run P W = .ok none (W.putObj l (.loop (rec .exhausted none)))
  cut : ∀ W c, W.heap[l]? = some (.loop (rec .done (some c))) → (Instr.endLoop l).run P W = .ok (some c) (W.putObj l (.loop (rec .exhausted (some c))))
/-- A round of the loop l: what yield owes at arguments and a world, out of the walks of the assignment and the body. -/
def Rnd (P : Program) (l : Nat) (rec : LoopState → Option Code → Loop) (ps : Array Tmp) (tmps : Array Value) (assign body : Code) (n : Nat) : Prop :=
  ∀ (args : Array Value) (W : World) (R : Ending → World → Prop), args.size = ps.size → W.heap[l]? = some (.loop (rec .ready none)) →
    assign.wpIn (Fence.wide.inRound l) n P (Exit.then (fun a₁ w₁ => w₁.heap[l]? = some (.loop (rec .ready none)) ∧ body.wpIn (Fence.wide.inRound l) n P (roundPost P l R) a₁ (w₁.putObj l (.loop (rec .busy none)))) (fun _ _ _ => False))
      { tmps := (ps.zip args).foldl (fun t (p, v) => t.setIfInBounds p v) tmps, defers := [] } W →
    YieldAt Fence.wide n P l args W R
theorem wide_rangeFunc {P : Program} {n : Nat} {g : Operand} {ps : Array Tmp} {assign body : Code} {Q : Exit → Act → World → Prop} {a : Act} {w : World} {gf : Nat} {lb : Array Value}
    (hg : a.eval g = .func (.func gf) #[] lb) (eg : ∀ args w, (callFunc gf args).run P w = .ok (.enter gf args) w)
    (h : ∀ (rec : LoopState → Option Code → Loop), Rec P (w.heap.size + 1) rec → Rnd P (w.heap.size + 1) rec ps a.tmps assign body (n - 1 - 1) →
      CallsIn Fence.wide (n - 1) P gf (#[.func (.yield (w.heap.size + 1)) #[] #[]] ++ lb) ((w.alloc (.deferred (some []))).alloc (.loop (rec .ready none)))
        fun e W => (∃ v, e = .returned v) ∧
          ((W.heap[w.heap.size + 1]? = some (.loop (rec .ready none)) ∧ Q .normal { a with defers := { target := .collected w.heap.size, args := #[] } :: a.defers } (W.putObj (w.heap.size + 1) (.loop (rec .exhausted none)))) ∨
           (∃ c, W.heap[w.heap.size + 1]? = some (.loop (rec .done (some c))) ∧ c.wpIn Fence.wide n P Q { a with defers := { target := .collected w.heap.size, args := #[] } :: a.defers } (W.putObj (w.heap.size + 1) (.loop (rec .exhausted (some c))))))) :
    (Code.rangeFunc g ps assign body).wpIn Fence.wide n P Q a w := by
  refine wpIn_rangeFunc fun fn hfn => ?_
  obtain ⟨rec, hrec⟩ : ∃ rec : LoopState → Option Code → Loop, rec = fun st pe => { state := st, pending := pe, fn, tmps := a.tmps, params := ps, assign, body, defers := w.heap.size } := ⟨_, rfl⟩
  have hR : Rec P (w.heap.size + 1) rec := by
    subst hrec
    exact ⟨fun W hl => run_beginRound hl rfl, fun W jump hl => run_endRound jump hl, fun W hl => run_endLoop hl (by simp), fun W c hl => run_endLoop hl (by simp)⟩
  have hY : Rnd P (w.heap.size + 1) rec ps a.tmps assign body (n - 1 - 1) := fun args W R hs hl hw => by
    have hy := run_yield (P := P) (args := args) hl (by rw [hrec]; exact hs)
    rw [hrec] at hy
    refine ⟨fn, _, assign, body, hy, roundIn_of_wpIn trivial (wpIn_mono hw ?_)⟩
    intro e a₁ w₁ he
    cases e with
    | normal => exact ⟨_, hR.beg w₁ he.1, he.2⟩
    | _ => exact he
  refine ⟨w.heap.size + 1, [{ target := .collected w.heap.size, args := #[] }], (w.alloc (.deferred (some []))).alloc (.loop (rec .ready none)), { target := .fn (.func gf) lb, args := #[.func (.yield (w.heap.size + 1)) #[] #[]] }, (w.alloc (.deferred (some []))).alloc (.loop (rec .ready none)), gf, #[.func (.yield (w.heap.size + 1)) #[] #[]] ++ lb, (w.alloc (.deferred (some []))).alloc (.loop (rec .ready none)),
    ?_, ?_, fun f' _ => trivial, ?_, fun hd => absurd hd (by decide), ?_⟩
  · rw [hrec]; exact run_enterLoop_outer fn a.tmps ps assign body
  · simp only [resolve, hg]
    simp [go_sem]
  · simp [invoke, go_sem, eg]
  · refine (h rec hR hY).mono ?_
    rintro e W ⟨⟨v, rfl⟩, (⟨hl, hq⟩ | ⟨c, hl, hq⟩)⟩
    · exact ⟨none, _, hR.all W hl, hq⟩
    · exact ⟨some c, _, hR.cut W c hl, hq⟩
end Go.Proofs.YtmiagebcobcaiaaDoor
