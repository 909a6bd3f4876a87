/- Law 17's Back and the document's Same, of a list and itself. -/
import Derived.Test.YtipnaonagepolaaDoorPrU
namespace Go.Proofs.YtipnaonagepolaaDoor
open Go Go.RowKit
set_option linter.unusedVariables false

theorem fback {w : World} (a : Option Addr) (cap : Nat) (l : List FD) (hl : l.length ≤ 1099511627776) (hin : FIn w a l) :
    Calls Tryd.prog 25 #[.slice a l.length cap] w fun e w' => ∃ d k, e = .returned (.slice d l.length k) ∧ FIn w' d l ∧ Below w.heap.size w w' := by
  refine (pfback_any a cap l w hl hin).mono ?_
  rintro e w' ⟨v, he, hrow, hb⟩
  obtain ⟨d, k, hv, hi⟩ := hrow.inn
  rw [hv] at he
  exact ⟨d, k, he, hi, hb⟩
theorem fsame (a b : Option Addr) (c1 c2 : Nat) (l : List FD) (w : World) (hl : l.length ≤ 1099511627776) (hin : FIn w a l) (hin2 : FIn w b l) :
    Calls Tryd.prog 24 #[.slice a l.length c1, .slice b l.length c2] w fun e w' => e = .returned (.bool true) ∧ Below w.heap.size w w' := by
  have := psame_any a b c1 c2 l l w hl hin hin2
  rwa [decide_eq_true rfl] at this
end Go.Proofs.YtipnaonagepolaaDoor
