/- What a row's condition on word's table says of memory: 'Tab'. -/
import Derived.Test.YtmcklfndnjagiaaDoorLayB
import Derived.Test.YtmcklfndnjagiaaDoorCells
namespace Go.Proofs.YtmcklfndnjagiaaDoor
open Go.RowKit

theorem shifts_of {laid : List (String × DataW Unit)} {W : World} (hp : (laid.all fun x => x.2.handleName?.isNone) = true) (h : laidMetH Tryd.prog laid W) (hm : ("truchman/word.shifts", Rows.laid_truchman_word_shifts) ∈ laid) : Tab W := by
  have hc := ints_of_laid (k := .u64) (zs := [0, 8, 16, 24, 32, 40, 48, 56]) (g := 0) (t := 119) (e := 118) (m := 8) hp h hm rfl (by kernel_rfl) (by kernel_rfl) Tryd.underlying119 Tryd.underlying118 (by kernel_rfl)
  intro k hk
  rw [hc k hk]
  match k, hk with
  | 0, _ => rfl
  | 1, _ => rfl
  | 2, _ => rfl
  | 3, _ => rfl
  | 4, _ => rfl
  | 5, _ => rfl
  | 6, _ => rfl
  | 7, _ => rfl
end Go.Proofs.YtmcklfndnjagiaaDoor
