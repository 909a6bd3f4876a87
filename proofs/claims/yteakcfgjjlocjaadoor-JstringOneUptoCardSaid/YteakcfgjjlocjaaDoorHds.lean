/- What a row's condition on utf's table says of memory: 'Hds'. -/
import Derived.Test.YteakcfgjjlocjaaDoorURune
import Derived.Test.YteakcfgjjlocjaaDoorCells
namespace Go.Proofs.YteakcfgjjlocjaaDoor
open Go.RowKit

theorem heads_of {laid : List (String × DataW Unit)} {W : World} (hp : (laid.all fun x => x.2.handleName?.isNone) = true) (h : laidMetH Tryd.prog laid W) (hm : ("truchman/utf.heads", Rows.laid_truchman_utf_heads) ∈ laid) : Hds W := by
  have hc := ints_of_laid (k := .u8) (zs := [0, 0, 192, 224, 240]) (g := 0) (t := 62) (e := 5) (m := 5) hp h hm rfl (by kernel_rfl) (by kernel_rfl) Tryd.underlying62 Tryd.underlying5 (by kernel_rfl)
  intro k hk
  rw [hc k hk]
  match k, hk with
  | 0, _ => rfl
  | 1, _ => rfl
  | 2, _ => rfl
  | 3, _ => rfl
  | 4, _ => rfl
end Go.Proofs.YteakcfgjjlocjaaDoor
