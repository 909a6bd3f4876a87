/- What a row's condition on the library's table of the powers of 10 says of memory: 'P10'. -/
import Derived.Test.YtnbhhnkcfbfdcaaDoorZH
import Derived.Test.YtnbhhnkcfbfdcaaDoorCells
namespace Go.Proofs.YtnbhhnkcfbfdcaaDoor
open Go.RowKit

theorem pow10_of {laid : List (String × DataW Unit)} {W : World} (hp : (laid.all fun x => x.2.handleName?.isNone) = true) (h : laidMetH Tryd.prog laid W) (hm : ("internal/strconv.uint64pow10", Rows.laid_internal_strconv_uint64pow10) ∈ laid) : P10 W :=
  tab_of_laid (k := .u64) (zs := Lib.pow10Tab) (g := 0) (t := 66) (e := 57) (m := 20) hp h hm (by kernel_rfl) (by kernel_rfl) (by kernel_rfl) Tryd.underlying66 Tryd.underlying57 (by kernel_rfl) (by kernel_rfl)
end Go.Proofs.YtnbhhnkcfbfdcaaDoor
