/- What a row's condition on its listed variables says of memory, where a type's handle stands among them: 'P10', 'ErrT'. -/
import Derived.Test.YtnnkpeafhjokjaaDoorFtAt
import Derived.Test.YtnnkpeafhjokjaaDoorPow
import Derived.LaidHandle
import Derived.LaidSub
namespace Go.Proofs.YtnnkpeafhjokjaaDoor
open Go Go.RowKit

theorem pow10h_of {laid : List (String × DataW Unit)} {W : World} (_ : true = true) (h : laidMetH Tryd.prog laid W) (hm : ("internal/strconv.uint64pow10", Rows.laid_internal_strconv_uint64pow10) ∈ laid) : P10 W :=
  pow10_of (laid := laid.filter fun x => x.2.handleName?.isNone) (by rw [List.all_eq_true]; intro x hx; exact (List.mem_filter.1 hx).2) (h.filter _) (List.mem_filter.2 ⟨hm, rfl⟩)
theorem ert_global : Tryd.prog.globalNamed "errors.errorType" = some 0 := by kernel_rfl
theorem ert_rtype : (Tryd.prog.cutTypes.find? (·.1 == "internal/reflectlite.rtype")).map (·.2) = some 78 := by kernel_rfl
theorem ert_rows : ((List.range Tryd.prog.types.size).filter fun t => Tryd.prog.rowNamed t [101, 114, 114, 111, 114]) = [26] := by kernel_rfl
theorem errt_of {laid : List (String × DataW Unit)} {W : World} (_ : true = true) (h : laidMetH Tryd.prog laid W) (hm : ("errors.errorType", Rows.laid_errors_errorType) ∈ laid) : ErrT W := by
  obtain ⟨name, u, ty, e1, e2, e3, e4, e5⟩ := (laidMetH_iff.1 h).2 _ (List.mem_filter.2 ⟨hm, rfl⟩)
  have en : name = [101, 114, 114, 111, 114] := (Option.some.inj e1).symm
  subst en
  obtain rfl := Option.some.inj (ert_rtype.symm.trans e2)
  have hmem : ty ∈ (List.range Tryd.prog.types.size).filter fun t => Tryd.prog.rowNamed t [101, 114, 114, 111, 114] := List.mem_filter.2 ⟨List.mem_range.2 e3, e4⟩
  rw [ert_rows] at hmem
  obtain rfl := List.mem_singleton.1 hmem
  have hh : typeHandle Tryd.prog 26 = hT 26 := by kernel_rfl
  rw [hh] at e5
  unfold ErrT
  simpa using World.var?_cell ert_global e5 0
end Go.Proofs.YtnnkpeafhjokjaaDoor
