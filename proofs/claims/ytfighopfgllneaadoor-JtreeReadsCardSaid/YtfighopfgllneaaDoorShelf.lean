/- The numbers of this program beside those over which the library's functions were proved: what of them this program bears. Written by program (wip/bin/lay.py). -/
import Derived.Shelf.LaysM
import Derived.Shelf.Small.Strs
import Derived.Shelf.Small.Wraps
import Derived.Test.YtfighopfgllneaaDoorProg
import Derived.KernelRfl
namespace Go.Proofs.YtfighopfgllneaaDoor
open Go Go.Proofs Go.Shelf

def indexByteL_ren : Go.Shelf.Ren := ⟨fun | 137 => 77 | 217 => 90 | 266 => 97 | n => n, fun | 9 => 9 | 5 => 5 | 3 => 3 | n => n, fun | n => n⟩
theorem indexByteL : Go.Proofs.Lays.n137 Tryd.prog indexByteL_ren := {
  mixed := by kernel_rfl
  f137 := Tryd.func77.trans (congrArg some (by kernel_rfl))
  f217 := Tryd.func90.trans (congrArg some (by kernel_rfl))
  f266 := Tryd.func97.trans (congrArg some (by kernel_rfl))
  t3 := Tryd.underlying3
  a3 := Tryd.isAgg3
  z3 := Tryd.sizeOf3
  v3 := Tryd.zeroValue3
  t5 := Tryd.underlying5
  a5 := Tryd.isAgg5
  z5 := Tryd.sizeOf5
  v5 := Tryd.zeroValue5
  t9 := Tryd.underlying9
  a9 := Tryd.isAgg9
  z9 := Tryd.sizeOf9
  v9 := Tryd.zeroValue9 }

end Go.Proofs.YtfighopfgllneaaDoor
