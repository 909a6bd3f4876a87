/- The numbers of this program beside those over which the library's functions were proved: what of them this program bears. Written by program (wip/bin/lay.py). -/
import Derived.Shelf.LaysM
import Derived.Shelf.Small.Strs
import Derived.Shelf.Small.Wraps
import Derived.Test.YtfighopfgllneaaGreatDoorProg
import Derived.KernelRfl
namespace Go.Proofs.YtfighopfgllneaaGreatDoor
open Go Go.Proofs Go.Shelf

def indexByteL_ren : Go.Shelf.Ren := ⟨fun | 137 => 89 | 217 => 96 | 266 => 102 | n => n, fun | 9 => 9 | 5 => 5 | 3 => 3 | n => n, fun | n => n⟩
theorem indexByteL : Go.Proofs.Lays.n137 Tryz.prog indexByteL_ren := {
  mixed := by kernel_rfl
  f137 := Tryz.func89.trans (congrArg some (by kernel_rfl))
  f217 := Tryz.func96.trans (congrArg some (by kernel_rfl))
  f266 := Tryz.func102.trans (congrArg some (by kernel_rfl))
  t3 := Tryz.underlying3
  a3 := Tryz.isAgg3
  z3 := Tryz.sizeOf3
  v3 := Tryz.zeroValue3
  t5 := Tryz.underlying5
  a5 := Tryz.isAgg5
  z5 := Tryz.sizeOf5
  v5 := Tryz.zeroValue5
  t9 := Tryz.underlying9
  a9 := Tryz.isAgg9
  z9 := Tryz.sizeOf9
  v9 := Tryz.zeroValue9 }

end Go.Proofs.YtfighopfgllneaaGreatDoor
