/- Package varint's Put. -/
import Derived.Test.YtmiagebcobcaiaaDoorBts
import Derived.Test.YtmiagebcobcaiaaDoorVarRd
namespace Go.Proofs.YtmiagebcobcaiaaDoor
open Go Go.RowKit
set_option linter.unusedVariables false

def PutRel (t : TypeId) (W : World) (l : List UInt8) (u0 B : Nat) (u v : Value) (wr : World) : Prop :=
  ∃ (uk : Nat) (A : List UInt8), u = .int .u64 uk ∧ uk < 18446744073709551616 ∧ A ++ vB uk = vB u0 ∧ Bts t wr B v (l ++ A) ∧ Below B W wr ∧ B ≤ wr.heap.size

end Go.Proofs.YtmiagebcobcaiaaDoor
