/- Package word's lists of bytes: 'copied', with what memory holds a list ('Bts'). -/
import Derived.Test.YtmcklfndnjagiaaDoorRows
import Derived.Test.YtmcklfndnjagiaaDoorPlain
import Derived.Test.YtmcklfndnjagiaaDoorWordBytes
import Derived.Test.YtmcklfndnjagiaaDoorBts
import Derived.Deep.QuietTactic
import Derived.BigQuiet
import Derived.Handy
import Derived.WalkSpells
import Derived.WalkLawsBesides
import Derived.OwnWalk
import Derived.Laws.OwnMore
import Derived.Laws.IdiomCopy
namespace Go.Proofs.YtmcklfndnjagiaaDoor
open Go Go.RowKit
set_option linter.unusedVariables false

set_option maxRecDepth 10000 in
theorem copied_any (a : Option Addr) (cap : Nat) (l : List UInt8) (more : Nat) (w : World) (hl : l.length ≤ 140737488351232) (hm : more ≤ 16) (hin : BIn w a l) :
    Calls Tryd.prog 88 #[.slice a l.length cap, .int .i64 more] w fun e w' => ∃ v, e = .returned v ∧ Bts 5 w' w.heap.size v l ∧ Below w.heap.size w w' := by
  obtain ⟨i0, hi, hz0, hz1, hz2⟩ := info_parts info8
  have hw : IntKind.i64.wrap ((l.length : Int) + more) = (l.length : Int) + more := IntWalk.i64_in _ (by omega)
  have hmk := Lib.hid (show (Instr.makeSlice 52 (.int .i64 (l.length : Int)) (.int .i64 ((l.length : Int) + more))).run Tryd.prog w = .ok (.slice (some ⟨w.heap.size, 0, none⟩) l.length (l.length + more)) (w.alloc (.cells (Array.replicate (l.length + more) (.int .u8 0)) 5)) by
    have := run_make (P := Tryd.prog) w 52 5 i0 (.int .u8 0) Tryd.underlying52 hi hz0 .i64 .i64 (l.length : Int) ((l.length : Int) + more) (by omega) (by omega) (by rw [hz2]; omega) (by omega)
    have hn : ((l.length : Int) + more).toNat = l.length + more := by omega
    have hma : madeCells (Value.int .u8 0).cells (l.length + more) = Array.replicate (l.length + more) (.int .u8 0) := by
      apply Array.toList_inj.mp
      show (madeCells #[.int .u8 0] _).toList = _
      rw [toList_madeCells_one, Array.toList_replicate]
    rw [this, hn, hz1, Nat.mul_one, hma]
    rfl)
  obtain ⟨w2, hcp0, hbt, hbel⟩ := copy_fact Tryd.prog 52 5 3 i0 Tryd.underlying52 size8 w a cap more l hin (by unfold maxLen; omega)
  have hcp := Lib.hid hcp0
  clear hin hcp0
  go_enter Tryd.func88, Tryd.ntmps88
  go_wp2_with fail
  rw [hmk.out]
  go_wp2_with fail
  rw [hcp.out]
  go_wp2
  go_ret
  exact ⟨_, rfl, hbt, hbel⟩
end Go.Proofs.YtmcklfndnjagiaaDoor
