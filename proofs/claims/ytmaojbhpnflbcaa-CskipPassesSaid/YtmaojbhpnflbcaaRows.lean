/-
  No cell of these rows narrows 'for every input' (looked for: loops, veiled, ifaces, maps, wideKeys, modest, calm, conditions, laid).
  DERIVED. THE GIVEN ROWS OF THIS SEAT. 3 by the template 'for every input the law returns true; each argument reads behind the call as it read before'; 0 by the template 'total and deterministic' (their statements: YtmaojbhpnflbcaaTotals.lean).
  GIVEN WITH THE SEED: the statements are not yours to turn. If you find one false, say at which input.
  Laid BY PROGRAM, IN A SANDBOX (cutbox-rows.mjs): the forced cells as the released guide's own fill.sh prints them over the translation b7d43272b811cb28… (all of the seat's roots in one cut). By AI agents, Wed Nov 11 2026. No macro, syntax, notation, axiom, sorry.
-/
import Derived.Test.YtmaojbhpnflbcaaChecked
import GoSem.Claim
import GoSem.ClaimJoined
import GoSem.ClaimMapViews
import Derived.JoinedTies
import Derived.KernelRfl
namespace Go.Proofs.Ytmaojbhpnflbcaa
/- THE CELL 'sum', in the pinned program and in every row, IS THE sha256 OF THE DUMP (.gsa) THAT YtmaojbhpnflbcaaProg.lean LOADS. Nothing in Lean hashes anything: it is a label: what it is worth is what the hold of that sum in a sandbox is worth. -/
noncomputable def Try.pinned : Pinned := { name := "ytmaojbhpnflbcaa", sum := "b7d43272b811cb28f00a02c79836249623a9ade45952609c4c296ba622d2f8ca", checked := Try.checked }
namespace Rows
def none {H : Type} : Left H := { results := [], args := [] }

/-- 'truchmanlaw21.CskipPasses': WHATEVER THE INPUT: true; the input reads as it did. -/
def cskipPassesSpec : ChangeSpec := { name := "cskipPasses", fn := fun _ => fun
  | [d1, d2, d3] => { results := [.lit (.bool true)], args := [d1, d2, d3] }
  | _ => none }
def cskipPassesRow : OpenClaim := { program := "ytmaojbhpnflbcaa", sum := "b7d43272b811cb28f00a02c79836249623a9ade45952609c4c296ba622d2f8ca", func := "truchman/truchmanlaw21.CskipPasses", spec := "cskipPasses", unfollowed := true, recurses := true, apart := false }
def CskipPassesSaid : Prop := cskipPassesRow.holds Try.pinned (OpenSpec.ofChange cskipPassesSpec)

/-- ITS FALSE NEIGHBOUR: 'it returns false'. Refute it at one input. -/
def cskipPassesWrong : ChangeSpec := { name := "cskipPasses", fn := fun _ => fun
  | [d1, d2, d3] => { results := [.lit (.bool false)], args := [d1, d2, d3] }
  | _ => none }
def CskipPassesWrongFalsely : Prop := cskipPassesRow.holds Try.pinned (OpenSpec.ofChange cskipPassesWrong)

/-- 'truchmanlaw21.CskipWhole': WHATEVER THE INPUT: true; the input reads as it did. -/
def cskipWholeSpec : ChangeSpec := { name := "cskipWhole", fn := fun _ => fun
  | [d1, d2, d3] => { results := [.lit (.bool true)], args := [d1, d2, d3] }
  | _ => none }
def cskipWholeRow : OpenClaim := { program := "ytmaojbhpnflbcaa", sum := "b7d43272b811cb28f00a02c79836249623a9ade45952609c4c296ba622d2f8ca", func := "truchman/truchmanlaw21.CskipWhole", spec := "cskipWhole", unfollowed := true, recurses := true, apart := false }
def CskipWholeSaid : Prop := cskipWholeRow.holds Try.pinned (OpenSpec.ofChange cskipWholeSpec)

/-- ITS FALSE NEIGHBOUR: 'it returns false'. Refute it at one input. -/
def cskipWholeWrong : ChangeSpec := { name := "cskipWhole", fn := fun _ => fun
  | [d1, d2, d3] => { results := [.lit (.bool false)], args := [d1, d2, d3] }
  | _ => none }
def CskipWholeWrongFalsely : Prop := cskipWholeRow.holds Try.pinned (OpenSpec.ofChange cskipWholeWrong)

/-- 'truchmanlaw21.CskipDeep': WHATEVER THE INPUT: true; the input reads as it did. -/
def cskipDeepSpec : ChangeSpec := { name := "cskipDeep", fn := fun _ => fun
  | [d1, d2] => { results := [.lit (.bool true)], args := [d1, d2] }
  | _ => none }
def cskipDeepRow : OpenClaim := { program := "ytmaojbhpnflbcaa", sum := "b7d43272b811cb28f00a02c79836249623a9ade45952609c4c296ba622d2f8ca", func := "truchman/truchmanlaw21.CskipDeep", spec := "cskipDeep", unfollowed := true, recurses := true, apart := false }
def CskipDeepSaid : Prop := cskipDeepRow.holds Try.pinned (OpenSpec.ofChange cskipDeepSpec)

/-- ITS FALSE NEIGHBOUR: 'it returns false'. Refute it at one input. -/
def cskipDeepWrong : ChangeSpec := { name := "cskipDeep", fn := fun _ => fun
  | [d1, d2] => { results := [.lit (.bool false)], args := [d1, d2] }
  | _ => none }
def CskipDeepWrongFalsely : Prop := cskipDeepRow.holds Try.pinned (OpenSpec.ofChange cskipDeepWrong)

/- THE SECOND FORM. 'bulk': how many values and letters a reading holds, each counted each time it is reached (what is shared counts as often as it is met; a slice's spare places count too). A statement '..UptoSaid' is the law's where the arguments, and the package variables that the reading takes, are together of bulk at most 1048576: NARROWER than '..Said'. Prove '..Said' where nothing that the law and all that it calls make is longer than what came in: it says more and counts as full. Else prove '..UptoSaid'. A law counts once. -/
mutual
def uptoBulk {H : Type} : DataW H → Nat
  | .lit (.string bytes) => bytes.length + 1
  | .lit _ => 1
  | .nil => 1
  | .ptr d => uptoBulk d + 1
  | .slice elems spare => uptoBulkAll elems + uptoBulkAll spare + 1
  | .agg parts => uptoBulkAll parts + 1
  | .iface _ d => uptoBulk d + 1
  | .map entries => uptoBulkEntries entries + 1
  | .held _ => 1
def uptoBulkAll {H : Type} : List (DataW H) → Nat
  | [] => 0
  | d :: r => uptoBulk d + uptoBulkAll r
def uptoBulkEntries {H : Type} : List (Lit × DataW H) → Nat
  | [] => 0
  | x :: r => uptoBulkEntry x + uptoBulkEntries r
def uptoBulkEntry {H : Type} : Lit × DataW H → Nat
  | (.string bytes, d) => bytes.length + uptoBulk d + 1
  | (_, d) => uptoBulk d + 1
 end
def uptoSmall : (H : Type) → List (DataW H) → Bool := fun _ ds => decide (uptoBulkAll ds ≤ 1048576)
def OpenSpec.upto (s : _root_.Go.ChangeSpec) : _root_.Go.OpenSpec := { _root_.Go.OpenSpec.ofChange s with cond := some uptoSmall }

/-- 'truchmanlaw21.CskipPasses', WHERE WHAT IT READS IS OF BULK AT MOST 1048576: true; the input reads as it did. -/
def cskipPassesUptoRow : OpenClaim := { program := "ytmaojbhpnflbcaa", sum := "b7d43272b811cb28f00a02c79836249623a9ade45952609c4c296ba622d2f8ca", func := "truchman/truchmanlaw21.CskipPasses", spec := "cskipPasses", unfollowed := true, recurses := true, apart := false, narrowed := true }
def CskipPassesUptoSaid : Prop := cskipPassesUptoRow.holds Try.pinned (OpenSpec.upto cskipPassesSpec)

/-- 'truchmanlaw21.CskipWhole', WHERE WHAT IT READS IS OF BULK AT MOST 1048576: true; the input reads as it did. -/
def cskipWholeUptoRow : OpenClaim := { program := "ytmaojbhpnflbcaa", sum := "b7d43272b811cb28f00a02c79836249623a9ade45952609c4c296ba622d2f8ca", func := "truchman/truchmanlaw21.CskipWhole", spec := "cskipWhole", unfollowed := true, recurses := true, apart := false, narrowed := true }
def CskipWholeUptoSaid : Prop := cskipWholeUptoRow.holds Try.pinned (OpenSpec.upto cskipWholeSpec)

/-- 'truchmanlaw21.CskipDeep', WHERE WHAT IT READS IS OF BULK AT MOST 1048576: true; the input reads as it did. -/
def cskipDeepUptoRow : OpenClaim := { program := "ytmaojbhpnflbcaa", sum := "b7d43272b811cb28f00a02c79836249623a9ade45952609c4c296ba622d2f8ca", func := "truchman/truchmanlaw21.CskipDeep", spec := "cskipDeep", unfollowed := true, recurses := true, apart := false, narrowed := true }
def CskipDeepUptoSaid : Prop := cskipDeepUptoRow.holds Try.pinned (OpenSpec.upto cskipDeepSpec)

end Rows
end Go.Proofs.Ytmaojbhpnflbcaa
