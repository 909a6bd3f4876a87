/-
  No cell of these rows narrows 'for every input' (looked for: loops, veiled, ifaces, maps, wideKeys, modest, calm, conditions, laid).
  DERIVED. THE GIVEN ROWS OF THIS SEAT. 3 by the template 'for every input the law returns true; each argument reads behind the call as it read before'; 0 by the template 'total and deterministic' (their statements: YtgljkoffanphkaaTotals.lean).
  GIVEN WITH THE SEED: the statements are not yours to turn. If you find one false, say at which input.
  Laid BY PROGRAM, IN A SANDBOX (cutbox-rows.mjs): the forced cells as the released guide's own fill.sh prints them over the translation 9398646f43025317… (all of the seat's roots in one cut). By AI agents, Wed Nov 11 2026. No macro, syntax, notation, axiom, sorry.
-/
import Derived.Test.YtgljkoffanphkaaChecked
import GoSem.Claim
import GoSem.ClaimJoined
import GoSem.ClaimMapViews
import Derived.JoinedTies
import Derived.KernelRfl
namespace Go.Proofs.Ytgljkoffanphkaa
/- THE CELL 'sum', in the pinned program and in every row, IS THE sha256 OF THE DUMP (.gsa) THAT YtgljkoffanphkaaProg.lean LOADS. Nothing in Lean hashes anything: it is a label: what it is worth is what the hold of that sum in a sandbox is worth. -/
noncomputable def Try.pinned : Pinned := { name := "ytgljkoffanphkaa", sum := "9398646f43025317867a3425924cccec83328dd0e03dc8f5eec874afb9e59b71", checked := Try.checked }
namespace Rows
def none {H : Type} : Left H := { results := [], args := [] }

/-- 'truchmanlaw08.MomentTells': WHATEVER THE INPUT: true; the input reads as it did. -/
def momentTellsSpec : ChangeSpec := { name := "momentTells", fn := fun _ => fun
  | [d1, d2] => { results := [.lit (.bool true)], args := [d1, d2] }
  | _ => none }
def momentTellsRow : OpenClaim := { program := "ytgljkoffanphkaa", sum := "9398646f43025317867a3425924cccec83328dd0e03dc8f5eec874afb9e59b71", func := "truchman/truchmanlaw08.MomentTells", spec := "momentTells", unfollowed := true, recurses := true, apart := false }
def MomentTellsSaid : Prop := momentTellsRow.holds Try.pinned (OpenSpec.ofChange momentTellsSpec)

/-- ITS FALSE NEIGHBOUR: 'it returns false'. Refute it at one input. -/
def momentTellsWrong : ChangeSpec := { name := "momentTells", fn := fun _ => fun
  | [d1, d2] => { results := [.lit (.bool false)], args := [d1, d2] }
  | _ => none }
def MomentTellsWrongFalsely : Prop := momentTellsRow.holds Try.pinned (OpenSpec.ofChange momentTellsWrong)

/-- 'truchmanlaw08.MomentWhole': WHATEVER THE INPUT: true; the input reads as it did. -/
def momentWholeSpec : ChangeSpec := { name := "momentWhole", fn := fun _ => fun
  | [d1, d2] => { results := [.lit (.bool true)], args := [d1, d2] }
  | _ => none }
def momentWholeRow : OpenClaim := { program := "ytgljkoffanphkaa", sum := "9398646f43025317867a3425924cccec83328dd0e03dc8f5eec874afb9e59b71", func := "truchman/truchmanlaw08.MomentWhole", spec := "momentWhole", unfollowed := true, recurses := true, apart := false }
def MomentWholeSaid : Prop := momentWholeRow.holds Try.pinned (OpenSpec.ofChange momentWholeSpec)

/-- ITS FALSE NEIGHBOUR: 'it returns false'. Refute it at one input. -/
def momentWholeWrong : ChangeSpec := { name := "momentWhole", fn := fun _ => fun
  | [d1, d2] => { results := [.lit (.bool false)], args := [d1, d2] }
  | _ => none }
def MomentWholeWrongFalsely : Prop := momentWholeRow.holds Try.pinned (OpenSpec.ofChange momentWholeWrong)

/-- 'truchmanlaw08.MomentOf': WHATEVER THE INPUT: true; the input reads as it did. -/
def momentOfSpec : ChangeSpec := { name := "momentOf", fn := fun _ => fun
  | [d1, d2, d3] => { results := [.lit (.bool true)], args := [d1, d2, d3] }
  | _ => none }
def momentOfRow : OpenClaim := { program := "ytgljkoffanphkaa", sum := "9398646f43025317867a3425924cccec83328dd0e03dc8f5eec874afb9e59b71", func := "truchman/truchmanlaw08.MomentOf", spec := "momentOf", unfollowed := true, recurses := true, apart := false }
def MomentOfSaid : Prop := momentOfRow.holds Try.pinned (OpenSpec.ofChange momentOfSpec)

/-- ITS FALSE NEIGHBOUR: 'it returns false'. Refute it at one input. -/
def momentOfWrong : ChangeSpec := { name := "momentOf", fn := fun _ => fun
  | [d1, d2, d3] => { results := [.lit (.bool false)], args := [d1, d2, d3] }
  | _ => none }
def MomentOfWrongFalsely : Prop := momentOfRow.holds Try.pinned (OpenSpec.ofChange momentOfWrong)

/- THE SECOND FORM. 'bulk': how many values and letters a reading holds, each counted each time it is reached (what is shared counts as often as it is met; a slice's spare places count too). A statement '..UptoSaid' is the law's where the arguments, and the package variables that the reading takes, are together of bulk at most 1048576: NARROWER than '..Said'. Prove '..Said' where nothing that the law and all that it calls make is longer than what came in: it says more and counts as full. Else prove '..UptoSaid'. A law counts once. -/
mutual
def uptoBulk {H : Type} : DataW H → Nat
  | .lit (.string bytes) => bytes.length + 1
  | .lit _ => 1
  | .nil => 1
  | .ptr d => uptoBulk d + 1
  | .slice elems spare => uptoBulkAll elems + uptoBulkAll spare + 1
  | .agg parts => uptoBulkAll parts + 1
  | .iface _ d => uptoBulk d + 1
  | .map entries => uptoBulkEntries entries + 1
  | .held _ => 1
def uptoBulkAll {H : Type} : List (DataW H) → Nat
  | [] => 0
  | d :: r => uptoBulk d + uptoBulkAll r
def uptoBulkEntries {H : Type} : List (Lit × DataW H) → Nat
  | [] => 0
  | x :: r => uptoBulkEntry x + uptoBulkEntries r
def uptoBulkEntry {H : Type} : Lit × DataW H → Nat
  | (.string bytes, d) => bytes.length + uptoBulk d + 1
  | (_, d) => uptoBulk d + 1
 end
def uptoSmall : (H : Type) → List (DataW H) → Bool := fun _ ds => decide (uptoBulkAll ds ≤ 1048576)
def OpenSpec.upto (s : _root_.Go.ChangeSpec) : _root_.Go.OpenSpec := { _root_.Go.OpenSpec.ofChange s with cond := some uptoSmall }

/-- 'truchmanlaw08.MomentTells', WHERE WHAT IT READS IS OF BULK AT MOST 1048576: true; the input reads as it did. -/
def momentTellsUptoRow : OpenClaim := { program := "ytgljkoffanphkaa", sum := "9398646f43025317867a3425924cccec83328dd0e03dc8f5eec874afb9e59b71", func := "truchman/truchmanlaw08.MomentTells", spec := "momentTells", unfollowed := true, recurses := true, apart := false, narrowed := true }
def MomentTellsUptoSaid : Prop := momentTellsUptoRow.holds Try.pinned (OpenSpec.upto momentTellsSpec)

/-- 'truchmanlaw08.MomentWhole', WHERE WHAT IT READS IS OF BULK AT MOST 1048576: true; the input reads as it did. -/
def momentWholeUptoRow : OpenClaim := { program := "ytgljkoffanphkaa", sum := "9398646f43025317867a3425924cccec83328dd0e03dc8f5eec874afb9e59b71", func := "truchman/truchmanlaw08.MomentWhole", spec := "momentWhole", unfollowed := true, recurses := true, apart := false, narrowed := true }
def MomentWholeUptoSaid : Prop := momentWholeUptoRow.holds Try.pinned (OpenSpec.upto momentWholeSpec)

/-- 'truchmanlaw08.MomentOf', WHERE WHAT IT READS IS OF BULK AT MOST 1048576: true; the input reads as it did. -/
def momentOfUptoRow : OpenClaim := { program := "ytgljkoffanphkaa", sum := "9398646f43025317867a3425924cccec83328dd0e03dc8f5eec874afb9e59b71", func := "truchman/truchmanlaw08.MomentOf", spec := "momentOf", unfollowed := true, recurses := true, apart := false, narrowed := true }
def MomentOfUptoSaid : Prop := momentOfUptoRow.holds Try.pinned (OpenSpec.upto momentOfSpec)

end Rows
end Go.Proofs.Ytgljkoffanphkaa
