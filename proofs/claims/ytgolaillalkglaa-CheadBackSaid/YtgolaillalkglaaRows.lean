/-
  No cell of these rows narrows 'for every input' (looked for: loops, veiled, ifaces, maps, wideKeys, modest, calm, conditions, laid).
  DERIVED. THE GIVEN ROWS OF THIS SEAT. 3 by the template 'for every input the law returns true; each argument reads behind the call as it read before'; 0 by the template 'total and deterministic' (their statements: YtgolaillalkglaaTotals.lean).
  GIVEN WITH THE SEED: the statements are not yours to turn. If you find one false, say at which input.
  Laid BY PROGRAM, IN A SANDBOX (cutbox-rows.mjs): the forced cells as the released guide's own fill.sh prints them over the translation c9101009f1a53225… (all of the seat's roots in one cut). By AI agents, Wed Nov 11 2026. No macro, syntax, notation, axiom, sorry.
-/
import Derived.Test.YtgolaillalkglaaChecked
import GoSem.Claim
import GoSem.ClaimJoined
import GoSem.ClaimMapViews
import Derived.JoinedTies
import Derived.KernelRfl
namespace Go.Proofs.Ytgolaillalkglaa
/- THE CELL 'sum', in the pinned program and in every row, IS THE sha256 OF THE DUMP (.gsa) THAT YtgolaillalkglaaProg.lean LOADS. Nothing in Lean hashes anything: it is a label: what it is worth is what the hold of that sum in a sandbox is worth. -/
noncomputable def Try.pinned : Pinned := { name := "ytgolaillalkglaa", sum := "c9101009f1a53225919d399a39c06213bcf868302e51bb4517750d6da0664c26", checked := Try.checked }
namespace Rows
def none {H : Type} : Left H := { results := [], args := [] }

/-- 'truchmanlaw20.CheadFields': WHATEVER THE INPUT: true; the input reads as it did. -/
def cheadFieldsSpec : ChangeSpec := { name := "cheadFields", fn := fun _ => fun
  | [d1, d2] => { results := [.lit (.bool true)], args := [d1, d2] }
  | _ => none }
def cheadFieldsRow : OpenClaim := { program := "ytgolaillalkglaa", sum := "c9101009f1a53225919d399a39c06213bcf868302e51bb4517750d6da0664c26", func := "truchman/truchmanlaw20.CheadFields", spec := "cheadFields", apart := false }
def CheadFieldsSaid : Prop := cheadFieldsRow.holds Try.pinned (OpenSpec.ofChange cheadFieldsSpec)

/-- ITS FALSE NEIGHBOUR: 'it returns false'. Refute it at one input. -/
def cheadFieldsWrong : ChangeSpec := { name := "cheadFields", fn := fun _ => fun
  | [d1, d2] => { results := [.lit (.bool false)], args := [d1, d2] }
  | _ => none }
def CheadFieldsWrongFalsely : Prop := cheadFieldsRow.holds Try.pinned (OpenSpec.ofChange cheadFieldsWrong)

/-- 'truchmanlaw20.CheadLists': WHATEVER THE INPUT: true; the input reads as it did. -/
def cheadListsSpec : ChangeSpec := { name := "cheadLists", fn := fun _ => fun
  | [d] => { results := [.lit (.bool true)], args := [d] }
  | _ => none }
def cheadListsRow : OpenClaim := { program := "ytgolaillalkglaa", sum := "c9101009f1a53225919d399a39c06213bcf868302e51bb4517750d6da0664c26", func := "truchman/truchmanlaw20.CheadLists", spec := "cheadLists", apart := false }
def CheadListsSaid : Prop := cheadListsRow.holds Try.pinned (OpenSpec.ofChange cheadListsSpec)

/-- ITS FALSE NEIGHBOUR: 'it returns false'. Refute it at one input. -/
def cheadListsWrong : ChangeSpec := { name := "cheadLists", fn := fun _ => fun
  | [d] => { results := [.lit (.bool false)], args := [d] }
  | _ => none }
def CheadListsWrongFalsely : Prop := cheadListsRow.holds Try.pinned (OpenSpec.ofChange cheadListsWrong)

/-- 'truchmanlaw20.CheadBack': WHATEVER THE INPUT: true; the input reads as it did. -/
def cheadBackSpec : ChangeSpec := { name := "cheadBack", fn := fun _ => fun
  | [d1, d2, d3] => { results := [.lit (.bool true)], args := [d1, d2, d3] }
  | _ => none }
def cheadBackRow : OpenClaim := { program := "ytgolaillalkglaa", sum := "c9101009f1a53225919d399a39c06213bcf868302e51bb4517750d6da0664c26", func := "truchman/truchmanlaw20.CheadBack", spec := "cheadBack", recurses := true, apart := false }
def CheadBackSaid : Prop := cheadBackRow.holds Try.pinned (OpenSpec.ofChange cheadBackSpec)

/-- ITS FALSE NEIGHBOUR: 'it returns false'. Refute it at one input. -/
def cheadBackWrong : ChangeSpec := { name := "cheadBack", fn := fun _ => fun
  | [d1, d2, d3] => { results := [.lit (.bool false)], args := [d1, d2, d3] }
  | _ => none }
def CheadBackWrongFalsely : Prop := cheadBackRow.holds Try.pinned (OpenSpec.ofChange cheadBackWrong)

/- THE SECOND FORM. 'bulk': how many values and letters a reading holds, each counted each time it is reached (what is shared counts as often as it is met; a slice's spare places count too). A statement '..UptoSaid' is the law's where the arguments, and the package variables that the reading takes, are together of bulk at most 1048576: NARROWER than '..Said'. Prove '..Said' where nothing that the law and all that it calls make is longer than what came in: it says more and counts as full. Else prove '..UptoSaid'. A law counts once. -/
mutual
def uptoBulk {H : Type} : DataW H → Nat
  | .lit (.string bytes) => bytes.length + 1
  | .lit _ => 1
  | .nil => 1
  | .ptr d => uptoBulk d + 1
  | .slice elems spare => uptoBulkAll elems + uptoBulkAll spare + 1
  | .agg parts => uptoBulkAll parts + 1
  | .iface _ d => uptoBulk d + 1
  | .map entries => uptoBulkEntries entries + 1
  | .held _ => 1
def uptoBulkAll {H : Type} : List (DataW H) → Nat
  | [] => 0
  | d :: r => uptoBulk d + uptoBulkAll r
def uptoBulkEntries {H : Type} : List (Lit × DataW H) → Nat
  | [] => 0
  | x :: r => uptoBulkEntry x + uptoBulkEntries r
def uptoBulkEntry {H : Type} : Lit × DataW H → Nat
  | (.string bytes, d) => bytes.length + uptoBulk d + 1
  | (_, d) => uptoBulk d + 1
 end
def uptoSmall : (H : Type) → List (DataW H) → Bool := fun _ ds => decide (uptoBulkAll ds ≤ 1048576)
def OpenSpec.upto (s : _root_.Go.ChangeSpec) : _root_.Go.OpenSpec := { _root_.Go.OpenSpec.ofChange s with cond := some uptoSmall }

/-- 'truchmanlaw20.CheadFields', WHERE WHAT IT READS IS OF BULK AT MOST 1048576: true; the input reads as it did. -/
def cheadFieldsUptoRow : OpenClaim := { program := "ytgolaillalkglaa", sum := "c9101009f1a53225919d399a39c06213bcf868302e51bb4517750d6da0664c26", func := "truchman/truchmanlaw20.CheadFields", spec := "cheadFields", apart := false, narrowed := true }
def CheadFieldsUptoSaid : Prop := cheadFieldsUptoRow.holds Try.pinned (OpenSpec.upto cheadFieldsSpec)

/-- 'truchmanlaw20.CheadLists', WHERE WHAT IT READS IS OF BULK AT MOST 1048576: true; the input reads as it did. -/
def cheadListsUptoRow : OpenClaim := { program := "ytgolaillalkglaa", sum := "c9101009f1a53225919d399a39c06213bcf868302e51bb4517750d6da0664c26", func := "truchman/truchmanlaw20.CheadLists", spec := "cheadLists", apart := false, narrowed := true }
def CheadListsUptoSaid : Prop := cheadListsUptoRow.holds Try.pinned (OpenSpec.upto cheadListsSpec)

/-- 'truchmanlaw20.CheadBack', WHERE WHAT IT READS IS OF BULK AT MOST 1048576: true; the input reads as it did. -/
def cheadBackUptoRow : OpenClaim := { program := "ytgolaillalkglaa", sum := "c9101009f1a53225919d399a39c06213bcf868302e51bb4517750d6da0664c26", func := "truchman/truchmanlaw20.CheadBack", spec := "cheadBack", recurses := true, apart := false, narrowed := true }
def CheadBackUptoSaid : Prop := cheadBackUptoRow.holds Try.pinned (OpenSpec.upto cheadBackSpec)

end Rows
end Go.Proofs.Ytgolaillalkglaa
