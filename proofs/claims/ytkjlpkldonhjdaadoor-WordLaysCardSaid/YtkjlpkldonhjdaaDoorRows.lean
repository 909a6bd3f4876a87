/-
  NARROWER THAN 'FOR EVERY INPUT', by the rows' own cells (each row's printed sentence says how): WordFolds: laid · WordLays: laid · WordReads: laid · WordFits: laid.
  DERIVED. THE GIVEN ROWS OF THIS SEAT. 4 by the template 'for every input the law returns true; each argument reads behind the call as it read before'; 0 by the template 'total and deterministic' (their statements: YtkjlpkldonhjdaaDoorTotals.lean).
  GIVEN WITH THE SEED: the statements are not yours to turn. If you find one false, say at which input.
  Laid BY PROGRAM, IN A SANDBOX (cutbox-rows.mjs): the forced cells as the released guide's own fill.sh prints them over the translation 37cb1826ecf13c48… (all of the seat's roots in one cut). By AI agents, Wed Nov 11 2026. No macro, syntax, notation, axiom, sorry.
-/
import Derived.Test.YtkjlpkldonhjdaaDoorChecked
import GoSem.Claim
import GoSem.ClaimJoined
import GoSem.ClaimMapViews
import Derived.JoinedTies
import Derived.KernelRfl
namespace Go.Proofs.YtkjlpkldonhjdaaDoor
/- THE CELL 'sum', in the pinned program and in every row, IS THE sha256 OF THE DUMP (.gsa) THAT YtkjlpkldonhjdaaDoorProg.lean LOADS. Nothing in Lean hashes anything: it is a label: what it is worth is what the hold of that sum in a sandbox is worth. -/
noncomputable def Tryd.pinned : Pinned := { name := "ytkjlpkldonhjdaadoor", sum := "37cb1826ecf13c48caf774ce542dcec835755245d1978baf684717cecda94178", checked := Tryd.checked }
namespace Rows
def none {H : Type} : Left H := { results := [], args := [] }

/- WHAT THE LISTED PACKAGE-LEVEL VARIABLES READ AS WHEN THE CALL BEGINS. Each datum BY PROGRAM (the guide's laid-datum.mjs) off the statement by which the dump's own 'gosem.cut.vars' lays the variable. In a bare row this is a premise. The card (YtkjlpkldonhjdaaDoorCards.lean) ties it to the program's text. -/
def laid_truchman_word_shifts {H : Type} : DataW H := .agg [.lit (.int .u64 0), .lit (.int .u64 8), .lit (.int .u64 16), .lit (.int .u64 24), .lit (.int .u64 32), .lit (.int .u64 40), .lit (.int .u64 48), .lit (.int .u64 56)]

/-- 'truchmanlaw02.WordFolds': WHATEVER THE INPUT: true; the input reads as it did. -/
def wordFoldsSpec : ChangeSpec := { name := "wordFolds", fn := fun _ => fun
  | [d1, d2] => { results := [.lit (.bool true)], args := [d1, d2] }
  | _ => none }
def wordFoldsRow : OpenClaim := { program := "ytkjlpkldonhjdaadoor", sum := "37cb1826ecf13c48caf774ce542dcec835755245d1978baf684717cecda94178", func := "truchman/truchmanlaw02.WordFolds", spec := "wordFolds", named := ["truchman/word.shifts"], apart := false, laid := [("truchman/word.shifts", laid_truchman_word_shifts)] }
def WordFoldsSaid : Prop := wordFoldsRow.holds Tryd.pinned (OpenSpec.ofChange wordFoldsSpec)

/-- ITS FALSE NEIGHBOUR: 'it returns false'. Refute it at one input. -/
def wordFoldsWrong : ChangeSpec := { name := "wordFolds", fn := fun _ => fun
  | [d1, d2] => { results := [.lit (.bool false)], args := [d1, d2] }
  | _ => none }
def WordFoldsWrongFalsely : Prop := wordFoldsRow.holds Tryd.pinned (OpenSpec.ofChange wordFoldsWrong)

/-- 'truchmanlaw02.WordLays': WHATEVER THE INPUT: true; the input reads as it did. -/
def wordLaysSpec : ChangeSpec := { name := "wordLays", fn := fun _ => fun
  | [d1, d2] => { results := [.lit (.bool true)], args := [d1, d2] }
  | _ => none }
def wordLaysRow : OpenClaim := { program := "ytkjlpkldonhjdaadoor", sum := "37cb1826ecf13c48caf774ce542dcec835755245d1978baf684717cecda94178", func := "truchman/truchmanlaw02.WordLays", spec := "wordLays", unfollowed := true, recurses := true, named := ["truchman/word.shifts"], apart := false, laid := [("truchman/word.shifts", laid_truchman_word_shifts)] }
def WordLaysSaid : Prop := wordLaysRow.holds Tryd.pinned (OpenSpec.ofChange wordLaysSpec)

/-- ITS FALSE NEIGHBOUR: 'it returns false'. Refute it at one input. -/
def wordLaysWrong : ChangeSpec := { name := "wordLays", fn := fun _ => fun
  | [d1, d2] => { results := [.lit (.bool false)], args := [d1, d2] }
  | _ => none }
def WordLaysWrongFalsely : Prop := wordLaysRow.holds Tryd.pinned (OpenSpec.ofChange wordLaysWrong)

/-- 'truchmanlaw02.WordReads': WHATEVER THE INPUT: true; the input reads as it did. -/
def wordReadsSpec : ChangeSpec := { name := "wordReads", fn := fun _ => fun
  | [d1, d2] => { results := [.lit (.bool true)], args := [d1, d2] }
  | _ => none }
def wordReadsRow : OpenClaim := { program := "ytkjlpkldonhjdaadoor", sum := "37cb1826ecf13c48caf774ce542dcec835755245d1978baf684717cecda94178", func := "truchman/truchmanlaw02.WordReads", spec := "wordReads", unfollowed := true, recurses := true, named := ["truchman/word.shifts"], apart := false, laid := [("truchman/word.shifts", laid_truchman_word_shifts)] }
def WordReadsSaid : Prop := wordReadsRow.holds Tryd.pinned (OpenSpec.ofChange wordReadsSpec)

/-- ITS FALSE NEIGHBOUR: 'it returns false'. Refute it at one input. -/
def wordReadsWrong : ChangeSpec := { name := "wordReads", fn := fun _ => fun
  | [d1, d2] => { results := [.lit (.bool false)], args := [d1, d2] }
  | _ => none }
def WordReadsWrongFalsely : Prop := wordReadsRow.holds Tryd.pinned (OpenSpec.ofChange wordReadsWrong)

/-- 'truchmanlaw02.WordFits': WHATEVER THE INPUT: true; the input reads as it did. -/
def wordFitsSpec : ChangeSpec := { name := "wordFits", fn := fun _ => fun
  | [d1, d2, d3] => { results := [.lit (.bool true)], args := [d1, d2, d3] }
  | _ => none }
def wordFitsRow : OpenClaim := { program := "ytkjlpkldonhjdaadoor", sum := "37cb1826ecf13c48caf774ce542dcec835755245d1978baf684717cecda94178", func := "truchman/truchmanlaw02.WordFits", spec := "wordFits", named := ["truchman/word.shifts"], apart := false, laid := [("truchman/word.shifts", laid_truchman_word_shifts)] }
def WordFitsSaid : Prop := wordFitsRow.holds Tryd.pinned (OpenSpec.ofChange wordFitsSpec)

/-- ITS FALSE NEIGHBOUR: 'it returns false'. Refute it at one input. -/
def wordFitsWrong : ChangeSpec := { name := "wordFits", fn := fun _ => fun
  | [d1, d2, d3] => { results := [.lit (.bool false)], args := [d1, d2, d3] }
  | _ => none }
def WordFitsWrongFalsely : Prop := wordFitsRow.holds Tryd.pinned (OpenSpec.ofChange wordFitsWrong)

/- THE SECOND FORM. 'bulk': how many values and letters a reading holds, each counted each time it is reached (what is shared counts as often as it is met; a slice's spare places count too). A statement '..UptoSaid' is the law's where the arguments, and the package variables that the reading takes, are together of bulk at most 1048576: NARROWER than '..Said'. Prove '..Said' where nothing that the law and all that it calls make is longer than what came in: it says more and counts as full. Else prove '..UptoSaid'. A law counts once. -/
mutual
def uptoBulk {H : Type} : DataW H → Nat
  | .lit (.string bytes) => bytes.length + 1
  | .lit _ => 1
  | .nil => 1
  | .ptr d => uptoBulk d + 1
  | .slice elems spare => uptoBulkAll elems + uptoBulkAll spare + 1
  | .agg parts => uptoBulkAll parts + 1
  | .iface _ d => uptoBulk d + 1
  | .map entries => uptoBulkEntries entries + 1
  | .held _ => 1
def uptoBulkAll {H : Type} : List (DataW H) → Nat
  | [] => 0
  | d :: r => uptoBulk d + uptoBulkAll r
def uptoBulkEntries {H : Type} : List (Lit × DataW H) → Nat
  | [] => 0
  | x :: r => uptoBulkEntry x + uptoBulkEntries r
def uptoBulkEntry {H : Type} : Lit × DataW H → Nat
  | (.string bytes, d) => bytes.length + uptoBulk d + 1
  | (_, d) => uptoBulk d + 1
 end
def uptoSmall : (H : Type) → List (DataW H) → Bool := fun _ ds => decide (uptoBulkAll ds ≤ 1048576)
def OpenSpec.upto (s : _root_.Go.ChangeSpec) : _root_.Go.OpenSpec := { _root_.Go.OpenSpec.ofChange s with cond := some uptoSmall }

/-- 'truchmanlaw02.WordFolds', WHERE WHAT IT READS IS OF BULK AT MOST 1048576: true; the input reads as it did. -/
def wordFoldsUptoRow : OpenClaim := { program := "ytkjlpkldonhjdaadoor", sum := "37cb1826ecf13c48caf774ce542dcec835755245d1978baf684717cecda94178", func := "truchman/truchmanlaw02.WordFolds", spec := "wordFolds", named := ["truchman/word.shifts"], apart := false, laid := [("truchman/word.shifts", laid_truchman_word_shifts)], narrowed := true }
def WordFoldsUptoSaid : Prop := wordFoldsUptoRow.holds Tryd.pinned (OpenSpec.upto wordFoldsSpec)

/-- 'truchmanlaw02.WordLays', WHERE WHAT IT READS IS OF BULK AT MOST 1048576: true; the input reads as it did. -/
def wordLaysUptoRow : OpenClaim := { program := "ytkjlpkldonhjdaadoor", sum := "37cb1826ecf13c48caf774ce542dcec835755245d1978baf684717cecda94178", func := "truchman/truchmanlaw02.WordLays", spec := "wordLays", unfollowed := true, recurses := true, named := ["truchman/word.shifts"], apart := false, laid := [("truchman/word.shifts", laid_truchman_word_shifts)], narrowed := true }
def WordLaysUptoSaid : Prop := wordLaysUptoRow.holds Tryd.pinned (OpenSpec.upto wordLaysSpec)

/-- 'truchmanlaw02.WordReads', WHERE WHAT IT READS IS OF BULK AT MOST 1048576: true; the input reads as it did. -/
def wordReadsUptoRow : OpenClaim := { program := "ytkjlpkldonhjdaadoor", sum := "37cb1826ecf13c48caf774ce542dcec835755245d1978baf684717cecda94178", func := "truchman/truchmanlaw02.WordReads", spec := "wordReads", unfollowed := true, recurses := true, named := ["truchman/word.shifts"], apart := false, laid := [("truchman/word.shifts", laid_truchman_word_shifts)], narrowed := true }
def WordReadsUptoSaid : Prop := wordReadsUptoRow.holds Tryd.pinned (OpenSpec.upto wordReadsSpec)

/-- 'truchmanlaw02.WordFits', WHERE WHAT IT READS IS OF BULK AT MOST 1048576: true; the input reads as it did. -/
def wordFitsUptoRow : OpenClaim := { program := "ytkjlpkldonhjdaadoor", sum := "37cb1826ecf13c48caf774ce542dcec835755245d1978baf684717cecda94178", func := "truchman/truchmanlaw02.WordFits", spec := "wordFits", named := ["truchman/word.shifts"], apart := false, laid := [("truchman/word.shifts", laid_truchman_word_shifts)], narrowed := true }
def WordFitsUptoSaid : Prop := wordFitsUptoRow.holds Tryd.pinned (OpenSpec.upto wordFitsSpec)

end Rows
end Go.Proofs.YtkjlpkldonhjdaaDoor
