/-
  NARROWER THAN 'FOR EVERY INPUT', by the rows' own cells (each row's printed sentence says how): JtreeReads: laid · JtreeDeep: laid.
  DERIVED. THE GIVEN ROWS OF THIS SEAT. 2 by the template 'for every input the law returns true; each argument reads behind the call as it read before'; 0 by the template 'total and deterministic' (their statements: YtfighopfgllneaaDoorTotals.lean).
  GIVEN WITH THE SEED: the statements are not yours to turn. If you find one false, say at which input.
  Laid BY PROGRAM, IN A SANDBOX (cutbox-rows.mjs): the forced cells as the released guide's own fill.sh prints them over the translation 0aef1caf1385a85d… (all of the seat's roots in one cut). By AI agents, Wed Nov 11 2026. No macro, syntax, notation, axiom, sorry.
-/
import Derived.Test.YtfighopfgllneaaDoorChecked
import GoSem.Claim
import GoSem.ClaimJoined
import GoSem.ClaimMapViews
import Derived.JoinedTies
import Derived.KernelRfl
namespace Go.Proofs.YtfighopfgllneaaDoor
/- THE CELL 'sum', in the pinned program and in every row, IS THE sha256 OF THE DUMP (.gsa) THAT YtfighopfgllneaaDoorProg.lean LOADS. Nothing in Lean hashes anything: it is a label: what it is worth is what the hold of that sum in a sandbox is worth. -/
noncomputable def Tryd.pinned : Pinned := { name := "ytfighopfgllneaadoor", sum := "0aef1caf1385a85db6fddd6c729d6823ccccd7ac6cd110b1d8a8f0232bbb50b3", checked := Tryd.checked }
namespace Rows
def none {H : Type} : Left H := { results := [], args := [] }

/- WHAT THE LISTED PACKAGE-LEVEL VARIABLES READ AS WHEN THE CALL BEGINS. Each datum BY PROGRAM (the guide's laid-datum.mjs) off the statement by which the dump's own 'gosem.cut.vars' lays the variable. In a bare row this is a premise. The card (YtfighopfgllneaaDoorCards.lean) ties it to the program's text. -/
def laid_truchman_utf_heads {H : Type} : DataW H := .agg [.lit (.int .u8 0), .lit (.int .u8 0), .lit (.int .u8 192), .lit (.int .u8 224), .lit (.int .u8 240)]

/-- 'truchmanlaw13.JtreeReads': WHATEVER THE INPUT: true; the input reads as it did. -/
def jtreeReadsSpec : ChangeSpec := { name := "jtreeReads", fn := fun _ => fun
  | [d] => { results := [.lit (.bool true)], args := [d] }
  | _ => none }
def jtreeReadsRow : OpenClaim := { program := "ytfighopfgllneaadoor", sum := "0aef1caf1385a85db6fddd6c729d6823ccccd7ac6cd110b1d8a8f0232bbb50b3", func := "truchman/truchmanlaw13.JtreeReads", spec := "jtreeReads", inPlace := ["internal/bytealg.IndexByteString"], unfollowed := true, recurses := true, named := ["truchman/utf.heads"], apart := false, laid := [("truchman/utf.heads", laid_truchman_utf_heads)] }
def JtreeReadsSaid : Prop := jtreeReadsRow.holds Tryd.pinned (OpenSpec.ofChange jtreeReadsSpec)

/-- ITS FALSE NEIGHBOUR: 'it returns false'. Refute it at one input. -/
def jtreeReadsWrong : ChangeSpec := { name := "jtreeReads", fn := fun _ => fun
  | [d] => { results := [.lit (.bool false)], args := [d] }
  | _ => none }
def JtreeReadsWrongFalsely : Prop := jtreeReadsRow.holds Tryd.pinned (OpenSpec.ofChange jtreeReadsWrong)

/-- 'truchmanlaw13.JtreeDeep': WHATEVER THE INPUT: true; the input reads as it did. -/
def jtreeDeepSpec : ChangeSpec := { name := "jtreeDeep", fn := fun _ => fun
  | [d1, d2] => { results := [.lit (.bool true)], args := [d1, d2] }
  | _ => none }
def jtreeDeepRow : OpenClaim := { program := "ytfighopfgllneaadoor", sum := "0aef1caf1385a85db6fddd6c729d6823ccccd7ac6cd110b1d8a8f0232bbb50b3", func := "truchman/truchmanlaw13.JtreeDeep", spec := "jtreeDeep", inPlace := ["internal/bytealg.IndexByteString"], unfollowed := true, recurses := true, named := ["truchman/utf.heads"], apart := false, laid := [("truchman/utf.heads", laid_truchman_utf_heads)] }
def JtreeDeepSaid : Prop := jtreeDeepRow.holds Tryd.pinned (OpenSpec.ofChange jtreeDeepSpec)

/-- ITS FALSE NEIGHBOUR: 'it returns false'. Refute it at one input. -/
def jtreeDeepWrong : ChangeSpec := { name := "jtreeDeep", fn := fun _ => fun
  | [d1, d2] => { results := [.lit (.bool false)], args := [d1, d2] }
  | _ => none }
def JtreeDeepWrongFalsely : Prop := jtreeDeepRow.holds Tryd.pinned (OpenSpec.ofChange jtreeDeepWrong)

/- THE SECOND FORM. 'bulk': how many values and letters a reading holds, each counted each time it is reached (what is shared counts as often as it is met; a slice's spare places count too). A statement '..UptoSaid' is the law's where the arguments, and the package variables that the reading takes, are together of bulk at most 1048576: NARROWER than '..Said'. Prove '..Said' where nothing that the law and all that it calls make is longer than what came in: it says more and counts as full. Else prove '..UptoSaid'. A law counts once. -/
mutual
def uptoBulk {H : Type} : DataW H → Nat
  | .lit (.string bytes) => bytes.length + 1
  | .lit _ => 1
  | .nil => 1
  | .ptr d => uptoBulk d + 1
  | .slice elems spare => uptoBulkAll elems + uptoBulkAll spare + 1
  | .agg parts => uptoBulkAll parts + 1
  | .iface _ d => uptoBulk d + 1
  | .map entries => uptoBulkEntries entries + 1
  | .held _ => 1
def uptoBulkAll {H : Type} : List (DataW H) → Nat
  | [] => 0
  | d :: r => uptoBulk d + uptoBulkAll r
def uptoBulkEntries {H : Type} : List (Lit × DataW H) → Nat
  | [] => 0
  | x :: r => uptoBulkEntry x + uptoBulkEntries r
def uptoBulkEntry {H : Type} : Lit × DataW H → Nat
  | (.string bytes, d) => bytes.length + uptoBulk d + 1
  | (_, d) => uptoBulk d + 1
 end
def uptoSmall : (H : Type) → List (DataW H) → Bool := fun _ ds => decide (uptoBulkAll ds ≤ 1048576)
def OpenSpec.upto (s : _root_.Go.ChangeSpec) : _root_.Go.OpenSpec := { _root_.Go.OpenSpec.ofChange s with cond := some uptoSmall }

/-- 'truchmanlaw13.JtreeReads', WHERE WHAT IT READS IS OF BULK AT MOST 1048576: true; the input reads as it did. -/
def jtreeReadsUptoRow : OpenClaim := { program := "ytfighopfgllneaadoor", sum := "0aef1caf1385a85db6fddd6c729d6823ccccd7ac6cd110b1d8a8f0232bbb50b3", func := "truchman/truchmanlaw13.JtreeReads", spec := "jtreeReads", inPlace := ["internal/bytealg.IndexByteString"], unfollowed := true, recurses := true, named := ["truchman/utf.heads"], apart := false, laid := [("truchman/utf.heads", laid_truchman_utf_heads)], narrowed := true }
def JtreeReadsUptoSaid : Prop := jtreeReadsUptoRow.holds Tryd.pinned (OpenSpec.upto jtreeReadsSpec)

/-- 'truchmanlaw13.JtreeDeep', WHERE WHAT IT READS IS OF BULK AT MOST 1048576: true; the input reads as it did. -/
def jtreeDeepUptoRow : OpenClaim := { program := "ytfighopfgllneaadoor", sum := "0aef1caf1385a85db6fddd6c729d6823ccccd7ac6cd110b1d8a8f0232bbb50b3", func := "truchman/truchmanlaw13.JtreeDeep", spec := "jtreeDeep", inPlace := ["internal/bytealg.IndexByteString"], unfollowed := true, recurses := true, named := ["truchman/utf.heads"], apart := false, laid := [("truchman/utf.heads", laid_truchman_utf_heads)], narrowed := true }
def JtreeDeepUptoSaid : Prop := jtreeDeepUptoRow.holds Tryd.pinned (OpenSpec.upto jtreeDeepSpec)

end Rows
end Go.Proofs.YtfighopfgllneaaDoor
