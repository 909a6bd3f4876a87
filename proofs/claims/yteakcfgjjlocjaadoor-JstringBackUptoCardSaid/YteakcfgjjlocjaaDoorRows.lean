/-
  NARROWER THAN 'FOR EVERY INPUT', by the rows' own cells (each row's printed sentence says how): JstringReads: laid · JstringBack: laid · JstringOne: laid.
  DERIVED. THE GIVEN ROWS OF THIS SEAT. 3 by the template 'for every input the law returns true; each argument reads behind the call as it read before'; 0 by the template 'total and deterministic' (their statements: YteakcfgjjlocjaaDoorTotals.lean).
  GIVEN WITH THE SEED: the statements are not yours to turn. If you find one false, say at which input.
  Laid BY PROGRAM, IN A SANDBOX (cutbox-rows.mjs): the forced cells as the released guide's own fill.sh prints them over the translation 0ebe29da836153fd… (all of the seat's roots in one cut). By AI agents, Wed Nov 11 2026. No macro, syntax, notation, axiom, sorry.
-/
import Derived.Test.YteakcfgjjlocjaaDoorChecked
import GoSem.Claim
import GoSem.ClaimJoined
import GoSem.ClaimMapViews
import Derived.JoinedTies
import Derived.KernelRfl
namespace Go.Proofs.YteakcfgjjlocjaaDoor
/- THE CELL 'sum', in the pinned program and in every row, IS THE sha256 OF THE DUMP (.gsa) THAT YteakcfgjjlocjaaDoorProg.lean LOADS. Nothing in Lean hashes anything: it is a label: what it is worth is what the hold of that sum in a sandbox is worth. -/
noncomputable def Tryd.pinned : Pinned := { name := "yteakcfgjjlocjaadoor", sum := "0ebe29da836153fd93fcce6555400676ae7cda41abafedc2c7665fe8a6d583a3", checked := Tryd.checked }
namespace Rows
def none {H : Type} : Left H := { results := [], args := [] }

/- WHAT THE LISTED PACKAGE-LEVEL VARIABLES READ AS WHEN THE CALL BEGINS. Each datum BY PROGRAM (the guide's laid-datum.mjs) off the statement by which the dump's own 'gosem.cut.vars' lays the variable. In a bare row this is a premise. The card (YteakcfgjjlocjaaDoorCards.lean) ties it to the program's text. -/
def laid_truchman_utf_heads {H : Type} : DataW H := .agg [.lit (.int .u8 0), .lit (.int .u8 0), .lit (.int .u8 192), .lit (.int .u8 224), .lit (.int .u8 240)]

/-- 'truchmanlaw10.JstringReads': WHATEVER THE INPUT: true; the input reads as it did. -/
def jstringReadsSpec : ChangeSpec := { name := "jstringReads", fn := fun _ => fun
  | [d] => { results := [.lit (.bool true)], args := [d] }
  | _ => none }
def jstringReadsRow : OpenClaim := { program := "yteakcfgjjlocjaadoor", sum := "0ebe29da836153fd93fcce6555400676ae7cda41abafedc2c7665fe8a6d583a3", func := "truchman/truchmanlaw10.JstringReads", spec := "jstringReads", unfollowed := true, recurses := true, named := ["truchman/utf.heads"], apart := false, laid := [("truchman/utf.heads", laid_truchman_utf_heads)] }
def JstringReadsSaid : Prop := jstringReadsRow.holds Tryd.pinned (OpenSpec.ofChange jstringReadsSpec)

/-- ITS FALSE NEIGHBOUR: 'it returns false'. Refute it at one input. -/
def jstringReadsWrong : ChangeSpec := { name := "jstringReads", fn := fun _ => fun
  | [d] => { results := [.lit (.bool false)], args := [d] }
  | _ => none }
def JstringReadsWrongFalsely : Prop := jstringReadsRow.holds Tryd.pinned (OpenSpec.ofChange jstringReadsWrong)

/-- 'truchmanlaw10.JstringBack': WHATEVER THE INPUT: true; the input reads as it did. -/
def jstringBackSpec : ChangeSpec := { name := "jstringBack", fn := fun _ => fun
  | [d1, d2, d3] => { results := [.lit (.bool true)], args := [d1, d2, d3] }
  | _ => none }
def jstringBackRow : OpenClaim := { program := "yteakcfgjjlocjaadoor", sum := "0ebe29da836153fd93fcce6555400676ae7cda41abafedc2c7665fe8a6d583a3", func := "truchman/truchmanlaw10.JstringBack", spec := "jstringBack", unfollowed := true, recurses := true, named := ["truchman/utf.heads"], apart := false, laid := [("truchman/utf.heads", laid_truchman_utf_heads)] }
def JstringBackSaid : Prop := jstringBackRow.holds Tryd.pinned (OpenSpec.ofChange jstringBackSpec)

/-- ITS FALSE NEIGHBOUR: 'it returns false'. Refute it at one input. -/
def jstringBackWrong : ChangeSpec := { name := "jstringBack", fn := fun _ => fun
  | [d1, d2, d3] => { results := [.lit (.bool false)], args := [d1, d2, d3] }
  | _ => none }
def JstringBackWrongFalsely : Prop := jstringBackRow.holds Tryd.pinned (OpenSpec.ofChange jstringBackWrong)

/-- 'truchmanlaw10.JstringOne': WHATEVER THE INPUT: true; the input reads as it did. -/
def jstringOneSpec : ChangeSpec := { name := "jstringOne", fn := fun _ => fun
  | [d1, d2] => { results := [.lit (.bool true)], args := [d1, d2] }
  | _ => none }
def jstringOneRow : OpenClaim := { program := "yteakcfgjjlocjaadoor", sum := "0ebe29da836153fd93fcce6555400676ae7cda41abafedc2c7665fe8a6d583a3", func := "truchman/truchmanlaw10.JstringOne", spec := "jstringOne", unfollowed := true, recurses := true, named := ["truchman/utf.heads"], apart := false, laid := [("truchman/utf.heads", laid_truchman_utf_heads)] }
def JstringOneSaid : Prop := jstringOneRow.holds Tryd.pinned (OpenSpec.ofChange jstringOneSpec)

/-- ITS FALSE NEIGHBOUR: 'it returns false'. Refute it at one input. -/
def jstringOneWrong : ChangeSpec := { name := "jstringOne", fn := fun _ => fun
  | [d1, d2] => { results := [.lit (.bool false)], args := [d1, d2] }
  | _ => none }
def JstringOneWrongFalsely : Prop := jstringOneRow.holds Tryd.pinned (OpenSpec.ofChange jstringOneWrong)

/- THE SECOND FORM. 'bulk': how many values and letters a reading holds, each counted each time it is reached (what is shared counts as often as it is met; a slice's spare places count too). A statement '..UptoSaid' is the law's where the arguments, and the package variables that the reading takes, are together of bulk at most 1048576: NARROWER than '..Said'. Prove '..Said' where nothing that the law and all that it calls make is longer than what came in: it says more and counts as full. Else prove '..UptoSaid'. A law counts once. -/
mutual
def uptoBulk {H : Type} : DataW H → Nat
  | .lit (.string bytes) => bytes.length + 1
  | .lit _ => 1
  | .nil => 1
  | .ptr d => uptoBulk d + 1
  | .slice elems spare => uptoBulkAll elems + uptoBulkAll spare + 1
  | .agg parts => uptoBulkAll parts + 1
  | .iface _ d => uptoBulk d + 1
  | .map entries => uptoBulkEntries entries + 1
  | .held _ => 1
def uptoBulkAll {H : Type} : List (DataW H) → Nat
  | [] => 0
  | d :: r => uptoBulk d + uptoBulkAll r
def uptoBulkEntries {H : Type} : List (Lit × DataW H) → Nat
  | [] => 0
  | x :: r => uptoBulkEntry x + uptoBulkEntries r
def uptoBulkEntry {H : Type} : Lit × DataW H → Nat
  | (.string bytes, d) => bytes.length + uptoBulk d + 1
  | (_, d) => uptoBulk d + 1
 end
def uptoSmall : (H : Type) → List (DataW H) → Bool := fun _ ds => decide (uptoBulkAll ds ≤ 1048576)
def OpenSpec.upto (s : _root_.Go.ChangeSpec) : _root_.Go.OpenSpec := { _root_.Go.OpenSpec.ofChange s with cond := some uptoSmall }

/-- 'truchmanlaw10.JstringReads', WHERE WHAT IT READS IS OF BULK AT MOST 1048576: true; the input reads as it did. -/
def jstringReadsUptoRow : OpenClaim := { program := "yteakcfgjjlocjaadoor", sum := "0ebe29da836153fd93fcce6555400676ae7cda41abafedc2c7665fe8a6d583a3", func := "truchman/truchmanlaw10.JstringReads", spec := "jstringReads", unfollowed := true, recurses := true, named := ["truchman/utf.heads"], apart := false, laid := [("truchman/utf.heads", laid_truchman_utf_heads)], narrowed := true }
def JstringReadsUptoSaid : Prop := jstringReadsUptoRow.holds Tryd.pinned (OpenSpec.upto jstringReadsSpec)

/-- 'truchmanlaw10.JstringBack', WHERE WHAT IT READS IS OF BULK AT MOST 1048576: true; the input reads as it did. -/
def jstringBackUptoRow : OpenClaim := { program := "yteakcfgjjlocjaadoor", sum := "0ebe29da836153fd93fcce6555400676ae7cda41abafedc2c7665fe8a6d583a3", func := "truchman/truchmanlaw10.JstringBack", spec := "jstringBack", unfollowed := true, recurses := true, named := ["truchman/utf.heads"], apart := false, laid := [("truchman/utf.heads", laid_truchman_utf_heads)], narrowed := true }
def JstringBackUptoSaid : Prop := jstringBackUptoRow.holds Tryd.pinned (OpenSpec.upto jstringBackSpec)

/-- 'truchmanlaw10.JstringOne', WHERE WHAT IT READS IS OF BULK AT MOST 1048576: true; the input reads as it did. -/
def jstringOneUptoRow : OpenClaim := { program := "yteakcfgjjlocjaadoor", sum := "0ebe29da836153fd93fcce6555400676ae7cda41abafedc2c7665fe8a6d583a3", func := "truchman/truchmanlaw10.JstringOne", spec := "jstringOne", unfollowed := true, recurses := true, named := ["truchman/utf.heads"], apart := false, laid := [("truchman/utf.heads", laid_truchman_utf_heads)], narrowed := true }
def JstringOneUptoSaid : Prop := jstringOneUptoRow.holds Tryd.pinned (OpenSpec.upto jstringOneSpec)

end Rows
end Go.Proofs.YteakcfgjjlocjaaDoor
