/-
  NARROWER THAN 'FOR EVERY INPUT', by the rows' own cells (each row's printed sentence says how): JtokenAll: laid · JtokenBlanks: laid · JtokenPuts: laid.
  DERIVED. THE GIVEN ROWS OF THIS SEAT. 3 by the template 'for every input the law returns true; each argument reads behind the call as it read before'; 0 by the template 'total and deterministic' (their statements: YticlijjkeeejpaaDoorTotals.lean).
  GIVEN WITH THE SEED: the statements are not yours to turn. If you find one false, say at which input.
  Laid BY PROGRAM, IN A SANDBOX (cutbox-rows.mjs): the forced cells as the released guide's own fill.sh prints them over the translation a9e3fe5f71830a1e… (all of the seat's roots in one cut). By AI agents, Wed Nov 11 2026. No macro, syntax, notation, axiom, sorry.
-/
import Derived.Test.YticlijjkeeejpaaDoorChecked
import GoSem.Claim
import GoSem.ClaimJoined
import GoSem.ClaimMapViews
import Derived.JoinedTies
import Derived.KernelRfl
namespace Go.Proofs.YticlijjkeeejpaaDoor
/- THE CELL 'sum', in the pinned program and in every row, IS THE sha256 OF THE DUMP (.gsa) THAT YticlijjkeeejpaaDoorProg.lean LOADS. Nothing in Lean hashes anything: it is a label: what it is worth is what the hold of that sum in a sandbox is worth. -/
noncomputable def Tryd.pinned : Pinned := { name := "yticlijjkeeejpaadoor", sum := "a9e3fe5f71830a1e0bcd75d6f80d5bc1fe33d23cb11ecf7210b52ec767974a40", checked := Tryd.checked }
namespace Rows
def none {H : Type} : Left H := { results := [], args := [] }

/- WHAT THE LISTED PACKAGE-LEVEL VARIABLES READ AS WHEN THE CALL BEGINS. Each datum BY PROGRAM (the guide's laid-datum.mjs) off the statement by which the dump's own 'gosem.cut.vars' lays the variable. In a bare row this is a premise. The card (YticlijjkeeejpaaDoorCards.lean) ties it to the program's text. -/
def laid_truchman_utf_heads {H : Type} : DataW H := .agg [.lit (.int .u8 0), .lit (.int .u8 0), .lit (.int .u8 192), .lit (.int .u8 224), .lit (.int .u8 240)]

/-- 'truchmanlaw12.JtokenAll': WHATEVER THE INPUT: true; the input reads as it did. -/
def jtokenAllSpec : ChangeSpec := { name := "jtokenAll", fn := fun _ => fun
  | [d] => { results := [.lit (.bool true)], args := [d] }
  | _ => none }
def jtokenAllRow : OpenClaim := { program := "yticlijjkeeejpaadoor", sum := "a9e3fe5f71830a1e0bcd75d6f80d5bc1fe33d23cb11ecf7210b52ec767974a40", func := "truchman/truchmanlaw12.JtokenAll", spec := "jtokenAll", inPlace := ["internal/bytealg.IndexByteString"], unfollowed := true, recurses := true, named := ["truchman/utf.heads"], apart := false, laid := [("truchman/utf.heads", laid_truchman_utf_heads)] }
def JtokenAllSaid : Prop := jtokenAllRow.holds Tryd.pinned (OpenSpec.ofChange jtokenAllSpec)

/-- ITS FALSE NEIGHBOUR: 'it returns false'. Refute it at one input. -/
def jtokenAllWrong : ChangeSpec := { name := "jtokenAll", fn := fun _ => fun
  | [d] => { results := [.lit (.bool false)], args := [d] }
  | _ => none }
def JtokenAllWrongFalsely : Prop := jtokenAllRow.holds Tryd.pinned (OpenSpec.ofChange jtokenAllWrong)

/-- 'truchmanlaw12.JtokenBlanks': WHATEVER THE INPUT: true; the input reads as it did. -/
def jtokenBlanksSpec : ChangeSpec := { name := "jtokenBlanks", fn := fun _ => fun
  | [d1, d2] => { results := [.lit (.bool true)], args := [d1, d2] }
  | _ => none }
def jtokenBlanksRow : OpenClaim := { program := "yticlijjkeeejpaadoor", sum := "a9e3fe5f71830a1e0bcd75d6f80d5bc1fe33d23cb11ecf7210b52ec767974a40", func := "truchman/truchmanlaw12.JtokenBlanks", spec := "jtokenBlanks", inPlace := ["internal/bytealg.IndexByteString"], unfollowed := true, recurses := true, named := ["truchman/utf.heads"], apart := false, laid := [("truchman/utf.heads", laid_truchman_utf_heads)] }
def JtokenBlanksSaid : Prop := jtokenBlanksRow.holds Tryd.pinned (OpenSpec.ofChange jtokenBlanksSpec)

/-- ITS FALSE NEIGHBOUR: 'it returns false'. Refute it at one input. -/
def jtokenBlanksWrong : ChangeSpec := { name := "jtokenBlanks", fn := fun _ => fun
  | [d1, d2] => { results := [.lit (.bool false)], args := [d1, d2] }
  | _ => none }
def JtokenBlanksWrongFalsely : Prop := jtokenBlanksRow.holds Tryd.pinned (OpenSpec.ofChange jtokenBlanksWrong)

/-- 'truchmanlaw12.JtokenPuts': WHATEVER THE INPUT: true; the input reads as it did. -/
def jtokenPutsSpec : ChangeSpec := { name := "jtokenPuts", fn := fun _ => fun
  | [d1, d2] => { results := [.lit (.bool true)], args := [d1, d2] }
  | _ => none }
def jtokenPutsRow : OpenClaim := { program := "yticlijjkeeejpaadoor", sum := "a9e3fe5f71830a1e0bcd75d6f80d5bc1fe33d23cb11ecf7210b52ec767974a40", func := "truchman/truchmanlaw12.JtokenPuts", spec := "jtokenPuts", inPlace := ["internal/bytealg.IndexByteString"], unfollowed := true, recurses := true, named := ["truchman/utf.heads"], apart := false, laid := [("truchman/utf.heads", laid_truchman_utf_heads)] }
def JtokenPutsSaid : Prop := jtokenPutsRow.holds Tryd.pinned (OpenSpec.ofChange jtokenPutsSpec)

/-- ITS FALSE NEIGHBOUR: 'it returns false'. Refute it at one input. -/
def jtokenPutsWrong : ChangeSpec := { name := "jtokenPuts", fn := fun _ => fun
  | [d1, d2] => { results := [.lit (.bool false)], args := [d1, d2] }
  | _ => none }
def JtokenPutsWrongFalsely : Prop := jtokenPutsRow.holds Tryd.pinned (OpenSpec.ofChange jtokenPutsWrong)

/- THE SECOND FORM. 'bulk': how many values and letters a reading holds, each counted each time it is reached (what is shared counts as often as it is met; a slice's spare places count too). A statement '..UptoSaid' is the law's where the arguments, and the package variables that the reading takes, are together of bulk at most 1048576: NARROWER than '..Said'. Prove '..Said' where nothing that the law and all that it calls make is longer than what came in: it says more and counts as full. Else prove '..UptoSaid'. A law counts once. -/
mutual
def uptoBulk {H : Type} : DataW H → Nat
  | .lit (.string bytes) => bytes.length + 1
  | .lit _ => 1
  | .nil => 1
  | .ptr d => uptoBulk d + 1
  | .slice elems spare => uptoBulkAll elems + uptoBulkAll spare + 1
  | .agg parts => uptoBulkAll parts + 1
  | .iface _ d => uptoBulk d + 1
  | .map entries => uptoBulkEntries entries + 1
  | .held _ => 1
def uptoBulkAll {H : Type} : List (DataW H) → Nat
  | [] => 0
  | d :: r => uptoBulk d + uptoBulkAll r
def uptoBulkEntries {H : Type} : List (Lit × DataW H) → Nat
  | [] => 0
  | x :: r => uptoBulkEntry x + uptoBulkEntries r
def uptoBulkEntry {H : Type} : Lit × DataW H → Nat
  | (.string bytes, d) => bytes.length + uptoBulk d + 1
  | (_, d) => uptoBulk d + 1
 end
def uptoSmall : (H : Type) → List (DataW H) → Bool := fun _ ds => decide (uptoBulkAll ds ≤ 1048576)
def OpenSpec.upto (s : _root_.Go.ChangeSpec) : _root_.Go.OpenSpec := { _root_.Go.OpenSpec.ofChange s with cond := some uptoSmall }

/-- 'truchmanlaw12.JtokenAll', WHERE WHAT IT READS IS OF BULK AT MOST 1048576: true; the input reads as it did. -/
def jtokenAllUptoRow : OpenClaim := { program := "yticlijjkeeejpaadoor", sum := "a9e3fe5f71830a1e0bcd75d6f80d5bc1fe33d23cb11ecf7210b52ec767974a40", func := "truchman/truchmanlaw12.JtokenAll", spec := "jtokenAll", inPlace := ["internal/bytealg.IndexByteString"], unfollowed := true, recurses := true, named := ["truchman/utf.heads"], apart := false, laid := [("truchman/utf.heads", laid_truchman_utf_heads)], narrowed := true }
def JtokenAllUptoSaid : Prop := jtokenAllUptoRow.holds Tryd.pinned (OpenSpec.upto jtokenAllSpec)

/-- 'truchmanlaw12.JtokenBlanks', WHERE WHAT IT READS IS OF BULK AT MOST 1048576: true; the input reads as it did. -/
def jtokenBlanksUptoRow : OpenClaim := { program := "yticlijjkeeejpaadoor", sum := "a9e3fe5f71830a1e0bcd75d6f80d5bc1fe33d23cb11ecf7210b52ec767974a40", func := "truchman/truchmanlaw12.JtokenBlanks", spec := "jtokenBlanks", inPlace := ["internal/bytealg.IndexByteString"], unfollowed := true, recurses := true, named := ["truchman/utf.heads"], apart := false, laid := [("truchman/utf.heads", laid_truchman_utf_heads)], narrowed := true }
def JtokenBlanksUptoSaid : Prop := jtokenBlanksUptoRow.holds Tryd.pinned (OpenSpec.upto jtokenBlanksSpec)

/-- 'truchmanlaw12.JtokenPuts', WHERE WHAT IT READS IS OF BULK AT MOST 1048576: true; the input reads as it did. -/
def jtokenPutsUptoRow : OpenClaim := { program := "yticlijjkeeejpaadoor", sum := "a9e3fe5f71830a1e0bcd75d6f80d5bc1fe33d23cb11ecf7210b52ec767974a40", func := "truchman/truchmanlaw12.JtokenPuts", spec := "jtokenPuts", inPlace := ["internal/bytealg.IndexByteString"], unfollowed := true, recurses := true, named := ["truchman/utf.heads"], apart := false, laid := [("truchman/utf.heads", laid_truchman_utf_heads)], narrowed := true }
def JtokenPutsUptoSaid : Prop := jtokenPutsUptoRow.holds Tryd.pinned (OpenSpec.upto jtokenPutsSpec)

end Rows
end Go.Proofs.YticlijjkeeejpaaDoor
