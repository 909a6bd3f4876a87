/-
  NARROWER THAN 'FOR EVERY INPUT', by the rows' own cells (each row's printed sentence says how): CreadStructs: laid · CreadItems: laid · CreadLast: laid.
  DERIVED. THE GIVEN ROWS OF THIS SEAT. 3 by the template 'for every input the law returns true; each argument reads behind the call as it read before'; 0 by the template 'total and deterministic' (their statements: YtmiagebcobcaiaaDoorTotals.lean).
  GIVEN WITH THE SEED: the statements are not yours to turn. If you find one false, say at which input.
  Laid BY PROGRAM, IN A SANDBOX (cutbox-rows.mjs): the forced cells as the released guide's own fill.sh prints them over the translation c95b4bf647185d40… (all of the seat's roots in one cut). By AI agents, Wed Nov 11 2026. No macro, syntax, notation, axiom, sorry.
-/
import Derived.Test.YtmiagebcobcaiaaDoorChecked
import GoSem.Claim
import GoSem.ClaimJoined
import GoSem.ClaimMapViews
import Derived.JoinedTies
import Derived.KernelRfl
namespace Go.Proofs.YtmiagebcobcaiaaDoor
/- THE CELL 'sum', in the pinned program and in every row, IS THE sha256 OF THE DUMP (.gsa) THAT YtmiagebcobcaiaaDoorProg.lean LOADS. Nothing in Lean hashes anything: it is a label: what it is worth is what the hold of that sum in a sandbox is worth. -/
noncomputable def Tryd.pinned : Pinned := { name := "ytmiagebcobcaiaadoor", sum := "c95b4bf647185d40e90d53e819899df277494426a7b7b16af1354ab32f28b698", checked := Tryd.checked }
namespace Rows
def none {H : Type} : Left H := { results := [], args := [] }

/- WHAT THE LISTED PACKAGE-LEVEL VARIABLES READ AS WHEN THE CALL BEGINS. Each datum BY PROGRAM (the guide's laid-datum.mjs) off the statement by which the dump's own 'gosem.cut.vars' lays the variable. In a bare row this is a premise. The card (YtmiagebcobcaiaaDoorCards.lean) ties it to the program's text. -/
def laid_truchman_word_shifts {H : Type} : DataW H := .agg [.lit (.int .u64 0), .lit (.int .u64 8), .lit (.int .u64 16), .lit (.int .u64 24), .lit (.int .u64 32), .lit (.int .u64 40), .lit (.int .u64 48), .lit (.int .u64 56)]

/-- 'truchmanlaw22.CreadStructs': WHATEVER THE INPUT: true; the input reads as it did. -/
def creadStructsSpec : ChangeSpec := { name := "creadStructs", fn := fun _ => fun
  | [d1, d2] => { results := [.lit (.bool true)], args := [d1, d2] }
  | _ => none }
def creadStructsRow : OpenClaim := { program := "ytmiagebcobcaiaadoor", sum := "c95b4bf647185d40e90d53e819899df277494426a7b7b16af1354ab32f28b698", func := "truchman/truchmanlaw22.CreadStructs", spec := "creadStructs", unfollowed := true, recurses := true, named := ["truchman/word.shifts"], apart := false, laid := [("truchman/word.shifts", laid_truchman_word_shifts)] }
def CreadStructsSaid : Prop := creadStructsRow.holds Tryd.pinned (OpenSpec.ofChange creadStructsSpec)

/-- ITS FALSE NEIGHBOUR: 'it returns false'. Refute it at one input. -/
def creadStructsWrong : ChangeSpec := { name := "creadStructs", fn := fun _ => fun
  | [d1, d2] => { results := [.lit (.bool false)], args := [d1, d2] }
  | _ => none }
def CreadStructsWrongFalsely : Prop := creadStructsRow.holds Tryd.pinned (OpenSpec.ofChange creadStructsWrong)

/-- 'truchmanlaw22.CreadItems': WHATEVER THE INPUT: true; the input reads as it did. -/
def creadItemsSpec : ChangeSpec := { name := "creadItems", fn := fun _ => fun
  | [d1, d2] => { results := [.lit (.bool true)], args := [d1, d2] }
  | _ => none }
def creadItemsRow : OpenClaim := { program := "ytmiagebcobcaiaadoor", sum := "c95b4bf647185d40e90d53e819899df277494426a7b7b16af1354ab32f28b698", func := "truchman/truchmanlaw22.CreadItems", spec := "creadItems", unfollowed := true, recurses := true, named := ["truchman/word.shifts"], apart := false, laid := [("truchman/word.shifts", laid_truchman_word_shifts)] }
def CreadItemsSaid : Prop := creadItemsRow.holds Tryd.pinned (OpenSpec.ofChange creadItemsSpec)

/-- ITS FALSE NEIGHBOUR: 'it returns false'. Refute it at one input. -/
def creadItemsWrong : ChangeSpec := { name := "creadItems", fn := fun _ => fun
  | [d1, d2] => { results := [.lit (.bool false)], args := [d1, d2] }
  | _ => none }
def CreadItemsWrongFalsely : Prop := creadItemsRow.holds Tryd.pinned (OpenSpec.ofChange creadItemsWrong)

/-- 'truchmanlaw22.CreadLast': WHATEVER THE INPUT: true; the input reads as it did. -/
def creadLastSpec : ChangeSpec := { name := "creadLast", fn := fun _ => fun
  | [d1, d2, d3] => { results := [.lit (.bool true)], args := [d1, d2, d3] }
  | _ => none }
def creadLastRow : OpenClaim := { program := "ytmiagebcobcaiaadoor", sum := "c95b4bf647185d40e90d53e819899df277494426a7b7b16af1354ab32f28b698", func := "truchman/truchmanlaw22.CreadLast", spec := "creadLast", unfollowed := true, recurses := true, named := ["truchman/word.shifts"], apart := false, laid := [("truchman/word.shifts", laid_truchman_word_shifts)] }
def CreadLastSaid : Prop := creadLastRow.holds Tryd.pinned (OpenSpec.ofChange creadLastSpec)

/-- ITS FALSE NEIGHBOUR: 'it returns false'. Refute it at one input. -/
def creadLastWrong : ChangeSpec := { name := "creadLast", fn := fun _ => fun
  | [d1, d2, d3] => { results := [.lit (.bool false)], args := [d1, d2, d3] }
  | _ => none }
def CreadLastWrongFalsely : Prop := creadLastRow.holds Tryd.pinned (OpenSpec.ofChange creadLastWrong)

/- THE SECOND FORM. 'bulk': how many values and letters a reading holds, each counted each time it is reached (what is shared counts as often as it is met; a slice's spare places count too). A statement '..UptoSaid' is the law's where the arguments, and the package variables that the reading takes, are together of bulk at most 1048576: NARROWER than '..Said'. Prove '..Said' where nothing that the law and all that it calls make is longer than what came in: it says more and counts as full. Else prove '..UptoSaid'. A law counts once. -/
mutual
def uptoBulk {H : Type} : DataW H → Nat
  | .lit (.string bytes) => bytes.length + 1
  | .lit _ => 1
  | .nil => 1
  | .ptr d => uptoBulk d + 1
  | .slice elems spare => uptoBulkAll elems + uptoBulkAll spare + 1
  | .agg parts => uptoBulkAll parts + 1
  | .iface _ d => uptoBulk d + 1
  | .map entries => uptoBulkEntries entries + 1
  | .held _ => 1
def uptoBulkAll {H : Type} : List (DataW H) → Nat
  | [] => 0
  | d :: r => uptoBulk d + uptoBulkAll r
def uptoBulkEntries {H : Type} : List (Lit × DataW H) → Nat
  | [] => 0
  | x :: r => uptoBulkEntry x + uptoBulkEntries r
def uptoBulkEntry {H : Type} : Lit × DataW H → Nat
  | (.string bytes, d) => bytes.length + uptoBulk d + 1
  | (_, d) => uptoBulk d + 1
 end
def uptoSmall : (H : Type) → List (DataW H) → Bool := fun _ ds => decide (uptoBulkAll ds ≤ 1048576)
def OpenSpec.upto (s : _root_.Go.ChangeSpec) : _root_.Go.OpenSpec := { _root_.Go.OpenSpec.ofChange s with cond := some uptoSmall }

/-- 'truchmanlaw22.CreadStructs', WHERE WHAT IT READS IS OF BULK AT MOST 1048576: true; the input reads as it did. -/
def creadStructsUptoRow : OpenClaim := { program := "ytmiagebcobcaiaadoor", sum := "c95b4bf647185d40e90d53e819899df277494426a7b7b16af1354ab32f28b698", func := "truchman/truchmanlaw22.CreadStructs", spec := "creadStructs", unfollowed := true, recurses := true, named := ["truchman/word.shifts"], apart := false, laid := [("truchman/word.shifts", laid_truchman_word_shifts)], narrowed := true }
def CreadStructsUptoSaid : Prop := creadStructsUptoRow.holds Tryd.pinned (OpenSpec.upto creadStructsSpec)

/-- 'truchmanlaw22.CreadItems', WHERE WHAT IT READS IS OF BULK AT MOST 1048576: true; the input reads as it did. -/
def creadItemsUptoRow : OpenClaim := { program := "ytmiagebcobcaiaadoor", sum := "c95b4bf647185d40e90d53e819899df277494426a7b7b16af1354ab32f28b698", func := "truchman/truchmanlaw22.CreadItems", spec := "creadItems", unfollowed := true, recurses := true, named := ["truchman/word.shifts"], apart := false, laid := [("truchman/word.shifts", laid_truchman_word_shifts)], narrowed := true }
def CreadItemsUptoSaid : Prop := creadItemsUptoRow.holds Tryd.pinned (OpenSpec.upto creadItemsSpec)

/-- 'truchmanlaw22.CreadLast', WHERE WHAT IT READS IS OF BULK AT MOST 1048576: true; the input reads as it did. -/
def creadLastUptoRow : OpenClaim := { program := "ytmiagebcobcaiaadoor", sum := "c95b4bf647185d40e90d53e819899df277494426a7b7b16af1354ab32f28b698", func := "truchman/truchmanlaw22.CreadLast", spec := "creadLast", unfollowed := true, recurses := true, named := ["truchman/word.shifts"], apart := false, laid := [("truchman/word.shifts", laid_truchman_word_shifts)], narrowed := true }
def CreadLastUptoSaid : Prop := creadLastUptoRow.holds Tryd.pinned (OpenSpec.upto creadLastSpec)

end Rows
end Go.Proofs.YtmiagebcobcaiaaDoor
