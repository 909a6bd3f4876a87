/-
  NARROWER THAN 'FOR EVERY INPUT', by the rows' own cells (each row's printed sentence says how): CwriteScript: laid · CwriteReads: laid · CwriteFields: laid.
  DERIVED. THE GIVEN ROWS OF THIS SEAT. 3 by the template 'for every input the law returns true; each argument reads behind the call as it read before'; 0 by the template 'total and deterministic' (their statements: YtmcklfndnjagiaaDoorTotals.lean).
  GIVEN WITH THE SEED: the statements are not yours to turn. If you find one false, say at which input.
  Laid BY PROGRAM, IN A SANDBOX (cutbox-rows.mjs): the forced cells as the released guide's own fill.sh prints them over the translation cbc7bd81d841894a… (all of the seat's roots in one cut). By AI agents, Wed Nov 11 2026. No macro, syntax, notation, axiom, sorry.
-/
import Derived.Test.YtmcklfndnjagiaaDoorChecked
import GoSem.Claim
import GoSem.ClaimJoined
import GoSem.ClaimMapViews
import Derived.JoinedTies
import Derived.KernelRfl
namespace Go.Proofs.YtmcklfndnjagiaaDoor
/- THE CELL 'sum', in the pinned program and in every row, IS THE sha256 OF THE DUMP (.gsa) THAT YtmcklfndnjagiaaDoorProg.lean LOADS. Nothing in Lean hashes anything: it is a label: what it is worth is what the hold of that sum in a sandbox is worth. -/
noncomputable def Tryd.pinned : Pinned := { name := "ytmcklfndnjagiaadoor", sum := "cbc7bd81d841894a811bbdde8c0c6a58723d4e93c229674ce9bdd9287372b726", checked := Tryd.checked }
namespace Rows
def none {H : Type} : Left H := { results := [], args := [] }

/- WHAT THE LISTED PACKAGE-LEVEL VARIABLES READ AS WHEN THE CALL BEGINS. Each datum BY PROGRAM (the guide's laid-datum.mjs) off the statement by which the dump's own 'gosem.cut.vars' lays the variable. In a bare row this is a premise. The card (YtmcklfndnjagiaaDoorCards.lean) ties it to the program's text. -/
def laid_truchman_word_shifts {H : Type} : DataW H := .agg [.lit (.int .u64 0), .lit (.int .u64 8), .lit (.int .u64 16), .lit (.int .u64 24), .lit (.int .u64 32), .lit (.int .u64 40), .lit (.int .u64 48), .lit (.int .u64 56)]

/-- 'truchmanlaw23.CwriteScript': WHATEVER THE INPUT: true; the input reads as it did. -/
def cwriteScriptSpec : ChangeSpec := { name := "cwriteScript", fn := fun _ => fun
  | [d] => { results := [.lit (.bool true)], args := [d] }
  | _ => none }
def cwriteScriptRow : OpenClaim := { program := "ytmcklfndnjagiaadoor", sum := "cbc7bd81d841894a811bbdde8c0c6a58723d4e93c229674ce9bdd9287372b726", func := "truchman/truchmanlaw23.CwriteScript", spec := "cwriteScript", recurses := true, named := ["truchman/word.shifts"], apart := false, laid := [("truchman/word.shifts", laid_truchman_word_shifts)] }
def CwriteScriptSaid : Prop := cwriteScriptRow.holds Tryd.pinned (OpenSpec.ofChange cwriteScriptSpec)

/-- ITS FALSE NEIGHBOUR: 'it returns false'. Refute it at one input. -/
def cwriteScriptWrong : ChangeSpec := { name := "cwriteScript", fn := fun _ => fun
  | [d] => { results := [.lit (.bool false)], args := [d] }
  | _ => none }
def CwriteScriptWrongFalsely : Prop := cwriteScriptRow.holds Tryd.pinned (OpenSpec.ofChange cwriteScriptWrong)

/-- 'truchmanlaw23.CwriteReads': WHATEVER THE INPUT: true; the input reads as it did. -/
def cwriteReadsSpec : ChangeSpec := { name := "cwriteReads", fn := fun _ => fun
  | [d] => { results := [.lit (.bool true)], args := [d] }
  | _ => none }
def cwriteReadsRow : OpenClaim := { program := "ytmcklfndnjagiaadoor", sum := "cbc7bd81d841894a811bbdde8c0c6a58723d4e93c229674ce9bdd9287372b726", func := "truchman/truchmanlaw23.CwriteReads", spec := "cwriteReads", unfollowed := true, recurses := true, named := ["truchman/word.shifts"], apart := false, laid := [("truchman/word.shifts", laid_truchman_word_shifts)] }
def CwriteReadsSaid : Prop := cwriteReadsRow.holds Tryd.pinned (OpenSpec.ofChange cwriteReadsSpec)

/-- ITS FALSE NEIGHBOUR: 'it returns false'. Refute it at one input. -/
def cwriteReadsWrong : ChangeSpec := { name := "cwriteReads", fn := fun _ => fun
  | [d] => { results := [.lit (.bool false)], args := [d] }
  | _ => none }
def CwriteReadsWrongFalsely : Prop := cwriteReadsRow.holds Tryd.pinned (OpenSpec.ofChange cwriteReadsWrong)

/-- 'truchmanlaw23.CwriteFields': WHATEVER THE INPUT: true; the input reads as it did. -/
def cwriteFieldsSpec : ChangeSpec := { name := "cwriteFields", fn := fun _ => fun
  | [d1, d2, d3, d4] => { results := [.lit (.bool true)], args := [d1, d2, d3, d4] }
  | _ => none }
def cwriteFieldsRow : OpenClaim := { program := "ytmcklfndnjagiaadoor", sum := "cbc7bd81d841894a811bbdde8c0c6a58723d4e93c229674ce9bdd9287372b726", func := "truchman/truchmanlaw23.CwriteFields", spec := "cwriteFields", unfollowed := true, recurses := true, named := ["truchman/word.shifts"], apart := false, laid := [("truchman/word.shifts", laid_truchman_word_shifts)] }
def CwriteFieldsSaid : Prop := cwriteFieldsRow.holds Tryd.pinned (OpenSpec.ofChange cwriteFieldsSpec)

/-- ITS FALSE NEIGHBOUR: 'it returns false'. Refute it at one input. -/
def cwriteFieldsWrong : ChangeSpec := { name := "cwriteFields", fn := fun _ => fun
  | [d1, d2, d3, d4] => { results := [.lit (.bool false)], args := [d1, d2, d3, d4] }
  | _ => none }
def CwriteFieldsWrongFalsely : Prop := cwriteFieldsRow.holds Tryd.pinned (OpenSpec.ofChange cwriteFieldsWrong)

/- THE SECOND FORM. 'bulk': how many values and letters a reading holds, each counted each time it is reached (what is shared counts as often as it is met; a slice's spare places count too). A statement '..UptoSaid' is the law's where the arguments, and the package variables that the reading takes, are together of bulk at most 1048576: NARROWER than '..Said'. Prove '..Said' where nothing that the law and all that it calls make is longer than what came in: it says more and counts as full. Else prove '..UptoSaid'. A law counts once. -/
mutual
def uptoBulk {H : Type} : DataW H → Nat
  | .lit (.string bytes) => bytes.length + 1
  | .lit _ => 1
  | .nil => 1
  | .ptr d => uptoBulk d + 1
  | .slice elems spare => uptoBulkAll elems + uptoBulkAll spare + 1
  | .agg parts => uptoBulkAll parts + 1
  | .iface _ d => uptoBulk d + 1
  | .map entries => uptoBulkEntries entries + 1
  | .held _ => 1
def uptoBulkAll {H : Type} : List (DataW H) → Nat
  | [] => 0
  | d :: r => uptoBulk d + uptoBulkAll r
def uptoBulkEntries {H : Type} : List (Lit × DataW H) → Nat
  | [] => 0
  | x :: r => uptoBulkEntry x + uptoBulkEntries r
def uptoBulkEntry {H : Type} : Lit × DataW H → Nat
  | (.string bytes, d) => bytes.length + uptoBulk d + 1
  | (_, d) => uptoBulk d + 1
 end
def uptoSmall : (H : Type) → List (DataW H) → Bool := fun _ ds => decide (uptoBulkAll ds ≤ 1048576)
def OpenSpec.upto (s : _root_.Go.ChangeSpec) : _root_.Go.OpenSpec := { _root_.Go.OpenSpec.ofChange s with cond := some uptoSmall }

/-- 'truchmanlaw23.CwriteScript', WHERE WHAT IT READS IS OF BULK AT MOST 1048576: true; the input reads as it did. -/
def cwriteScriptUptoRow : OpenClaim := { program := "ytmcklfndnjagiaadoor", sum := "cbc7bd81d841894a811bbdde8c0c6a58723d4e93c229674ce9bdd9287372b726", func := "truchman/truchmanlaw23.CwriteScript", spec := "cwriteScript", recurses := true, named := ["truchman/word.shifts"], apart := false, laid := [("truchman/word.shifts", laid_truchman_word_shifts)], narrowed := true }
def CwriteScriptUptoSaid : Prop := cwriteScriptUptoRow.holds Tryd.pinned (OpenSpec.upto cwriteScriptSpec)

/-- 'truchmanlaw23.CwriteReads', WHERE WHAT IT READS IS OF BULK AT MOST 1048576: true; the input reads as it did. -/
def cwriteReadsUptoRow : OpenClaim := { program := "ytmcklfndnjagiaadoor", sum := "cbc7bd81d841894a811bbdde8c0c6a58723d4e93c229674ce9bdd9287372b726", func := "truchman/truchmanlaw23.CwriteReads", spec := "cwriteReads", unfollowed := true, recurses := true, named := ["truchman/word.shifts"], apart := false, laid := [("truchman/word.shifts", laid_truchman_word_shifts)], narrowed := true }
def CwriteReadsUptoSaid : Prop := cwriteReadsUptoRow.holds Tryd.pinned (OpenSpec.upto cwriteReadsSpec)

/-- 'truchmanlaw23.CwriteFields', WHERE WHAT IT READS IS OF BULK AT MOST 1048576: true; the input reads as it did. -/
def cwriteFieldsUptoRow : OpenClaim := { program := "ytmcklfndnjagiaadoor", sum := "cbc7bd81d841894a811bbdde8c0c6a58723d4e93c229674ce9bdd9287372b726", func := "truchman/truchmanlaw23.CwriteFields", spec := "cwriteFields", unfollowed := true, recurses := true, named := ["truchman/word.shifts"], apart := false, laid := [("truchman/word.shifts", laid_truchman_word_shifts)], narrowed := true }
def CwriteFieldsUptoSaid : Prop := cwriteFieldsUptoRow.holds Tryd.pinned (OpenSpec.upto cwriteFieldsSpec)

end Rows
end Go.Proofs.YtmcklfndnjagiaaDoor
