/-
  NARROWER THAN 'FOR EVERY INPUT', by the rows' own cells (each row's printed sentence says how): PreadAll: laid · PreadBack: laid · PreadJoins: laid.
  DERIVED. THE GIVEN ROWS OF THIS SEAT. 3 by the template 'for every input the law returns true; each argument reads behind the call as it read before'; 0 by the template 'total and deterministic' (their statements: YtlfelhhghomglaaDoorTotals.lean).
  GIVEN WITH THE SEED: the statements are not yours to turn. If you find one false, say at which input.
  Laid BY PROGRAM, IN A SANDBOX (cutbox-rows.mjs): the forced cells as the released guide's own fill.sh prints them over the translation 09933a1b71350320… (all of the seat's roots in one cut). By AI agents, Wed Nov 11 2026. No macro, syntax, notation, axiom, sorry.
-/
import Derived.Test.YtlfelhhghomglaaDoorChecked
import GoSem.Claim
import GoSem.ClaimJoined
import GoSem.ClaimMapViews
import Derived.JoinedTies
import Derived.KernelRfl
namespace Go.Proofs.YtlfelhhghomglaaDoor
/- THE CELL 'sum', in the pinned program and in every row, IS THE sha256 OF THE DUMP (.gsa) THAT YtlfelhhghomglaaDoorProg.lean LOADS. Nothing in Lean hashes anything: it is a label: what it is worth is what the hold of that sum in a sandbox is worth. -/
noncomputable def Tryd.pinned : Pinned := { name := "ytlfelhhghomglaadoor", sum := "09933a1b71350320e3e8625b4563cf55def59be3c5f629fb1bed4763186f65aa", checked := Tryd.checked }
namespace Rows
def none {H : Type} : Left H := { results := [], args := [] }

/- WHAT THE LISTED PACKAGE-LEVEL VARIABLES READ AS WHEN THE CALL BEGINS. Each datum BY PROGRAM (the guide's laid-datum.mjs) off the statement by which the dump's own 'gosem.cut.vars' lays the variable. In a bare row this is a premise. The card (YtlfelhhghomglaaDoorCards.lean) ties it to the program's text. -/
def laid_truchman_word_shifts {H : Type} : DataW H := .agg [.lit (.int .u64 0), .lit (.int .u64 8), .lit (.int .u64 16), .lit (.int .u64 24), .lit (.int .u64 32), .lit (.int .u64 40), .lit (.int .u64 48), .lit (.int .u64 56)]

/-- 'truchmanlaw17.PreadAll': WHATEVER THE INPUT: true; the input reads as it did. -/
def preadAllSpec : ChangeSpec := { name := "preadAll", fn := fun _ => fun
  | [d] => { results := [.lit (.bool true)], args := [d] }
  | _ => none }
def preadAllRow : OpenClaim := { program := "ytlfelhhghomglaadoor", sum := "09933a1b71350320e3e8625b4563cf55def59be3c5f629fb1bed4763186f65aa", func := "truchman/truchmanlaw17.PreadAll", spec := "preadAll", unfollowed := true, recurses := true, named := ["truchman/word.shifts"], apart := false, laid := [("truchman/word.shifts", laid_truchman_word_shifts)] }
def PreadAllSaid : Prop := preadAllRow.holds Tryd.pinned (OpenSpec.ofChange preadAllSpec)

/-- ITS FALSE NEIGHBOUR: 'it returns false'. Refute it at one input. -/
def preadAllWrong : ChangeSpec := { name := "preadAll", fn := fun _ => fun
  | [d] => { results := [.lit (.bool false)], args := [d] }
  | _ => none }
def PreadAllWrongFalsely : Prop := preadAllRow.holds Tryd.pinned (OpenSpec.ofChange preadAllWrong)

/-- 'truchmanlaw17.PreadBack': WHATEVER THE INPUT: true; the input reads as it did. -/
def preadBackSpec : ChangeSpec := { name := "preadBack", fn := fun _ => fun
  | [d1, d2] => { results := [.lit (.bool true)], args := [d1, d2] }
  | _ => none }
def preadBackRow : OpenClaim := { program := "ytlfelhhghomglaadoor", sum := "09933a1b71350320e3e8625b4563cf55def59be3c5f629fb1bed4763186f65aa", func := "truchman/truchmanlaw17.PreadBack", spec := "preadBack", unfollowed := true, recurses := true, named := ["truchman/word.shifts"], apart := false, laid := [("truchman/word.shifts", laid_truchman_word_shifts)] }
def PreadBackSaid : Prop := preadBackRow.holds Tryd.pinned (OpenSpec.ofChange preadBackSpec)

/-- ITS FALSE NEIGHBOUR: 'it returns false'. Refute it at one input. -/
def preadBackWrong : ChangeSpec := { name := "preadBack", fn := fun _ => fun
  | [d1, d2] => { results := [.lit (.bool false)], args := [d1, d2] }
  | _ => none }
def PreadBackWrongFalsely : Prop := preadBackRow.holds Tryd.pinned (OpenSpec.ofChange preadBackWrong)

/-- 'truchmanlaw17.PreadJoins': WHATEVER THE INPUT: true; the input reads as it did. -/
def preadJoinsSpec : ChangeSpec := { name := "preadJoins", fn := fun _ => fun
  | [d1, d2] => { results := [.lit (.bool true)], args := [d1, d2] }
  | _ => none }
def preadJoinsRow : OpenClaim := { program := "ytlfelhhghomglaadoor", sum := "09933a1b71350320e3e8625b4563cf55def59be3c5f629fb1bed4763186f65aa", func := "truchman/truchmanlaw17.PreadJoins", spec := "preadJoins", unfollowed := true, recurses := true, named := ["truchman/word.shifts"], apart := false, laid := [("truchman/word.shifts", laid_truchman_word_shifts)] }
def PreadJoinsSaid : Prop := preadJoinsRow.holds Tryd.pinned (OpenSpec.ofChange preadJoinsSpec)

/-- ITS FALSE NEIGHBOUR: 'it returns false'. Refute it at one input. -/
def preadJoinsWrong : ChangeSpec := { name := "preadJoins", fn := fun _ => fun
  | [d1, d2] => { results := [.lit (.bool false)], args := [d1, d2] }
  | _ => none }
def PreadJoinsWrongFalsely : Prop := preadJoinsRow.holds Tryd.pinned (OpenSpec.ofChange preadJoinsWrong)

/- THE SECOND FORM. 'bulk': how many values and letters a reading holds, each counted each time it is reached (what is shared counts as often as it is met; a slice's spare places count too). A statement '..UptoSaid' is the law's where the arguments, and the package variables that the reading takes, are together of bulk at most 1048576: NARROWER than '..Said'. Prove '..Said' where nothing that the law and all that it calls make is longer than what came in: it says more and counts as full. Else prove '..UptoSaid'. A law counts once. -/
mutual
def uptoBulk {H : Type} : DataW H → Nat
  | .lit (.string bytes) => bytes.length + 1
  | .lit _ => 1
  | .nil => 1
  | .ptr d => uptoBulk d + 1
  | .slice elems spare => uptoBulkAll elems + uptoBulkAll spare + 1
  | .agg parts => uptoBulkAll parts + 1
  | .iface _ d => uptoBulk d + 1
  | .map entries => uptoBulkEntries entries + 1
  | .held _ => 1
def uptoBulkAll {H : Type} : List (DataW H) → Nat
  | [] => 0
  | d :: r => uptoBulk d + uptoBulkAll r
def uptoBulkEntries {H : Type} : List (Lit × DataW H) → Nat
  | [] => 0
  | x :: r => uptoBulkEntry x + uptoBulkEntries r
def uptoBulkEntry {H : Type} : Lit × DataW H → Nat
  | (.string bytes, d) => bytes.length + uptoBulk d + 1
  | (_, d) => uptoBulk d + 1
 end
def uptoSmall : (H : Type) → List (DataW H) → Bool := fun _ ds => decide (uptoBulkAll ds ≤ 1048576)
def OpenSpec.upto (s : _root_.Go.ChangeSpec) : _root_.Go.OpenSpec := { _root_.Go.OpenSpec.ofChange s with cond := some uptoSmall }

/-- 'truchmanlaw17.PreadAll', WHERE WHAT IT READS IS OF BULK AT MOST 1048576: true; the input reads as it did. -/
def preadAllUptoRow : OpenClaim := { program := "ytlfelhhghomglaadoor", sum := "09933a1b71350320e3e8625b4563cf55def59be3c5f629fb1bed4763186f65aa", func := "truchman/truchmanlaw17.PreadAll", spec := "preadAll", unfollowed := true, recurses := true, named := ["truchman/word.shifts"], apart := false, laid := [("truchman/word.shifts", laid_truchman_word_shifts)], narrowed := true }
def PreadAllUptoSaid : Prop := preadAllUptoRow.holds Tryd.pinned (OpenSpec.upto preadAllSpec)

/-- 'truchmanlaw17.PreadBack', WHERE WHAT IT READS IS OF BULK AT MOST 1048576: true; the input reads as it did. -/
def preadBackUptoRow : OpenClaim := { program := "ytlfelhhghomglaadoor", sum := "09933a1b71350320e3e8625b4563cf55def59be3c5f629fb1bed4763186f65aa", func := "truchman/truchmanlaw17.PreadBack", spec := "preadBack", unfollowed := true, recurses := true, named := ["truchman/word.shifts"], apart := false, laid := [("truchman/word.shifts", laid_truchman_word_shifts)], narrowed := true }
def PreadBackUptoSaid : Prop := preadBackUptoRow.holds Tryd.pinned (OpenSpec.upto preadBackSpec)

/-- 'truchmanlaw17.PreadJoins', WHERE WHAT IT READS IS OF BULK AT MOST 1048576: true; the input reads as it did. -/
def preadJoinsUptoRow : OpenClaim := { program := "ytlfelhhghomglaadoor", sum := "09933a1b71350320e3e8625b4563cf55def59be3c5f629fb1bed4763186f65aa", func := "truchman/truchmanlaw17.PreadJoins", spec := "preadJoins", unfollowed := true, recurses := true, named := ["truchman/word.shifts"], apart := false, laid := [("truchman/word.shifts", laid_truchman_word_shifts)], narrowed := true }
def PreadJoinsUptoSaid : Prop := preadJoinsUptoRow.holds Tryd.pinned (OpenSpec.upto preadJoinsSpec)

end Rows
end Go.Proofs.YtlfelhhghomglaaDoor
