/-
  DERIVED. GIVEN WITH THE SEED: THE CARDS: each row of YtfighopfgllneaaDoorRows.lean that lists a variable, with what it lists TIED to the program's text (the seventh form; the later family's looks); each row that meets fmt, with fmt's text TOLD by the authors' own Lean function (tested against real Go, not proved from fmt's source: count such statements apart). THE CARD IS WHAT COUNTS. Prove the row's statement (the work); the ties are given (YtfighopfgllneaaDoorTie.lean); close each card by the builder's one call (the guide's Derived/Test/ToyasCard.lean, 'card_holds'). Laid BY PROGRAM, IN A SANDBOX (cutbox-door.mjs). By AI agents, Wed Nov 11 2026. No macro, syntax, notation, axiom, sorry.
-/
import Derived.Test.YtfighopfgllneaaDoorRows
import GoSem.ClaimSeven
namespace Go.Proofs.YtfighopfgllneaaDoor
namespace Rows

/-- THE TIED CARD OF 'truchmanlaw13.JtreeReads'. -/
def jtreeReadsCard : Claim7 := { stood := { row := jtreeReadsRow, standIns := [], harness := (true, "2b9f2fa555ed1f6b43fff8ae775f379aeac928b8a8efab2bc89b45898754fe2d"), looks := true }, kinds := [], alts := [], laidByText := true, laidKinds := [.data], laidTests := true, laidLooks := .later }
def JtreeReadsCardSaid : Prop := Claim7.holds Tryd.pinned (.plain (OpenSpec.ofChange jtreeReadsSpec)) jtreeReadsCard

/-- THE TIED CARD OF 'truchmanlaw13.JtreeDeep'. -/
def jtreeDeepCard : Claim7 := { stood := { row := jtreeDeepRow, standIns := [], harness := (true, "2b9f2fa555ed1f6b43fff8ae775f379aeac928b8a8efab2bc89b45898754fe2d"), looks := true }, kinds := [], alts := [], laidByText := true, laidKinds := [.data], laidTests := true, laidLooks := .later }
def JtreeDeepCardSaid : Prop := Claim7.holds Tryd.pinned (.plain (OpenSpec.ofChange jtreeDeepSpec)) jtreeDeepCard

/-- THE SECOND FORM's CARD OF 'truchmanlaw13.JtreeReads'. -/
def jtreeReadsUptoCard : Claim7 := { stood := { row := jtreeReadsUptoRow, standIns := [], harness := (true, "2b9f2fa555ed1f6b43fff8ae775f379aeac928b8a8efab2bc89b45898754fe2d"), looks := true }, kinds := [], alts := [], laidByText := true, laidKinds := [.data], laidTests := true, laidLooks := .later }
def JtreeReadsUptoCardSaid : Prop := Claim7.holds Tryd.pinned (.plain (OpenSpec.upto jtreeReadsSpec)) jtreeReadsUptoCard

/-- THE SECOND FORM's CARD OF 'truchmanlaw13.JtreeDeep'. -/
def jtreeDeepUptoCard : Claim7 := { stood := { row := jtreeDeepUptoRow, standIns := [], harness := (true, "2b9f2fa555ed1f6b43fff8ae775f379aeac928b8a8efab2bc89b45898754fe2d"), looks := true }, kinds := [], alts := [], laidByText := true, laidKinds := [.data], laidTests := true, laidLooks := .later }
def JtreeDeepUptoCardSaid : Prop := Claim7.holds Tryd.pinned (.plain (OpenSpec.upto jtreeDeepSpec)) jtreeDeepUptoCard
end Rows
end Go.Proofs.YtfighopfgllneaaDoor
