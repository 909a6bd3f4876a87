/-
  DERIVED. GIVEN WITH THE SEED: THE CARDS: each row of YtfighopfgllneaaGreatDoorRows.lean that lists a variable, with what it lists TIED to the program's text (the seventh form; the later family's looks); each row that meets fmt, with fmt's text TOLD by the authors' own Lean function (tested against real Go, not proved from fmt's source: count such statements apart). THE CARD IS WHAT COUNTS. Prove the row's statement (the work); the ties are given (YtfighopfgllneaaGreatDoorTie.lean); close each card by the builder's one call (the guide's Derived/Test/ToyasCard.lean, 'card_holds'). Laid BY PROGRAM, IN A SANDBOX (cutbox-door.mjs). By AI agents, Wed Nov 11 2026. No macro, syntax, notation, axiom, sorry.
-/
import Derived.Test.YtfighopfgllneaaGreatDoorRows
import GoSem.ClaimSeven
namespace Go.Proofs.YtfighopfgllneaaGreatDoor
namespace Rows

/-- THE TIED CARD OF 'truchmanlaw13.JtreeBack'. -/
def jtreeBackCard : Claim7 := { stood := { row := jtreeBackRow, standIns := [], harness := (true, "435655c6071bdd323ec7f27670f9f512d86a4d61555cdf5b6d575ee4182f50d9"), looks := true }, kinds := [], alts := [], laidByText := true, laidKinds := [.data], laidTests := true, laidLooks := .later }
def JtreeBackCardSaid : Prop := Claim7.holds Tryz.pinned (.plain (OpenSpec.ofChange jtreeBackSpec)) jtreeBackCard

/-- THE SECOND FORM's CARD OF 'truchmanlaw13.JtreeBack'. -/
def jtreeBackUptoCard : Claim7 := { stood := { row := jtreeBackUptoRow, standIns := [], harness := (true, "435655c6071bdd323ec7f27670f9f512d86a4d61555cdf5b6d575ee4182f50d9"), looks := true }, kinds := [], alts := [], laidByText := true, laidKinds := [.data], laidTests := true, laidLooks := .later }
def JtreeBackUptoCardSaid : Prop := Claim7.holds Tryz.pinned (.plain (OpenSpec.upto jtreeBackSpec)) jtreeBackUptoCard
end Rows
end Go.Proofs.YtfighopfgllneaaGreatDoor
