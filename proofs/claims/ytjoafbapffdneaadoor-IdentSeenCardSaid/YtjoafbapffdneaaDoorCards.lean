/-
  DERIVED. GIVEN WITH THE SEED: THE CARDS: each row of YtjoafbapffdneaaDoorRows.lean that lists a variable, with what it lists TIED to the program's text (the seventh form; the later family's looks); each row that meets fmt, with fmt's text TOLD by the authors' own Lean function (tested against real Go, not proved from fmt's source: count such statements apart). THE CARD IS WHAT COUNTS. Prove the row's statement (the work); the ties are given (YtjoafbapffdneaaDoorTie.lean); close each card by the builder's one call (the guide's Derived/Test/ToyasCard.lean, 'card_holds'). Laid BY PROGRAM, IN A SANDBOX (cutbox-door.mjs). By AI agents, Wed Nov 11 2026. No macro, syntax, notation, axiom, sorry.
-/
import Derived.Test.YtjoafbapffdneaaDoorRows
import GoSem.ClaimSeven
namespace Go.Proofs.YtjoafbapffdneaaDoor
namespace Rows

/-- THE TIED CARD OF 'truchmanlaw07.IdentReads'. -/
def identReadsCard : Claim7 := { stood := { row := identReadsRow, standIns := [], harness := (true, "cb29f731ff027baf8e48e0be642c045905c8b930a09c10ce62dd4a8e9e72fef3"), looks := false }, kinds := [], alts := [], laidByText := true, laidKinds := [.data], laidTests := true, laidLooks := .later }
def IdentReadsCardSaid : Prop := Claim7.holds Tryd.pinned (.plain (OpenSpec.ofChange identReadsSpec)) identReadsCard

/-- THE TIED CARD OF 'truchmanlaw07.IdentNumbers'. -/
def identNumbersCard : Claim7 := { stood := { row := identNumbersRow, standIns := [], harness := (true, "cb29f731ff027baf8e48e0be642c045905c8b930a09c10ce62dd4a8e9e72fef3"), looks := false }, kinds := [], alts := [], laidByText := true, laidKinds := [.data], laidTests := true, laidLooks := .later }
def IdentNumbersCardSaid : Prop := Claim7.holds Tryd.pinned (.plain (OpenSpec.ofChange identNumbersSpec)) identNumbersCard

/-- THE TIED CARD OF 'truchmanlaw07.IdentSeen'. -/
def identSeenCard : Claim7 := { stood := { row := identSeenRow, standIns := [], harness := (true, "cb29f731ff027baf8e48e0be642c045905c8b930a09c10ce62dd4a8e9e72fef3"), looks := false }, kinds := [], alts := [], laidByText := true, laidKinds := [.data], laidTests := true, laidLooks := .later }
def IdentSeenCardSaid : Prop := Claim7.holds Tryd.pinned (.plain (OpenSpec.ofChange identSeenSpec)) identSeenCard

/-- THE SECOND FORM's CARD OF 'truchmanlaw07.IdentReads'. -/
def identReadsUptoCard : Claim7 := { stood := { row := identReadsUptoRow, standIns := [], harness := (true, "cb29f731ff027baf8e48e0be642c045905c8b930a09c10ce62dd4a8e9e72fef3"), looks := false }, kinds := [], alts := [], laidByText := true, laidKinds := [.data], laidTests := true, laidLooks := .later }
def IdentReadsUptoCardSaid : Prop := Claim7.holds Tryd.pinned (.plain (OpenSpec.upto identReadsSpec)) identReadsUptoCard

/-- THE SECOND FORM's CARD OF 'truchmanlaw07.IdentNumbers'. -/
def identNumbersUptoCard : Claim7 := { stood := { row := identNumbersUptoRow, standIns := [], harness := (true, "cb29f731ff027baf8e48e0be642c045905c8b930a09c10ce62dd4a8e9e72fef3"), looks := false }, kinds := [], alts := [], laidByText := true, laidKinds := [.data], laidTests := true, laidLooks := .later }
def IdentNumbersUptoCardSaid : Prop := Claim7.holds Tryd.pinned (.plain (OpenSpec.upto identNumbersSpec)) identNumbersUptoCard

/-- THE SECOND FORM's CARD OF 'truchmanlaw07.IdentSeen'. -/
def identSeenUptoCard : Claim7 := { stood := { row := identSeenUptoRow, standIns := [], harness := (true, "cb29f731ff027baf8e48e0be642c045905c8b930a09c10ce62dd4a8e9e72fef3"), looks := false }, kinds := [], alts := [], laidByText := true, laidKinds := [.data], laidTests := true, laidLooks := .later }
def IdentSeenUptoCardSaid : Prop := Claim7.holds Tryd.pinned (.plain (OpenSpec.upto identSeenSpec)) identSeenUptoCard
end Rows
end Go.Proofs.YtjoafbapffdneaaDoor
