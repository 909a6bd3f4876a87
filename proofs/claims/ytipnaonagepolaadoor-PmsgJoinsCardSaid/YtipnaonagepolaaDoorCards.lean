/-
  DERIVED. GIVEN WITH THE SEED: THE CARDS: each row of YtipnaonagepolaaDoorRows.lean that lists a variable, with what it lists TIED to the program's text (the seventh form; the later family's looks); each row that meets fmt, with fmt's text TOLD by the authors' own Lean function (tested against real Go, not proved from fmt's source: count such statements apart). THE CARD IS WHAT COUNTS. Prove the row's statement (the work); the ties are given (YtipnaonagepolaaDoorTie.lean); close each card by the builder's one call (the guide's Derived/Test/ToyasCard.lean, 'card_holds'). Laid BY PROGRAM, IN A SANDBOX (cutbox-door.mjs). By AI agents, Wed Nov 11 2026. No macro, syntax, notation, axiom, sorry.
-/
import Derived.Test.YtipnaonagepolaaDoorRows
import GoSem.ClaimSeven
namespace Go.Proofs.YtipnaonagepolaaDoor
namespace Rows

/-- THE TIED CARD OF 'truchmanlaw18.PmsgTells'. -/
def pmsgTellsCard : Claim7 := { stood := { row := pmsgTellsRow, standIns := [], harness := (true, "050bceb18d8f57164ca0e15a6c80c654740144c1d75e319a48d7864404e91b02"), looks := false }, kinds := [], alts := [], laidByText := true, laidKinds := [.data], laidTests := true, laidLooks := .later }
def PmsgTellsCardSaid : Prop := Claim7.holds Tryd.pinned (.plain (OpenSpec.ofChange pmsgTellsSpec)) pmsgTellsCard

/-- THE TIED CARD OF 'truchmanlaw18.PmsgLast'. -/
def pmsgLastCard : Claim7 := { stood := { row := pmsgLastRow, standIns := [], harness := (true, "050bceb18d8f57164ca0e15a6c80c654740144c1d75e319a48d7864404e91b02"), looks := false }, kinds := [], alts := [], laidByText := true, laidKinds := [.data], laidTests := true, laidLooks := .later }
def PmsgLastCardSaid : Prop := Claim7.holds Tryd.pinned (.plain (OpenSpec.ofChange pmsgLastSpec)) pmsgLastCard

/-- THE TIED CARD OF 'truchmanlaw18.PmsgJoins'. -/
def pmsgJoinsCard : Claim7 := { stood := { row := pmsgJoinsRow, standIns := [], harness := (true, "050bceb18d8f57164ca0e15a6c80c654740144c1d75e319a48d7864404e91b02"), looks := false }, kinds := [], alts := [], laidByText := true, laidKinds := [.data], laidTests := true, laidLooks := .later }
def PmsgJoinsCardSaid : Prop := Claim7.holds Tryd.pinned (.plain (OpenSpec.ofChange pmsgJoinsSpec)) pmsgJoinsCard

/-- THE SECOND FORM's CARD OF 'truchmanlaw18.PmsgTells'. -/
def pmsgTellsUptoCard : Claim7 := { stood := { row := pmsgTellsUptoRow, standIns := [], harness := (true, "050bceb18d8f57164ca0e15a6c80c654740144c1d75e319a48d7864404e91b02"), looks := false }, kinds := [], alts := [], laidByText := true, laidKinds := [.data], laidTests := true, laidLooks := .later }
def PmsgTellsUptoCardSaid : Prop := Claim7.holds Tryd.pinned (.plain (OpenSpec.upto pmsgTellsSpec)) pmsgTellsUptoCard

/-- THE SECOND FORM's CARD OF 'truchmanlaw18.PmsgLast'. -/
def pmsgLastUptoCard : Claim7 := { stood := { row := pmsgLastUptoRow, standIns := [], harness := (true, "050bceb18d8f57164ca0e15a6c80c654740144c1d75e319a48d7864404e91b02"), looks := false }, kinds := [], alts := [], laidByText := true, laidKinds := [.data], laidTests := true, laidLooks := .later }
def PmsgLastUptoCardSaid : Prop := Claim7.holds Tryd.pinned (.plain (OpenSpec.upto pmsgLastSpec)) pmsgLastUptoCard

/-- THE SECOND FORM's CARD OF 'truchmanlaw18.PmsgJoins'. -/
def pmsgJoinsUptoCard : Claim7 := { stood := { row := pmsgJoinsUptoRow, standIns := [], harness := (true, "050bceb18d8f57164ca0e15a6c80c654740144c1d75e319a48d7864404e91b02"), looks := false }, kinds := [], alts := [], laidByText := true, laidKinds := [.data], laidTests := true, laidLooks := .later }
def PmsgJoinsUptoCardSaid : Prop := Claim7.holds Tryd.pinned (.plain (OpenSpec.upto pmsgJoinsSpec)) pmsgJoinsUptoCard
end Rows
end Go.Proofs.YtipnaonagepolaaDoor
