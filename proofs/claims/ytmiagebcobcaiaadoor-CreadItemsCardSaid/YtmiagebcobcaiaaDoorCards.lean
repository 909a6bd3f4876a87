/-
  DERIVED. GIVEN WITH THE SEED: THE CARDS: each row of YtmiagebcobcaiaaDoorRows.lean that lists a variable, with what it lists TIED to the program's text (the seventh form; the later family's looks); each row that meets fmt, with fmt's text TOLD by the authors' own Lean function (tested against real Go, not proved from fmt's source: count such statements apart). THE CARD IS WHAT COUNTS. Prove the row's statement (the work); the ties are given (YtmiagebcobcaiaaDoorTie.lean); close each card by the builder's one call (the guide's Derived/Test/ToyasCard.lean, 'card_holds'). Laid BY PROGRAM, IN A SANDBOX (cutbox-door.mjs). By AI agents, Wed Nov 11 2026. No macro, syntax, notation, axiom, sorry.
-/
import Derived.Test.YtmiagebcobcaiaaDoorRows
import GoSem.ClaimSeven
namespace Go.Proofs.YtmiagebcobcaiaaDoor
namespace Rows

/-- THE TIED CARD OF 'truchmanlaw22.CreadStructs'. -/
def creadStructsCard : Claim7 := { stood := { row := creadStructsRow, standIns := [], harness := (true, "97a2da1c9fe6fa655cc2ccbaf62e81db6429fcd376cb3e74c2f4e55d12f6c7e9"), looks := false }, kinds := [], alts := [], laidByText := true, laidKinds := [.data], laidTests := true, laidLooks := .later }
def CreadStructsCardSaid : Prop := Claim7.holds Tryd.pinned (.plain (OpenSpec.ofChange creadStructsSpec)) creadStructsCard

/-- THE TIED CARD OF 'truchmanlaw22.CreadItems'. -/
def creadItemsCard : Claim7 := { stood := { row := creadItemsRow, standIns := [], harness := (true, "97a2da1c9fe6fa655cc2ccbaf62e81db6429fcd376cb3e74c2f4e55d12f6c7e9"), looks := false }, kinds := [], alts := [], laidByText := true, laidKinds := [.data], laidTests := true, laidLooks := .later }
def CreadItemsCardSaid : Prop := Claim7.holds Tryd.pinned (.plain (OpenSpec.ofChange creadItemsSpec)) creadItemsCard

/-- THE TIED CARD OF 'truchmanlaw22.CreadLast'. -/
def creadLastCard : Claim7 := { stood := { row := creadLastRow, standIns := [], harness := (true, "97a2da1c9fe6fa655cc2ccbaf62e81db6429fcd376cb3e74c2f4e55d12f6c7e9"), looks := false }, kinds := [], alts := [], laidByText := true, laidKinds := [.data], laidTests := true, laidLooks := .later }
def CreadLastCardSaid : Prop := Claim7.holds Tryd.pinned (.plain (OpenSpec.ofChange creadLastSpec)) creadLastCard

/-- THE SECOND FORM's CARD OF 'truchmanlaw22.CreadStructs'. -/
def creadStructsUptoCard : Claim7 := { stood := { row := creadStructsUptoRow, standIns := [], harness := (true, "97a2da1c9fe6fa655cc2ccbaf62e81db6429fcd376cb3e74c2f4e55d12f6c7e9"), looks := false }, kinds := [], alts := [], laidByText := true, laidKinds := [.data], laidTests := true, laidLooks := .later }
def CreadStructsUptoCardSaid : Prop := Claim7.holds Tryd.pinned (.plain (OpenSpec.upto creadStructsSpec)) creadStructsUptoCard

/-- THE SECOND FORM's CARD OF 'truchmanlaw22.CreadItems'. -/
def creadItemsUptoCard : Claim7 := { stood := { row := creadItemsUptoRow, standIns := [], harness := (true, "97a2da1c9fe6fa655cc2ccbaf62e81db6429fcd376cb3e74c2f4e55d12f6c7e9"), looks := false }, kinds := [], alts := [], laidByText := true, laidKinds := [.data], laidTests := true, laidLooks := .later }
def CreadItemsUptoCardSaid : Prop := Claim7.holds Tryd.pinned (.plain (OpenSpec.upto creadItemsSpec)) creadItemsUptoCard

/-- THE SECOND FORM's CARD OF 'truchmanlaw22.CreadLast'. -/
def creadLastUptoCard : Claim7 := { stood := { row := creadLastUptoRow, standIns := [], harness := (true, "97a2da1c9fe6fa655cc2ccbaf62e81db6429fcd376cb3e74c2f4e55d12f6c7e9"), looks := false }, kinds := [], alts := [], laidByText := true, laidKinds := [.data], laidTests := true, laidLooks := .later }
def CreadLastUptoCardSaid : Prop := Claim7.holds Tryd.pinned (.plain (OpenSpec.upto creadLastSpec)) creadLastUptoCard
end Rows
end Go.Proofs.YtmiagebcobcaiaaDoor
