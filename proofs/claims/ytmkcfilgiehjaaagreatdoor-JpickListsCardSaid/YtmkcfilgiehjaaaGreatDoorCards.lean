/-
  DERIVED. GIVEN WITH THE SEED: THE CARDS: each row of YtmkcfilgiehjaaaGreatDoorRows.lean that lists a variable, with what it lists TIED to the program's text (the seventh form; the later family's looks); each row that meets fmt, with fmt's text TOLD by the authors' own Lean function (tested against real Go, not proved from fmt's source: count such statements apart). THE CARD IS WHAT COUNTS. Prove the row's statement (the work); the ties are given (YtmkcfilgiehjaaaGreatDoorTie.lean); close each card by the builder's one call (the guide's Derived/Test/ToyasCard.lean, 'card_holds'). Laid BY PROGRAM, IN A SANDBOX (cutbox-door.mjs). By AI agents, Wed Nov 11 2026. No macro, syntax, notation, axiom, sorry.
-/
import Derived.Test.YtmkcfilgiehjaaaGreatDoorRows
import GoSem.ClaimSeven
namespace Go.Proofs.YtmkcfilgiehjaaaGreatDoor
namespace Rows

/-- THE TIED CARD OF 'truchmanlaw14.JpickFinds'. -/
def jpickFindsCard : Claim7 := { stood := { row := jpickFindsRow, standIns := [], harness := (true, "60c033d1fd9fcb85e6af7364002f2d0c9439c89b19607634de7653dae557a6ea"), looks := true }, kinds := [], alts := [], laidByText := true, laidKinds := [.data, .data, .pinned], laidTests := true, laidLooks := .later }
def JpickFindsCardSaid : Prop := Claim7.holds Tryz.pinned (.plain (OpenSpec.ofChange jpickFindsSpec)) jpickFindsCard

/-- THE TIED CARD OF 'truchmanlaw14.JpickTells'. -/
def jpickTellsCard : Claim7 := { stood := { row := jpickTellsRow, standIns := [], harness := (true, "60c033d1fd9fcb85e6af7364002f2d0c9439c89b19607634de7653dae557a6ea"), looks := true }, kinds := [], alts := [], laidByText := true, laidKinds := [.data, .data, .pinned], laidTests := true, laidLooks := .later }
def JpickTellsCardSaid : Prop := Claim7.holds Tryz.pinned (.plain (OpenSpec.ofChange jpickTellsSpec)) jpickTellsCard

/-- THE TIED CARD OF 'truchmanlaw14.JpickLists'. -/
def jpickListsCard : Claim7 := { stood := { row := jpickListsRow, standIns := [], harness := (true, "60c033d1fd9fcb85e6af7364002f2d0c9439c89b19607634de7653dae557a6ea"), looks := true }, kinds := [], alts := [], laidByText := true, laidKinds := [.data, .data, .pinned], laidTests := true, laidLooks := .later }
def JpickListsCardSaid : Prop := Claim7.holds Tryz.pinned (.plain (OpenSpec.ofChange jpickListsSpec)) jpickListsCard

/-- THE SECOND FORM's CARD OF 'truchmanlaw14.JpickFinds'. -/
def jpickFindsUptoCard : Claim7 := { stood := { row := jpickFindsUptoRow, standIns := [], harness := (true, "60c033d1fd9fcb85e6af7364002f2d0c9439c89b19607634de7653dae557a6ea"), looks := true }, kinds := [], alts := [], laidByText := true, laidKinds := [.data, .data, .pinned], laidTests := true, laidLooks := .later }
def JpickFindsUptoCardSaid : Prop := Claim7.holds Tryz.pinned (.plain (OpenSpec.upto jpickFindsSpec)) jpickFindsUptoCard

/-- THE SECOND FORM's CARD OF 'truchmanlaw14.JpickTells'. -/
def jpickTellsUptoCard : Claim7 := { stood := { row := jpickTellsUptoRow, standIns := [], harness := (true, "60c033d1fd9fcb85e6af7364002f2d0c9439c89b19607634de7653dae557a6ea"), looks := true }, kinds := [], alts := [], laidByText := true, laidKinds := [.data, .data, .pinned], laidTests := true, laidLooks := .later }
def JpickTellsUptoCardSaid : Prop := Claim7.holds Tryz.pinned (.plain (OpenSpec.upto jpickTellsSpec)) jpickTellsUptoCard

/-- THE SECOND FORM's CARD OF 'truchmanlaw14.JpickLists'. -/
def jpickListsUptoCard : Claim7 := { stood := { row := jpickListsUptoRow, standIns := [], harness := (true, "60c033d1fd9fcb85e6af7364002f2d0c9439c89b19607634de7653dae557a6ea"), looks := true }, kinds := [], alts := [], laidByText := true, laidKinds := [.data, .data, .pinned], laidTests := true, laidLooks := .later }
def JpickListsUptoCardSaid : Prop := Claim7.holds Tryz.pinned (.plain (OpenSpec.upto jpickListsSpec)) jpickListsUptoCard
end Rows
end Go.Proofs.YtmkcfilgiehjaaaGreatDoor
