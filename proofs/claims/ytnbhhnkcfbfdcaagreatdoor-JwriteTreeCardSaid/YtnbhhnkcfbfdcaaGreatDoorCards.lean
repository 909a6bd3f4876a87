/-
  DERIVED. GIVEN WITH THE SEED: THE CARDS: each row of YtnbhhnkcfbfdcaaGreatDoorRows.lean that lists a variable, with what it lists TIED to the program's text (the seventh form; the later family's looks); each row that meets fmt, with fmt's text TOLD by the authors' own Lean function (tested against real Go, not proved from fmt's source: count such statements apart). THE CARD IS WHAT COUNTS. Prove the row's statement (the work); the ties are given (YtnbhhnkcfbfdcaaGreatDoorTie.lean); close each card by the builder's one call (the guide's Derived/Test/ToyasCard.lean, 'card_holds'). Laid BY PROGRAM, IN A SANDBOX (cutbox-door.mjs). By AI agents, Wed Nov 11 2026. No macro, syntax, notation, axiom, sorry.
-/
import Derived.Test.YtnbhhnkcfbfdcaaGreatDoorRows
import GoSem.ClaimSeven
namespace Go.Proofs.YtnbhhnkcfbfdcaaGreatDoor
namespace Rows

/-- THE TIED CARD OF 'truchmanlaw15.JwriteTree'. -/
def jwriteTreeCard : Claim7 := { stood := { row := jwriteTreeRow, standIns := [], harness := (true, "1c52b1e182a32090922694f5e8e09ba19636cac54e95ff4533b029d565f795af"), looks := true }, kinds := [], alts := [], laidByText := true, laidKinds := [.data, .data, .data, .data], laidTests := true, laidLooks := .later }
def JwriteTreeCardSaid : Prop := Claim7.holds Tryz.pinned (.plain (OpenSpec.ofChange jwriteTreeSpec)) jwriteTreeCard

/-- THE TIED CARD OF 'truchmanlaw15.JwriteRight'. -/
def jwriteRightCard : Claim7 := { stood := { row := jwriteRightRow, standIns := [], harness := (true, "1c52b1e182a32090922694f5e8e09ba19636cac54e95ff4533b029d565f795af"), looks := true }, kinds := [], alts := [], laidByText := true, laidKinds := [.data, .data, .data, .data], laidTests := true, laidLooks := .later }
def JwriteRightCardSaid : Prop := Claim7.holds Tryz.pinned (.plain (OpenSpec.ofChange jwriteRightSpec)) jwriteRightCard

/-- THE SECOND FORM's CARD OF 'truchmanlaw15.JwriteTree'. -/
def jwriteTreeUptoCard : Claim7 := { stood := { row := jwriteTreeUptoRow, standIns := [], harness := (true, "1c52b1e182a32090922694f5e8e09ba19636cac54e95ff4533b029d565f795af"), looks := true }, kinds := [], alts := [], laidByText := true, laidKinds := [.data, .data, .data, .data], laidTests := true, laidLooks := .later }
def JwriteTreeUptoCardSaid : Prop := Claim7.holds Tryz.pinned (.plain (OpenSpec.upto jwriteTreeSpec)) jwriteTreeUptoCard

/-- THE SECOND FORM's CARD OF 'truchmanlaw15.JwriteRight'. -/
def jwriteRightUptoCard : Claim7 := { stood := { row := jwriteRightUptoRow, standIns := [], harness := (true, "1c52b1e182a32090922694f5e8e09ba19636cac54e95ff4533b029d565f795af"), looks := true }, kinds := [], alts := [], laidByText := true, laidKinds := [.data, .data, .data, .data], laidTests := true, laidLooks := .later }
def JwriteRightUptoCardSaid : Prop := Claim7.holds Tryz.pinned (.plain (OpenSpec.upto jwriteRightSpec)) jwriteRightUptoCard
end Rows
end Go.Proofs.YtnbhhnkcfbfdcaaGreatDoor
