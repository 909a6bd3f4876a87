/-
  DERIVED. GIVEN WITH THE SEED: THE CARDS: each row of YteakcfgjjlocjaaDoorRows.lean that lists a variable, with what it lists TIED to the program's text (the seventh form; the later family's looks); each row that meets fmt, with fmt's text TOLD by the authors' own Lean function (tested against real Go, not proved from fmt's source: count such statements apart). THE CARD IS WHAT COUNTS. Prove the row's statement (the work); the ties are given (YteakcfgjjlocjaaDoorTie.lean); close each card by the builder's one call (the guide's Derived/Test/ToyasCard.lean, 'card_holds'). Laid BY PROGRAM, IN A SANDBOX (cutbox-door.mjs). By AI agents, Wed Nov 11 2026. No macro, syntax, notation, axiom, sorry.
-/
import Derived.Test.YteakcfgjjlocjaaDoorRows
import GoSem.ClaimSeven
namespace Go.Proofs.YteakcfgjjlocjaaDoor
namespace Rows

/-- THE TIED CARD OF 'truchmanlaw10.JstringReads'. -/
def jstringReadsCard : Claim7 := { stood := { row := jstringReadsRow, standIns := [], harness := (true, "d587edd3216a9d3f75170d5b99d195cc33c4cf32ee099ec9b353c90983e2f13d"), looks := false }, kinds := [], alts := [], laidByText := true, laidKinds := [.data], laidTests := true, laidLooks := .later }
def JstringReadsCardSaid : Prop := Claim7.holds Tryd.pinned (.plain (OpenSpec.ofChange jstringReadsSpec)) jstringReadsCard

/-- THE TIED CARD OF 'truchmanlaw10.JstringBack'. -/
def jstringBackCard : Claim7 := { stood := { row := jstringBackRow, standIns := [], harness := (true, "d587edd3216a9d3f75170d5b99d195cc33c4cf32ee099ec9b353c90983e2f13d"), looks := false }, kinds := [], alts := [], laidByText := true, laidKinds := [.data], laidTests := true, laidLooks := .later }
def JstringBackCardSaid : Prop := Claim7.holds Tryd.pinned (.plain (OpenSpec.ofChange jstringBackSpec)) jstringBackCard

/-- THE TIED CARD OF 'truchmanlaw10.JstringOne'. -/
def jstringOneCard : Claim7 := { stood := { row := jstringOneRow, standIns := [], harness := (true, "d587edd3216a9d3f75170d5b99d195cc33c4cf32ee099ec9b353c90983e2f13d"), looks := false }, kinds := [], alts := [], laidByText := true, laidKinds := [.data], laidTests := true, laidLooks := .later }
def JstringOneCardSaid : Prop := Claim7.holds Tryd.pinned (.plain (OpenSpec.ofChange jstringOneSpec)) jstringOneCard

/-- THE SECOND FORM's CARD OF 'truchmanlaw10.JstringReads'. -/
def jstringReadsUptoCard : Claim7 := { stood := { row := jstringReadsUptoRow, standIns := [], harness := (true, "d587edd3216a9d3f75170d5b99d195cc33c4cf32ee099ec9b353c90983e2f13d"), looks := false }, kinds := [], alts := [], laidByText := true, laidKinds := [.data], laidTests := true, laidLooks := .later }
def JstringReadsUptoCardSaid : Prop := Claim7.holds Tryd.pinned (.plain (OpenSpec.upto jstringReadsSpec)) jstringReadsUptoCard

/-- THE SECOND FORM's CARD OF 'truchmanlaw10.JstringBack'. -/
def jstringBackUptoCard : Claim7 := { stood := { row := jstringBackUptoRow, standIns := [], harness := (true, "d587edd3216a9d3f75170d5b99d195cc33c4cf32ee099ec9b353c90983e2f13d"), looks := false }, kinds := [], alts := [], laidByText := true, laidKinds := [.data], laidTests := true, laidLooks := .later }
def JstringBackUptoCardSaid : Prop := Claim7.holds Tryd.pinned (.plain (OpenSpec.upto jstringBackSpec)) jstringBackUptoCard

/-- THE SECOND FORM's CARD OF 'truchmanlaw10.JstringOne'. -/
def jstringOneUptoCard : Claim7 := { stood := { row := jstringOneUptoRow, standIns := [], harness := (true, "d587edd3216a9d3f75170d5b99d195cc33c4cf32ee099ec9b353c90983e2f13d"), looks := false }, kinds := [], alts := [], laidByText := true, laidKinds := [.data], laidTests := true, laidLooks := .later }
def JstringOneUptoCardSaid : Prop := Claim7.holds Tryd.pinned (.plain (OpenSpec.upto jstringOneSpec)) jstringOneUptoCard
end Rows
end Go.Proofs.YteakcfgjjlocjaaDoor
