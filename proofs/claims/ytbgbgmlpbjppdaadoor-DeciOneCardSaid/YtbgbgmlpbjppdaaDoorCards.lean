/-
  DERIVED. GIVEN WITH THE SEED: THE CARDS: each row of YtbgbgmlpbjppdaaDoorRows.lean that lists a variable, with what it lists TIED to the program's text (the seventh form; the later family's looks); each row that meets fmt, with fmt's text TOLD by the authors' own Lean function (tested against real Go, not proved from fmt's source: count such statements apart). THE CARD IS WHAT COUNTS. Prove the row's statement (the work); the ties are given (YtbgbgmlpbjppdaaDoorTie.lean); close each card by the builder's one call (the guide's Derived/Test/ToyasCard.lean, 'card_holds'). Laid BY PROGRAM, IN A SANDBOX (cutbox-door.mjs). By AI agents, Wed Nov 11 2026. No macro, syntax, notation, axiom, sorry.
-/
import Derived.Test.YtbgbgmlpbjppdaaDoorRows
import GoSem.ClaimSeven
namespace Go.Proofs.YtbgbgmlpbjppdaaDoor
namespace Rows

/-- THE TIED CARD OF 'truchmanlaw06.DeciReads'. -/
def deciReadsCard : Claim7 := { stood := { row := deciReadsRow, standIns := [], harness := (true, "af0cca4a53302ed088d54ad0a1d1deb89ab7fe6d743c63afe539b75cbc233263"), looks := false }, kinds := [], alts := [], laidByText := true, laidKinds := [.data, .data, .data], laidTests := true, laidLooks := .later }
def DeciReadsCardSaid : Prop := Claim7.holds Tryd.pinned (.plain (OpenSpec.ofChange deciReadsSpec)) deciReadsCard

/-- THE TIED CARD OF 'truchmanlaw06.DeciBack'. -/
def deciBackCard : Claim7 := { stood := { row := deciBackRow, standIns := [], harness := (true, "af0cca4a53302ed088d54ad0a1d1deb89ab7fe6d743c63afe539b75cbc233263"), looks := false }, kinds := [], alts := [], laidByText := true, laidKinds := [.data, .data, .data], laidTests := true, laidLooks := .later }
def DeciBackCardSaid : Prop := Claim7.holds Tryd.pinned (.plain (OpenSpec.ofChange deciBackSpec)) deciBackCard

/-- THE TIED CARD OF 'truchmanlaw06.DeciOne'. -/
def deciOneCard : Claim7 := { stood := { row := deciOneRow, standIns := [], harness := (true, "af0cca4a53302ed088d54ad0a1d1deb89ab7fe6d743c63afe539b75cbc233263"), looks := false }, kinds := [], alts := [], laidByText := true, laidKinds := [.data, .data, .data], laidTests := true, laidLooks := .later }
def DeciOneCardSaid : Prop := Claim7.holds Tryd.pinned (.plain (OpenSpec.ofChange deciOneSpec)) deciOneCard

/-- THE SECOND FORM's CARD OF 'truchmanlaw06.DeciReads'. -/
def deciReadsUptoCard : Claim7 := { stood := { row := deciReadsUptoRow, standIns := [], harness := (true, "af0cca4a53302ed088d54ad0a1d1deb89ab7fe6d743c63afe539b75cbc233263"), looks := false }, kinds := [], alts := [], laidByText := true, laidKinds := [.data, .data, .data], laidTests := true, laidLooks := .later }
def DeciReadsUptoCardSaid : Prop := Claim7.holds Tryd.pinned (.plain (OpenSpec.upto deciReadsSpec)) deciReadsUptoCard

/-- THE SECOND FORM's CARD OF 'truchmanlaw06.DeciBack'. -/
def deciBackUptoCard : Claim7 := { stood := { row := deciBackUptoRow, standIns := [], harness := (true, "af0cca4a53302ed088d54ad0a1d1deb89ab7fe6d743c63afe539b75cbc233263"), looks := false }, kinds := [], alts := [], laidByText := true, laidKinds := [.data, .data, .data], laidTests := true, laidLooks := .later }
def DeciBackUptoCardSaid : Prop := Claim7.holds Tryd.pinned (.plain (OpenSpec.upto deciBackSpec)) deciBackUptoCard

/-- THE SECOND FORM's CARD OF 'truchmanlaw06.DeciOne'. -/
def deciOneUptoCard : Claim7 := { stood := { row := deciOneUptoRow, standIns := [], harness := (true, "af0cca4a53302ed088d54ad0a1d1deb89ab7fe6d743c63afe539b75cbc233263"), looks := false }, kinds := [], alts := [], laidByText := true, laidKinds := [.data, .data, .data], laidTests := true, laidLooks := .later }
def DeciOneUptoCardSaid : Prop := Claim7.holds Tryd.pinned (.plain (OpenSpec.upto deciOneSpec)) deciOneUptoCard
end Rows
end Go.Proofs.YtbgbgmlpbjppdaaDoor
