/-
  DERIVED. GIVEN WITH THE SEED: THE CARDS: each row of YtkjlpkldonhjdaaDoorRows.lean that lists a variable, with what it lists TIED to the program's text (the seventh form; the later family's looks); each row that meets fmt, with fmt's text TOLD by the authors' own Lean function (tested against real Go, not proved from fmt's source: count such statements apart). THE CARD IS WHAT COUNTS. Prove the row's statement (the work); the ties are given (YtkjlpkldonhjdaaDoorTie.lean); close each card by the builder's one call (the guide's Derived/Test/ToyasCard.lean, 'card_holds'). Laid BY PROGRAM, IN A SANDBOX (cutbox-door.mjs). By AI agents, Wed Nov 11 2026. No macro, syntax, notation, axiom, sorry.
-/
import Derived.Test.YtkjlpkldonhjdaaDoorRows
import GoSem.ClaimSeven
namespace Go.Proofs.YtkjlpkldonhjdaaDoor
namespace Rows

/-- THE TIED CARD OF 'truchmanlaw02.WordFolds'. -/
def wordFoldsCard : Claim7 := { stood := { row := wordFoldsRow, standIns := [], harness := (true, "18cfb671a194a3bd61c4cd680dda1a3994eae72679f0b4d4530846f8f88156bb"), looks := false }, kinds := [], alts := [], laidByText := true, laidKinds := [.data], laidTests := true, laidLooks := .later }
def WordFoldsCardSaid : Prop := Claim7.holds Tryd.pinned (.plain (OpenSpec.ofChange wordFoldsSpec)) wordFoldsCard

/-- THE TIED CARD OF 'truchmanlaw02.WordLays'. -/
def wordLaysCard : Claim7 := { stood := { row := wordLaysRow, standIns := [], harness := (true, "18cfb671a194a3bd61c4cd680dda1a3994eae72679f0b4d4530846f8f88156bb"), looks := false }, kinds := [], alts := [], laidByText := true, laidKinds := [.data], laidTests := true, laidLooks := .later }
def WordLaysCardSaid : Prop := Claim7.holds Tryd.pinned (.plain (OpenSpec.ofChange wordLaysSpec)) wordLaysCard

/-- THE TIED CARD OF 'truchmanlaw02.WordReads'. -/
def wordReadsCard : Claim7 := { stood := { row := wordReadsRow, standIns := [], harness := (true, "18cfb671a194a3bd61c4cd680dda1a3994eae72679f0b4d4530846f8f88156bb"), looks := false }, kinds := [], alts := [], laidByText := true, laidKinds := [.data], laidTests := true, laidLooks := .later }
def WordReadsCardSaid : Prop := Claim7.holds Tryd.pinned (.plain (OpenSpec.ofChange wordReadsSpec)) wordReadsCard

/-- THE TIED CARD OF 'truchmanlaw02.WordFits'. -/
def wordFitsCard : Claim7 := { stood := { row := wordFitsRow, standIns := [], harness := (true, "18cfb671a194a3bd61c4cd680dda1a3994eae72679f0b4d4530846f8f88156bb"), looks := false }, kinds := [], alts := [], laidByText := true, laidKinds := [.data], laidTests := true, laidLooks := .later }
def WordFitsCardSaid : Prop := Claim7.holds Tryd.pinned (.plain (OpenSpec.ofChange wordFitsSpec)) wordFitsCard

/-- THE SECOND FORM's CARD OF 'truchmanlaw02.WordFolds'. -/
def wordFoldsUptoCard : Claim7 := { stood := { row := wordFoldsUptoRow, standIns := [], harness := (true, "18cfb671a194a3bd61c4cd680dda1a3994eae72679f0b4d4530846f8f88156bb"), looks := false }, kinds := [], alts := [], laidByText := true, laidKinds := [.data], laidTests := true, laidLooks := .later }
def WordFoldsUptoCardSaid : Prop := Claim7.holds Tryd.pinned (.plain (OpenSpec.upto wordFoldsSpec)) wordFoldsUptoCard

/-- THE SECOND FORM's CARD OF 'truchmanlaw02.WordLays'. -/
def wordLaysUptoCard : Claim7 := { stood := { row := wordLaysUptoRow, standIns := [], harness := (true, "18cfb671a194a3bd61c4cd680dda1a3994eae72679f0b4d4530846f8f88156bb"), looks := false }, kinds := [], alts := [], laidByText := true, laidKinds := [.data], laidTests := true, laidLooks := .later }
def WordLaysUptoCardSaid : Prop := Claim7.holds Tryd.pinned (.plain (OpenSpec.upto wordLaysSpec)) wordLaysUptoCard

/-- THE SECOND FORM's CARD OF 'truchmanlaw02.WordReads'. -/
def wordReadsUptoCard : Claim7 := { stood := { row := wordReadsUptoRow, standIns := [], harness := (true, "18cfb671a194a3bd61c4cd680dda1a3994eae72679f0b4d4530846f8f88156bb"), looks := false }, kinds := [], alts := [], laidByText := true, laidKinds := [.data], laidTests := true, laidLooks := .later }
def WordReadsUptoCardSaid : Prop := Claim7.holds Tryd.pinned (.plain (OpenSpec.upto wordReadsSpec)) wordReadsUptoCard

/-- THE SECOND FORM's CARD OF 'truchmanlaw02.WordFits'. -/
def wordFitsUptoCard : Claim7 := { stood := { row := wordFitsUptoRow, standIns := [], harness := (true, "18cfb671a194a3bd61c4cd680dda1a3994eae72679f0b4d4530846f8f88156bb"), looks := false }, kinds := [], alts := [], laidByText := true, laidKinds := [.data], laidTests := true, laidLooks := .later }
def WordFitsUptoCardSaid : Prop := Claim7.holds Tryd.pinned (.plain (OpenSpec.upto wordFitsSpec)) wordFitsUptoCard
end Rows
end Go.Proofs.YtkjlpkldonhjdaaDoor
