/-
  DERIVED. GIVEN WITH THE SEED: THE CARDS: each row of YtmcklfndnjagiaaDoorRows.lean that lists a variable, with what it lists TIED to the program's text (the seventh form; the later family's looks); each row that meets fmt, with fmt's text TOLD by the authors' own Lean function (tested against real Go, not proved from fmt's source: count such statements apart). THE CARD IS WHAT COUNTS. Prove the row's statement (the work); the ties are given (YtmcklfndnjagiaaDoorTie.lean); close each card by the builder's one call (the guide's Derived/Test/ToyasCard.lean, 'card_holds'). Laid BY PROGRAM, IN A SANDBOX (cutbox-door.mjs). By AI agents, Wed Nov 11 2026. No macro, syntax, notation, axiom, sorry.
-/
import Derived.Test.YtmcklfndnjagiaaDoorRows
import GoSem.ClaimSeven
namespace Go.Proofs.YtmcklfndnjagiaaDoor
namespace Rows

/-- THE TIED CARD OF 'truchmanlaw23.CwriteScript'. -/
def cwriteScriptCard : Claim7 := { stood := { row := cwriteScriptRow, standIns := [], harness := (true, "77a21e4cb309974965c651c6319099acba015653093d10d396acd7f2e6b509c1"), looks := false }, kinds := [], alts := [], laidByText := true, laidKinds := [.data], laidTests := true, laidLooks := .later }
def CwriteScriptCardSaid : Prop := Claim7.holds Tryd.pinned (.plain (OpenSpec.ofChange cwriteScriptSpec)) cwriteScriptCard

/-- THE TIED CARD OF 'truchmanlaw23.CwriteReads'. -/
def cwriteReadsCard : Claim7 := { stood := { row := cwriteReadsRow, standIns := [], harness := (true, "77a21e4cb309974965c651c6319099acba015653093d10d396acd7f2e6b509c1"), looks := false }, kinds := [], alts := [], laidByText := true, laidKinds := [.data], laidTests := true, laidLooks := .later }
def CwriteReadsCardSaid : Prop := Claim7.holds Tryd.pinned (.plain (OpenSpec.ofChange cwriteReadsSpec)) cwriteReadsCard

/-- THE TIED CARD OF 'truchmanlaw23.CwriteFields'. -/
def cwriteFieldsCard : Claim7 := { stood := { row := cwriteFieldsRow, standIns := [], harness := (true, "77a21e4cb309974965c651c6319099acba015653093d10d396acd7f2e6b509c1"), looks := false }, kinds := [], alts := [], laidByText := true, laidKinds := [.data], laidTests := true, laidLooks := .later }
def CwriteFieldsCardSaid : Prop := Claim7.holds Tryd.pinned (.plain (OpenSpec.ofChange cwriteFieldsSpec)) cwriteFieldsCard

/-- THE SECOND FORM's CARD OF 'truchmanlaw23.CwriteScript'. -/
def cwriteScriptUptoCard : Claim7 := { stood := { row := cwriteScriptUptoRow, standIns := [], harness := (true, "77a21e4cb309974965c651c6319099acba015653093d10d396acd7f2e6b509c1"), looks := false }, kinds := [], alts := [], laidByText := true, laidKinds := [.data], laidTests := true, laidLooks := .later }
def CwriteScriptUptoCardSaid : Prop := Claim7.holds Tryd.pinned (.plain (OpenSpec.upto cwriteScriptSpec)) cwriteScriptUptoCard

/-- THE SECOND FORM's CARD OF 'truchmanlaw23.CwriteReads'. -/
def cwriteReadsUptoCard : Claim7 := { stood := { row := cwriteReadsUptoRow, standIns := [], harness := (true, "77a21e4cb309974965c651c6319099acba015653093d10d396acd7f2e6b509c1"), looks := false }, kinds := [], alts := [], laidByText := true, laidKinds := [.data], laidTests := true, laidLooks := .later }
def CwriteReadsUptoCardSaid : Prop := Claim7.holds Tryd.pinned (.plain (OpenSpec.upto cwriteReadsSpec)) cwriteReadsUptoCard

/-- THE SECOND FORM's CARD OF 'truchmanlaw23.CwriteFields'. -/
def cwriteFieldsUptoCard : Claim7 := { stood := { row := cwriteFieldsUptoRow, standIns := [], harness := (true, "77a21e4cb309974965c651c6319099acba015653093d10d396acd7f2e6b509c1"), looks := false }, kinds := [], alts := [], laidByText := true, laidKinds := [.data], laidTests := true, laidLooks := .later }
def CwriteFieldsUptoCardSaid : Prop := Claim7.holds Tryd.pinned (.plain (OpenSpec.upto cwriteFieldsSpec)) cwriteFieldsUptoCard
end Rows
end Go.Proofs.YtmcklfndnjagiaaDoor
