/-
  DERIVED. GIVEN WITH THE SEED: THE CARDS: each row of YtlfelhhghomglaaDoorRows.lean that lists a variable, with what it lists TIED to the program's text (the seventh form; the later family's looks); each row that meets fmt, with fmt's text TOLD by the authors' own Lean function (tested against real Go, not proved from fmt's source: count such statements apart). THE CARD IS WHAT COUNTS. Prove the row's statement (the work); the ties are given (YtlfelhhghomglaaDoorTie.lean); close each card by the builder's one call (the guide's Derived/Test/ToyasCard.lean, 'card_holds'). Laid BY PROGRAM, IN A SANDBOX (cutbox-door.mjs). By AI agents, Wed Nov 11 2026. No macro, syntax, notation, axiom, sorry.
-/
import Derived.Test.YtlfelhhghomglaaDoorRows
import GoSem.ClaimSeven
namespace Go.Proofs.YtlfelhhghomglaaDoor
namespace Rows

/-- THE TIED CARD OF 'truchmanlaw17.PreadAll'. -/
def preadAllCard : Claim7 := { stood := { row := preadAllRow, standIns := [], harness := (true, "b7c17181b69755ddbaa147a637ccd8039a2d5b7a77096635f876394a9957b55e"), looks := false }, kinds := [], alts := [], laidByText := true, laidKinds := [.data], laidTests := true, laidLooks := .later }
def PreadAllCardSaid : Prop := Claim7.holds Tryd.pinned (.plain (OpenSpec.ofChange preadAllSpec)) preadAllCard

/-- THE TIED CARD OF 'truchmanlaw17.PreadBack'. -/
def preadBackCard : Claim7 := { stood := { row := preadBackRow, standIns := [], harness := (true, "b7c17181b69755ddbaa147a637ccd8039a2d5b7a77096635f876394a9957b55e"), looks := false }, kinds := [], alts := [], laidByText := true, laidKinds := [.data], laidTests := true, laidLooks := .later }
def PreadBackCardSaid : Prop := Claim7.holds Tryd.pinned (.plain (OpenSpec.ofChange preadBackSpec)) preadBackCard

/-- THE TIED CARD OF 'truchmanlaw17.PreadJoins'. -/
def preadJoinsCard : Claim7 := { stood := { row := preadJoinsRow, standIns := [], harness := (true, "b7c17181b69755ddbaa147a637ccd8039a2d5b7a77096635f876394a9957b55e"), looks := false }, kinds := [], alts := [], laidByText := true, laidKinds := [.data], laidTests := true, laidLooks := .later }
def PreadJoinsCardSaid : Prop := Claim7.holds Tryd.pinned (.plain (OpenSpec.ofChange preadJoinsSpec)) preadJoinsCard

/-- THE SECOND FORM's CARD OF 'truchmanlaw17.PreadAll'. -/
def preadAllUptoCard : Claim7 := { stood := { row := preadAllUptoRow, standIns := [], harness := (true, "b7c17181b69755ddbaa147a637ccd8039a2d5b7a77096635f876394a9957b55e"), looks := false }, kinds := [], alts := [], laidByText := true, laidKinds := [.data], laidTests := true, laidLooks := .later }
def PreadAllUptoCardSaid : Prop := Claim7.holds Tryd.pinned (.plain (OpenSpec.upto preadAllSpec)) preadAllUptoCard

/-- THE SECOND FORM's CARD OF 'truchmanlaw17.PreadBack'. -/
def preadBackUptoCard : Claim7 := { stood := { row := preadBackUptoRow, standIns := [], harness := (true, "b7c17181b69755ddbaa147a637ccd8039a2d5b7a77096635f876394a9957b55e"), looks := false }, kinds := [], alts := [], laidByText := true, laidKinds := [.data], laidTests := true, laidLooks := .later }
def PreadBackUptoCardSaid : Prop := Claim7.holds Tryd.pinned (.plain (OpenSpec.upto preadBackSpec)) preadBackUptoCard

/-- THE SECOND FORM's CARD OF 'truchmanlaw17.PreadJoins'. -/
def preadJoinsUptoCard : Claim7 := { stood := { row := preadJoinsUptoRow, standIns := [], harness := (true, "b7c17181b69755ddbaa147a637ccd8039a2d5b7a77096635f876394a9957b55e"), looks := false }, kinds := [], alts := [], laidByText := true, laidKinds := [.data], laidTests := true, laidLooks := .later }
def PreadJoinsUptoCardSaid : Prop := Claim7.holds Tryd.pinned (.plain (OpenSpec.upto preadJoinsSpec)) preadJoinsUptoCard
end Rows
end Go.Proofs.YtlfelhhghomglaaDoor
