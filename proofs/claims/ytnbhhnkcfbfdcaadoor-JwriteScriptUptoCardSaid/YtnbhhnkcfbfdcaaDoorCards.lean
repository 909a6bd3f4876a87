/-
  DERIVED. GIVEN WITH THE SEED: THE CARDS: each row of YtnbhhnkcfbfdcaaDoorRows.lean that lists a variable, with what it lists TIED to the program's text (the seventh form; the later family's looks); each row that meets fmt, with fmt's text TOLD by the authors' own Lean function (tested against real Go, not proved from fmt's source: count such statements apart). THE CARD IS WHAT COUNTS. Prove the row's statement (the work); the ties are given (YtnbhhnkcfbfdcaaDoorTie.lean); close each card by the builder's one call (the guide's Derived/Test/ToyasCard.lean, 'card_holds'). Laid BY PROGRAM, IN A SANDBOX (cutbox-door.mjs). By AI agents, Wed Nov 11 2026. No macro, syntax, notation, axiom, sorry.
-/
import Derived.Test.YtnbhhnkcfbfdcaaDoorRows
import GoSem.ClaimSeven
namespace Go.Proofs.YtnbhhnkcfbfdcaaDoor
namespace Rows

/-- THE TIED CARD OF 'truchmanlaw15.JwriteScript'. -/
def jwriteScriptCard : Claim7 := { stood := { row := jwriteScriptRow, standIns := [], harness := (true, "21f9ec69aacd76e07443a1bc2028dbe45d031497a5eab8ee6649172fe2f70b0b"), looks := false }, kinds := [], alts := [], laidByText := true, laidKinds := [.data, .data, .data], laidTests := true, laidLooks := .later }
def JwriteScriptCardSaid : Prop := Claim7.holds Tryd.pinned (.plain (OpenSpec.ofChange jwriteScriptSpec)) jwriteScriptCard

/-- THE SECOND FORM's CARD OF 'truchmanlaw15.JwriteScript'. -/
def jwriteScriptUptoCard : Claim7 := { stood := { row := jwriteScriptUptoRow, standIns := [], harness := (true, "21f9ec69aacd76e07443a1bc2028dbe45d031497a5eab8ee6649172fe2f70b0b"), looks := false }, kinds := [], alts := [], laidByText := true, laidKinds := [.data, .data, .data], laidTests := true, laidLooks := .later }
def JwriteScriptUptoCardSaid : Prop := Claim7.holds Tryd.pinned (.plain (OpenSpec.upto jwriteScriptSpec)) jwriteScriptUptoCard
end Rows
end Go.Proofs.YtnbhhnkcfbfdcaaDoor
