/-
  DERIVED. GIVEN WITH THE SEED: THE CARDS: each row of YticlijjkeeejpaaDoorRows.lean that lists a variable, with what it lists TIED to the program's text (the seventh form; the later family's looks); each row that meets fmt, with fmt's text TOLD by the authors' own Lean function (tested against real Go, not proved from fmt's source: count such statements apart). THE CARD IS WHAT COUNTS. Prove the row's statement (the work); the ties are given (YticlijjkeeejpaaDoorTie.lean); close each card by the builder's one call (the guide's Derived/Test/ToyasCard.lean, 'card_holds'). Laid BY PROGRAM, IN A SANDBOX (cutbox-door.mjs). By AI agents, Wed Nov 11 2026. No macro, syntax, notation, axiom, sorry.
-/
import Derived.Test.YticlijjkeeejpaaDoorRows
import GoSem.ClaimSeven
namespace Go.Proofs.YticlijjkeeejpaaDoor
namespace Rows

/-- THE TIED CARD OF 'truchmanlaw12.JtokenAll'. -/
def jtokenAllCard : Claim7 := { stood := { row := jtokenAllRow, standIns := [], harness := (true, "6312df1b021bf4adfa2722c4f0628f92ec175e7af18dca224fea844ee51a8230"), looks := false }, kinds := [], alts := [], laidByText := true, laidKinds := [.data], laidTests := true, laidLooks := .later }
def JtokenAllCardSaid : Prop := Claim7.holds Tryd.pinned (.plain (OpenSpec.ofChange jtokenAllSpec)) jtokenAllCard

/-- THE TIED CARD OF 'truchmanlaw12.JtokenBlanks'. -/
def jtokenBlanksCard : Claim7 := { stood := { row := jtokenBlanksRow, standIns := [], harness := (true, "6312df1b021bf4adfa2722c4f0628f92ec175e7af18dca224fea844ee51a8230"), looks := false }, kinds := [], alts := [], laidByText := true, laidKinds := [.data], laidTests := true, laidLooks := .later }
def JtokenBlanksCardSaid : Prop := Claim7.holds Tryd.pinned (.plain (OpenSpec.ofChange jtokenBlanksSpec)) jtokenBlanksCard

/-- THE TIED CARD OF 'truchmanlaw12.JtokenPuts'. -/
def jtokenPutsCard : Claim7 := { stood := { row := jtokenPutsRow, standIns := [], harness := (true, "6312df1b021bf4adfa2722c4f0628f92ec175e7af18dca224fea844ee51a8230"), looks := false }, kinds := [], alts := [], laidByText := true, laidKinds := [.data], laidTests := true, laidLooks := .later }
def JtokenPutsCardSaid : Prop := Claim7.holds Tryd.pinned (.plain (OpenSpec.ofChange jtokenPutsSpec)) jtokenPutsCard

/-- THE SECOND FORM's CARD OF 'truchmanlaw12.JtokenAll'. -/
def jtokenAllUptoCard : Claim7 := { stood := { row := jtokenAllUptoRow, standIns := [], harness := (true, "6312df1b021bf4adfa2722c4f0628f92ec175e7af18dca224fea844ee51a8230"), looks := false }, kinds := [], alts := [], laidByText := true, laidKinds := [.data], laidTests := true, laidLooks := .later }
def JtokenAllUptoCardSaid : Prop := Claim7.holds Tryd.pinned (.plain (OpenSpec.upto jtokenAllSpec)) jtokenAllUptoCard

/-- THE SECOND FORM's CARD OF 'truchmanlaw12.JtokenBlanks'. -/
def jtokenBlanksUptoCard : Claim7 := { stood := { row := jtokenBlanksUptoRow, standIns := [], harness := (true, "6312df1b021bf4adfa2722c4f0628f92ec175e7af18dca224fea844ee51a8230"), looks := false }, kinds := [], alts := [], laidByText := true, laidKinds := [.data], laidTests := true, laidLooks := .later }
def JtokenBlanksUptoCardSaid : Prop := Claim7.holds Tryd.pinned (.plain (OpenSpec.upto jtokenBlanksSpec)) jtokenBlanksUptoCard

/-- THE SECOND FORM's CARD OF 'truchmanlaw12.JtokenPuts'. -/
def jtokenPutsUptoCard : Claim7 := { stood := { row := jtokenPutsUptoRow, standIns := [], harness := (true, "6312df1b021bf4adfa2722c4f0628f92ec175e7af18dca224fea844ee51a8230"), looks := false }, kinds := [], alts := [], laidByText := true, laidKinds := [.data], laidTests := true, laidLooks := .later }
def JtokenPutsUptoCardSaid : Prop := Claim7.holds Tryd.pinned (.plain (OpenSpec.upto jtokenPutsSpec)) jtokenPutsUptoCard
end Rows
end Go.Proofs.YticlijjkeeejpaaDoor
