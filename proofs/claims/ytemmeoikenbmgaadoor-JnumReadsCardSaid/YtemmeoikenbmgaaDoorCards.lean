/-
  DERIVED. GIVEN WITH THE SEED: THE CARDS: each row of YtemmeoikenbmgaaDoorRows.lean that lists a variable, with what it lists TIED to the program's text (the seventh form; the later family's looks); each row that meets fmt, with fmt's text TOLD by the authors' own Lean function (tested against real Go, not proved from fmt's source: count such statements apart). THE CARD IS WHAT COUNTS. Prove the row's statement (the work); the ties are given (YtemmeoikenbmgaaDoorTie.lean); close each card by the builder's one call (the guide's Derived/Test/ToyasCard.lean, 'card_holds'). Laid BY PROGRAM, IN A SANDBOX (cutbox-door.mjs). By AI agents, Wed Nov 11 2026. No macro, syntax, notation, axiom, sorry.
-/
import Derived.Test.YtemmeoikenbmgaaDoorRows
import GoSem.ClaimSeven
namespace Go.Proofs.YtemmeoikenbmgaaDoor
namespace Rows

/-- THE TIED CARD OF 'truchmanlaw11.JnumReads'. -/
def jnumReadsCard : Claim7 := { stood := { row := jnumReadsRow, standIns := [], harness := (true, "4539c990add755ab82dd9ba468ec59c7cc71159ee83e1857a58d64f672d76c57"), looks := false }, kinds := [], alts := [], laidByText := true, laidKinds := [.data, .pinned], laidTests := true, laidLooks := .later }
def JnumReadsCardSaid : Prop := Claim7.holds Tryd.pinned (.plain (OpenSpec.ofChange jnumReadsSpec)) jnumReadsCard

/-- THE TIED CARD OF 'truchmanlaw11.JnumWhole'. -/
def jnumWholeCard : Claim7 := { stood := { row := jnumWholeRow, standIns := [], harness := (true, "4539c990add755ab82dd9ba468ec59c7cc71159ee83e1857a58d64f672d76c57"), looks := false }, kinds := [], alts := [], laidByText := true, laidKinds := [.data, .pinned], laidTests := true, laidLooks := .later }
def JnumWholeCardSaid : Prop := Claim7.holds Tryd.pinned (.plain (OpenSpec.ofChange jnumWholeSpec)) jnumWholeCard

/-- THE TIED CARD OF 'truchmanlaw11.JnumSame'. -/
def jnumSameCard : Claim7 := { stood := { row := jnumSameRow, standIns := [], harness := (true, "4539c990add755ab82dd9ba468ec59c7cc71159ee83e1857a58d64f672d76c57"), looks := false }, kinds := [], alts := [], laidByText := true, laidKinds := [.data, .pinned], laidTests := true, laidLooks := .later }
def JnumSameCardSaid : Prop := Claim7.holds Tryd.pinned (.plain (OpenSpec.ofChange jnumSameSpec)) jnumSameCard

/-- THE SECOND FORM's CARD OF 'truchmanlaw11.JnumReads'. -/
def jnumReadsUptoCard : Claim7 := { stood := { row := jnumReadsUptoRow, standIns := [], harness := (true, "4539c990add755ab82dd9ba468ec59c7cc71159ee83e1857a58d64f672d76c57"), looks := false }, kinds := [], alts := [], laidByText := true, laidKinds := [.data, .pinned], laidTests := true, laidLooks := .later }
def JnumReadsUptoCardSaid : Prop := Claim7.holds Tryd.pinned (.plain (OpenSpec.upto jnumReadsSpec)) jnumReadsUptoCard

/-- THE SECOND FORM's CARD OF 'truchmanlaw11.JnumWhole'. -/
def jnumWholeUptoCard : Claim7 := { stood := { row := jnumWholeUptoRow, standIns := [], harness := (true, "4539c990add755ab82dd9ba468ec59c7cc71159ee83e1857a58d64f672d76c57"), looks := false }, kinds := [], alts := [], laidByText := true, laidKinds := [.data, .pinned], laidTests := true, laidLooks := .later }
def JnumWholeUptoCardSaid : Prop := Claim7.holds Tryd.pinned (.plain (OpenSpec.upto jnumWholeSpec)) jnumWholeUptoCard

/-- THE SECOND FORM's CARD OF 'truchmanlaw11.JnumSame'. -/
def jnumSameUptoCard : Claim7 := { stood := { row := jnumSameUptoRow, standIns := [], harness := (true, "4539c990add755ab82dd9ba468ec59c7cc71159ee83e1857a58d64f672d76c57"), looks := false }, kinds := [], alts := [], laidByText := true, laidKinds := [.data, .pinned], laidTests := true, laidLooks := .later }
def JnumSameUptoCardSaid : Prop := Claim7.holds Tryd.pinned (.plain (OpenSpec.upto jnumSameSpec)) jnumSameUptoCard
end Rows
end Go.Proofs.YtemmeoikenbmgaaDoor
