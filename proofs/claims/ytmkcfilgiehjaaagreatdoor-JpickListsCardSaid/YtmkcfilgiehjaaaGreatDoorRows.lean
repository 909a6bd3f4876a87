/-
  NARROWER THAN 'FOR EVERY INPUT', by the rows' own cells (each row's printed sentence says how): JpickFinds: laid · JpickTells: laid · JpickLists: laid.
  DERIVED. THE GIVEN ROWS OF THIS SEAT. 3 by the template 'for every input the law returns true; each argument reads behind the call as it read before'; 0 by the template 'total and deterministic' (their statements: YtmkcfilgiehjaaaGreatDoorTotals.lean).
  GIVEN WITH THE SEED: the statements are not yours to turn. If you find one false, say at which input.
  Laid BY PROGRAM, IN A SANDBOX (cutbox-rows.mjs): the forced cells as the released guide's own fill.sh prints them over the translation 8d55173f5b5f8b40… (all of the seat's roots in one cut). By AI agents, Wed Nov 11 2026. No macro, syntax, notation, axiom, sorry.
-/
import Derived.Test.YtmkcfilgiehjaaaGreatDoorChecked
import GoSem.PinnedTables
import GoSem.Claim
import GoSem.ClaimJoined
import GoSem.ClaimMapViews
import Derived.JoinedTies
import Derived.KernelRfl
namespace Go.Proofs.YtmkcfilgiehjaaaGreatDoor
/- THE CELL 'sum', in the pinned program and in every row, IS THE sha256 OF THE DUMP (.gsa) THAT YtmkcfilgiehjaaaGreatDoorProg.lean LOADS. Nothing in Lean hashes anything: it is a label: what it is worth is what the hold of that sum in a sandbox is worth. -/
noncomputable def Tryz.pinned : Pinned := { name := "ytmkcfilgiehjaaagreatdoor", sum := "8d55173f5b5f8b404fd9a4945913b3a577a938247d5ce84b69ebf5f29bc6b8f8", checked := Tryz.checked }
namespace Rows
def none {H : Type} : Left H := { results := [], args := [] }

/- WHAT THE LISTED PACKAGE-LEVEL VARIABLES READ AS WHEN THE CALL BEGINS. Each datum BY PROGRAM (the guide's laid-datum.mjs) off the statement by which the dump's own 'gosem.cut.vars' lays the variable. In a bare row this is a premise. The card (YtmkcfilgiehjaaaGreatDoorCards.lean) ties it to the program's text. -/
def laid_truchman_utf_heads {H : Type} : DataW H := .agg [.lit (.int .u8 0), .lit (.int .u8 0), .lit (.int .u8 192), .lit (.int .u8 224), .lit (.int .u8 240)]
def laid_unicode_utf8_acceptRanges {H : Type} : DataW H := .agg [.agg [.lit (.int .u8 128), .lit (.int .u8 191)], .agg [.lit (.int .u8 160), .lit (.int .u8 191)], .agg [.lit (.int .u8 128), .lit (.int .u8 159)], .agg [.lit (.int .u8 144), .lit (.int .u8 191)], .agg [.lit (.int .u8 128), .lit (.int .u8 143)], .agg [.lit (.int .u8 0), .lit (.int .u8 0)], .agg [.lit (.int .u8 0), .lit (.int .u8 0)], .agg [.lit (.int .u8 0), .lit (.int .u8 0)], .agg [.lit (.int .u8 0), .lit (.int .u8 0)], .agg [.lit (.int .u8 0), .lit (.int .u8 0)], .agg [.lit (.int .u8 0), .lit (.int .u8 0)], .agg [.lit (.int .u8 0), .lit (.int .u8 0)], .agg [.lit (.int .u8 0), .lit (.int .u8 0)], .agg [.lit (.int .u8 0), .lit (.int .u8 0)], .agg [.lit (.int .u8 0), .lit (.int .u8 0)], .agg [.lit (.int .u8 0), .lit (.int .u8 0)]]
/-- One of Go's own tables, pinned by name: the form's constant. -/
def laid_unicode_utf8_first : DataW Unit := Go.Pinned.utf8First

/-- 'truchmanlaw14.JpickFinds': WHATEVER THE INPUT: true; the input reads as it did. -/
def jpickFindsSpec : ChangeSpec := { name := "jpickFinds", fn := fun _ => fun
  | [d1, d2, d3] => { results := [.lit (.bool true)], args := [d1, d2, d3] }
  | _ => none }
def jpickFindsRow : OpenClaim := { program := "ytmkcfilgiehjaaagreatdoor", sum := "8d55173f5b5f8b404fd9a4945913b3a577a938247d5ce84b69ebf5f29bc6b8f8", func := "truchman/truchmanlaw14.JpickFinds", spec := "jpickFinds", inPlace := ["internal/bytealg.IndexByteString", "internal/bytealg.IndexString", "internal/abi.NoEscape", "internal/bytealg.MakeNoZero"], unfollowed := true, recurses := true, named := ["truchman/utf.heads", "unicode/utf8.first", "unicode/utf8.acceptRanges", "internal/bytealg.MaxLen"], apart := false, laid := [("truchman/utf.heads", laid_truchman_utf_heads), ("unicode/utf8.acceptRanges", laid_unicode_utf8_acceptRanges), ("unicode/utf8.first", laid_unicode_utf8_first)] }
def JpickFindsSaid : Prop := jpickFindsRow.holds Tryz.pinned (OpenSpec.ofChange jpickFindsSpec)

/-- ITS FALSE NEIGHBOUR: 'it returns false'. Refute it at one input. -/
def jpickFindsWrong : ChangeSpec := { name := "jpickFinds", fn := fun _ => fun
  | [d1, d2, d3] => { results := [.lit (.bool false)], args := [d1, d2, d3] }
  | _ => none }
def JpickFindsWrongFalsely : Prop := jpickFindsRow.holds Tryz.pinned (OpenSpec.ofChange jpickFindsWrong)

/-- 'truchmanlaw14.JpickTells': WHATEVER THE INPUT: true; the input reads as it did. -/
def jpickTellsSpec : ChangeSpec := { name := "jpickTells", fn := fun _ => fun
  | [d1, d2, d3] => { results := [.lit (.bool true)], args := [d1, d2, d3] }
  | _ => none }
def jpickTellsRow : OpenClaim := { program := "ytmkcfilgiehjaaagreatdoor", sum := "8d55173f5b5f8b404fd9a4945913b3a577a938247d5ce84b69ebf5f29bc6b8f8", func := "truchman/truchmanlaw14.JpickTells", spec := "jpickTells", inPlace := ["internal/bytealg.IndexByteString", "internal/bytealg.IndexString", "internal/abi.NoEscape", "internal/bytealg.MakeNoZero"], unfollowed := true, recurses := true, named := ["truchman/utf.heads", "unicode/utf8.first", "unicode/utf8.acceptRanges", "internal/bytealg.MaxLen"], apart := false, laid := [("truchman/utf.heads", laid_truchman_utf_heads), ("unicode/utf8.acceptRanges", laid_unicode_utf8_acceptRanges), ("unicode/utf8.first", laid_unicode_utf8_first)] }
def JpickTellsSaid : Prop := jpickTellsRow.holds Tryz.pinned (OpenSpec.ofChange jpickTellsSpec)

/-- ITS FALSE NEIGHBOUR: 'it returns false'. Refute it at one input. -/
def jpickTellsWrong : ChangeSpec := { name := "jpickTells", fn := fun _ => fun
  | [d1, d2, d3] => { results := [.lit (.bool false)], args := [d1, d2, d3] }
  | _ => none }
def JpickTellsWrongFalsely : Prop := jpickTellsRow.holds Tryz.pinned (OpenSpec.ofChange jpickTellsWrong)

/-- 'truchmanlaw14.JpickLists': WHATEVER THE INPUT: true; the input reads as it did. -/
def jpickListsSpec : ChangeSpec := { name := "jpickLists", fn := fun _ => fun
  | [d1, d2, d3] => { results := [.lit (.bool true)], args := [d1, d2, d3] }
  | _ => none }
def jpickListsRow : OpenClaim := { program := "ytmkcfilgiehjaaagreatdoor", sum := "8d55173f5b5f8b404fd9a4945913b3a577a938247d5ce84b69ebf5f29bc6b8f8", func := "truchman/truchmanlaw14.JpickLists", spec := "jpickLists", inPlace := ["internal/bytealg.IndexByteString", "internal/bytealg.IndexString", "internal/abi.NoEscape", "internal/bytealg.MakeNoZero"], unfollowed := true, recurses := true, named := ["truchman/utf.heads", "unicode/utf8.first", "unicode/utf8.acceptRanges", "internal/bytealg.MaxLen"], apart := false, laid := [("truchman/utf.heads", laid_truchman_utf_heads), ("unicode/utf8.acceptRanges", laid_unicode_utf8_acceptRanges), ("unicode/utf8.first", laid_unicode_utf8_first)] }
def JpickListsSaid : Prop := jpickListsRow.holds Tryz.pinned (OpenSpec.ofChange jpickListsSpec)

/-- ITS FALSE NEIGHBOUR: 'it returns false'. Refute it at one input. -/
def jpickListsWrong : ChangeSpec := { name := "jpickLists", fn := fun _ => fun
  | [d1, d2, d3] => { results := [.lit (.bool false)], args := [d1, d2, d3] }
  | _ => none }
def JpickListsWrongFalsely : Prop := jpickListsRow.holds Tryz.pinned (OpenSpec.ofChange jpickListsWrong)

/- THE SECOND FORM. 'bulk': how many values and letters a reading holds, each counted each time it is reached (what is shared counts as often as it is met; a slice's spare places count too). A statement '..UptoSaid' is the law's where the arguments, and the package variables that the reading takes, are together of bulk at most 1048576: NARROWER than '..Said'. Prove '..Said' where nothing that the law and all that it calls make is longer than what came in: it says more and counts as full. Else prove '..UptoSaid'. A law counts once. -/
mutual
def uptoBulk {H : Type} : DataW H → Nat
  | .lit (.string bytes) => bytes.length + 1
  | .lit _ => 1
  | .nil => 1
  | .ptr d => uptoBulk d + 1
  | .slice elems spare => uptoBulkAll elems + uptoBulkAll spare + 1
  | .agg parts => uptoBulkAll parts + 1
  | .iface _ d => uptoBulk d + 1
  | .map entries => uptoBulkEntries entries + 1
  | .held _ => 1
def uptoBulkAll {H : Type} : List (DataW H) → Nat
  | [] => 0
  | d :: r => uptoBulk d + uptoBulkAll r
def uptoBulkEntries {H : Type} : List (Lit × DataW H) → Nat
  | [] => 0
  | x :: r => uptoBulkEntry x + uptoBulkEntries r
def uptoBulkEntry {H : Type} : Lit × DataW H → Nat
  | (.string bytes, d) => bytes.length + uptoBulk d + 1
  | (_, d) => uptoBulk d + 1
 end
def uptoSmall : (H : Type) → List (DataW H) → Bool := fun _ ds => decide (uptoBulkAll ds ≤ 1048576)
def OpenSpec.upto (s : _root_.Go.ChangeSpec) : _root_.Go.OpenSpec := { _root_.Go.OpenSpec.ofChange s with cond := some uptoSmall }

/-- 'truchmanlaw14.JpickFinds', WHERE WHAT IT READS IS OF BULK AT MOST 1048576: true; the input reads as it did. -/
def jpickFindsUptoRow : OpenClaim := { program := "ytmkcfilgiehjaaagreatdoor", sum := "8d55173f5b5f8b404fd9a4945913b3a577a938247d5ce84b69ebf5f29bc6b8f8", func := "truchman/truchmanlaw14.JpickFinds", spec := "jpickFinds", inPlace := ["internal/bytealg.IndexByteString", "internal/bytealg.IndexString", "internal/abi.NoEscape", "internal/bytealg.MakeNoZero"], unfollowed := true, recurses := true, named := ["truchman/utf.heads", "unicode/utf8.first", "unicode/utf8.acceptRanges", "internal/bytealg.MaxLen"], apart := false, laid := [("truchman/utf.heads", laid_truchman_utf_heads), ("unicode/utf8.acceptRanges", laid_unicode_utf8_acceptRanges), ("unicode/utf8.first", laid_unicode_utf8_first)], narrowed := true }
def JpickFindsUptoSaid : Prop := jpickFindsUptoRow.holds Tryz.pinned (OpenSpec.upto jpickFindsSpec)

/-- 'truchmanlaw14.JpickTells', WHERE WHAT IT READS IS OF BULK AT MOST 1048576: true; the input reads as it did. -/
def jpickTellsUptoRow : OpenClaim := { program := "ytmkcfilgiehjaaagreatdoor", sum := "8d55173f5b5f8b404fd9a4945913b3a577a938247d5ce84b69ebf5f29bc6b8f8", func := "truchman/truchmanlaw14.JpickTells", spec := "jpickTells", inPlace := ["internal/bytealg.IndexByteString", "internal/bytealg.IndexString", "internal/abi.NoEscape", "internal/bytealg.MakeNoZero"], unfollowed := true, recurses := true, named := ["truchman/utf.heads", "unicode/utf8.first", "unicode/utf8.acceptRanges", "internal/bytealg.MaxLen"], apart := false, laid := [("truchman/utf.heads", laid_truchman_utf_heads), ("unicode/utf8.acceptRanges", laid_unicode_utf8_acceptRanges), ("unicode/utf8.first", laid_unicode_utf8_first)], narrowed := true }
def JpickTellsUptoSaid : Prop := jpickTellsUptoRow.holds Tryz.pinned (OpenSpec.upto jpickTellsSpec)

/-- 'truchmanlaw14.JpickLists', WHERE WHAT IT READS IS OF BULK AT MOST 1048576: true; the input reads as it did. -/
def jpickListsUptoRow : OpenClaim := { program := "ytmkcfilgiehjaaagreatdoor", sum := "8d55173f5b5f8b404fd9a4945913b3a577a938247d5ce84b69ebf5f29bc6b8f8", func := "truchman/truchmanlaw14.JpickLists", spec := "jpickLists", inPlace := ["internal/bytealg.IndexByteString", "internal/bytealg.IndexString", "internal/abi.NoEscape", "internal/bytealg.MakeNoZero"], unfollowed := true, recurses := true, named := ["truchman/utf.heads", "unicode/utf8.first", "unicode/utf8.acceptRanges", "internal/bytealg.MaxLen"], apart := false, laid := [("truchman/utf.heads", laid_truchman_utf_heads), ("unicode/utf8.acceptRanges", laid_unicode_utf8_acceptRanges), ("unicode/utf8.first", laid_unicode_utf8_first)], narrowed := true }
def JpickListsUptoSaid : Prop := jpickListsUptoRow.holds Tryz.pinned (OpenSpec.upto jpickListsSpec)

end Rows
end Go.Proofs.YtmkcfilgiehjaaaGreatDoor
