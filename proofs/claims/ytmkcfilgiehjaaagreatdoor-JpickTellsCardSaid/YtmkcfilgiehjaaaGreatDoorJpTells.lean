/- JpickTells, walked. -/
import Derived.Test.YtmkcfilgiehjaaaGreatDoorYX
import Derived.Test.YtmkcfilgiehjaaaGreatDoorJpTlS
namespace Go.Proofs.YtmkcfilgiehjaaaGreatDoor
open Go Go.RowKit
set_option linter.unusedVariables false

theorem jtells_any (s : ByteArray) (x : Int) (k : ByteArray) (w : World) (hs : s.size ≤ 140737488351232) (h0 : -9223372036854775808 ≤ x) (h1 : x ≤ 9223372036854775807) (hk : k.size ≤ 140737488351232) (hh : Hds w) (hm : MaxL w) :
    Calls Tryz.prog 4 #[.string s, .int .i64 x, .string k] w fun e w' => e = .returned (.bool true) ∧ Below w.heap.size w w' := by
  by_cases h : 300 < s.size
  · exact jtells_long s k x w h hh hm
  · obtain ⟨L, C, hsz, hL, htx, hR⟩ := l14_set s (by omega)
    have this : Calls Tryz.prog 4 #[.string s, .int .i64 x, .string (bA k.data.toList)] w fun e w' => e = .returned (.bool true) ∧ Below w.heap.size w w' := by
      cases hp : (pkL L x k.data.toList 116 102).1 with
      | none => exact jtells_none s L C k.data.toList x w (by omega) hsz hL htx hR h0 h1 hh hm hp
      | some q => exact jtells_some s L C k.data.toList x w (by omega) hsz hL htx hR h0 h1 hh hm q hp
    rw [bA_of] at this; exact this
end Go.Proofs.YtmkcfilgiehjaaaGreatDoor
