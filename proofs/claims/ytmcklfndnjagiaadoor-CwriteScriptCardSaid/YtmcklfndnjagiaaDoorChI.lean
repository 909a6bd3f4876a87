/- The document's own heads (package truchmanref20): Is, number, bytes. -/
import Derived.Test.YtmcklfndnjagiaaDoorChNum
import Derived.Test.YtmcklfndnjagiaaDoorVarRefA
namespace Go.Proofs.YtmcklfndnjagiaaDoor
open Go Go.RowKit
set_option linter.unusedVariables false

theorem ris_any (k : Nat) (w : World) :
    Calls Tryd.prog 50 #[.int .u8 (k : Nat)] w fun e w' => e = .returned (.bool (kB k)) ∧ w' = w := by
  unfold kB
  rcases Bool.eq_false_or_eq_true (decide (1 ≤ k)) with h1 | h1 <;> rcases Bool.eq_false_or_eq_true (decide (k ≤ 12)) with h2 | h2 <;>
    (have p1 : decide ((1 : Int) ≤ (k : Int)) = decide (1 ≤ k) := by apply decide_eq_decide.mpr; omega
     have p1' : decide ((k : Int) ≥ 1) = decide (1 ≤ k) := by apply decide_eq_decide.mpr; omega
     have p2 : decide ((k : Int) ≤ 12) = decide (k ≤ 12) := by apply decide_eq_decide.mpr; omega
     rw [h1] at p1 p1'; rw [h2] at p2
     rw [h1, h2]
     have HK := Lib.hid (And.intro h1 h2)
     go_enter Tryd.func50, Tryd.ntmps50
     go_wp2
     go_ret
     exact ⟨rfl, rfl⟩)
theorem rnum_any (i : Int) (w : World) :
    Calls Tryd.prog 51 #[.int .i64 i] w fun e w' => e = .returned (.bool (numB i)) ∧ w' = w := by
  unfold numB
  rcases Bool.eq_false_or_eq_true (decide (-32768 ≤ i)) with h1 | h1 <;> rcases Bool.eq_false_or_eq_true (decide (i ≤ 32767)) with h2 | h2 <;>
    (rw [h1, h2]
     go_enter Tryd.func51, Tryd.ntmps51
     go_wp2
     go_ret
     exact ⟨rfl, rfl⟩)
set_option maxRecDepth 10000 in
theorem rbytes_any (x : Nat) (hx : x < 256) (w : World) :
    Calls Tryd.prog 52 #[.int .u8 (x : Nat)] w fun e w' => e = .returned (.string (bA [UInt8.ofNat x])) ∧ Below w.heap.size w w' := by
  have hz := Lib.hid (show (x : Int) = ((UInt8.ofNat x).toNat : Int) by rw [toNat_ofNat8 hx])
  have hone := Lib.hid (text_one Tryd.prog 52 5 9 w (x : Int) _ hz.out Tryd.underlying52 Tryd.underlying5 Tryd.underlying9)
  go_enter Tryd.func52, Tryd.ntmps52
  go_wp2_with fail
  rw [hone.out]
  go_wp2
  go_ret
  exact ⟨rfl, by go_grown⟩

theorem ris_l {k : Nat} {x : Bool} (hx : Hid (x = kB k)) (w : World) :
    Calls Tryd.prog 50 #[.int .u8 (k : Nat)] w fun e w' => e = .returned (.bool x) ∧ w' = w := by
  rw [hx.out]; exact ris_any k w
theorem rnum_l {i : Int} {x : Bool} (hx : Hid (x = numB i)) (w : World) :
    Calls Tryd.prog 51 #[.int .i64 i] w fun e w' => e = .returned (.bool x) ∧ w' = w := by
  rw [hx.out]; exact rnum_any i w
end Go.Proofs.YtmcklfndnjagiaaDoor
