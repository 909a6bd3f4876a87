/- varint's Read, the program's and the document's, of cursors that are alike. -/
import Derived.Test.YtmcklfndnjagiaaDoorVarRefB
namespace Go.Proofs.YtmcklfndnjagiaaDoor
open Go Go.RowKit
set_option linter.unusedVariables false

/-- The cursor and the document's own: of one error; while there is none, at one place. -/
def Alike (c r : CS) : Prop := c.ok ∧ r.ok ∧ c.er = r.er ∧ (c.er = 0 → c = r) ∧ c.s = r.s

theorem vr_l {b : Nat} {c d : CS} {V : Int} {w : World} (hd : Hid (d = c.vTo)) (hV : Hid (V = (c.vVal : Nat))) (h : CurT 105 w b c) (hc : c.ok) :
    Calls Tryd.prog 62 #[.pointer (some ⟨b, 0, none⟩)] w fun e w' => e = .returned (.int .u64 V) ∧ CurT 105 w' b d ∧ Only b w w' := by
  rw [hd.out, hV.out]; exact vread_any h hc

theorem vVal_err {c : CS} (h : ¬ c.er = 0) : c.vVal = 0 := (CS.vread_err h).2

end Go.Proofs.YtmcklfndnjagiaaDoor
