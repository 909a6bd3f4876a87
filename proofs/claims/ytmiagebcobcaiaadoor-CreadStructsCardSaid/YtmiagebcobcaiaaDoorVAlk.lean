/- varint's Read, the program's and the document's, of cursors that are alike. -/
import Derived.Test.YtmiagebcobcaiaaDoorVarRefB
namespace Go.Proofs.YtmiagebcobcaiaaDoor
open Go Go.RowKit
set_option linter.unusedVariables false

/-- The cursor and the document's own: of one error; while there is none, at one place. -/
def Alike (c r : CS) : Prop := c.ok ∧ r.ok ∧ c.er = r.er ∧ (c.er = 0 → c = r) ∧ c.s = r.s

theorem vr_l {b : Nat} {c d : CS} {V : Int} {w : World} (hd : Hid (d = c.vTo)) (hV : Hid (V = (c.vVal : Nat))) (h : CurT 83 w b c) (hc : c.ok) :
    Calls Tryd.prog 39 #[.pointer (some ⟨b, 0, none⟩)] w fun e w' => e = .returned (.int .u64 V) ∧ CurT 83 w' b d ∧ Only b w w' := by
  rw [hd.out, hV.out]; exact vread_any h hc

theorem vVal_err {c : CS} (h : ¬ c.er = 0) : c.vVal = 0 := (CS.vread_err h).2
/-- The document's own Read, of a cursor that is alike. -/
theorem rr_l {c r : CS} {V : Int} (hV : Hid (V = (c.vVal : Nat))) (ha : Hid (Alike c r)) (hs : r.s.size ≤ 140737488351232) (w : World) :
    Calls Tryd.prog 49 #[.agg #[.string r.s, .int .i64 r.at_, .int .i64 r.en, .int .i64 r.er]] w fun e w' => ∃ d, e = .returned (.tuple #[.agg #[.string d.s, .int .i64 d.at_, .int .i64 d.en, .int .i64 d.er], .int .u64 V]) ∧ Alike c.vTo d ∧ d.s = r.s ∧ Below w.heap.size w w' := by
  obtain ⟨h1, h2, h3, h4, h5⟩ := ha.out
  refine (rread_any r w h2 hs).mono ?_
  rintro e w' ⟨d, rfl, d1, d2, d3, d4, d5, hb⟩
  have e2 := hV.out
  by_cases h0 : c.er = 0
  · have := h4 h0
    subst this
    refine ⟨d, by rw [e2]; rfl, ⟨CS.vTo_ok h1, d5, by rw [CS.vTo_er, d1], fun h => (d2 (by rw [← CS.vTo_er]; exact h)).symm, by rw [(CS.vTo_s c).1, d3]⟩, d3, hb⟩
  · have h0' : ¬ r.er = 0 := by rw [← h3]; exact h0
    have hcode : r.vCode = r.er := by unfold CS.vCode; rw [if_pos h0']
    refine ⟨d, by rw [e2, vVal_err h0, vVal_err h0']; rfl, ⟨CS.vTo_ok h1, d5, ?_, fun h => ?_, by rw [(CS.vTo_s c).1, d3, h5]⟩, d3, hb⟩
    · rw [(CS.vread_err h0).1, d1, hcode, h3]
    · rw [(CS.vread_err h0).1] at h; exact absurd h h0

end Go.Proofs.YtmiagebcobcaiaaDoor
