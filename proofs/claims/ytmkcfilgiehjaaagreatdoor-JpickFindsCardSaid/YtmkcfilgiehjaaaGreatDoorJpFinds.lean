/- JpickFinds, walked. -/
import Derived.Test.YtmkcfilgiehjaaaGreatDoorZZ
import Derived.Test.YtmkcfilgiehjaaaGreatDoorJpWork
namespace Go.Proofs.YtmkcfilgiehjaaaGreatDoor
open Go Go.RowKit
set_option linter.unusedVariables false

theorem jfinds_long (s k : ByteArray) (x : Int) (w : World) (h : 300 < s.size) (hh : Hds w) (hm : MaxL w) :
    Calls Tryz.prog 3 #[.string s, .int .i64 x, .string k] w fun e w' => e = .returned (.bool true) ∧ Below w.heap.size w w' := by
  have p1 : decide (300 < (s.size : Int)) = true := decide_eq_true (by omega)
  have HW := Lib.hid (works14_any w hh hm)
  clear hh hm
  go_enter Tryz.func3, Tryz.ntmps3
  go_wp2_with ((with_reducible refine HW.out.mono ?_); rintro e w2 ⟨rfl, hbel2⟩)
  go_ret
  exact ⟨rfl, hbel2⟩
def FnRel (L : List ND) (W : World) (i : Value) (wr : World) : Prop := ∃ j : Nat, j ≤ L.length + 2 ∧ i = .int .i64 ((j : Int) - 1) ∧ Below W.heap.size W wr
set_option maxRecDepth 100000 in
set_option maxHeartbeats 4000000 in
theorem jfinds_short (s : ByteArray) (key : List UInt8) (x : Int) (w : World) (h : s.size ≤ 300) (h0 : -9223372036854775808 ≤ x) (h1 : x ≤ 9223372036854775807) (hh : Hds w) (hm : MaxL w) :
    Calls Tryz.prog 3 #[.string s, .int .i64 x, .string (bA key)] w fun e w' => e = .returned (.bool true) ∧ Below w.heap.size w w' := by
  have p1 : decide (300 < (s.size : Int)) = false := decide_eq_false (by omega)
  have HT := Lib.hid (show ∀ w', Below w.heap.size w w' → Hds w' ∧ MaxL w' from fun w' hb => ⟨hh.below hb hh.lt, hm.below hb hm.lt⟩)
  obtain ⟨L, C, hsz, hL, _, hR⟩ := l14_set s h
  have HR := Lib.hid (hR w)
  have HS := Lib.hid hsz
  have HX := Lib.hid (And.intro h0 h1)
  clear hh hm hR hsz h h0 h1
  go_enter Tryz.func3, Tryz.ntmps3
  go_wp2_with fail
  with_reducible refine HR.out.mono ?_
  rintro e w1 ⟨a1, k1, rfl, i1, b1⟩
  have I1 := Lib.hid i1
  have B1 := Lib.hid b1
  clear i1 b1 HR
  go_wp2_with fail
  with_reducible refine (l14_own a1 k1 L hL w1 I1.out).mono ?_
  rintro e w2 ⟨a2, k2, rfl, i2, b2⟩
  have I2 := Lib.hid i2
  have J1 := Lib.hid (I1.out.below b2 (Nat.le_refl _))
  have B2 := Lib.hid (B1.out.trans (b2.mono B1.out.size))
  clear i2 b2 I1 B1
  have hLI : (L.length : Int) ≤ 300 := by omega
  go_wp2_with fail
  go_loopw [10] (fun i wr => FnRel L w2 i wr) (fun i _ => L.length + 2 - (intOf i + 1).toNat)
  case atStart => exact ⟨0, by omega, rfl, Below.refl _ _⟩
  case round =>
    obtain ⟨j, hj, rfl, hbel⟩ := hrel
    have HB := Lib.hid hbel
    clear hbel
    by_cases hlt : j < L.length + 2
    · have p2 : decide ((j : Int) - 1 ≤ (L.length : Int)) = true := decide_eq_true (by omega)
      have p3 : (j : Int) - 1 ≤ (L.length : Int) := by omega
      have HP := Lib.hid (fun wx (hb : Below w2.heap.size w2 wx) => jfind_any a2 k2 L ((j : Int) - 1) key wx (by omega) (I2.out.below hb (Nat.le_refl _)) HS.out (by omega) (by omega))
      have HQ := Lib.hid (fun wx (hb : Below w2.heap.size w2 wx) => rfind_any a1 k1 L ((j : Int) - 1) key wx (by omega) (J1.out.below hb (Nat.le_refl _)) HS.out (by omega) (by omega))
      have zw : IntKind.i64.wrap ((j : Int) - 1 + 1) = (j : Int) := by rw [i64_small (by omega) (by omega)]; omega
      have HJ := Lib.hid hlt
      cases hf : fdL L ((j : Int) - 1) key with
      | none =>
        rw [hf] at HP HQ
        clear hf hlt
        unfold fdV at HP HQ
        go_wp2_with fail
        with_reducible refine (HP.out wr HB.out).mono ?_
        rintro e w3 ⟨rfl, b3⟩
        have B3 := Lib.hid (HB.out.trans (b3.mono HB.out.size))
        clear b3
        go_wp2_with fail
        with_reducible refine (HQ.out w3 B3.out).mono ?_
        rintro e w4 ⟨rfl, b4⟩
        have B4 := Lib.hid (B3.out.trans (b4.mono B3.out.size))
        clear b4 HP HQ
        go_wp2
        go_roundw
        case rel => exact ⟨j + 1, by have := HJ.out; omega, by go_num, B4.out⟩
        case measure => have := HJ.out; simp [intOf]; omega
      | some q =>
        obtain ⟨hq, hk⟩ := fdL_at HS.out hf
        obtain ⟨g, hg, hgl, -, c1, -⟩ := J1.out q hq
        subst hg
        rw [← ky_at hq, hk] at c1
        have q1 : (q : Int) < (L.length : Int) := by omega
        have q2 : (0 : Int) ≤ (q : Int) := by omega
        rw [hf] at HP HQ
        clear hf hlt hk
        unfold fdV at HP HQ
        go_wp2_with fail
        with_reducible refine (HP.out wr HB.out).mono ?_
        rintro e w3 ⟨rfl, b3⟩
        have B3 := Lib.hid (HB.out.trans (b3.mono HB.out.size))
        clear b3
        go_wp2_with fail
        with_reducible refine (HQ.out w3 B3.out).mono ?_
        rintro e w4 ⟨rfl, b4⟩
        have B4 := Lib.hid (B3.out.trans (b4.mono B3.out.size))
        have d1 := (B4.out.cell (p := ⟨g, q * 4 + 1, none⟩) hgl).trans c1
        clear b4 HP HQ c1
        go_wp2
        go_roundw
        case rel => exact ⟨j + 1, by have := HJ.out; omega, by go_num, B4.out⟩
        case measure => have := HJ.out; simp [intOf]; omega
    · have p2 : decide ((j : Int) - 1 ≤ (L.length : Int)) = false := decide_eq_false (by omega)
      have p3 : ¬ (j : Int) - 1 ≤ (L.length : Int) := by omega
      have HP := Lib.hid (fun wx (hb : Below w2.heap.size w2 wx) => jfind_any a2 k2 L x key wx (by omega) (I2.out.below hb (Nat.le_refl _)) HS.out HX.out.1 HX.out.2)
      have HQ := Lib.hid (fun wx (hb : Below w2.heap.size w2 wx) => rfind_any a1 k1 L x key wx (by omega) (J1.out.below hb (Nat.le_refl _)) HS.out HX.out.1 HX.out.2)
      generalize fdV (fdL L x key) = v at *
      clear hlt
      go_wp2_with fail
      with_reducible refine (HP.out wr HB.out).mono ?_
      rintro e w3 ⟨rfl, b3⟩
      have B3 := Lib.hid (HB.out.trans (b3.mono HB.out.size))
      clear b3
      go_wp2_with fail
      with_reducible refine (HQ.out w3 B3.out).mono ?_
      rintro e w4 ⟨rfl, b4⟩
      have B4 := Lib.hid (B2.out.trans ((B3.out.trans (b4.mono B3.out.size)).mono B2.out.size))
      have HW := Lib.hid (works14_any w4 (HT.out _ B4.out).1 (HT.out _ B4.out).2)
      clear b4 HP HQ
      go_wp2_with fail
      with_reducible refine HW.out.mono ?_
      rintro e w5 ⟨rfl, b5⟩
      have B5 := Lib.hid (B4.out.trans (b5.mono B4.out.size))
      clear b5 HW
      go_wp2
      go_ret
      exact ⟨rfl, B5.out⟩
theorem jfinds_any (s : ByteArray) (x : Int) (k : ByteArray) (w : World) (hs : s.size ≤ 140737488351232) (h0 : -9223372036854775808 ≤ x) (h1 : x ≤ 9223372036854775807) (hk : k.size ≤ 140737488351232) (hh : Hds w) (hm : MaxL w) :
    Calls Tryz.prog 3 #[.string s, .int .i64 x, .string k] w fun e w' => e = .returned (.bool true) ∧ Below w.heap.size w w' := by
  by_cases h : 300 < s.size
  · exact jfinds_long s k x w h hh hm
  · have := jfinds_short s k.data.toList x w (by omega) h0 h1 hh hm
    rw [bA_of] at this; exact this
end Go.Proofs.YtmkcfilgiehjaaaGreatDoor
