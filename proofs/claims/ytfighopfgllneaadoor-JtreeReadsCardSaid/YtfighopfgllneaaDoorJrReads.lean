/- JtreeReads, walked. -/
import Derived.Test.YtfighopfgllneaaDoorZO
import Derived.Test.YtfighopfgllneaaDoorJrSm
import Derived.Test.YtfighopfgllneaaDoorJrWork
namespace Go.Proofs.YtfighopfgllneaaDoor
open Go Go.RowKit
set_option linter.unusedVariables false

theorem rdT_len {ts : List TK} {la : Option Int} (hs : SgE ts) : (rdT ts la).1.length ≤ ts.length := by
  by_cases h : (rdT ts la).2 = 0
  · exact wf_len (rdT_good hs h).2
  · rw [rdT_bad h]; exact Nat.zero_le _
theorem kreads_long (s : ByteArray) (w : World) (h : 300 < s.size) (hh : Hds w) :
    Calls Tryd.prog 3 #[.string s] w fun e w' => e = .returned (.bool true) ∧ Below w.heap.size w w' := by
  have p1 : decide (300 < (s.size : Int)) = true := decide_eq_true (by omega)
  have HT := Lib.hid hh
  clear hh
  go_enter Tryd.func3, Tryd.ntmps3
  go_wp2_with ((with_reducible refine (works13_any _ HT.out).mono ?_); rintro e w2 ⟨rfl, hbel2⟩)
  go_ret
  exact ⟨rfl, hbel2⟩
theorem kread_prog (s : ByteArray) (w : World) (ts : List TK) (la : Int) (hs : s.size ≤ 1099511627774) (hsf : SfL ts (some la) s.data.toList) (hsg : SgE ts) (ht : Hds w) :
    Calls Tryd.prog 6 #[.string s] w fun e w' => ∃ a k, e = .returned (.tuple #[.slice a (rdT ts (some la)).1.length k, .int .i64 (rdT ts (some la)).2]) ∧ NIn w' a (rdT ts (some la)).1 ∧ Below w.heap.size w w' := by
  have hl := sf_len _ _ _ hsf
  rw [toList_size] at hl
  refine (read_any s w ts (some la) (by omega) hsf hsg (by omega) (fun e => by cases e) ht).mono ?_
  rintro e w' ⟨v, he, hrow, hb⟩
  obtain ⟨d, k, hv, hi⟩ := hrow.inn
  rw [hv] at he
  exact ⟨d, k, he, hi, hb⟩
theorem kread_ref (s : ByteArray) (w : World) (ts : List TK) (la : Int) (hs : s.size ≤ 1099511627774) (hsf : SfL ts (some la) s.data.toList) (hsg : SgE ts) :
    Calls Tryd.prog 7 #[.string s] w fun e w' => ∃ a k, e = .returned (.tuple #[.slice a (rdT ts (some la)).1.length k, .int .i64 (rdT ts (some la)).2]) ∧ NIn w' a (rdT ts (some la)).1 ∧ Below w.heap.size w w' := by
  refine (rread_any s ts la w hs hsf hsg).mono ?_
  rintro e w' ⟨v, he, hrow, hb⟩
  obtain ⟨d, k, hv, hi⟩ := hrow.inn
  rw [hv] at he
  exact ⟨d, k, he, hi, hb⟩
theorem knback {w : World} (a : Option Addr) (cap : Nat) (l : List ND) (hl : l.length ≤ 1099511627775) (hin : NIn w a l) :
    Calls Tryd.prog 9 #[.slice a l.length cap] w fun e w' => ∃ d k, e = .returned (.slice d l.length k) ∧ NIn w' d l ∧ Below w.heap.size w w' := by
  refine (nback_any a cap l w hl hin).mono ?_
  rintro e w' ⟨v, he, hrow, hb⟩
  obtain ⟨d, k, hv, hi⟩ := hrow.inn
  rw [hv] at he
  exact ⟨d, k, he, hi, hb⟩
/-- A text's tokens, and what they are. -/
theorem text_toks (s : ByteArray) (hs : s.size ≤ 1099511627774) : ∃ ts la, SfL ts (some la) s.data.toList ∧ SgE ts ∧ (∀ x ∈ ts, TOk x) ∧ ts.length ≤ s.size ∧ tsz ts ≤ s.size := by
  obtain ⟨ts, la, h1, h2, h3, h4⟩ := sf_all _ s.data.toList rfl
  rw [toList_size] at h2 h3
  exact ⟨ts, la, h1, sg_of h4 (by omega), h4, h2, h3⟩
set_option maxRecDepth 100000 in
set_option maxHeartbeats 4000000 in
theorem kreads_short (s : ByteArray) (w : World) (h : s.size ≤ 300) (hh : Hds w) :
    Calls Tryd.prog 3 #[.string s] w fun e w' => e = .returned (.bool true) ∧ Below w.heap.size w w' := by
  have p1 : decide (300 < (s.size : Int)) = false := decide_eq_false (by omega)
  have HT := Lib.hid (show ∀ w', Below w.heap.size w w' → Hds w' from fun w' hb => hh.below hb hh.lt)
  obtain ⟨ts, la, hsf, hsg, _, hl, _⟩ := text_toks s (by omega)
  have HA := Lib.hid (kread_prog s w ts la (by omega) hsf hsg hh)
  have HB := Lib.hid (fun w => kread_ref s w ts la (by omega) hsf hsg)
  have HL : (rdT ts (some la)).1.length ≤ 1099511627775 := by have := rdT_len (la := some la) hsg; omega
  generalize (rdT ts (some la)).1 = L at *
  generalize (rdT ts (some la)).2 = C at *
  clear hh hsf hsg hl
  go_enter Tryd.func3, Tryd.ntmps3
  go_wp2_with fail
  refine HA.out.mono ?_
  rintro e w1 ⟨a1, k1, rfl, i1, b1⟩
  go_wp2_with fail
  refine (HB.out _).mono ?_
  rintro e w2 ⟨a2, k2, rfl, i2, b2⟩
  have I1 := Lib.hid (i1.below b2 (Nat.le_refl _))
  have I2 := Lib.hid i2
  have B2 := Lib.hid (grown_then b1 b2)
  clear i1 i2 b1 b2 HA HB
  have d1 : decide (L = L) = true := decide_eq_true rfl
  go_wp2_with fail
  with_reducible refine (knback a1 k1 L HL I1.out).mono ?_
  rintro e w3 ⟨a3, k3, rfl, i3, b3⟩
  have I3 := Lib.hid i3
  have J2 := Lib.hid (I2.out.below b3 (Nat.le_refl _))
  have B3 := Lib.hid (grown_then B2.out b3)
  clear i3 b3 I1 I2 B2
  go_wp2_with fail
  with_reducible refine (nodes_same a3 a2 k3 k2 L L _ (by omega) I3.out J2.out).mono ?_
  rintro e w4 ⟨rfl, b4⟩
  have B4 := Lib.hid (grown_then B3.out b4)
  clear b4 B3 I3 J2
  go_wp2_with fail
  with_reducible refine (works13_any _ (HT.out _ B4.out)).mono ?_
  rintro e w5 ⟨rfl, b5⟩
  have B5 := Lib.hid (grown_then B4.out b5)
  clear b5
  go_wp2
  go_ret
  exact ⟨rfl, B5.out⟩
theorem jreads_any (s : ByteArray) (w : World) (hs : s.size ≤ 140737488351232) (hh : Hds w) :
    Calls Tryd.prog 3 #[.string s] w fun e w' => e = .returned (.bool true) ∧ Below w.heap.size w w' := by
  by_cases h : 300 < s.size
  · exact kreads_long s w h hh
  · exact kreads_short s w (by omega) hh
end Go.Proofs.YtfighopfgllneaaDoor
