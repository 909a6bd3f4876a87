/- JtreeReads, walked. -/
import Derived.Test.YtfighopfgllneaaGreatDoorZO
import Derived.Test.YtfighopfgllneaaGreatDoorJrSm
import Derived.Test.YtfighopfgllneaaGreatDoorJrWork
namespace Go.Proofs.YtfighopfgllneaaGreatDoor
open Go Go.RowKit
set_option linter.unusedVariables false

theorem rdT_len {ts : List TK} {la : Option Int} (hs : SgE ts) : (rdT ts la).1.length ≤ ts.length := by
  by_cases h : (rdT ts la).2 = 0
  · exact wf_len (rdT_good hs h).2
  · rw [rdT_bad h]; exact Nat.zero_le _
theorem kread_prog (s : ByteArray) (w : World) (ts : List TK) (la : Int) (hs : s.size ≤ 1099511627774) (hsf : SfL ts (some la) s.data.toList) (hsg : SgE ts) (ht : Hds w) :
    Calls Tryz.prog 6 #[.string s] w fun e w' => ∃ a k, e = .returned (.tuple #[.slice a (rdT ts (some la)).1.length k, .int .i64 (rdT ts (some la)).2]) ∧ NIn w' a (rdT ts (some la)).1 ∧ Below w.heap.size w w' := by
  have hl := sf_len _ _ _ hsf
  rw [toList_size] at hl
  refine (read_any s w ts (some la) (by omega) hsf hsg (by omega) (fun e => by cases e) ht).mono ?_
  rintro e w' ⟨v, he, hrow, hb⟩
  obtain ⟨d, k, hv, hi⟩ := hrow.inn
  rw [hv] at he
  exact ⟨d, k, he, hi, hb⟩
theorem kread_ref (s : ByteArray) (w : World) (ts : List TK) (la : Int) (hs : s.size ≤ 1099511627774) (hsf : SfL ts (some la) s.data.toList) (hsg : SgE ts) :
    Calls Tryz.prog 5 #[.string s] w fun e w' => ∃ a k, e = .returned (.tuple #[.slice a (rdT ts (some la)).1.length k, .int .i64 (rdT ts (some la)).2]) ∧ NIn w' a (rdT ts (some la)).1 ∧ Below w.heap.size w w' := by
  refine (rread_any s ts la w hs hsf hsg).mono ?_
  rintro e w' ⟨v, he, hrow, hb⟩
  obtain ⟨d, k, hv, hi⟩ := hrow.inn
  rw [hv] at he
  exact ⟨d, k, he, hi, hb⟩
theorem knback {w : World} (a : Option Addr) (cap : Nat) (l : List ND) (hl : l.length ≤ 1099511627775) (hin : NIn w a l) :
    Calls Tryz.prog 8 #[.slice a l.length cap] w fun e w' => ∃ d k, e = .returned (.slice d l.length k) ∧ NIn w' d l ∧ Below w.heap.size w w' := by
  refine (nback_any a cap l w hl hin).mono ?_
  rintro e w' ⟨v, he, hrow, hb⟩
  obtain ⟨d, k, hv, hi⟩ := hrow.inn
  rw [hv] at he
  exact ⟨d, k, he, hi, hb⟩
/-- A text's tokens, and what they are. -/
theorem text_toks (s : ByteArray) (hs : s.size ≤ 1099511627774) : ∃ ts la, SfL ts (some la) s.data.toList ∧ SgE ts ∧ (∀ x ∈ ts, TOk x) ∧ ts.length ≤ s.size ∧ tsz ts ≤ s.size := by
  obtain ⟨ts, la, h1, h2, h3, h4⟩ := sf_all _ s.data.toList rfl
  rw [toList_size] at h2 h3
  exact ⟨ts, la, h1, sg_of h4 (by omega), h4, h2, h3⟩
end Go.Proofs.YtfighopfgllneaaGreatDoor
