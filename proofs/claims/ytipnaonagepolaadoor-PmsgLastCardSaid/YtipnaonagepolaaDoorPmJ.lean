/- Package pmsg: Joined: all bytes of a field, one behind the other. -/
import Derived.Test.YtipnaonagepolaaDoorZK
import Derived.Test.YtipnaonagepolaaDoorShelf
namespace Go.Proofs.YtipnaonagepolaaDoor
open Go Go.RowKit
set_option linter.unusedVariables false

theorem joinTail_flat : ∀ r : List (List UInt8), Lib.joinTail [] r = r.flatten
  | [] => rfl
  | a :: r => by simp [Lib.joinTail]
theorem join_flat : ∀ L : List (List UInt8), Lib.join L [] = L.flatten
  | [] => rfl
  | a :: r => by rw [Lib.join_cons, joinTail_flat, List.flatten_cons]
theorem fJoin_flat (l : List ByteArray) : (l.map fun s => s.data.toList).flatten = fJoin l := (List.flatMap_def).symm
theorem SBts.in_cap {w : World} {B : Nat} {v : Value} {l : List ByteArray} (h : SBts w B v l) : ∃ a cap, v = .slice a l.length cap ∧ SIn w a l ∧ l.length ≤ cap := by
  obtain ⟨a, cap, hv, hin⟩ := h.inn
  refine ⟨a, cap, hv, hin, ?_⟩
  rcases h.2 with ⟨rfl, hn⟩ | ⟨g, c, cur, rfl, _, _, hc, _⟩
  · omega
  · simp only [Value.slice.injEq] at hv
    omega
theorem join_any (a : Option Addr) (c : Nat) (l : List ByteArray) (w : World) (hin : SIn w a l) (hc : l.length ≤ c) (hl : l.length ≤ 1099511627776) (hj : (fJoin l).length ≤ 140737488355328) :
    Calls Tryd.prog 29 #[.slice a l.length c, .string ⟨#[]⟩] w fun e w' => e = .returned (.string (bA (fJoin l))) ∧ Below w.heap.size w w' := by
  by_cases h0 : l = []
  · subst h0
    refine (Any.strings_Join_none joinL builderX a c ⟨#[]⟩ w).mono ?_
    rintro e w' ⟨rfl, rfl⟩
    exact ⟨rfl, Below.refl _ _⟩
  · obtain ⟨b, off, rfl, hb, _⟩ := hin 0 (List.length_pos_iff.2 h0)
    have e1 : Lib.join (l.map (·.data.toList)) (⟨#[]⟩ : ByteArray).data.toList = fJoin l := by
      rw [← fJoin_flat]; exact join_flat _
    refine (Any.strings_Join joinL builderX b off c l ⟨#[]⟩ w (fun j x hx => ?_) hb (by omega) hc (by rw [e1]; exact hj)).mono ?_
    · obtain ⟨hj, rfl⟩ := List.getElem?_eq_some_iff.1 hx
      obtain ⟨b2, off2, e2, _, h2⟩ := hin j hj
      simp only [Option.some.injEq, Addr.mk.injEq] at e2
      obtain ⟨rfl, rfl, _⟩ := e2
      exact h2
    · rintro e w' ⟨rfl, hb⟩
      rw [e1]
      exact ⟨rfl, hb⟩
theorem pmjoined_any (mp : Option Addr) (l : List FD) (n : Int) (w : World) (h : MsgIn w mp l) (hl : l.length ≤ 1099511627776) (hj : (fJoin (fEach l n)).length ≤ 140737488355328) :
    Calls Tryd.prog 13 #[.pointer mp, .int .i64 n] w fun e w' => e = .returned (.tuple #[.string (bA (fJoin (fEach l n))), .bool (decide (0 < (fEach l n).length))]) ∧ Below w.heap.size w w' := by
  have HE := Lib.hid (pmeach_any mp l n w h hl)
  have hle := fEach_le l n
  generalize fEach l n = L at *
  have HJ := Lib.hid hj
  clear hj h
  go_enter Tryd.func13, Tryd.ntmps13
  go_wp2_with (first
    | (go_at_call 16; refine HE.out.mono ?_; rintro e w1 ⟨v, rfl, hs, hb⟩; obtain ⟨a, c, hv, hin, hc⟩ := hs.in_cap; subst hv; have B1 := Lib.hid hb; have HS := Lib.hid (And.intro hin hc); clear hs hb hin hc)
    | (go_at_call 29; refine (join_any a c L _ HS.out.1 HS.out.2 (by omega) HJ.out).mono ?_; rintro e w2 ⟨rfl, hb2⟩; have B2 := Lib.hid (below_on B1.out hb2 B1.out.size); clear hb2))
  go_ret2
  exact ⟨by simp, B2.out⟩
end Go.Proofs.YtipnaonagepolaaDoor
