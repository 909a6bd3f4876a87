/- CursorStays, walked: it returns true, whatever the text, the number and the code are, and turns nothing that was there. -/
import Derived.Test.YtikjckdeciagiaaWorks
namespace Go.Proofs.Ytikjckdeciagiaa
open Go Go.RowKit
set_option linter.unusedVariables false

def StaysSaid (W : World) (e : Ending) (w' : World) : Prop := e = .returned (.bool true) ∧ Below W.heap.size W w'

theorem byte_bad {c : CS} (h : c.er ≠ 0) : c.byte = c ∧ c.peekB = 0 ∧ c.peekIs = false ∧ c.endC = c.er ∧ (∀ k, c.fail k = c) ∧ (∀ n, ¬ c.why n = 0) ∧ (∀ n, c.take n = c) ∧ (∀ n, c.takeS n = ⟨#[]⟩) := by
  have hw : ∀ n, c.why n = c.er := fun n => by unfold CS.why; rw [if_pos h]
  have ht : ∀ n, c.take n = c := fun n => by unfold CS.take; rw [if_neg (by rw [hw]; exact h), hw]
  have hp : c.peekIs = false := by unfold CS.peekIs; simp [h]
  exact ⟨ht 1, CS.peekB_no hp, hp, by unfold CS.endC; rw [if_neg (fun x => h x.1)], fun k => by unfold CS.fail; rw [if_neg h], fun n => by rw [hw]; exact h, ht, fun n => takeS_no (by rw [hw]; exact h)⟩

theorem stays_no (s : ByteArray) (n code : Int) (w : World) (hs : s.size ≤ 9223372036854775807) (h : n < 0 ∨ (s.size : Int) < n ∨ code = 0) :
    Calls Try.prog 5 #[.string s, .int .i64 n, .int .i64 code] w (StaysSaid w) := by
  have hpick : (decide (n < 0) = true) ∨ (decide (n < 0) = false ∧ decide ((s.size : Int) < n) = true) ∨ (decide (n < 0) = false ∧ decide ((s.size : Int) < n) = false ∧ (code == 0) = true) := by
    by_cases a : n < 0
    · exact Or.inl (by simp [a])
    · by_cases b : (s.size : Int) < n
      · exact Or.inr (Or.inl ⟨by simp [a], by simp [b]⟩)
      · exact Or.inr (Or.inr ⟨by simp [a], by simp [b], by simp; omega⟩)
  clear h
  rcases hpick with p1 | ⟨p1, p2⟩ | ⟨p1, p2, p3⟩
  all_goals
    go_enter Try.func5, Try.ntmps5
    go_wp2_with (first | ((with_reducible refine (new_cur s _ hs).mono ?_); rintro e w1 ⟨b, rfl, hb, hc1, hbel1⟩) | ((with_reducible refine (works_any _).mono ?_); rintro e w2 ⟨rfl, hbel2⟩))
    go_ret
    exact ⟨rfl, hbel1.trans (hbel2.mono hbel1.size)⟩

theorem stays_yes (s : ByteArray) (n : Nat) (code : Int) (w : World) (hs : s.size ≤ 9223372036854775807) (hn : n ≤ s.size) (hcode : code ≠ 0) :
    Calls Try.prog 5 #[.string s, .int .i64 n, .int .i64 code] w (StaysSaid w) := by
  have p1 : decide ((n : Int) < 0) = false := by simp
  have p2 : decide (s.size < n) = false := by simp; omega
  have p3 : (code == 0) = false := by simp [hcode]
  have o1 : CS.ok (CS.new s) := CS.new_ok hs
  have o2 : CS.ok ⟨s, n, s.size, code⟩ := ⟨hn, Nat.le_refl _, hs⟩
  have T1 : CS.take (CS.new s) n = ⟨s, n, s.size, 0⟩ := by
    rw [take_yes (CS.why_mk rfl (by omega) (by simp [CS.new]; omega))]; simp [CS.past, CS.new]
  have F1 : CS.fail ⟨s, n, s.size, 0⟩ code = ⟨s, n, s.size, code⟩ := rfl
  obtain ⟨q1, q2, q3, q4, q5, q6, q7, q8⟩ := byte_bad (c := ⟨s, n, s.size, code⟩) hcode
  have C1 : ∀ b w, CurT 53 w b (CS.new s) → Calls Try.prog 13 #[.pointer (some ⟨b, 0, none⟩), .int .i64 n] w fun e w' => e = .returned (.string ((CS.new s).takeS n)) ∧ CurT 53 w' b ⟨s, n, s.size, 0⟩ ∧ Only b w w' := fun b w h => by
    have := take_any h o1 n; rw [T1] at this; exact this
  have C2 : ∀ b w, CurT 53 w b ⟨s, n, s.size, 0⟩ → Calls Try.prog 14 #[.pointer (some ⟨b, 0, none⟩), .int .i64 code] w fun e w' => e = .returned (.tuple #[]) ∧ CurT 53 w' b ⟨s, n, s.size, code⟩ ∧ Only b w w' := fun b w h => fail_any h code
  have C3 : ∀ b w, CurT 53 w b ⟨s, n, s.size, code⟩ → Calls Try.prog 14 #[.pointer (some ⟨b, 0, none⟩), .int .i64 2] w fun e w' => e = .returned (.tuple #[]) ∧ CurT 53 w' b ⟨s, n, s.size, code⟩ ∧ Only b w w' := fun b w h => by
    have := fail_any h 2; rw [q5] at this; exact this
  have C4 : ∀ b w, CurT 53 w b ⟨s, n, s.size, code⟩ → Calls Try.prog 20 #[.pointer (some ⟨b, 0, none⟩)] w fun e w' => e = .returned (.tuple #[.int .u8 0, .bool false]) ∧ ∃ n, w' = w.drewN n := fun b w h => by
    have := peek_any h o2; rw [q2, q3] at this; exact this
  have C5 : ∀ b w, CurT 53 w b ⟨s, n, s.size, code⟩ → Calls Try.prog 11 #[.pointer (some ⟨b, 0, none⟩)] w fun e w' => e = .returned (.int .u8 0) ∧ CurT 53 w' b ⟨s, n, s.size, code⟩ ∧ Only b w w' := fun b w h => by
    have := byte_any h o2; rw [q1, q2] at this; exact this
  have C6 : ∀ b w, CurT 53 w b ⟨s, n, s.size, code⟩ → Calls Try.prog 13 #[.pointer (some ⟨b, 0, none⟩), .int .i64 0] w fun e w' => e = .returned (.string ⟨#[]⟩) ∧ CurT 53 w' b ⟨s, n, s.size, code⟩ ∧ Only b w w' := fun b w h => by
    have := take_any h o2 0; rw [q7, q8] at this; exact this
  have C7 : ∀ b w, CurT 53 w b ⟨s, n, s.size, code⟩ → Calls Try.prog 17 #[.pointer (some ⟨b, 0, none⟩), .int .i64 0] w fun e w' => e = .returned (.pointer none) ∧ CurT 53 w' b ⟨s, n, s.size, code⟩ ∧ Only b w w' := fun b w h => by
    have := sub_no h o2 0 (q6 0); rw [q7] at this; exact this
  have C8 : ∀ b w, CurT 53 w b ⟨s, n, s.size, code⟩ → Calls Try.prog 21 #[.pointer (some ⟨b, 0, none⟩)] w fun e w' => e = .returned (.int .i64 n) ∧ w' = w := fun b w h => at_any h o2
  have C9 : ∀ b w, CurT 53 w b ⟨s, n, s.size, code⟩ → Calls Try.prog 22 #[.pointer (some ⟨b, 0, none⟩)] w fun e w' => e = .returned (.int .i64 code) ∧ w' = w := fun b w h => err_any h
  have C10 : ∀ b w, CurT 53 w b ⟨s, n, s.size, code⟩ → Calls Try.prog 19 #[.pointer (some ⟨b, 0, none⟩)] w fun e w' => e = .returned (.int .i64 code) ∧ ∃ n, w' = w.drewN n := fun b w h => by
    have := end_any h o2; rw [q4] at this; exact this
  have D1 := Lib.hid C1; have D2 := Lib.hid C2; have D3 := Lib.hid C3; have D4 := Lib.hid C4; have D5 := Lib.hid C5; have D6 := Lib.hid C6; have D7 := Lib.hid C7; have D8 := Lib.hid C8; have D9 := Lib.hid C9; have D10 := Lib.hid C10
  clear C1 C2 C3 C4 C5 C6 C7 C8 C9 C10 q1 q2 q3 q4 q5 q6 q7 q8 T1 F1 hcode
  go_enter Try.func5, Try.ntmps5
  go_wp2_with ((with_reducible refine (new_cur s _ hs).mono ?_); rintro e w1 ⟨b, rfl, hb, hc1, hbel1⟩)
  have z1 := hbel1.size
  refine (D1.out _ _ hc1).mono ?_
  rintro e w2 ⟨rfl, hc2, ho2⟩
  go_wp2_with fail
  refine (D2.out _ _ hc2).mono ?_
  rintro e w3 ⟨rfl, hc3, ho3⟩
  go_wp2_with fail
  refine (D3.out _ _ hc3).mono ?_
  rintro e w4 ⟨rfl, hc4, ho4⟩
  have z4 := ((ho2.trans ho3).trans ho4).size
  have hbel4 := hbel1.trans (((ho2.trans ho3).trans ho4).below hb z1)
  clear ho2 ho3 ho4 hbel1 hc1 hc2 hc3
  go_wp2_with fail
  refine (D4.out _ _ hc4).mono ?_
  rintro e w' ⟨rfl, m, rfl⟩
  go_wp2_with fail
  refine (D5.out _ _ (hc4.drewN m)).mono ?_
  rintro e w5 ⟨rfl, hc5, ho5⟩
  go_wp2_with fail
  refine (D6.out _ _ hc5).mono ?_
  rintro e w6 ⟨rfl, hc6, ho6⟩
  go_wp2_with fail
  refine (D7.out _ _ hc6).mono ?_
  rintro e w7 ⟨rfl, hc7, ho7⟩
  go_wp2_with (first | ((with_reducible refine (D8.out _ _ hc7).mono ?_); rintro e w' ⟨rfl, rfl⟩) | ((with_reducible refine (D9.out _ _ hc7).mono ?_); rintro e w' ⟨rfl, rfl⟩) | ((with_reducible refine (D10.out _ _ hc7).mono ?_); rintro e w' ⟨rfl, m2, rfl⟩) | ((with_reducible refine (works_any _).mono ?_); rintro e w8 ⟨rfl, hbel8⟩))
  go_ret
  have hbel7 : Below w.heap.size w _ := (Below.drewN hbel4 m).trans (((ho5.trans ho6).trans ho7).below hb (Nat.le_trans z1 z4))
  exact ⟨rfl, (Below.drewN hbel7 m2).trans (hbel8.mono hbel7.size)⟩

theorem stays_any (s : ByteArray) (n code : Int) (w : World) (hs : s.size ≤ 9223372036854775807) :
    Calls Try.prog 5 #[.string s, .int .i64 n, .int .i64 code] w (StaysSaid w) := by
  by_cases h : n < 0 ∨ (s.size : Int) < n ∨ code = 0
  · exact stays_no s n code w hs h
  · obtain ⟨m, rfl⟩ := Int.eq_ofNat_of_zero_le (show 0 ≤ n by omega)
    exact stays_yes s m code w hs (by omega) (fun e => h (Or.inr (Or.inr e)))

end Go.Proofs.Ytikjckdeciagiaa
