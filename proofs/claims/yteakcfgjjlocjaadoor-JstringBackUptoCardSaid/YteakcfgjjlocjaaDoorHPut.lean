/- Package hexa's Put, Text. -/
import Derived.Test.YteakcfgjjlocjaaDoorHWorth
import Derived.Deep.RegionHeld3
import Derived.Deep.AppendLies
import Derived.Deep.DrawnRows
namespace Go.Proofs.YteakcfgjjlocjaaDoor
open Go Go.RowKit
set_option linter.unusedVariables false

theorem bV_two (a b : UInt8) : bV [a, b] = [.int .u8 (a.toNat : Int), .int .u8 (b.toNat : Int)] := rfl
def HPutRel (t : TypeId) (W : World) (l : List UInt8) (s : ByteArray) (v i : Value) (wr : World) : Prop :=
  ∃ k : Nat, k ≤ s.size ∧ i = .int .i64 k ∧ Bts t wr W.heap.size v (l ++ hx (s.data.toList.take k)) ∧ Below W.heap.size W wr
/-- Behind an append to a list that the call made nothing turns but that list's block, and what is new. -/
theorem grown_below {t : TypeId} {W wr w1 : World} {B : Nat} {v : Value} {l : List UInt8} {o : Obj} (hb : Bts t wr B v l) (hbel : Below B W wr) (hB : B ≤ wr.heap.size) (hgr : ((wr.alloc o).drew).grownBy w1 v.ownBlock) : Below B W w1 := by
  have hs : (wr.alloc o).drew.heap.size = wr.heap.size + 1 := by simp
  refine hbel.trans ⟨hgr.os, hgr.tape, hgr.output, by have := hgr.size; omega, fun k hk => ?_⟩
  have hne : some k ≠ v.ownBlock := fun hk' => by
    have := (World.ownsRow.lt hb k hk'.symm).1
    omega
  rw [hgr.block k (by omega) hne]
  exact Below.heap_alloc _ _ _ (by omega)
theorem bts_more {t : TypeId} {w : World} {B n : Nat} {v : Value} {L M : List UInt8} (h : w.ownsRow B t 1 v n (bV L ++ bV M)) (hn : n = (L ++ M).length) : Bts t w B v (L ++ M) := by
  unfold Bts
  rw [bV_append, ← hn]; exact h
attribute [local go_sem ↓] Go.wp_at_zero Go.wp_at_succ
set_option maxRecDepth 20000 in
theorem hput_any (a : Option Addr) (cap : Nat) (l : List UInt8) (s : ByteArray) (w : World) (hl : l.length + 2 * s.size ≤ 140737488351232) (hin : BIn w a l) :
    Calls Tryd.prog 48 #[.slice a l.length cap, .string s] w fun e w' => ∃ v, e = .returned v ∧ Bts 5 w' w.heap.size v (l ++ hx s.data.toList) ∧ Below w.heap.size w w' := by
  obtain ⟨i0, hi, hz0, hz1, hz2⟩ := info_parts info8
  obtain ⟨m, hm⟩ : ∃ m, m = 2 * s.size := ⟨_, rfl⟩
  have hmk := Lib.hid (fun w => make_bytes l.length m w (by omega))
  obtain ⟨w2, hcp0, hbt, hbel⟩ := copy_fact Tryd.prog 35 5 3 i0 Tryd.underlying35 size8 w a cap m l hin (by unfold maxLen; omega)
  have hcp := Lib.hid hcp0
  clear hin hcp0
  have hw1 : IntKind.i64.wrap (2 * (s.size : Int)) = (m : Int) := by rw [IntWalk.i64_in _ (by omega)]; omega
  have hw : IntKind.i64.wrap ((l.length : Int) + (m : Int)) = (l.length : Int) + (m : Int) := IntWalk.i64_in _ (by omega)
  have hM := Lib.hid hm
  clear hm
  go_enter Tryd.func48, Tryd.ntmps48
  go_wp2_with fail
  rw [hmk.out]
  go_wp2_with fail
  rw [hcp.out]
  go_wp2_with fail
  go_loopw [5, 21] (fun v i wr => HPutRel 5 w l s v i wr) (fun _ i _ => s.size - (intOf i).toNat)
  case atStart => exact ⟨0, Nat.zero_le _, rfl, by simpa [hx] using hbt, hbel⟩
  case round =>
    obtain ⟨k, hk, rfl, hb, hbe⟩ := hrel
    by_cases hlt : k < s.size
    · have p1 : decide ((k : Int) < (s.size : Int)) = true := decide_eq_true (by omega)
      have hk0 : (0 : Int) ≤ (k : Int) := by omega
      have hk1 : (k : Int) < (s.size : Int) := by omega
      have hT := Lib.hid (show hx (s.data.toList.take (k + 1)) = hx (s.data.toList.take k) ++ [hd (s[k].toNat / 16), hd (s[k].toNat % 16)] by
        have h' : k < s.data.toList.length := by rw [toList_size]; exact hlt
        rw [hx_take _ k h', byte_at s k hlt h'])
      have hlen : (l ++ hx (s.data.toList.take k)).length + 2 ≤ 140737488351232 := by
        have := hM.out
        rw [List.length_append, hx_length, List.length_take, Nat.min_eq_left (by rw [toList_size]; omega)]; omega
      have hB := s[k].toNat_lt
      obtain ⟨B, hBe⟩ : ∃ B, B = s[k].toNat := ⟨_, rfl⟩
      rw [← hBe] at hT hB
      obtain ⟨q, hq⟩ : ∃ q, q = B / 16 := ⟨_, rfl⟩
      obtain ⟨r, hr⟩ : ∃ r, r = B % 16 := ⟨_, rfl⟩
      rw [← hq, ← hr] at hT
      have m1 : (B : Int) / 16 = (q : Int) := by omega
      have m2 : (B : Int).tmod 16 = (r : Int) := by rw [Int.tmod_eq_emod_of_nonneg (by omega)]; omega
      have m3 : (B : Int).tdiv 16 = (q : Int) := by rw [Int.tdiv_eq_ediv_of_nonneg (by omega)]; omega
      have m4 : (B : Int) % 16 = (r : Int) := by omega
      have q16 : q < 16 := by omega
      have r16 : r < 16 := by omega
      have m5 : IntKind.u8.wrap (q : Int) = (q : Int) := IntWalk.u8_in _ (by omega)
      have m6 : IntKind.u8.wrap (r : Int) = (r : Int) := IntWalk.u8_in _ (by omega)
      have hBe' : (s[k].toNat : Int) = (B : Int) := by omega
      have iq0 : (0 : Int) ≤ (q : Int) := by omega
      have ir0 : (0 : Int) ≤ (r : Int) := by omega
      have iq1 : (q : Int) < 16 := by omega
      have ir1 : (r : Int) < 16 := by omega
      clear hq hr hBe
      have dq := digit_at q q16
      have dr := digit_at r r16
      have hsz := hbe.size
      go_wp2_with fail
      go_region_held3 (fun w' => True)
        (exact trivial)
        ((refine step_append_lies _ (by rfl) _ _ _ (by rfl) w.heap.size 5 i0 (.int .u8 0) 1 1 Tryd.underlying35 hi hz0 hz1 hz2 rfl (by omega) u5 _ _ (by rfl) ((World.ownsRow.alloc hb _).drew)
            ⟨wr.heap.size, 0, none⟩ 2 2 (bV [hd q, hd r]) (by rfl) (by rfl) (World.news_of_block (cs := #[.int .u8 ((hd q).toNat : Int), .int .u8 ((hd r).toNat : Int)]) (t := 5) (fr := (0, 0)) (heap_alloc_new wr _)) (bV_one _)
            (by omega) (by unfold maxLen; omega) (by omega) (by simp; omega) (wr.heap.size + 1) (by simp) ?_; intro g2 cap2 w1 hown1 hgrow hat hltg))
      all_goals (
        have hb2 := bts_more hown1 (by simp only [List.length_append]; rfl)
        have hbe2 := grown_below hb hbe hsz hgrow
        clear hown1 hgrow
        go_wp2
        go_roundw
        case rel => exact ⟨k + 1, by omega, by go_num, by rw [hT.out, ← List.append_assoc]; simpa using hb2, hbe2⟩
        case measure => simp [intOf]; omega)
    · have p1 : decide ((k : Int) < (s.size : Int)) = false := decide_eq_false (by omega)
      have hkn : k = s.size := by omega
      subst hkn
      have hall := Lib.hid (show s.data.toList.take s.size = s.data.toList by rw [List.take_of_length_le]; rw [toList_size]; exact Nat.le_refl _)
      go_wp2
      go_ret
      exact ⟨_, rfl, by rw [← hall.out]; exact hb, hbe⟩

theorem bin_none (w : World) : BIn w none [] := fun j h => by simp at h
theorem htext_any (s : ByteArray) (w : World) (hs : 2 * s.size ≤ 140737488351232) :
    Calls Tryd.prog 38 #[.string s] w fun e w' => e = .returned (.string (bA (hx s.data.toList))) ∧ Below w.heap.size w w' := by
  have hp := Lib.hid (show ∀ w, Calls Tryd.prog 48 #[.slice none 0 0, .string s] w fun e w' => ∃ v, e = .returned v ∧ Bts 5 w' w.heap.size v (hx s.data.toList) ∧ Below w.heap.size w w' from
    fun w => hput_any none 0 [] s w (by simpa using hs) (bin_none w))
  go_enter Tryd.func38, Tryd.ntmps38
  go_wp2_with fail
  with_reducible refine (hp.out _).mono ?_
  rintro e w1 ⟨v, rfl, hbt, hbel⟩
  have hcv := Lib.hid (hbt.text (P := Tryd.prog) Tryd.underlying35 Tryd.underlying5 Tryd.underlying9)
  clear hbt
  go_wp2_with fail
  rw [hcv.out]
  go_wp2
  go_ret
  exact ⟨rfl, hbel⟩
end Go.Proofs.YteakcfgjjlocjaaDoor
