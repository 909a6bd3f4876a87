/- CreadLast, walked. -/
import Derived.Test.YtmiagebcobcaiaaDoorCrOpn
import Derived.Test.YtmiagebcobcaiaaDoorCrWork
namespace Go.Proofs.YtmiagebcobcaiaaDoor
open Go Go.RowKit
set_option linter.unusedVariables false

theorem crlt_out (a : Option Addr) (cap : Nat) (l : List GD) (id : Int) (k : Nat) (w : World) (h : 40 < l.length) (ht : Tab w) :
    Calls Tryd.prog 5 #[.slice a l.length cap, .int .i64 id, .int .u8 (k : Nat)] w fun e w' => e = .returned (.bool true) ∧ Below w.heap.size w w' := by
  have HT := Lib.hid ht
  have p1 : decide ((40 : Int) < (l.length : Int)) = true := decide_eq_true (by omega)
  have p1' : decide (40 < l.length) = true := decide_eq_true h
  clear ht h
  go_enter Tryd.func5, Tryd.ntmps5
  go_wp2_with ((with_reducible refine (works22_any _ HT.out).mono ?_); rintro e w2 ⟨rfl, hbel2⟩)
  go_ret
  exact ⟨rfl, hbel2⟩
theorem lsVW (id : Int) (k : Nat) (l : List GD) : lsV id k l = lsW id k l := rfl
def ClRel (W : World) (l : List GD) (v i : Value) (wr : World) : Prop := ∃ j : Nat, j ≤ l.length ∧ i = .int .i64 (j : Nat) ∧ GRow 39 wr W.heap.size v (l.take j) ∧ Below W.heap.size W wr
set_option maxRecDepth 20000 in
set_option maxHeartbeats 2000000 in
theorem crlt_in (a : Option Addr) (cap : Nat) (l : List GD) (id : Int) (k : Nat) (w : World) (h : l.length ≤ 40) (hin : GInO w a l) (ht : Tab w) :
    Calls Tryd.prog 5 #[.slice a l.length cap, .int .i64 id, .int .u8 (k : Nat)] w fun e w' => e = .returned (.bool true) ∧ Below w.heap.size w w' := by
  have HT := Lib.hid (show ∀ w', Below w.heap.size w w' → Tab w' from fun w' hb => ht.below hb ht.lt)
  have p1 : decide ((40 : Int) < (l.length : Int)) = false := decide_eq_false (by omega)
  have p1' : decide (40 < l.length) = false := decide_eq_false (by omega)
  have HI := Lib.hid hin
  have HLa := Lib.hid (fun ad cp w (h2 : GIn w ad l) => last_any l id k ad cp w (by omega) h2)
  have HRl := Lib.hid (fun cp w (h2 : GInO w a l) => rlast_any l id k a cp w (by omega) h2)
  rw [lsVW] at HLa
  obtain ⟨Y, hY⟩ : ∃ Y, Y = lsW id k l := ⟨_, rfl⟩
  rw [← hY] at HLa HRl
  obtain ⟨⟨y0, y1, y2, y3, y4, y5⟩, yb⟩ := Y
  clear ht hin hY
  go_enter Tryd.func5, Tryd.ntmps5
  go_wp2_with fail
  go_loopw [7, 8] (fun v i wr => ClRel w l v i wr) (fun _ i _ => l.length - (intOf i).toNat)
  case atStart => exact ⟨0, Nat.zero_le _, rfl, grow_nil _ _ _, Below.refl _ _⟩
  case round =>
    obtain ⟨j, hj, rfl, hrow, hbel⟩ := hrel
    by_cases hlt : j < l.length
    · have p2 : decide ((j : Int) < (l.length : Int)) = true := decide_eq_true (by omega)
      have p3 : (j : Int) < (l.length : Int) := by omega
      obtain ⟨b, off, e1, e2, k0, k1, k2, k3, k4, k5⟩ := (HI.out.below hbel (Nat.le_refl _)) j hlt
      have HQ := Lib.hid (show (l.take (j + 1)) = l.take j ++ [l[j]] from List.take_succ_eq_append_getElem hlt)
      have hsz := hbel.size
      have hpl : (l.take j).length ≤ 1099511627776 := by rw [List.length_take]; omega
      subst e1
      generalize l[j] = y at *
      go_wp2_with (at_builtin; go_loud (refine wpList_append_gd rfl (.tmp 23) (.tmp 28) 23 rfl 39 Tryd.underlying23 infoCf _ wr w.heap.size (l.take j) hrow hsz rfl _ _ _ _ _ _ y rfl rfl rfl rfl rfl rfl rfl hpl ?_; intro v5 w5 hv5 hb5 _))
      have hbel5 := hbel.trans hb5
      go_roundw
      case rel => exact ⟨j + 1, by omega, by go_num, by rw [HQ.out]; exact hv5, hbel5⟩
      case measure => simp [intOf]; omega
    · have p2 : decide ((j : Int) < (l.length : Int)) = false := decide_eq_false (by omega)
      have p2' : decide (j < l.length) = false := decide_eq_false hlt
      have hr : l.take j = l := List.take_of_length_le (by omega)
      rw [hr] at hrow
      obtain ⟨a1, c1, rfl, i1⟩ := hrow.inn
      have i2 := HI.out.below hbel (Nat.le_refl _)
      clear hr hrow HI hlt
      go_wp2_with fail
      refine (HLa.out _ _ _ i1).mono ?_
      rintro e w2 ⟨rfl, b2⟩
      have i2 := i2.below b2 (Nat.le_refl _)
      have B2 := grown_then hbel b2
      clear i1 hbel b2 HLa
      unfold gfV
      dsimp only
      obtain ⟨w3, hw3⟩ : ∃ w3, w3 = w2.alloc (.cells #[.int .i64 y0, .int .u8 (y1 : Nat), .int .i64 y2, .int .u64 (y3 : Nat), .string y4, .string y5] 39) := ⟨_, rfl⟩
      obtain ⟨G, hG⟩ : ∃ G, G = w2.heap.size := ⟨_, rfl⟩
      have F3 : GfT 39 w3 G (y0, y1, y2, y3, y4, y5) := by rw [hw3, hG]; exact gf_alloc w2 (y0, y1, y2, y3, y4, y5) _
      have b3 : Below w2.heap.size w2 w3 := by rw [hw3]; exact gf_grow w2 (y0, y1, y2, y3, y4, y5) _
      have i3 := i2.below b3 (Nat.le_refl _)
      have B3 := grown_then B2 b3
      clear i2 B2 b3
      go_wp2_with fail
      rw [← hG, ← hw3]
      clear hG hw3
      refine (HRl.out _ _ i3).mono ?_
      rintro e w4 ⟨rfl, b4⟩
      have F4 := F3.below b4 F3.lt
      have B4 := grown_then B3 b4
      clear i3 B3 b4 F3 HRl
      unfold gfV
      dsimp only
      obtain ⟨w5, hw5⟩ : ∃ w5, w5 = w4.alloc (.cells #[.int .i64 y0, .int .u8 (y1 : Nat), .int .i64 y2, .int .u64 (y3 : Nat), .string y4, .string y5] 40) := ⟨_, rfl⟩
      obtain ⟨H, hH⟩ : ∃ H, H = w4.heap.size := ⟨_, rfl⟩
      have R5 : GfT 40 w5 H (y0, y1, y2, y3, y4, y5) := by rw [hw5, hH]; exact gf_alloc w4 (y0, y1, y2, y3, y4, y5) _
      have b5 : Below w4.heap.size w4 w5 := by rw [hw5]; exact gf_grow w4 (y0, y1, y2, y3, y4, y5) _
      have F5 := F4.below b5 F4.lt
      have B5 := grown_then B4 b5
      clear B4 b5 F4
      go_upto_region 10 with fail
      rw [← hH, ← hw5]
      clear hH hw5
      have g0 := F5.c0; have g1 := F5.c1; have g2 := F5.c2; have g3 := F5.c3; have g4 := F5.c4; have g5 := F5.c5
      have r0 := R5.c0; have r1 := R5.c1; have r2 := R5.c2; have r3 := R5.c3; have r4 := R5.c4; have r5 := R5.c5
      dsimp only at g0 g1 g2 g3 g4 g5 r0 r1 r2 r3 r4 r5
      have B5 := Lib.hid B5
      clear F5 R5
      go_wp2_with fail
      with_reducible refine (works22_any _ (HT.out _ B5.out)).mono ?_
      rintro e w6 ⟨rfl, b6⟩
      have B6 := Lib.hid (grown_then B5.out b6)
      clear b6 B5
      go_wp2
      go_ret
      exact ⟨rfl, B6.out⟩
theorem crlt_law (a : Option Addr) (cap : Nat) (l : List GD) (id : Int) (k : Int) (w : World) (hin : GInO w a l) (hok : ∀ o ∈ l, gOk o) (h1 : -9223372036854775808 ≤ id) (h2 : id ≤ 9223372036854775807) (hk1 : 0 ≤ k) (hk2 : k ≤ 255) (ht : Tab w) :
    Calls Tryd.prog 5 #[.slice a l.length cap, .int .i64 id, .int .u8 k] w fun e w' => e = .returned (.bool true) ∧ Below w.heap.size w w' := by
  obtain ⟨n, rfl⟩ := Int.eq_ofNat_of_zero_le hk1
  by_cases h : l.length ≤ 40
  · exact crlt_in a cap l id n w h hin ht
  · exact crlt_out a cap l id n w (by omega) ht
end Go.Proofs.YtmiagebcobcaiaaDoor
