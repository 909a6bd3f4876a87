/- The document's own utf (package truchmanref05): Rune, walk, Check, Count, Cut. -/
import Derived.Test.YtfighopfgllneaaGreatDoorURefA
namespace Go.Proofs.YtfighopfgllneaaGreatDoor
open Go Go.RowKit
set_option linter.unusedVariables false

theorem text_is (s : ByteArray) (k L : Nat) (l : List UInt8) : s.extract k (k + L) = bA l ↔ (s.data.toList.drop k).take L = l := by
  have e := ext_toList s k (k + L)
  rw [show k + L - k = L by omega] at e
  constructor
  · intro h
    rw [h] at e
    rw [← e]; rfl
  · intro h
    rw [h] at e
    rw [← bA_of (s.extract k (k + L)), e]
set_option maxRecDepth 20000 in
set_option maxHeartbeats 1000000 in
theorem rrune_any (s : ByteArray) (a : Int) (w : World) (hs : s.size ≤ 1125899906842624) (ha1 : -9223372036854775808 ≤ a) (ha2 : a ≤ 9223372036854775807) :
    Calls Tryz.prog 68 #[.string s, .int .i64 a] w fun e w' => e = .returned (.tuple #[.int .i32 ((uR s a).1 : Nat), .int .i64 ((uR s a).2 : Nat)]) ∧ Below w.heap.size w w' := by
  by_cases h0 : a < 0
  · have p1 : decide (a < 0) = true := decide_eq_true h0
    have HR := Lib.hid (show uR s a = (0, 0) by unfold uR; rw [if_neg (by omega)])
    clear h0
    go_enter Tryz.func68, Tryz.ntmps68
    go_wp2
    go_ret2
    exact ⟨uR_none HR.out, Below.refl _ _⟩
  · obtain ⟨k, rfl⟩ := Int.eq_ofNat_of_zero_le (show 0 ≤ a by omega)
    have p1 : decide ((k : Int) < 0) = false := decide_eq_false h0
    rw [uR_at]
    by_cases h1 : s.size ≤ k
    · have p2 : decide (s.size ≤ k) = true := decide_eq_true h1
      have HR := Lib.hid (dAt_out h1)
      clear h0 h1
      go_enter Tryz.func68, Tryz.ntmps68
      go_wp2
      go_ret2
      exact ⟨by rw [HR.out]; rfl, Below.refl _ _⟩
    · have hlt : k < s.size := by omega
      have p2 : decide (s.size ≤ k) = false := decide_eq_false h1
      have ik0 : (0 : Int) ≤ (k : Int) := by omega
      have ik1 : (k : Int) < (s.size : Int) := by omega
      have ik2 : (k : Int) ≤ (s.size : Int) := by omega
      have hsz : (s.extract k s.size).size = s.size - k := by rw [ByteArray.size_extract]; omega
      have HG := Lib.hid (fun w => rguess_any (s.extract k s.size) w (by omega) (by omega))
      rw [back_toList] at HG
      have hno := Lib.hid (gs_no (l := s.data.toList.drop k))
      have hyes := Lib.hid (fun r h1 h2 => gs_yes (l := s.data.toList.drop k) (r := r) h1 h2)
      have HD := Lib.hid (show dAt s k = uDec (s.data.toList.drop k) from rfl)
      rw [← HD.out] at hno hyes
      obtain ⟨G, hGe⟩ : ∃ G, G = uGs (s.data.toList.drop k) := ⟨_, rfl⟩
      rw [← hGe] at HG hno
      by_cases hG0 : G < 0
      · have p3 : decide (G < 0) = true := decide_eq_true hG0
        have HR := Lib.hid (hno.out (fun h => by have := (uIs_iff.mp h.1).1; omega))
        clear h0 h1 hG0 hno hyes hGe HD
        go_enter Tryz.func68, Tryz.ntmps68
        go_wp2_with fail
        with_reducible refine (HG.out _).mono ?_
        rintro e w' ⟨rfl, hw⟩
        rw [hw]; clear hw
        go_wp2
        go_ret2
        exact ⟨by rw [HR.out]; rfl, Below.refl _ _⟩
      · have p3 : decide (G < 0) = false := decide_eq_false hG0
        by_cases hG1 : 1114111 < G
        · have p4 : decide (1114111 < G) = true := decide_eq_true hG1
          have HR := Lib.hid (hno.out (fun h => by have := (uIs_iff.mp h.1).2.1; omega))
          clear h0 h1 hG0 hG1 hno hyes hGe HD
          go_enter Tryz.func68, Tryz.ntmps68
          go_wp2_with fail
          with_reducible refine (HG.out _).mono ?_
          rintro e w' ⟨rfl, hw⟩
          rw [hw]; clear hw
          go_wp2
          go_ret2
          exact ⟨by rw [HR.out]; rfl, Below.refl _ _⟩
        · have p4 : decide (1114111 < G) = false := decide_eq_false hG1
          obtain ⟨g, rfl⟩ := Int.eq_ofNat_of_zero_le (show 0 ≤ G by omega)
          have zg : IntKind.i32.wrap (g : Int) = (g : Int) := IntWalk.i32_in _ (by omega)
          have HI := Lib.hid (fun w => ruis_any (g : Int) w)
          by_cases hI : uIs (g : Int) = true
          · rw [hI] at HI
            have HB := Lib.hid (fun w => rbytes_any g w (by omega))
            obtain ⟨L, hL⟩ : ∃ L, L = (uB g).length := ⟨_, rfl⟩
            have hLs : (bA (uB g)).size = L := by rw [bA_size]; exact hL.symm
            have hL4 := uB_pos g
            rw [← hL] at hL4
            have z1 : IntKind.i64.wrap ((s.size : Int) - (k : Int)) = (s.size : Int) - (k : Int) := IntWalk.i64_in _ (by omega)
            have z2 : IntKind.i64.wrap ((k : Int) + (L : Int)) = (k : Int) + (L : Int) := IntWalk.i64_in _ (by omega)
            by_cases h2 : s.size - k < L
            · have p5 : decide ((s.size : Int) - (k : Int) < (L : Int)) = true := decide_eq_true (by omega)
              have HR := Lib.hid (hno.out (fun h => by
                have := congrArg List.length h.2
                rw [Int.toNat_natCast, List.length_take, List.length_drop, toList_size] at this
                omega))
              clear h0 h1 hG0 hG1 hno hyes hGe HD h2 hL hI
              generalize bA (uB g) = X at *
              go_enter Tryz.func68, Tryz.ntmps68
              go_wp2_with fail
              with_reducible refine (HG.out _).mono ?_
              rintro e w' ⟨rfl, hw⟩
              rw [hw]; clear hw
              go_wp2_with fail
              with_reducible refine (HI.out _).mono ?_
              rintro e w' ⟨rfl, hw⟩
              rw [hw]; clear hw
              go_wp2_with fail
              with_reducible refine (HB.out _).mono ?_
              rintro e w' ⟨rfl, hbe⟩
              go_wp2
              go_ret2
              exact ⟨by rw [HR.out]; rfl, hbe⟩
            · have p5 : decide ((s.size : Int) - (k : Int) < (L : Int)) = false := decide_eq_false (by omega)
              have hin : k + L ≤ s.size := by omega
              have jk1 : (k : Int) ≤ (k : Int) + (L : Int) := by omega
              have jk2 : (k : Int) + (L : Int) ≤ (s.size : Int) := by omega
              have hX := text_eq (s.extract k (k + L)) (bA (uB g))
              by_cases h3 : s.extract k (k + L) = bA (uB g)
              · have q1 : ((s.extract k (k + L)).toList == (bA (uB g)).toList) = true := by rw [hX]; simp [h3]
                have HR := Lib.hid (hyes.out g hI (by rw [← hL]; exact (text_is s k L (uB g)).mp h3))
                rw [← hL] at HR
                clear h0 h1 hG0 hG1 hno hyes hGe HD h2 hL hI h3 hX
                generalize bA (uB g) = X at *
                go_enter Tryz.func68, Tryz.ntmps68
                go_wp2_with fail
                with_reducible refine (HG.out _).mono ?_
                rintro e w' ⟨rfl, hw⟩
                rw [hw]; clear hw
                go_wp2_with fail
                with_reducible refine (HI.out _).mono ?_
                rintro e w' ⟨rfl, hw⟩
                rw [hw]; clear hw
                go_wp2_with fail
                with_reducible refine (HB.out _).mono ?_
                rintro e w' ⟨rfl, hbe⟩
                go_wp2
                go_ret2
                exact ⟨by rw [HR.out]; rfl, hbe⟩
              · have q1 : ((s.extract k (k + L)).toList == (bA (uB g)).toList) = false := by rw [hX]; simp [h3]
                have HR := Lib.hid (hno.out (fun h => by
                  rw [Int.toNat_natCast, ← hL] at h
                  exact h3 ((text_is s k L (uB g)).mpr h.2)))
                clear h0 h1 hG0 hG1 hno hyes hGe HD h2 hL hI h3 hX
                generalize bA (uB g) = X at *
                go_enter Tryz.func68, Tryz.ntmps68
                go_wp2_with fail
                with_reducible refine (HG.out _).mono ?_
                rintro e w' ⟨rfl, hw⟩
                rw [hw]; clear hw
                go_wp2_with fail
                with_reducible refine (HI.out _).mono ?_
                rintro e w' ⟨rfl, hw⟩
                rw [hw]; clear hw
                go_wp2_with fail
                with_reducible refine (HB.out _).mono ?_
                rintro e w' ⟨rfl, hbe⟩
                go_wp2
                go_ret2
                exact ⟨by rw [HR.out]; rfl, hbe⟩
          · have HR := Lib.hid (hno.out (fun h => hI h.1))
            rw [show uIs (g : Int) = false by simpa using hI] at HI
            clear h0 h1 hG0 hG1 hno hyes hGe HD hI
            go_enter Tryz.func68, Tryz.ntmps68
            go_wp2_with fail
            with_reducible refine (HG.out _).mono ?_
            rintro e w' ⟨rfl, hw⟩
            rw [hw]; clear hw
            go_wp2_with fail
            with_reducible refine (HI.out _).mono ?_
            rintro e w' ⟨rfl, hw⟩
            rw [hw]; clear hw
            go_wp2
            go_ret2
            exact ⟨by rw [HR.out]; rfl, Below.refl _ _⟩

def RWalkRel (s : ByteArray) (W : World) (x y e c : Value) (wr : World) : Prop :=
  ∃ E C : Nat, x = .int .i64 0 ∧ y = .int .i64 0 ∧ e = .int .i64 (E : Nat) ∧ c = .int .i64 (C : Nat) ∧ WPre s s.size E C ∧ Below W.heap.size W wr


theorem uCheck_ok {s : ByteArray} : uCheck s = -1 ↔ uOk s := by
  unfold uCheck uOk
  by_cases h : (wk s s.size).1 = s.size
  · rw [if_pos h]; exact ⟨fun _ => h, fun _ => rfl⟩
  · rw [if_neg h]; exact ⟨fun e => by omega, fun e => absurd e h⟩
def RCutRel (s : ByteArray) (n : Int) (W : World) (x k : Value) (wr : World) : Prop :=
  ∃ K : Int, x = .string ⟨#[]⟩ ∧ k = .int .i64 K ∧ K ≤ n ∧ K ≤ s.size ∧ -9223372036854775808 ≤ K ∧ Hid ((wk s n).1 ≤ K ∨ (wk s n).1 = 0) ∧ Below W.heap.size W wr
end Go.Proofs.YtfighopfgllneaaGreatDoor
