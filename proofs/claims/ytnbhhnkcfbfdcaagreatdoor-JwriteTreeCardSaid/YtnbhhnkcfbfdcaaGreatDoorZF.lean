/- Several texts in one (UIs, URune, UWalk, ULay, UPut): each begins with its own words. -/
import Derived.Test.YtnbhhnkcfbfdcaaGreatDoorZB
import Derived.BigQuiet
import Derived.Deep.QuietTactic
import Derived.Handy
/- Package utf's Is, announced, width, and the document's own Is. -/
namespace Go.Proofs.YtnbhhnkcfbfdcaaGreatDoor
open Go Go.RowKit
set_option linter.unusedVariables false

theorem uis_any (r : Int) (w : World) :
    Calls Tryz.prog 128 #[.int .i32 r] w fun e w' => e = .returned (.bool (uIs r)) ∧ w' = w := by
  by_cases h0 : 0 ≤ r
  · have p1 : decide ((0 : Int) ≤ r) = true := decide_eq_true h0
    by_cases h1 : r ≤ 1114111
    · have p2 : decide (r ≤ 1114111) = true := decide_eq_true h1
      by_cases h2 : 55296 ≤ r
      · have p3 : decide ((55296 : Int) ≤ r) = true := decide_eq_true h2
        by_cases h3 : r ≤ 57343
        · have p4 : decide (r ≤ 57343) = true := decide_eq_true h3
          have HI := Lib.hid (show uIs r = false from uIs_no.mpr (by omega))
          clear h0 h1 h2 h3
          go_enter Tryz.func128, Tryz.ntmps128
          go_wp2
          go_ret
          exact ⟨ret_b HI.out.symm, rfl⟩
        · have p4 : decide (r ≤ 57343) = false := decide_eq_false h3
          have HI := Lib.hid (show uIs r = true from uIs_iff.mpr (by omega))
          clear h0 h1 h2 h3
          go_enter Tryz.func128, Tryz.ntmps128
          go_wp2
          go_ret
          exact ⟨ret_b HI.out.symm, rfl⟩
      · have p3 : decide ((55296 : Int) ≤ r) = false := decide_eq_false h2
        have HI := Lib.hid (show uIs r = true from uIs_iff.mpr (by omega))
        clear h0 h1 h2
        go_enter Tryz.func128, Tryz.ntmps128
        go_wp2
        go_ret
        exact ⟨ret_b HI.out.symm, rfl⟩
    · have p2 : decide (r ≤ 1114111) = false := decide_eq_false h1
      have HI := Lib.hid (show uIs r = false from uIs_no.mpr (by omega))
      clear h0 h1
      go_enter Tryz.func128, Tryz.ntmps128
      go_wp2
      go_ret
      exact ⟨ret_b HI.out.symm, rfl⟩
  · have p1 : decide ((0 : Int) ≤ r) = false := decide_eq_false h0
    have HI := Lib.hid (show uIs r = false from uIs_no.mpr (by omega))
    clear h0
    go_enter Tryz.func128, Tryz.ntmps128
    go_wp2
    go_ret
    exact ⟨ret_b HI.out.symm, rfl⟩

theorem ruis_any (r : Int) (w : World) :
    Calls Tryz.prog 112 #[.int .i32 r] w fun e w' => e = .returned (.bool (uIs r)) ∧ w' = w := by
  by_cases h0 : 0 ≤ r
  · have p1 : decide ((0 : Int) ≤ r) = true := decide_eq_true h0
    by_cases h1 : r ≤ 1114111
    · have p2 : decide (r ≤ 1114111) = true := decide_eq_true h1
      by_cases h2 : r < 55296
      · have p3 : decide (r < 55296) = true := decide_eq_true h2
        have HI := Lib.hid (show uIs r = true from uIs_iff.mpr (by omega))
        clear h0 h1 h2
        go_enter Tryz.func112, Tryz.ntmps112
        go_wp2
        go_ret
        exact ⟨ret_b HI.out.symm, rfl⟩
      · have p3 : decide (r < 55296) = false := decide_eq_false h2
        by_cases h3 : 57343 < r
        · have p4 : decide (57343 < r) = true := decide_eq_true h3
          have HI := Lib.hid (show uIs r = true from uIs_iff.mpr (by omega))
          clear h0 h1 h2 h3
          go_enter Tryz.func112, Tryz.ntmps112
          go_wp2
          go_ret
          exact ⟨ret_b HI.out.symm, rfl⟩
        · have p4 : decide (57343 < r) = false := decide_eq_false h3
          have HI := Lib.hid (show uIs r = false from uIs_no.mpr (by omega))
          clear h0 h1 h2 h3
          go_enter Tryz.func112, Tryz.ntmps112
          go_wp2
          go_ret
          exact ⟨ret_b HI.out.symm, rfl⟩
    · have p2 : decide (r ≤ 1114111) = false := decide_eq_false h1
      have HI := Lib.hid (show uIs r = false from uIs_no.mpr (by omega))
      clear h0 h1
      go_enter Tryz.func112, Tryz.ntmps112
      go_wp2
      go_ret
      exact ⟨ret_b HI.out.symm, rfl⟩
  · have p1 : decide ((0 : Int) ≤ r) = false := decide_eq_false h0
    have HI := Lib.hid (show uIs r = false from uIs_no.mpr (by omega))
    clear h0
    go_enter Tryz.func112, Tryz.ntmps112
    go_wp2
    go_ret
    exact ⟨ret_b HI.out.symm, rfl⟩

theorem uwidth_any (r : Int) (w : World) :
    Calls Tryz.prog 115 #[.int .i32 r] w fun e w' => e = .returned (.int .i64 (uW r : Nat)) ∧ w' = w := by
  have hi := Lib.hid (fun w => uis_any r w)
  by_cases h0 : uIs r = true
  · rw [h0] at hi
    by_cases h1 : r < 128
    · have p1 : decide (r < 128) = true := decide_eq_true h1
      have HW := Lib.hid (show uW r = 1 by unfold uW; rw [if_pos h0, if_pos h1])
      clear h0 h1
      go_enter Tryz.func115, Tryz.ntmps115
      go_wp2_with fail
      with_reducible refine (hi.out _).mono ?_
      rintro e w' ⟨rfl, hw⟩
      rw [hw]; clear hw
      go_wp2
      go_ret
      exact ⟨ret_i (by rw [HW.out]; rfl), rfl⟩
    · have p1 : decide (r < 128) = false := decide_eq_false h1
      by_cases h2 : r < 2048
      · have p2 : decide (r < 2048) = true := decide_eq_true h2
        have HW := Lib.hid (show uW r = 2 by unfold uW; rw [if_pos h0, if_neg h1, if_pos h2])
        clear h0 h1 h2
        go_enter Tryz.func115, Tryz.ntmps115
        go_wp2_with fail
        with_reducible refine (hi.out _).mono ?_
        rintro e w' ⟨rfl, hw⟩
        rw [hw]; clear hw
        go_wp2
        go_ret
        exact ⟨ret_i (by rw [HW.out]; rfl), rfl⟩
      · have p2 : decide (r < 2048) = false := decide_eq_false h2
        by_cases h3 : r < 65536
        · have p3 : decide (r < 65536) = true := decide_eq_true h3
          have HW := Lib.hid (show uW r = 3 by unfold uW; rw [if_pos h0, if_neg h1, if_neg h2, if_pos h3])
          clear h0 h1 h2 h3
          go_enter Tryz.func115, Tryz.ntmps115
          go_wp2_with fail
          with_reducible refine (hi.out _).mono ?_
          rintro e w' ⟨rfl, hw⟩
          rw [hw]; clear hw
          go_wp2
          go_ret
          exact ⟨ret_i (by rw [HW.out]; rfl), rfl⟩
        · have p3 : decide (r < 65536) = false := decide_eq_false h3
          have HW := Lib.hid (show uW r = 4 by unfold uW; rw [if_pos h0, if_neg h1, if_neg h2, if_neg h3])
          clear h0 h1 h2 h3
          go_enter Tryz.func115, Tryz.ntmps115
          go_wp2_with fail
          with_reducible refine (hi.out _).mono ?_
          rintro e w' ⟨rfl, hw⟩
          rw [hw]; clear hw
          go_wp2
          go_ret
          exact ⟨ret_i (by rw [HW.out]; rfl), rfl⟩
  · have HW := Lib.hid (show uW r = 0 by unfold uW; rw [if_neg h0])
    rw [show uIs r = false by simpa using h0] at hi
    clear h0
    go_enter Tryz.func115, Tryz.ntmps115
    go_wp2_with fail
    with_reducible refine (hi.out _).mono ?_
    rintro e w' ⟨rfl, hw⟩
    rw [hw]; clear hw
    go_wp2
    go_ret
    exact ⟨ret_i (by rw [HW.out]; rfl), rfl⟩

theorem uann_any (c : Nat) (w : World) :
    Calls Tryz.prog 140 #[.int .u8 c] w fun e w' => e = .returned (.int .i64 (uAnn c : Nat)) ∧ w' = w := by
  by_cases h1 : c < 128
  · have p1 : decide ((c : Int) < 128) = true := decide_eq_true (by omega)
    have HW := Lib.hid (show uAnn c = 1 by unfold uAnn; rw [if_pos h1])
    clear h1
    go_enter Tryz.func140, Tryz.ntmps140
    go_wp2
    go_ret
    exact ⟨ret_i (by rw [HW.out]; rfl), rfl⟩
  · have p1 : decide ((c : Int) < 128) = false := decide_eq_false (by omega)
    by_cases h2 : c < 192
    · have p2 : decide ((c : Int) < 192) = true := decide_eq_true (by omega)
      have HW := Lib.hid (show uAnn c = 0 by unfold uAnn; rw [if_neg h1, if_pos h2])
      clear h1 h2
      go_enter Tryz.func140, Tryz.ntmps140
      go_wp2
      go_ret
      exact ⟨ret_i (by rw [HW.out]; rfl), rfl⟩
    · have p2 : decide ((c : Int) < 192) = false := decide_eq_false (by omega)
      by_cases h3 : c < 224
      · have p3 : decide ((c : Int) < 224) = true := decide_eq_true (by omega)
        have HW := Lib.hid (show uAnn c = 2 by unfold uAnn; rw [if_neg h1, if_neg h2, if_pos h3])
        clear h1 h2 h3
        go_enter Tryz.func140, Tryz.ntmps140
        go_wp2
        go_ret
        exact ⟨ret_i (by rw [HW.out]; rfl), rfl⟩
      · have p3 : decide ((c : Int) < 224) = false := decide_eq_false (by omega)
        by_cases h4 : c < 240
        · have p4 : decide ((c : Int) < 240) = true := decide_eq_true (by omega)
          have HW := Lib.hid (show uAnn c = 3 by unfold uAnn; rw [if_neg h1, if_neg h2, if_neg h3, if_pos h4])
          clear h1 h2 h3 h4
          go_enter Tryz.func140, Tryz.ntmps140
          go_wp2
          go_ret
          exact ⟨ret_i (by rw [HW.out]; rfl), rfl⟩
        · have p4 : decide ((c : Int) < 240) = false := decide_eq_false (by omega)
          by_cases h5 : c < 248
          · have p5 : decide ((c : Int) < 248) = true := decide_eq_true (by omega)
            have HW := Lib.hid (show uAnn c = 4 by unfold uAnn; rw [if_neg h1, if_neg h2, if_neg h3, if_neg h4, if_pos h5])
            clear h1 h2 h3 h4 h5
            go_enter Tryz.func140, Tryz.ntmps140
            go_wp2
            go_ret
            exact ⟨ret_i (by rw [HW.out]; rfl), rfl⟩
          · have p5 : decide ((c : Int) < 248) = false := decide_eq_false (by omega)
            have HW := Lib.hid (show uAnn c = 0 by unfold uAnn; rw [if_neg h1, if_neg h2, if_neg h3, if_neg h4, if_neg h5])
            clear h1 h2 h3 h4 h5
            go_enter Tryz.func140, Tryz.ntmps140
            go_wp2
            go_ret
            exact ⟨ret_i (by rw [HW.out]; rfl), rfl⟩
end Go.Proofs.YtnbhhnkcfbfdcaaGreatDoor
/- Package utf's Rune, and the table of heads. -/
namespace Go.Proofs.YtnbhhnkcfbfdcaaGreatDoor
open Go Go.RowKit
set_option linter.unusedVariables false

/-- The table of heads, where the program keeps it. -/
def Hds (w : World) : Prop := ∀ k, k < 5 → w.cell? ⟨1, k, none⟩ = some (.int .u8 (uHead k : Nat))
theorem Hds.lt {w : World} (h : Hds w) : 1 < w.heap.size := by
  have := World.block_lt_of_cell? w _ (h 0 (by omega)); exact this
theorem Hds.below {w w' : World} {N : Nat} (h : Hds w) (hb : Below N w w') (hN : 1 < N) : Hds w' := fun k hk => (hb.cell (p := ⟨1, k, none⟩) hN).trans (h k hk)
theorem Hds.drewN {w : World} (h : Hds w) (n : Nat) : Hds (w.drewN n) := h

/-- 5.2: the character that begins at any place. -/
def uR (s : ByteArray) (a : Int) : Nat × Nat := if 0 ≤ a then dAt s a.toNat else (0, 0)
theorem uR_at (s : ByteArray) (k : Nat) : uR s k = dAt s k := by unfold uR; rw [if_pos (by omega), Int.toNat_natCast]
theorem ret_r {a c b d : Int} (h : a = c) (k : b = d) : Ending.returned (.tuple #[.int .i32 a, .int .i64 b]) = .returned (.tuple #[.int .i32 c, .int .i64 d]) := by rw [h, k]
theorem uR_none {s : ByteArray} {a : Int} (h : uR s a = (0, 0)) : Ending.returned (.tuple #[.int .i32 0, .int .i64 0]) = .returned (.tuple #[.int .i32 ((uR s a).1 : Nat), .int .i64 ((uR s a).2 : Nat)]) := by rw [h]; rfl
theorem uFold_lt : ∀ (t : List UInt8) (r X : Nat), r < X → (∀ b ∈ t, uCont b = true) → uFold r t < X * 64 ^ t.length := by
  intro t
  induction t with
  | nil => intro r X hr _; simpa [uFold] using hr
  | cons b t ih =>
    intro r X hr h
    have h2 := cont_iff.mp (h b (by simp))
    have h1 := ih (r * 64 + (b.toNat - 128)) (X * 64) (by omega) (fun x hx => h x (by simp [hx]))
    have e : X * 64 ^ (b :: t).length = X * 64 * 64 ^ t.length := by
      rw [List.length_cons, Nat.pow_succ]
      generalize 64 ^ t.length = Y
      rw [Nat.mul_assoc X 64 Y, Nat.mul_comm 64 Y]
    have e2 : uFold r (b :: t) = uFold (r * 64 + (b.toNat - 128)) t := by simp only [uFold, List.foldl_cons]
    rw [e, e2]; exact h1
theorem uFold_snoc (r : Nat) (t : List UInt8) (b : UInt8) : uFold r (t ++ [b]) = uFold r t * 64 + (b.toNat - 128) := by
  unfold uFold; rw [List.foldl_append]; rfl
theorem head_le {c : Nat} (h : c < 256) : uHead (uAnn c) ≤ c ∧ (uAnn c ≠ 0 → c - uHead (uAnn c) < 128) ∧ uHead (uAnn c) < 256 := by
  by_cases h1 : c < 128
  · rw [show uAnn c = 1 by unfold uAnn; rw [if_pos h1], show uHead 1 = 0 from rfl]; omega
  · by_cases h2 : c < 192 ∨ 248 ≤ c
    · rw [annX h1 h2, show uHead 0 = 0 from rfl]; omega
    · by_cases h3 : c < 224
      · rw [ann2 (by omega) h3, show uHead (1 + 1) = 192 from rfl]; omega
      · by_cases h4 : c < 240
        · rw [ann3 (by omega) h4, show uHead (2 + 1) = 224 from rfl]; omega
        · rw [ann4 (by omega) (by omega), show uHead (3 + 1) = 240 from rfl]; omega
theorem drop_at (s : ByteArray) (k : Nat) (h : k < s.size) : s.data.toList.drop k = s[k] :: s.data.toList.drop (k + 1) := by
  have h' : k < s.data.toList.length := by rw [toList_size]; exact h
  rw [List.drop_eq_getElem_cons h', byte_at s k h h']
theorem dAt_fail {s : ByteArray} {k A : Nat} (h : k < s.size) (hA : uAnn s[k].toNat = A + 1) (hno : ¬ ((s.data.toList.drop (k + 1)).take A).all uCont = true) : dAt s k = (0, 0) := by
  unfold dAt
  rw [drop_at s k h, decN _ _ A hA]
  split
  · rfl
  · rw [if_neg (fun h => hno h.1)]

def URuneRel (s : ByteArray) (k A K R0 : Nat) (W : World) (r z i : Value) (wr : World) : Prop :=
  ∃ j R, j ≤ A ∧ z = .int .i64 (K : Nat) ∧ i = .int .i64 ((k + 1 + j : Nat) : Int) ∧ r = .int .i32 (R : Nat) ∧ Hid (R = uFold R0 ((s.data.toList.drop (k + 1)).take j) ∧ ((s.data.toList.drop (k + 1)).take j).all uCont = true ∧ R < 128 * 64 ^ j) ∧ wr = W

set_option maxRecDepth 20000 in
theorem urune_any (s : ByteArray) (a : Int) (w : World) (hs : s.size ≤ 1125899906842624) (ha1 : -9223372036854775808 ≤ a) (ha2 : a ≤ 9223372036854775807) (ht : Hds w) :
    Calls Tryz.prog 135 #[.string s, .int .i64 a] w fun e w' => e = .returned (.tuple #[.int .i32 ((uR s a).1 : Nat), .int .i64 ((uR s a).2 : Nat)]) ∧ ∃ m, w' = w.drewN m := by
  by_cases h0 : a < 0
  · have p1 : decide (a < 0) = true := decide_eq_true h0
    have HR := Lib.hid (show uR s a = (0, 0) by unfold uR; rw [if_neg (by omega)])
    clear h0 ht
    go_enter Tryz.func135, Tryz.ntmps135
    go_wp2
    go_ret2
    exact ⟨uR_none HR.out, 0, rfl⟩
  · obtain ⟨k, rfl⟩ := Int.eq_ofNat_of_zero_le (show 0 ≤ a by omega)
    have p1 : decide ((k : Int) < 0) = false := decide_eq_false h0
    rw [uR_at]
    by_cases h1 : s.size ≤ k
    · have p2 : decide (s.size ≤ k) = true := decide_eq_true h1
      have HR := Lib.hid (dAt_out h1)
      clear h0 h1 ht
      go_enter Tryz.func135, Tryz.ntmps135
      go_wp2
      go_ret2
      exact ⟨by rw [HR.out]; rfl, 0, rfl⟩
    · have hlt : k < s.size := by omega
      have p2 : decide (s.size ≤ k) = false := decide_eq_false h1
      have ik0 : (0 : Int) ≤ (k : Int) := by omega
      have ik1 : (k : Int) < (s.size : Int) := by omega
      have hB := s[k].toNat_lt
      obtain ⟨B, hBe⟩ : ∃ B, B = s[k].toNat := ⟨_, rfl⟩
      have hBi : (s[k].toNat : Int) = (B : Int) := by omega
      obtain ⟨hh1, hh2, hh3⟩ := head_le (c := B) (by omega)
      have HA := Lib.hid (fun w => uann_any B w)
      have hdec := Lib.hid (drop_at s k hlt)
      by_cases hA : uAnn B = 0
      · have HR := Lib.hid (show dAt s k = (0, 0) by unfold dAt; rw [hdec.out, dec0 _ _ (by rw [← hBe]; exact hA)])
        rw [hA] at HA
        clear h0 h1 ht hh1 hh2 hh3 hA hBe
        go_enter Tryz.func135, Tryz.ntmps135
        go_wp2_with fail
        with_reducible refine (HA.out _).mono ?_
        rintro e w' ⟨rfl, hw⟩
        rw [hw]; clear hw
        go_wp2
        go_ret2
        exact ⟨by rw [HR.out]; rfl, 0, rfl⟩
      · obtain ⟨hA1, hA2⟩ := ann_lt hA
        obtain ⟨A, hAe⟩ : ∃ A, uAnn B = A + 1 := ⟨uAnn B - 1, by omega⟩
        have HAn := Lib.hid (show uAnn s[k].toNat = A + 1 by rw [← hBe]; exact hAe)
        obtain ⟨K, hK⟩ : ∃ K, K = uAnn B := ⟨_, rfl⟩
        have hKA : K = A + 1 := hK.trans hAe
        rw [← hK] at HA hA1 hA2 hh1 hh2 hh3
        have p3 : ((K : Int) == 0) = false := beq_eq_false_iff_ne.mpr (by omega)
        have z1 : IntKind.i64.wrap ((s.size : Int) - (k : Int)) = (s.size : Int) - (k : Int) := IntWalk.i64_in _ (by omega)
        by_cases h2 : s.size - k < K
        · have p4 : decide ((s.size : Int) - (k : Int) < (K : Int)) = true := decide_eq_true (by omega)
          have HR := Lib.hid (show dAt s k = (0, 0) by
            unfold dAt
            rw [hdec.out, decN _ _ A HAn.out, if_pos (by rw [List.length_drop, toList_size]; omega)])
          clear h0 h1 ht hh1 hh2 hh3 hA hBe hAe hK hKA
          go_enter Tryz.func135, Tryz.ntmps135
          go_wp2_with fail
          with_reducible refine (HA.out _).mono ?_
          rintro e w' ⟨rfl, hw⟩
          rw [hw]; clear hw
          go_wp2
          go_ret2
          exact ⟨by rw [HR.out]; rfl, 0, rfl⟩
        · have p4 : decide ((s.size : Int) - (k : Int) < (K : Int)) = false := decide_eq_false (by omega)
          obtain ⟨h, hhe⟩ : ∃ h, h = uHead K := ⟨_, rfl⟩
          have hcell : w.cell? ⟨1, K, none⟩ = some (.int .u8 (h : Int)) := by rw [hhe]; exact ht K (by omega)
          obtain ⟨R0, hR0⟩ : ∃ R0, R0 = B - h := ⟨_, rfl⟩
          rw [← hhe] at hh1 hh2 hh3
          have hR1 : R0 < 128 := by rw [hR0]; exact hh2 (by omega)
          have z2 : IntKind.u8.wrap ((B : Int) - (h : Int)) = (R0 : Int) := by rw [IntWalk.u8_in _ (by omega)]; omega
          have z3 : IntKind.i32.wrap (R0 : Int) = (R0 : Int) := IntWalk.i32_in _ (by omega)
          have z4 : IntKind.i64.wrap ((k : Int) + 1) = (k : Int) + 1 := IntWalk.i64_in _ (by omega)
          have z5 : IntKind.i64.wrap ((k : Int) + (K : Int)) = (k : Int) + (K : Int) := IntWalk.i64_in _ (by omega)
          have iA0 : (0 : Int) ≤ (K : Int) := by omega
          have iA1 : (K : Int) < 5 := by omega
          have HF := Lib.hid (show ((s.data.toList.drop (k + 1)).take A).all uCont = true → ∀ R, R = uFold R0 ((s.data.toList.drop (k + 1)).take A) → dAt s k = if uW (R : Nat) = K then (R, K) else (0, 0) from fun hc R hR => by
            unfold dAt
            rw [hdec.out, decN _ _ A HAn.out, if_neg (by rw [List.length_drop, toList_size]; omega), ← hKA, ← hBe, ← hhe, ← hR0, ← hR]
            by_cases hw : uW (R : Nat) = K
            · rw [if_pos ⟨hc, hw⟩, if_pos hw]
            · rw [if_neg (fun h => hw h.2), if_neg hw])
          have HW := Lib.hid (fun r w => uwidth_any r w)
          have HKA := Lib.hid hKA
          have hin : k + K ≤ s.size := by omega
          have hK4 : K ≤ 4 := hA2
          clear h0 h1 h2 ht hh1 hh2 hh3 hA hBe hAe hhe hR0 hA1 hA2 hK hKA
          go_enter Tryz.func135, Tryz.ntmps135
          go_wp2_with fail
          with_reducible refine (HA.out _).mono ?_
          rintro e w' ⟨rfl, hw⟩
          rw [hw]; clear hw
          go_wp2
          go_quiet (fail)
          go_wp2
          go_loopw [4, 5, 6] (fun r z i wr => URuneRel s k A K R0 (w.drewN nq) r z i wr) (fun _ _ i _ => s.size - (intOf i).toNat)
          case atStart => exact ⟨0, R0, Nat.zero_le _, rfl, by go_num, rfl, Lib.hid ⟨by simp [uFold], by simp, by simpa using hR1⟩, rfl⟩
          case round =>
            obtain ⟨j, R, hj, rfl, rfl, rfl, hinv, rfl⟩ := hrel
            have hR2 : R < 33554432 := by
              have h1 := hinv.out.2.2
              have h2 : 64 ^ j ≤ 64 ^ 3 := Nat.pow_le_pow_right (by decide) (by have := HKA.out; omega)
              have h3 : (64 : Nat) ^ 3 = 262144 := by decide
              omega
            obtain ⟨I, hI⟩ : ∃ I, I = k + 1 + j := ⟨_, rfl⟩
            rw [← hI]
            by_cases hlt : j < A
            · have hI2 : I < k + K := by have := HKA.out; omega
              have q1 : decide ((I : Int) < (k : Int) + (K : Int)) = true := decide_eq_true (by omega)
              have jk0 : (0 : Int) ≤ (I : Int) := by omega
              have jk1 : (I : Int) < (s.size : Int) := by omega
              have hIs : I < s.size := by omega
              have hD := s[I].toNat_lt
              have hl' : j < (s.data.toList.drop (k + 1)).length := by rw [List.length_drop, toList_size]; omega
              have hget : (s.data.toList.drop (k + 1))[j] = s[I] := by
                rw [List.getElem_drop]
                have h' : I < s.data.toList.length := by rw [toList_size]; exact hIs
                rw [← byte_at s I hIs h']
                congr 1
                omega
              have htk : (s.data.toList.drop (k + 1)).take (j + 1) = (s.data.toList.drop (k + 1)).take j ++ [s[I]] := by
                rw [List.take_succ_eq_append_getElem hl', hget]
              obtain ⟨D, hDe⟩ : ∃ D, D = s[I].toNat := ⟨_, rfl⟩
              have hDi : (s[I].toNat : Int) = (D : Int) := by omega
              by_cases hc : uCont s[I] = true
              · have hc2 := cont_iff.mp hc
                obtain ⟨d, hd⟩ : ∃ d, d = D - 128 := ⟨_, rfl⟩
                obtain ⟨R2, hR3⟩ : ∃ R2, R2 = R * 64 + d := ⟨_, rfl⟩
                have hinv2 := Lib.hid (show R2 = uFold R0 ((s.data.toList.drop (k + 1)).take (j + 1)) ∧ ((s.data.toList.drop (k + 1)).take (j + 1)).all uCont = true ∧ R2 < 128 * 64 ^ (j + 1) by
                  obtain ⟨e1, e2, e3⟩ := hinv.out
                  refine ⟨?_, ?_, ?_⟩
                  · rw [htk, uFold_snoc, ← e1, hR3, hd, hDe]
                  · rw [htk, List.all_append, e2]; simp [hc]
                  · rw [Nat.pow_succ, ← Nat.mul_assoc]
                    generalize 128 * 64 ^ j = X at *
                    omega)
                have q2 : decide ((D : Int) < 128) = false := decide_eq_false (by omega)
                have q3 : decide ((192 : Int) ≤ (D : Int)) = false := decide_eq_false (by omega)
                have y0 : IntKind.i32.wrap ((R : Int) * 64) = (R : Int) * 64 := IntWalk.i32_in _ (by omega)
                have y1 : IntKind.u8.wrap ((D : Int) - 128) = (d : Int) := by rw [IntWalk.u8_in _ (by omega)]; omega
                have y2 : IntKind.i32.wrap (d : Int) = (d : Int) := IntWalk.i32_in _ (by omega)
                have y3 : IntKind.i32.wrap ((R : Int) * 64 + (d : Int)) = (R2 : Int) := by rw [IntWalk.i32_in _ (by omega)]; omega
                have y4 : IntKind.i64.wrap ((I : Int) + 1) = (I : Int) + 1 := IntWalk.i64_in _ (by omega)
                have HI := Lib.hid hI
                clear hinv hR2 hI hc hc2 htk hget hl' hDe hd hR3
                go_wp2
                go_roundw
                case rel => exact ⟨j + 1, R2, by omega, rfl, by have := HI.out; simp; omega, rfl, hinv2, rfl⟩
                case measure => simp [intOf]; omega
              · have hR := Lib.hid (dAt_fail (s := s) (k := k) (A := A) (by omega) HAn.out (fun h => hc (by
                  rw [List.all_eq_true] at h
                  refine h _ ?_
                  have h2 : s[I] ∈ (s.data.toList.drop (k + 1)).take (j + 1) := by rw [htk]; simp
                  exact (List.take_subset_take_left _ (show j + 1 ≤ A from hlt)) h2)))
                by_cases hd : D < 128
                · have q2 : decide ((D : Int) < 128) = true := decide_eq_true (by omega)
                  clear hinv hR2 hI hc htk hget hl' hDe hd
                  go_wp2
                  go_ret2
                  exact ⟨by rw [hR.out]; rfl, _, rfl⟩
                · have q2 : decide ((D : Int) < 128) = false := decide_eq_false (by omega)
                  have q3 : decide ((192 : Int) ≤ (D : Int)) = true := decide_eq_true (by
                    rw [cont_iff] at hc
                    omega)
                  clear hinv hR2 hI hc htk hget hl' hDe hd
                  go_wp2
                  go_ret2
                  exact ⟨by rw [hR.out]; rfl, _, rfl⟩
            · have hjA : j = A := by omega
              subst hjA
              have q1 : decide ((I : Int) < (k : Int) + (K : Int)) = false := decide_eq_false (by have := HKA.out; omega)
              have hR := Lib.hid (HF.out hinv.out.2.1 R hinv.out.1)
              have HWR := Lib.hid (HW.out (R : Int))
              by_cases hw : uW (R : Nat) = K
              · have hR2 := Lib.hid (hR.out.trans (if_pos hw))
                have q2 : ((uW (R : Int) : Int) != (K : Int)) = false := by rw [hw]; simp
                generalize uW (R : Int) = V at *
                clear hinv hI hw
                go_wp2_with fail
                with_reducible refine (HWR.out _).mono ?_
                rintro e w' ⟨rfl, hw⟩
                rw [hw]; clear hw
                go_wp2
                go_ret2
                exact ⟨by rw [hR2.out]; rfl, _, rfl⟩
              · have hR2 := Lib.hid (hR.out.trans (if_neg hw))
                have q2 : ((uW (R : Int) : Int) != (K : Int)) = true := bne_iff_ne.mpr (by omega)
                generalize uW (R : Int) = V at *
                clear hinv hI hw
                go_wp2_with fail
                with_reducible refine (HWR.out _).mono ?_
                rintro e w' ⟨rfl, hw⟩
                rw [hw]; clear hw
                go_wp2
                go_ret2
                exact ⟨by rw [hR2.out]; rfl, _, rfl⟩
end Go.Proofs.YtnbhhnkcfbfdcaaGreatDoor
/- Package utf's walk, Check, Count, Cut. -/
namespace Go.Proofs.YtnbhhnkcfbfdcaaGreatDoor
open Go Go.RowKit
set_option linter.unusedVariables false

def UWalkRel (s : ByteArray) (n : Int) (W : World) (e c : Value) (wr : World) : Prop :=
  ∃ E C m : Nat, e = .int .i64 (E : Nat) ∧ c = .int .i64 (C : Nat) ∧ WPre s n E C ∧ wr = W.drewN m
set_option maxRecDepth 20000 in
theorem uwalk_any (s : ByteArray) (n : Int) (w : World) (hs : s.size ≤ 1125899906842624) (ht : Hds w) :
    Calls Tryz.prog 127 #[.string s, .int .i64 n] w fun e w' => e = .returned (.tuple #[.int .i64 ((wk s n).1 : Nat), .int .i64 ((wk s n).2 : Nat)]) ∧ ∃ m, w' = w.drewN m := by
  have HR := Lib.hid (fun (a : Nat) (w : World) (h : a ≤ 1125899906842624) (ht : Hds w) => urune_any s a w hs (by omega) (by omega) ht)
  have HT := Lib.hid ht
  clear ht
  go_enter Tryz.func127, Tryz.ntmps127
  go_wp2_with fail
  go_loopw [4, 5] (fun e c wr => UWalkRel s n w e c wr) (fun e _ _ => s.size + 1 - (intOf e).toNat)
  case atStart => exact ⟨0, 0, 0, rfl, rfl, WPre.zero s n, rfl⟩
  case round =>
    obtain ⟨E, C, m, rfl, rfl, hp, rfl⟩ := hrel
    have hE := hp.le
    have hC := hp.count
    have HRE := Lib.hid (HR.out E (w.drewN m) (by omega) (HT.out.drewN m))
    rw [uR_at] at HRE
    have hst := Lib.hid (fun h => wk_of hp (n := n) h)
    have hnx := Lib.hid (fun h => hp.step (n := n) h)
    have hle := dAt_le (s := s) (e := E)
    unfold WStop at hst hnx
    generalize (dAt s E).1 = R at *
    obtain ⟨z, hz⟩ : ∃ z, z = (dAt s E).2 := ⟨_, rfl⟩
    rw [← hz] at HRE hst hnx hle
    clear hz
    have z1 : IntKind.i64.wrap ((E : Int) + (z : Int)) = (E : Int) + (z : Int) := IntWalk.i64_in _ (by omega)
    have z2 : IntKind.i64.wrap ((C : Int) + 1) = (C : Int) + 1 := IntWalk.i64_in _ (by omega)
    by_cases h0 : z = 0
    · have p1 : ((z : Int) == 0) = true := by rw [h0]; rfl
      have HK := Lib.hid (hst.out (.inl h0))
      clear hst hnx hle hp h0
      go_wp2_with fail
      with_reducible refine HRE.out.mono ?_
      rintro e w' ⟨rfl, m2, hw⟩
      rw [hw]; clear hw
      go_wp2
      go_ret2
      exact ⟨by rw [HK.out]; rfl, m + m2, rfl⟩
    · have p1 : ((z : Int) == 0) = false := beq_eq_false_iff_ne.mpr (by omega)
      by_cases h1 : n < (E : Int) + (z : Int)
      · have p2 : decide (n < (E : Int) + (z : Int)) = true := decide_eq_true h1
        have HK := Lib.hid (hst.out (.inr h1))
        clear hst hnx hle hp h0 h1
        go_wp2_with fail
        with_reducible refine HRE.out.mono ?_
        rintro e w' ⟨rfl, m2, hw⟩
        rw [hw]; clear hw
        go_wp2
        go_ret2
        exact ⟨by rw [HK.out]; rfl, m + m2, rfl⟩
      · have p2 : decide (n < (E : Int) + (z : Int)) = false := decide_eq_false h1
        have HP := Lib.hid (hnx.out (fun h => by rcases h with h | h <;> omega))
        have hle2 := hle (by omega)
        clear hst hnx hle hp h1
        go_wp2_with fail
        with_reducible refine HRE.out.mono ?_
        rintro e w' ⟨rfl, m2, hw⟩
        rw [hw]; clear hw
        go_wp2
        go_roundw
        case rel => exact ⟨E + z, C + 1, m + m2, by go_num, by go_num, HP.out, rfl⟩
        case measure => simp [intOf]; omega

theorem ucheck_any (s : ByteArray) (w : World) (hs : s.size ≤ 1125899906842624) (ht : Hds w) :
    Calls Tryz.prog 114 #[.string s] w fun e w' => e = .returned (.int .i64 (uCheck s)) ∧ ∃ m, w' = w.drewN m := by
  have HK := Lib.hid (uwalk_any s s.size w hs ht)
  have hle := wk_le s s.size
  by_cases h : (wk s s.size).1 = s.size
  · have hC := Lib.hid (show uCheck s = -1 by unfold uCheck; rw [if_pos h])
    rw [h] at HK
    generalize (wk s s.size).2 = C at *
    clear h hle ht
    go_enter Tryz.func114, Tryz.ntmps114
    go_wp2_with fail
    with_reducible refine HK.out.mono ?_
    rintro e w' ⟨rfl, m2, hw⟩
    rw [hw]; clear hw
    go_wp2
    go_ret
    exact ⟨by rw [hC.out]; rfl, _, rfl⟩
  · have hC := Lib.hid (show uCheck s = (wk s s.size).1 by unfold uCheck; rw [if_neg h])
    generalize (wk s s.size).2 = C at *
    generalize (wk s s.size).1 = E at *
    have p1 : ((E : Int) == (s.size : Int)) = false := beq_eq_false_iff_ne.mpr (by omega)
    clear h hle ht
    go_enter Tryz.func114, Tryz.ntmps114
    go_wp2_with fail
    with_reducible refine HK.out.mono ?_
    rintro e w' ⟨rfl, m2, hw⟩
    rw [hw]; clear hw
    go_wp2
    go_ret
    exact ⟨by rw [hC.out]; rfl, _, rfl⟩


end Go.Proofs.YtnbhhnkcfbfdcaaGreatDoor
/- Package utf's lay. -/
namespace Go.Proofs.YtnbhhnkcfbfdcaaGreatDoor
open Go Go.RowKit
set_option linter.unusedVariables false

/-- Block g is just the bytes L. -/
def Blk (t : TypeId) (w : World) (g : Nat) (L : List UInt8) : Prop := w.heap[g]? = some (.cells (bV L).toArray t (0, 0))
theorem Blk.lt {t : TypeId} {w : World} {g : Nat} {L : List UInt8} (h : Blk t w g L) : g < w.heap.size := lt_of_block h
theorem Blk.c {t : TypeId} {w : World} {g : Nat} {L : List UInt8} (h : Blk t w g L) (j : Nat) (hj : j < L.length) : w.cell? ⟨g, j, none⟩ = some (.int .u8 (L[j].toNat : Int)) := by
  unfold Blk at h
  simp only [World.cell?, h]
  show (bV L).toArray[j]? = _
  rw [List.getElem?_toArray, bV_get L j hj]
theorem Blk.fr {t : TypeId} {w : World} {g : Nat} {L : List UInt8} (h : Blk t w g L) (o : Nat) : w.frozen? ⟨g, o, none⟩ = false := by unfold Blk at h; simp [World.frozen?, h]
theorem Blk.set {t : TypeId} {w : World} {g : Nat} {L : List UInt8} (h : Blk t w g L) (j : Nat) {z : Int} {b : UInt8} (hz : z = (b.toNat : Int)) : Blk t (w.setCell ⟨g, j, none⟩ (.int .u8 z)) g (L.set j b) := by
  subst hz
  unfold Blk
  rw [heap_setCell_block h]
  congr 2
  apply Array.toList_inj.mp
  simp only [Array.toList_setIfInBounds, bV, List.map_set]
theorem Blk.drewN {t : TypeId} {w : World} {g : Nat} {L : List UInt8} (h : Blk t w g L) (n : Nat) : Blk t (w.drewN n) g L := h
theorem Hds.only {w w' : World} {g : Nat} (h : Hds w) (ho : Only g w w') (hg : 1 ≠ g) : Hds w' := fun k hk => by
  rw [World.cell?_of_block (w := w) (ho.block _ h.lt hg)]; exact h k hk

set_option maxRecDepth 20000 in
theorem ulay_none (a : Option Addr) (cap : Nat) (r : Int) (w : World) :
    Calls Tryz.prog 116 #[.slice a 0 cap, .int .i32 r] w fun e w' => e = .returned (.tuple #[]) ∧ w' = w := by
  go_enter Tryz.func116, Tryz.ntmps116
  go_wp2
  go_end0
  exact ⟨rfl, rfl⟩

theorem set_behind (l X : List UInt8) (p j : Nat) (b : UInt8) (hp : l.length = p) : (l ++ X).set (p + j) b = l ++ X.set j b := by
  subst hp
  rw [List.set_append_right _ _ (by omega)]
  congr 2
  omega
theorem set_behind0 (l X : List UInt8) (p : Nat) (b : UInt8) (hp : l.length = p) : (l ++ X).set p b = l ++ X.set 0 b := set_behind l X p 0 b hp
theorem ofb {z : Int} {n : Nat} (h : n < 256) (hz : z = n) : z = ((b8 n).toNat : Int) := by rw [b8_toNat h]; exact hz
set_option maxRecDepth 20000 in
theorem ulay_four (g p : Nat) (cap : Nat) (l X : List UInt8) (r : Nat) (w : World) (hp : l.length = p) (hX : X.length = 4) (hr : r ≤ 1114111) (hr2 : 65536 ≤ r) (hb : Blk 5 w g (l ++ X)) (ht : Hds w) (hg : 1 ≠ g) :
    Calls Tryz.prog 116 #[.slice (some ⟨g, p, none⟩) 4 cap, .int .i32 (r : Nat)] w fun e w' => e = .returned (.tuple #[]) ∧ Blk 5 w' g (l ++ uB r) ∧ Only g w w' := by
  have hlen : (l ++ X).length = p + 4 := by rw [List.length_append, hp, hX]
  have c3 : ∃ v, w.cell? ⟨g, p + 3, none⟩ = some v := ⟨_, hb.c (p + 3) (by omega)⟩
  obtain ⟨v3, c3⟩ := c3
  have f3 := hb.fr (p + 3)
  have c2 : ∃ v, w.cell? ⟨g, p + 2, none⟩ = some v := ⟨_, hb.c (p + 2) (by omega)⟩
  obtain ⟨v2, c2⟩ := c2
  have f2 := hb.fr (p + 2)
  have c1 : ∃ v, w.cell? ⟨g, p + 1, none⟩ = some v := ⟨_, hb.c (p + 1) (by omega)⟩
  obtain ⟨v1, c1⟩ := c1
  have f1 := hb.fr (p + 1)
  have c0 : ∃ v, w.cell? ⟨g, p, none⟩ = some v := ⟨_, hb.c (p) (by omega)⟩
  obtain ⟨v0, c0⟩ := c0
  have f0 := hb.fr (p)
  have hh : w.cell? ⟨1, 4, none⟩ = some (.int .u8 240) := ht 4 (by omega)
  have HB := Lib.hid hb
  have HL := Lib.hid (And.intro hp hX)
  clear hb ht hX hp hlen
  go_enter Tryz.func116, Tryz.ntmps116
  go_wp2
  go_end0
  have e1 : r / 64 / 64 = r / 4096 := Nat.div_div_eq_div_mul r 64 64
  have e2 : r / 4096 / 64 = r / 262144 := Nat.div_div_eq_div_mul r 4096 64
  have H := ((((HB.out.set (p + 3) (z := 128 + (r : Int) % 64) (ofb (n := 128 + r % 64) (by omega) (by omega))).set (p + 2) (z := 128 + (r : Int) / 64 % 64) (ofb (n := 128 + r / 64 % 64) (by omega) (by omega))).set (p + 1) (z := 128 + (r : Int) / 64 / 64 % 64) (ofb (n := 128 + r / 4096 % 64) (by omega) (by omega))).set p (z := 240 + (r : Int) / 64 / 64 / 64) (ofb (n := 240 + r / 262144) (by omega) (by omega)))
  have HE : (((((l ++ X).set (p + 3) (b8 (128 + r % 64))).set (p + 2) (b8 (128 + r / 64 % 64))).set (p + 1) (b8 (128 + r / 4096 % 64))).set p (b8 (240 + r / 262144))) = l ++ uB r := by
    have hp := HL.out.1
    have hX := HL.out.2
    match X, hX with
    | [x0, x1, x2, x3], _ =>
      rw [set_behind _ _ _ 3 _ hp, set_behind _ _ _ 2 _ hp, set_behind _ _ _ 1 _ hp, set_behind0 _ _ _ _ hp]
      simp only [List.set_cons_succ, List.set_cons_zero]
      unfold uB
      rw [if_neg (by omega), if_neg (by omega), if_neg (by omega)]
  rw [HE] at H
  exact ⟨rfl, H, (((((Only.refl g w).setCell _ _).setCell _ _).setCell _ _).setCell _ _)⟩
set_option maxRecDepth 20000 in
theorem ulay_three (g p : Nat) (cap : Nat) (l X : List UInt8) (r : Nat) (w : World) (hp : l.length = p) (hX : X.length = 3) (hr : r < 65536) (hr2 : 2048 ≤ r) (hb : Blk 5 w g (l ++ X)) (ht : Hds w) (hg : 1 ≠ g) :
    Calls Tryz.prog 116 #[.slice (some ⟨g, p, none⟩) 3 cap, .int .i32 (r : Nat)] w fun e w' => e = .returned (.tuple #[]) ∧ Blk 5 w' g (l ++ uB r) ∧ Only g w w' := by
  have hlen : (l ++ X).length = p + 3 := by rw [List.length_append, hp, hX]
  have c2 : ∃ v, w.cell? ⟨g, p + 2, none⟩ = some v := ⟨_, hb.c (p + 2) (by omega)⟩
  obtain ⟨v2, c2⟩ := c2
  have f2 := hb.fr (p + 2)
  have c1 : ∃ v, w.cell? ⟨g, p + 1, none⟩ = some v := ⟨_, hb.c (p + 1) (by omega)⟩
  obtain ⟨v1, c1⟩ := c1
  have f1 := hb.fr (p + 1)
  have c0 : ∃ v, w.cell? ⟨g, p, none⟩ = some v := ⟨_, hb.c (p) (by omega)⟩
  obtain ⟨v0, c0⟩ := c0
  have f0 := hb.fr (p)
  have hh : w.cell? ⟨1, 3, none⟩ = some (.int .u8 224) := ht 3 (by omega)
  have HB := Lib.hid hb
  have HL := Lib.hid (And.intro hp hX)
  clear hb ht hX hp hlen
  go_enter Tryz.func116, Tryz.ntmps116
  go_wp2
  go_end0
  have e1 : r / 64 / 64 = r / 4096 := Nat.div_div_eq_div_mul r 64 64
  have e2 : r / 4096 / 64 = r / 262144 := Nat.div_div_eq_div_mul r 4096 64
  have H := (((HB.out.set (p + 2) (z := 128 + (r : Int) % 64) (ofb (n := 128 + r % 64) (by omega) (by omega))).set (p + 1) (z := 128 + (r : Int) / 64 % 64) (ofb (n := 128 + r / 64 % 64) (by omega) (by omega))).set p (z := 224 + (r : Int) / 64 / 64) (ofb (n := 224 + r / 4096) (by omega) (by omega)))
  have HE : ((((l ++ X).set (p + 2) (b8 (128 + r % 64))).set (p + 1) (b8 (128 + r / 64 % 64))).set p (b8 (224 + r / 4096))) = l ++ uB r := by
    have hp := HL.out.1
    have hX := HL.out.2
    match X, hX with
    | [x0, x1, x2], _ =>
      rw [set_behind _ _ _ 2 _ hp, set_behind _ _ _ 1 _ hp, set_behind0 _ _ _ _ hp]
      simp only [List.set_cons_succ, List.set_cons_zero]
      unfold uB
      rw [if_neg (by omega), if_neg (by omega), if_pos (by omega)]
  rw [HE] at H
  exact ⟨rfl, H, ((((Only.refl g w).setCell _ _).setCell _ _).setCell _ _)⟩
set_option maxRecDepth 20000 in
theorem ulay_two (g p : Nat) (cap : Nat) (l X : List UInt8) (r : Nat) (w : World) (hp : l.length = p) (hX : X.length = 2) (hr : r < 2048) (hr2 : 128 ≤ r) (hb : Blk 5 w g (l ++ X)) (ht : Hds w) (hg : 1 ≠ g) :
    Calls Tryz.prog 116 #[.slice (some ⟨g, p, none⟩) 2 cap, .int .i32 (r : Nat)] w fun e w' => e = .returned (.tuple #[]) ∧ Blk 5 w' g (l ++ uB r) ∧ Only g w w' := by
  have hlen : (l ++ X).length = p + 2 := by rw [List.length_append, hp, hX]
  have c1 : ∃ v, w.cell? ⟨g, p + 1, none⟩ = some v := ⟨_, hb.c (p + 1) (by omega)⟩
  obtain ⟨v1, c1⟩ := c1
  have f1 := hb.fr (p + 1)
  have c0 : ∃ v, w.cell? ⟨g, p, none⟩ = some v := ⟨_, hb.c (p) (by omega)⟩
  obtain ⟨v0, c0⟩ := c0
  have f0 := hb.fr (p)
  have hh : w.cell? ⟨1, 2, none⟩ = some (.int .u8 192) := ht 2 (by omega)
  have HB := Lib.hid hb
  have HL := Lib.hid (And.intro hp hX)
  clear hb ht hX hp hlen
  go_enter Tryz.func116, Tryz.ntmps116
  go_wp2
  go_end0
  have e1 : r / 64 / 64 = r / 4096 := Nat.div_div_eq_div_mul r 64 64
  have e2 : r / 4096 / 64 = r / 262144 := Nat.div_div_eq_div_mul r 4096 64
  have H := ((HB.out.set (p + 1) (z := 128 + (r : Int) % 64) (ofb (n := 128 + r % 64) (by omega) (by omega))).set p (z := 192 + (r : Int) / 64) (ofb (n := 192 + r / 64) (by omega) (by omega)))
  have HE : (((l ++ X).set (p + 1) (b8 (128 + r % 64))).set p (b8 (192 + r / 64))) = l ++ uB r := by
    have hp := HL.out.1
    have hX := HL.out.2
    match X, hX with
    | [x0, x1], _ =>
      rw [set_behind _ _ _ 1 _ hp, set_behind0 _ _ _ _ hp]
      simp only [List.set_cons_succ, List.set_cons_zero]
      unfold uB
      rw [if_neg (by omega), if_pos (by omega)]
  rw [HE] at H
  exact ⟨rfl, H, (((Only.refl g w).setCell _ _).setCell _ _)⟩
set_option maxRecDepth 20000 in
theorem ulay_one (g p : Nat) (cap : Nat) (l X : List UInt8) (r : Nat) (w : World) (hp : l.length = p) (hX : X.length = 1) (hr : r < 128) (hr2 : 0 ≤ r) (hb : Blk 5 w g (l ++ X)) (ht : Hds w) (hg : 1 ≠ g) :
    Calls Tryz.prog 116 #[.slice (some ⟨g, p, none⟩) 1 cap, .int .i32 (r : Nat)] w fun e w' => e = .returned (.tuple #[]) ∧ Blk 5 w' g (l ++ uB r) ∧ Only g w w' := by
  have hlen : (l ++ X).length = p + 1 := by rw [List.length_append, hp, hX]
  have c0 : ∃ v, w.cell? ⟨g, p, none⟩ = some v := ⟨_, hb.c (p) (by omega)⟩
  obtain ⟨v0, c0⟩ := c0
  have f0 := hb.fr (p)
  have hh : w.cell? ⟨1, 1, none⟩ = some (.int .u8 0) := ht 1 (by omega)
  have HB := Lib.hid hb
  have HL := Lib.hid (And.intro hp hX)
  clear hb ht hX hp hlen
  go_enter Tryz.func116, Tryz.ntmps116
  go_wp2
  go_end0
  have e1 : r / 64 / 64 = r / 4096 := Nat.div_div_eq_div_mul r 64 64
  have e2 : r / 4096 / 64 = r / 262144 := Nat.div_div_eq_div_mul r 4096 64
  have H := (HB.out.set p (z := (r : Int)) (ofb (n := r) (by omega) (by omega)))
  have HE : ((l ++ X).set p (b8 (r))) = l ++ uB r := by
    have hp := HL.out.1
    have hX := HL.out.2
    match X, hX with
    | [x0], _ =>
      rw [set_behind0 _ _ _ _ hp]
      simp only [List.set_cons_zero]
      unfold uB
      rw [if_pos (by omega)]
  rw [HE] at H
  exact ⟨rfl, H, ((Only.refl g w).setCell _ _)⟩
end Go.Proofs.YtnbhhnkcfbfdcaaGreatDoor
/- Package utf's Put. -/
namespace Go.Proofs.YtnbhhnkcfbfdcaaGreatDoor
open Go Go.RowKit
set_option linter.unusedVariables false

/-- The bytes that are laid of any number. -/
def uBI (r : Int) : List UInt8 := if uIs r = true then uB r.toNat else []
theorem uBI_len (r : Int) : (uBI r).length = uW r := by
  unfold uBI
  by_cases h : uIs r = true
  · rw [if_pos h]
    obtain ⟨n, rfl⟩ := Int.eq_ofNat_of_zero_le (uIs_iff.mp h).1
    exact (uW_len h).symm
  · rw [if_neg h]; unfold uW; rw [if_neg h]; rfl
theorem uW_le (r : Int) : uW r ≤ 4 := by
  unfold uW
  split
  · split
    · omega
    · split
      · omega
      · split <;> omega
  · omega
theorem ulay_any (g p cap : Nat) (l X : List UInt8) (r : Int) (w : World) (hp : l.length = p) (hX : X.length = uW r) (a : Option Addr) (ha : uW r ≠ 0 → a = some ⟨g, p, none⟩) (hb : Blk 5 w g (l ++ X)) (ht : Hds w) (hg : 1 ≠ g) :
    Calls Tryz.prog 116 #[.slice a (uW r) cap, .int .i32 r] w fun e w' => e = .returned (.tuple #[]) ∧ Blk 5 w' g (l ++ uBI r) ∧ Only g w w' := by
  by_cases h : uIs r = true
  · obtain ⟨h1, h2, h3⟩ := uIs_iff.mp h
    obtain ⟨n, rfl⟩ := Int.eq_ofNat_of_zero_le h1
    have hU : uBI (n : Int) = uB n := by unfold uBI; rw [if_pos h, Int.toNat_natCast]
    rw [hU]
    have hW := uW_len h
    by_cases c1 : n < 128
    · have e : uW (n : Int) = 1 := by rw [hW]; unfold uB; rw [if_pos c1]; rfl
      rw [ha (by omega), e]
      exact ulay_one g p cap l X n w hp (by rw [hX, e]) c1 (Nat.zero_le _) hb ht hg
    · by_cases c2 : n < 2048
      · have e := uW2 (r := n) (by omega) c2
        rw [ha (by omega), e]
        exact ulay_two g p cap l X n w hp (by rw [hX, e]) c2 (by omega) hb ht hg
      · by_cases c3 : n < 65536
        · have e := uW3 (r := n) (by omega) c3 (by omega)
          rw [ha (by omega), e]
          exact ulay_three g p cap l X n w hp (by rw [hX, e]) c3 (by omega) hb ht hg
        · have e := uW4 (r := n) (by omega) (by omega)
          rw [ha (by omega), e]
          exact ulay_four g p cap l X n w hp (by rw [hX, e]) (by omega) (by omega) hb ht hg
  · have hU : uBI r = [] := by unfold uBI; rw [if_neg h]
    have e : uW r = 0 := by unfold uW; rw [if_neg h]
    have hX0 : X = [] := List.eq_nil_of_length_eq_zero (by rw [hX, e])
    subst hX0
    rw [hU, e]
    refine (ulay_none a cap r w).mono ?_
    rintro e w' ⟨rfl, rfl⟩
    exact ⟨rfl, hb, Only.refl _ _⟩
/-- 'make([]byte, n)'. -/
theorem make_all (n : Nat) (w : World) (hl : n ≤ 140737488355000) :
    (Instr.makeSlice 43 (.int .i64 (n : Int)) (.int .i64 (n : Int))).run Tryz.prog w = .ok (.slice (some ⟨w.heap.size, 0, none⟩) n n) (w.alloc (.cells (Array.replicate n (.int .u8 0)) 5)) := by
  have := make_bytes n 0 w (by omega)
  simpa using this
/-- What 'copy' of what came in makes of a longer list that has just been made. -/
theorem copy_all (P : Program) (t e ty : TypeId) (ht : P.underlying t = some (.slice e)) (hi : (P.info? e).map (·.size) = some 1)
    (W : World) (a : Option Addr) (cap more : Nat) (l : List UInt8) (hin : BIn W a l) :
    ∃ w2, (Builtin.copy_ #[t, t] ty #[.slice (some ⟨W.heap.size, 0, none⟩) (l.length + more) (l.length + more), .slice a l.length cap]).run P (W.alloc (.cells (Array.replicate (l.length + more) (.int .u8 0)) e)) = .ok (goInt l.length) w2 ∧
      Blk e w2 W.heap.size (l ++ List.replicate more 0) ∧ Below W.heap.size W w2 := by
  have hnew : (W.alloc (.cells (Array.replicate (l.length + more) (.int .u8 0)) e)).heap[W.heap.size]? = some (.cells (Array.replicate (l.length + more) (.int .u8 0)) e (0, 0)) := heap_alloc_new W _
  have hb1 : Below W.heap.size W (W.alloc (.cells (Array.replicate (l.length + more) (.int .u8 0)) e)) := (Below.refl _ _).alloc (Nat.le_refl _) _
  have hrep : bV (List.replicate more 0) = List.replicate more (.int .u8 0) := by simp [bV, List.map_replicate]
  by_cases h0 : l.length = 0
  · obtain rfl := List.eq_nil_of_length_eq_zero h0
    refine ⟨_, run_copy_none (P := P) _ t t ty e _ a _ _ 0 cap ht hi (Nat.zero_min _), ?_, hb1⟩
    unfold Blk
    rw [hnew, List.nil_append, hrep]
    simp
  · obtain ⟨b, off, rfl, hbl, _⟩ := hin 0 (by omega)
    have hr := run_copy_row (P := P) (W.alloc (.cells (Array.replicate (l.length + more) (.int .u8 0)) e)) t t ty e W.heap.size 0 (l.length + more) (l.length + more) ⟨b, off, none⟩ l.length cap _ e (bV l) ht hi hnew
      (by rw [bV_length]; exact (Nat.min_eq_left (Nat.le_add_right _ _)).symm) (fun j v hj => by
        have hjl : j < l.length := by
          have := (List.getElem?_eq_some_iff.1 hj).1
          rwa [bV_length] at this
        obtain ⟨b', off', he, hb', hc⟩ := hin j hjl
        obtain ⟨rfl, rfl⟩ : b = b' ∧ off = off' := by simpa using he
        rw [bV_get l j hjl] at hj
        have e1 : (Addr.mk b off none).add j = ⟨b, off + j, none⟩ := by unfold Addr.add; split <;> simp_all
        rw [e1, World.cell?_of_block (w := W) (hb1.block b hb'), hc]
        exact hj) (by simp [bV_length]) (bV_one l)
    rw [bV_length] at hr
    refine ⟨_, hr, ?_, hb1.trans ⟨rfl, rfl, rfl, by simp, fun k hk => setRow_other _ _ _ _ (by omega)⟩⟩
    unfold Blk
    rw [setRow_heap _ _ _ _ _ _ hnew, bV_append, hrep]
    simp
theorem Blk.bts {t : TypeId} {w : World} {g B n : Nat} {L : List UInt8} (h : Blk t w g L) (hn : L.length = n) (hB : B ≤ g) (hm : n ≤ maxLen) : Bts t w B (.slice (some ⟨g, 0, none⟩) n n) L := by
  subst hn
  exact ⟨by simp [bV_length], .inr ⟨_, _, _, rfl, hB, h, Nat.le_refl _, hm, by simp [bV_length], by simp [List.take_of_length_le, bV_length]⟩⟩

set_option maxRecDepth 20000 in
theorem uput_any (a : Option Addr) (cap : Nat) (l : List UInt8) (r : Int) (w : World) (hl : l.length ≤ 140737488351232) (hin : BIn w a l) (ht : Hds w) :
    Calls Tryz.prog 99 #[.slice a l.length cap, .int .i32 r] w fun e w' => ∃ v, e = .returned v ∧ Bts 5 w' w.heap.size v (l ++ uBI r) ∧ Below w.heap.size w w' := by
  have hW4 := uW_le r
  obtain ⟨N, hN⟩ : ∃ N, N = l.length + uW r := ⟨_, rfl⟩
  have hmk := Lib.hid (fun w => make_all N w (by omega))
  obtain ⟨w2, hcp0, hbt, hbel⟩ := copy_all Tryz.prog 43 5 3 Tryz.underlying43 size8 w a cap (uW r) l hin
  rw [← hN] at hcp0
  have hcp := Lib.hid hcp0
  have HWd := Lib.hid (fun w => uwidth_any r w)
  have hgl := ht.lt
  have HL := Lib.hid (fun a2 c2 ha => ulay_any w.heap.size l.length c2 l _ r w2 rfl (List.length_replicate) a2 ha hbt (ht.below hbel hgl) (by omega))
  have hU := Lib.hid (uBI_len r)
  have hmk2 := Lib.hid (show ∀ w, (Instr.makeSlice 43 (.int .i64 ((l.length : Int) + (uW r : Int))) (.int .i64 ((l.length : Int) + (uW r : Int)))).run Tryz.prog w = .ok (.slice (some ⟨w.heap.size, 0, none⟩) N N) (w.alloc (.cells (Array.replicate N (.int .u8 0)) 5)) from fun w => by
    rw [← hmk.out w, show (l.length : Int) + (uW r : Int) = (N : Int) by omega])
  have hwr : IntKind.i64.wrap ((l.length : Int) + (uW r : Int)) = (l.length : Int) + (uW r : Int) := IntWalk.i64_in _ (by omega)
  have hsl : (l.length : Int) ≤ (N : Int) := by omega
  have hN2 := Lib.hid hN
  clear hin hcp0 hbt ht hmk hN
  generalize uW r = V at *
  go_enter Tryz.func99, Tryz.ntmps99
  go_wp2_with fail
  with_reducible refine (HWd.out _).mono ?_
  rintro e w' ⟨rfl, hw⟩
  rw [hw]; clear hw
  go_wp2_with fail
  rw [hmk2.out]
  go_wp2_with fail
  rw [hcp.out]
  go_wp2_with fail
  case inl =>
    have hV0 : V = 0 := by have := hN2.out; omega
    subst hV0
    with_reducible refine (HL.out _ _ (fun h => absurd rfl h)).mono ?_
    rintro e w3 ⟨rfl, hb3, ho3⟩
    have hb4 := Lib.hid (hb3.bts (B := w.heap.size) (n := l.length) (by rw [List.length_append, hU.out]; rfl) (Nat.le_refl _) (by unfold maxLen; omega))
    have hbl := Lib.hid (hbel.trans (ho3.below (Nat.le_refl _) hbel.size))
    clear hb3 ho3 hbel
    go_wp2
    go_ret
    exact ⟨_, rfl, hb4.out, hbl.out⟩
  case inr =>
    have hNV : N - l.length = V := by have := hN2.out; omega
    rw [hNV]
    with_reducible refine (HL.out _ _ (fun h => rfl)).mono ?_
    rintro e w3 ⟨rfl, hb3, ho3⟩
    have hb4 := Lib.hid (hb3.bts (B := w.heap.size) (n := N) (by rw [List.length_append, hU.out]; exact hN2.out.symm) (Nat.le_refl _) (by have := hN2.out; unfold maxLen; omega))
    have hbl := Lib.hid (hbel.trans (ho3.below (Nat.le_refl _) hbel.size))
    clear hb3 ho3 hbel
    go_wp2
    go_ret
    exact ⟨_, rfl, hb4.out, hbl.out⟩
end Go.Proofs.YtnbhhnkcfbfdcaaGreatDoor
