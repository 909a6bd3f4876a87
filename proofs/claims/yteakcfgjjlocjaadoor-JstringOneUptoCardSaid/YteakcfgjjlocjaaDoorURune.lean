/- Package utf's Rune, and the table of heads. -/
import Derived.Test.YteakcfgjjlocjaaDoorUIs
import Derived.Deep.QuietTactic
import Derived.Handy
namespace Go.Proofs.YteakcfgjjlocjaaDoor
open Go Go.RowKit
set_option linter.unusedVariables false

/-- The table of heads, where the program keeps it. -/
def Hds (w : World) : Prop := ∀ k, k < 5 → w.cell? ⟨0, k, none⟩ = some (.int .u8 (uHead k : Nat))
theorem Hds.lt {w : World} (h : Hds w) : 0 < w.heap.size := by
  have := World.block_lt_of_cell? w _ (h 0 (by omega)); exact this
theorem Hds.below {w w' : World} {N : Nat} (h : Hds w) (hb : Below N w w') (hN : 0 < N) : Hds w' := fun k hk => (hb.cell (p := ⟨0, k, none⟩) hN).trans (h k hk)
theorem Hds.drewN {w : World} (h : Hds w) (n : Nat) : Hds (w.drewN n) := h

/-- 5.2: the character that begins at any place. -/
def uR (s : ByteArray) (a : Int) : Nat × Nat := if 0 ≤ a then dAt s a.toNat else (0, 0)
theorem uR_at (s : ByteArray) (k : Nat) : uR s k = dAt s k := by unfold uR; rw [if_pos (by omega), Int.toNat_natCast]
theorem ret_r {a c b d : Int} (h : a = c) (k : b = d) : Ending.returned (.tuple #[.int .i32 a, .int .i64 b]) = .returned (.tuple #[.int .i32 c, .int .i64 d]) := by rw [h, k]
theorem uR_none {s : ByteArray} {a : Int} (h : uR s a = (0, 0)) : Ending.returned (.tuple #[.int .i32 0, .int .i64 0]) = .returned (.tuple #[.int .i32 ((uR s a).1 : Nat), .int .i64 ((uR s a).2 : Nat)]) := by rw [h]; rfl
theorem uFold_lt : ∀ (t : List UInt8) (r X : Nat), r < X → (∀ b ∈ t, uCont b = true) → uFold r t < X * 64 ^ t.length := by
  intro t
  induction t with
  | nil => intro r X hr _; simpa [uFold] using hr
  | cons b t ih =>
    intro r X hr h
    have h2 := cont_iff.mp (h b (by simp))
    have h1 := ih (r * 64 + (b.toNat - 128)) (X * 64) (by omega) (fun x hx => h x (by simp [hx]))
    have e : X * 64 ^ (b :: t).length = X * 64 * 64 ^ t.length := by
      rw [List.length_cons, Nat.pow_succ]
      generalize 64 ^ t.length = Y
      rw [Nat.mul_assoc X 64 Y, Nat.mul_comm 64 Y]
    have e2 : uFold r (b :: t) = uFold (r * 64 + (b.toNat - 128)) t := by simp only [uFold, List.foldl_cons]
    rw [e, e2]; exact h1
theorem uFold_snoc (r : Nat) (t : List UInt8) (b : UInt8) : uFold r (t ++ [b]) = uFold r t * 64 + (b.toNat - 128) := by
  unfold uFold; rw [List.foldl_append]; rfl
theorem head_le {c : Nat} (h : c < 256) : uHead (uAnn c) ≤ c ∧ (uAnn c ≠ 0 → c - uHead (uAnn c) < 128) ∧ uHead (uAnn c) < 256 := by
  by_cases h1 : c < 128
  · rw [show uAnn c = 1 by unfold uAnn; rw [if_pos h1], show uHead 1 = 0 from rfl]; omega
  · by_cases h2 : c < 192 ∨ 248 ≤ c
    · rw [annX h1 h2, show uHead 0 = 0 from rfl]; omega
    · by_cases h3 : c < 224
      · rw [ann2 (by omega) h3, show uHead (1 + 1) = 192 from rfl]; omega
      · by_cases h4 : c < 240
        · rw [ann3 (by omega) h4, show uHead (2 + 1) = 224 from rfl]; omega
        · rw [ann4 (by omega) (by omega), show uHead (3 + 1) = 240 from rfl]; omega
theorem drop_at (s : ByteArray) (k : Nat) (h : k < s.size) : s.data.toList.drop k = s[k] :: s.data.toList.drop (k + 1) := by
  have h' : k < s.data.toList.length := by rw [toList_size]; exact h
  rw [List.drop_eq_getElem_cons h', byte_at s k h h']
theorem dAt_fail {s : ByteArray} {k A : Nat} (h : k < s.size) (hA : uAnn s[k].toNat = A + 1) (hno : ¬ ((s.data.toList.drop (k + 1)).take A).all uCont = true) : dAt s k = (0, 0) := by
  unfold dAt
  rw [drop_at s k h, decN _ _ A hA]
  split
  · rfl
  · rw [if_neg (fun h => hno h.1)]

def URuneRel (s : ByteArray) (k A K R0 : Nat) (W : World) (r z i : Value) (wr : World) : Prop :=
  ∃ j R, j ≤ A ∧ z = .int .i64 (K : Nat) ∧ i = .int .i64 ((k + 1 + j : Nat) : Int) ∧ r = .int .i32 (R : Nat) ∧ Hid (R = uFold R0 ((s.data.toList.drop (k + 1)).take j) ∧ ((s.data.toList.drop (k + 1)).take j).all uCont = true ∧ R < 128 * 64 ^ j) ∧ wr = W

set_option maxRecDepth 20000 in
theorem urune_any (s : ByteArray) (a : Int) (w : World) (hs : s.size ≤ 1125899906842624) (ha1 : -9223372036854775808 ≤ a) (ha2 : a ≤ 9223372036854775807) (ht : Hds w) :
    Calls Tryd.prog 49 #[.string s, .int .i64 a] w fun e w' => e = .returned (.tuple #[.int .i32 ((uR s a).1 : Nat), .int .i64 ((uR s a).2 : Nat)]) ∧ ∃ m, w' = w.drewN m := by
  by_cases h0 : a < 0
  · have p1 : decide (a < 0) = true := decide_eq_true h0
    have HR := Lib.hid (show uR s a = (0, 0) by unfold uR; rw [if_neg (by omega)])
    clear h0 ht
    go_enter Tryd.func49, Tryd.ntmps49
    go_wp2
    go_ret2
    exact ⟨uR_none HR.out, 0, rfl⟩
  · obtain ⟨k, rfl⟩ := Int.eq_ofNat_of_zero_le (show 0 ≤ a by omega)
    have p1 : decide ((k : Int) < 0) = false := decide_eq_false h0
    rw [uR_at]
    by_cases h1 : s.size ≤ k
    · have p2 : decide (s.size ≤ k) = true := decide_eq_true h1
      have HR := Lib.hid (dAt_out h1)
      clear h0 h1 ht
      go_enter Tryd.func49, Tryd.ntmps49
      go_wp2
      go_ret2
      exact ⟨by rw [HR.out]; rfl, 0, rfl⟩
    · have hlt : k < s.size := by omega
      have p2 : decide (s.size ≤ k) = false := decide_eq_false h1
      have ik0 : (0 : Int) ≤ (k : Int) := by omega
      have ik1 : (k : Int) < (s.size : Int) := by omega
      have hB := s[k].toNat_lt
      obtain ⟨B, hBe⟩ : ∃ B, B = s[k].toNat := ⟨_, rfl⟩
      have hBi : (s[k].toNat : Int) = (B : Int) := by omega
      obtain ⟨hh1, hh2, hh3⟩ := head_le (c := B) (by omega)
      have HA := Lib.hid (fun w => uann_any B w)
      have hdec := Lib.hid (drop_at s k hlt)
      by_cases hA : uAnn B = 0
      · have HR := Lib.hid (show dAt s k = (0, 0) by unfold dAt; rw [hdec.out, dec0 _ _ (by rw [← hBe]; exact hA)])
        rw [hA] at HA
        clear h0 h1 ht hh1 hh2 hh3 hA hBe
        go_enter Tryd.func49, Tryd.ntmps49
        go_wp2_with fail
        with_reducible refine (HA.out _).mono ?_
        rintro e w' ⟨rfl, hw⟩
        rw [hw]; clear hw
        go_wp2
        go_ret2
        exact ⟨by rw [HR.out]; rfl, 0, rfl⟩
      · obtain ⟨hA1, hA2⟩ := ann_lt hA
        obtain ⟨A, hAe⟩ : ∃ A, uAnn B = A + 1 := ⟨uAnn B - 1, by omega⟩
        have HAn := Lib.hid (show uAnn s[k].toNat = A + 1 by rw [← hBe]; exact hAe)
        obtain ⟨K, hK⟩ : ∃ K, K = uAnn B := ⟨_, rfl⟩
        have hKA : K = A + 1 := hK.trans hAe
        rw [← hK] at HA hA1 hA2 hh1 hh2 hh3
        have p3 : ((K : Int) == 0) = false := beq_eq_false_iff_ne.mpr (by omega)
        have z1 : IntKind.i64.wrap ((s.size : Int) - (k : Int)) = (s.size : Int) - (k : Int) := IntWalk.i64_in _ (by omega)
        by_cases h2 : s.size - k < K
        · have p4 : decide ((s.size : Int) - (k : Int) < (K : Int)) = true := decide_eq_true (by omega)
          have HR := Lib.hid (show dAt s k = (0, 0) by
            unfold dAt
            rw [hdec.out, decN _ _ A HAn.out, if_pos (by rw [List.length_drop, toList_size]; omega)])
          clear h0 h1 ht hh1 hh2 hh3 hA hBe hAe hK hKA
          go_enter Tryd.func49, Tryd.ntmps49
          go_wp2_with fail
          with_reducible refine (HA.out _).mono ?_
          rintro e w' ⟨rfl, hw⟩
          rw [hw]; clear hw
          go_wp2
          go_ret2
          exact ⟨by rw [HR.out]; rfl, 0, rfl⟩
        · have p4 : decide ((s.size : Int) - (k : Int) < (K : Int)) = false := decide_eq_false (by omega)
          obtain ⟨h, hhe⟩ : ∃ h, h = uHead K := ⟨_, rfl⟩
          have hcell : w.cell? ⟨0, K, none⟩ = some (.int .u8 (h : Int)) := by rw [hhe]; exact ht K (by omega)
          obtain ⟨R0, hR0⟩ : ∃ R0, R0 = B - h := ⟨_, rfl⟩
          rw [← hhe] at hh1 hh2 hh3
          have hR1 : R0 < 128 := by rw [hR0]; exact hh2 (by omega)
          have z2 : IntKind.u8.wrap ((B : Int) - (h : Int)) = (R0 : Int) := by rw [IntWalk.u8_in _ (by omega)]; omega
          have z3 : IntKind.i32.wrap (R0 : Int) = (R0 : Int) := IntWalk.i32_in _ (by omega)
          have z4 : IntKind.i64.wrap ((k : Int) + 1) = (k : Int) + 1 := IntWalk.i64_in _ (by omega)
          have z5 : IntKind.i64.wrap ((k : Int) + (K : Int)) = (k : Int) + (K : Int) := IntWalk.i64_in _ (by omega)
          have iA0 : (0 : Int) ≤ (K : Int) := by omega
          have iA1 : (K : Int) < 5 := by omega
          have HF := Lib.hid (show ((s.data.toList.drop (k + 1)).take A).all uCont = true → ∀ R, R = uFold R0 ((s.data.toList.drop (k + 1)).take A) → dAt s k = if uW (R : Nat) = K then (R, K) else (0, 0) from fun hc R hR => by
            unfold dAt
            rw [hdec.out, decN _ _ A HAn.out, if_neg (by rw [List.length_drop, toList_size]; omega), ← hKA, ← hBe, ← hhe, ← hR0, ← hR]
            by_cases hw : uW (R : Nat) = K
            · rw [if_pos ⟨hc, hw⟩, if_pos hw]
            · rw [if_neg (fun h => hw h.2), if_neg hw])
          have HW := Lib.hid (fun r w => uwidth_any r w)
          have HKA := Lib.hid hKA
          have hin : k + K ≤ s.size := by omega
          have hK4 : K ≤ 4 := hA2
          clear h0 h1 h2 ht hh1 hh2 hh3 hA hBe hAe hhe hR0 hA1 hA2 hK hKA
          go_enter Tryd.func49, Tryd.ntmps49
          go_wp2_with fail
          with_reducible refine (HA.out _).mono ?_
          rintro e w' ⟨rfl, hw⟩
          rw [hw]; clear hw
          go_wp2
          go_quiet (fail)
          go_wp2
          go_loopw [4, 5, 6] (fun r z i wr => URuneRel s k A K R0 (w.drewN nq) r z i wr) (fun _ _ i _ => s.size - (intOf i).toNat)
          case atStart => exact ⟨0, R0, Nat.zero_le _, rfl, by go_num, rfl, Lib.hid ⟨by simp [uFold], by simp, by simpa using hR1⟩, rfl⟩
          case round =>
            obtain ⟨j, R, hj, rfl, rfl, rfl, hinv, rfl⟩ := hrel
            have hR2 : R < 33554432 := by
              have h1 := hinv.out.2.2
              have h2 : 64 ^ j ≤ 64 ^ 3 := Nat.pow_le_pow_right (by decide) (by have := HKA.out; omega)
              have h3 : (64 : Nat) ^ 3 = 262144 := by decide
              omega
            obtain ⟨I, hI⟩ : ∃ I, I = k + 1 + j := ⟨_, rfl⟩
            rw [← hI]
            by_cases hlt : j < A
            · have hI2 : I < k + K := by have := HKA.out; omega
              have q1 : decide ((I : Int) < (k : Int) + (K : Int)) = true := decide_eq_true (by omega)
              have jk0 : (0 : Int) ≤ (I : Int) := by omega
              have jk1 : (I : Int) < (s.size : Int) := by omega
              have hIs : I < s.size := by omega
              have hD := s[I].toNat_lt
              have hl' : j < (s.data.toList.drop (k + 1)).length := by rw [List.length_drop, toList_size]; omega
              have hget : (s.data.toList.drop (k + 1))[j] = s[I] := by
                rw [List.getElem_drop]
                have h' : I < s.data.toList.length := by rw [toList_size]; exact hIs
                rw [← byte_at s I hIs h']
                congr 1
                omega
              have htk : (s.data.toList.drop (k + 1)).take (j + 1) = (s.data.toList.drop (k + 1)).take j ++ [s[I]] := by
                rw [List.take_succ_eq_append_getElem hl', hget]
              obtain ⟨D, hDe⟩ : ∃ D, D = s[I].toNat := ⟨_, rfl⟩
              have hDi : (s[I].toNat : Int) = (D : Int) := by omega
              by_cases hc : uCont s[I] = true
              · have hc2 := cont_iff.mp hc
                obtain ⟨d, hd⟩ : ∃ d, d = D - 128 := ⟨_, rfl⟩
                obtain ⟨R2, hR3⟩ : ∃ R2, R2 = R * 64 + d := ⟨_, rfl⟩
                have hinv2 := Lib.hid (show R2 = uFold R0 ((s.data.toList.drop (k + 1)).take (j + 1)) ∧ ((s.data.toList.drop (k + 1)).take (j + 1)).all uCont = true ∧ R2 < 128 * 64 ^ (j + 1) by
                  obtain ⟨e1, e2, e3⟩ := hinv.out
                  refine ⟨?_, ?_, ?_⟩
                  · rw [htk, uFold_snoc, ← e1, hR3, hd, hDe]
                  · rw [htk, List.all_append, e2]; simp [hc]
                  · rw [Nat.pow_succ, ← Nat.mul_assoc]
                    generalize 128 * 64 ^ j = X at *
                    omega)
                have q2 : decide ((D : Int) < 128) = false := decide_eq_false (by omega)
                have q3 : decide ((192 : Int) ≤ (D : Int)) = false := decide_eq_false (by omega)
                have y0 : IntKind.i32.wrap ((R : Int) * 64) = (R : Int) * 64 := IntWalk.i32_in _ (by omega)
                have y1 : IntKind.u8.wrap ((D : Int) - 128) = (d : Int) := by rw [IntWalk.u8_in _ (by omega)]; omega
                have y2 : IntKind.i32.wrap (d : Int) = (d : Int) := IntWalk.i32_in _ (by omega)
                have y3 : IntKind.i32.wrap ((R : Int) * 64 + (d : Int)) = (R2 : Int) := by rw [IntWalk.i32_in _ (by omega)]; omega
                have y4 : IntKind.i64.wrap ((I : Int) + 1) = (I : Int) + 1 := IntWalk.i64_in _ (by omega)
                have HI := Lib.hid hI
                clear hinv hR2 hI hc hc2 htk hget hl' hDe hd hR3
                go_wp2
                go_roundw
                case rel => exact ⟨j + 1, R2, by omega, rfl, by have := HI.out; simp; omega, rfl, hinv2, rfl⟩
                case measure => simp [intOf]; omega
              · have hR := Lib.hid (dAt_fail (s := s) (k := k) (A := A) (by omega) HAn.out (fun h => hc (by
                  rw [List.all_eq_true] at h
                  refine h _ ?_
                  have h2 : s[I] ∈ (s.data.toList.drop (k + 1)).take (j + 1) := by rw [htk]; simp
                  exact (List.take_subset_take_left _ (show j + 1 ≤ A from hlt)) h2)))
                by_cases hd : D < 128
                · have q2 : decide ((D : Int) < 128) = true := decide_eq_true (by omega)
                  clear hinv hR2 hI hc htk hget hl' hDe hd
                  go_wp2
                  go_ret2
                  exact ⟨by rw [hR.out]; rfl, _, rfl⟩
                · have q2 : decide ((D : Int) < 128) = false := decide_eq_false (by omega)
                  have q3 : decide ((192 : Int) ≤ (D : Int)) = true := decide_eq_true (by
                    rw [cont_iff] at hc
                    omega)
                  clear hinv hR2 hI hc htk hget hl' hDe hd
                  go_wp2
                  go_ret2
                  exact ⟨by rw [hR.out]; rfl, _, rfl⟩
            · have hjA : j = A := by omega
              subst hjA
              have q1 : decide ((I : Int) < (k : Int) + (K : Int)) = false := decide_eq_false (by have := HKA.out; omega)
              have hR := Lib.hid (HF.out hinv.out.2.1 R hinv.out.1)
              have HWR := Lib.hid (HW.out (R : Int))
              by_cases hw : uW (R : Nat) = K
              · have hR2 := Lib.hid (hR.out.trans (if_pos hw))
                have q2 : ((uW (R : Int) : Int) != (K : Int)) = false := by rw [hw]; simp
                generalize uW (R : Int) = V at *
                clear hinv hI hw
                go_wp2_with fail
                with_reducible refine (HWR.out _).mono ?_
                rintro e w' ⟨rfl, hw⟩
                rw [hw]; clear hw
                go_wp2
                go_ret2
                exact ⟨by rw [hR2.out]; rfl, _, rfl⟩
              · have hR2 := Lib.hid (hR.out.trans (if_neg hw))
                have q2 : ((uW (R : Int) : Int) != (K : Int)) = true := bne_iff_ne.mpr (by omega)
                generalize uW (R : Int) = V at *
                clear hinv hI hw
                go_wp2_with fail
                with_reducible refine (HWR.out _).mono ?_
                rintro e w' ⟨rfl, hw⟩
                rw [hw]; clear hw
                go_wp2
                go_ret2
                exact ⟨by rw [hR2.out]; rfl, _, rfl⟩
end Go.Proofs.YteakcfgjjlocjaaDoor
