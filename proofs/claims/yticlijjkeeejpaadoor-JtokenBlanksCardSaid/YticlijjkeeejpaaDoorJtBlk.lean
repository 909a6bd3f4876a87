/- JtokenBlanks, walked. -/
import Derived.Test.YticlijjkeeejpaaDoorJtAll
namespace Go.Proofs.YticlijjkeeejpaaDoor
open Go Go.RowKit
set_option linter.unusedVariables false

/-- Bytes that came in, as a list. -/
theorem bin_of {w : World} {a : Option Addr} : ∀ (n : Nat), (∀ k, k < n → ∃ (bl off : Nat) (z : Int), a = some ⟨bl, off, none⟩ ∧ bl < w.heap.size ∧ w.cell? ⟨bl, off + k, none⟩ = some (.int .u8 z) ∧ 0 ≤ z ∧ z ≤ 255) → ∃ l : List UInt8, l.length = n ∧ BIn w a l
  | 0, _ => ⟨[], rfl, fun j hj => by simp at hj⟩
  | n + 1, h => by
    obtain ⟨l, hl, hin⟩ := bin_of n (fun k hk => h k (by omega))
    obtain ⟨bl, off, z, ha, hb, hc, h0, h1⟩ := h n (by omega)
    refine ⟨l ++ [UInt8.ofNat z.toNat], by simp [hl], fun j hj => ?_⟩
    by_cases hjl : j < l.length
    · obtain ⟨b2, o2, e, hb2, hc2⟩ := hin j hjl
      exact ⟨b2, o2, e, hb2, by rw [List.getElem_append_left hjl]; exact hc2⟩
    · have hjn : j = n := by rw [List.length_append, List.length_singleton] at hj; omega
      subst hjn
      refine ⟨bl, off, ha, hb, ?_⟩
      rw [hc]
      have e : (l ++ [UInt8.ofNat z.toNat])[j] = UInt8.ofNat z.toNat := by
        rw [List.getElem_append_right (by omega)]; simp
      rw [e]
      have : (UInt8.ofNat z.toNat).toNat = z.toNat := by rw [UInt8.toNat_ofNat']; omega
      rw [this]
      congr 2; omega
theorem kbl_long (s : ByteArray) (a : Option Addr) (n cap : Nat) (w : World) (h : 300 < s.size ∨ 400 < n) (hh : Hds w) :
    Calls Tryd.prog 4 #[.string s, .slice a n cap] w fun e w' => e = .returned (.bool true) ∧ Below w.heap.size w w' := by
  have HT := Lib.hid hh
  clear hh
  by_cases h1 : 300 < s.size
  · have p1 : decide (300 < (s.size : Int)) = true := decide_eq_true (by omega)
    clear h h1
    go_enter Tryd.func4, Tryd.ntmps4
    go_wp2_with ((with_reducible refine (works12_any _ HT.out).mono ?_); rintro e w2 ⟨rfl, hbel2⟩)
    go_ret
    exact ⟨rfl, hbel2⟩
  · have p1 : decide (300 < (s.size : Int)) = false := decide_eq_false (by omega)
    have p2 : decide (400 < (n : Int)) = true := decide_eq_true (by omega)
    clear h h1
    go_enter Tryd.func4, Tryd.ntmps4
    go_wp2_with ((with_reducible refine (works12_any _ HT.out).mono ?_); rintro e w2 ⟨rfl, hbel2⟩)
    go_ret
    exact ⟨rfl, hbel2⟩
set_option maxHeartbeats 1000000 in
theorem kbl_bad (s : ByteArray) (a : Option Addr) (n cap : Nat) (w : World) (h : s.size ≤ 300) (hn : n ≤ 400) (hh : Hds w) (hC : ¬ (tAll s.data.toList).2 = 0) :
    Calls Tryd.prog 4 #[.string s, .slice a n cap] w fun e w' => e = .returned (.bool true) ∧ Below w.heap.size w w' := by
  have p1 : decide (300 < (s.size : Int)) = false := decide_eq_false (by omega)
  have p2 : decide (400 < (n : Int)) = false := decide_eq_false (by omega)
  have HT := Lib.hid (show ∀ w', Below w.heap.size w w' → Hds w' from fun w' hb => hh.below hb hh.lt)
  have HA := Lib.hid (kall_call s w (by omega) hh)
  have hL := (tAll_fine _ s.data.toList rfl).1 hC
  rw [hL] at HA
  have p3 : ((tAll s.data.toList).2 != 0) = true := bne_iff_ne.mpr hC
  generalize (tAll s.data.toList).2 = C at *
  clear hh hL hC
  go_enter Tryd.func4, Tryd.ntmps4
  go_wp2_with fail
  refine HA.out.mono ?_
  rintro e w1 ⟨a1, k1, rfl, i1, b1⟩
  have t1 := Lib.hid (HT.out _ b1)
  clear i1
  go_wp2_with fail
  with_reducible refine (works12_any _ t1.out).mono ?_
  rintro e w2 ⟨rfl, b2⟩
  have hf := Lib.hid (grown_then b1 b2)
  clear b1 b2
  go_wp2
  go_ret
  exact ⟨rfl, hf.out⟩
theorem kput (y : TK) (w : World) (h : y.2.length ≤ 1099511627776) :
    Calls Tryd.prog 17 #[.slice none 0 0, .agg #[.int .u8 (y.1.toNat : Int), .string (bA y.2)]] w fun e w' => ∃ v, e = .returned v ∧ (convert 46 9 v).run Tryd.prog w' = .ok (.string (bA (tPut y))) w' ∧ Below w.heap.size w w' := by
  refine (put_any none 0 [] y w (by simp) h (bin_none w)).mono ?_
  rintro e w' ⟨v, he, hb, hbe⟩
  rw [List.nil_append] at hb
  exact ⟨v, he, hb.text Tryd.underlying46 Tryd.underlying5 Tryd.underlying9, hbe⟩
def KbRel (BL : List UInt8) (L : List TK) (w1 : World) (t i : Value) (wr : World) : Prop :=
  ∃ (j : Nat) (T : ByteArray), j ≤ L.length ∧ i = .int .i64 (j : Nat) ∧ t = .string T ∧ Hid (T = bA (bTx BL 0 (L.take j))) ∧ T.size ≤ 600000 ∧ Below w1.heap.size w1 wr
set_option maxRecDepth 100000 in
set_option maxHeartbeats 4000000 in
theorem kbl_good (s : ByteArray) (a : Option Addr) (BL : List UInt8) (cap : Nat) (w : World) (h : s.size ≤ 300) (hn : BL.length ≤ 400) (hin : BIn w a BL) (hh : Hds w) (hC : (tAll s.data.toList).2 = 0) :
    Calls Tryd.prog 4 #[.string s, .slice a BL.length cap] w fun e w' => e = .returned (.bool true) ∧ Below w.heap.size w w' := by
  have p1 : decide (300 < (s.size : Int)) = false := decide_eq_false (by omega)
  have p2 : decide (400 < (BL.length : Int)) = false := decide_eq_false (by omega)
  have HT := Lib.hid (show ∀ w', Below w.heap.size w w' → Hds w' from fun w' hb => hh.below hb hh.lt)
  have HA := Lib.hid (kall_call s w (by omega) hh)
  obtain ⟨_, hLs, hLt⟩ := tAll_fine _ s.data.toList rfl
  rw [toList_size] at hLs hLt
  rw [hC] at HA
  generalize (tAll s.data.toList).1 = L at *
  have HLt := Lib.hid hLt
  have hL300 : L.length ≤ 300 := by omega
  have HSZ := Lib.hid (show ∀ j, (bTx BL 0 (L.take j)).length ≤ 600000 from fun j => by
    have h1 := bTx_len BL 300 (L.take j) 0 (fun x hx => by have := (hLt x (List.mem_of_mem_take hx)).2; omega)
    have h2 : (L.take j).length ≤ 300 := by rw [List.length_take]; omega
    have h3 := Nat.mul_le_mul_right (6 * 300 + 7) h2
    omega)
  have p3 : decide (s.size < L.length) = false := decide_eq_false (by omega)
  have p3' : ¬ s.size < L.length := by omega
  have HAG := Lib.hid (bTx_again BL L 0 (fun x hx => (hLt x hx).1))
  clear hh hLt hC
  go_enter Tryd.func4, Tryd.ntmps4
  go_wp2_with fail
  refine HA.out.mono ?_
  rintro e w1 ⟨a1, k1, rfl, i1, b1⟩
  have U1 := Lib.hid i1.up
  have B1 := Lib.hid b1
  have IN := Lib.hid (show ∀ wx, Below w1.heap.size w1 wx → BIn wx a BL from fun wx hb => (hin.below b1).below hb)
  clear hin i1 b1 HA
  go_wp2_with fail
  go_loopw [7, 8] (fun t i wr => KbRel BL L w1 t i wr) (fun _ i _ => L.length - (intOf i).toNat)
  case atStart => exact ⟨0, ⟨#[]⟩, Nat.zero_le _, rfl, rfl, Lib.hid rfl, by decide, Below.refl _ _⟩
  case round =>
    obtain ⟨j, T, hj, rfl, rfl, hT, hTs, hbel⟩ := hrel
    by_cases hlt : j < L.length
    · have q1 : decide ((j : Int) < (L.length : Int)) = true := decide_eq_true (by omega)
      have q2 : (j : Int) < (L.length : Int) := by omega
      obtain ⟨g, rfl, hg, hc0, hc1⟩ := U1.out _ hbel j hlt
      have HQ := Lib.hid (show (L.take (j + 1)) = L.take j ++ [L[j]] from List.take_succ_eq_append_getElem hlt)
      have hys := (HLt.out L[j] (List.getElem_mem hlt)).2
      have HS1 := Lib.hid (HSZ.out (j + 1))
      have hjl := Lib.hid (show (L.take j).length = j by rw [List.length_take]; omega)
      generalize L[j] = y at *
      have HP := Lib.hid (fun w => kput y w (by omega))
      have hpl := tPut_len y
      have hX1 : (bA (tPut y)).size ≤ 1805 := by rw [bA_size]; omega
      have HSN := Lib.hid (show bTx BL 0 (L.take (j + 1)) = bTx BL 0 (L.take j) ++ (bSep BL j ++ tPut y) by
        rw [HQ.out, bTx_snoc, hjl.out, Nat.zero_add])
      have l1 : ¬ 9223372036854775807 < T.size + 1 := by omega
      have e1 : (T ++ (⟨#[32]⟩ : ByteArray)).size = T.size + 1 := by rw [ByteArray.size_append]; rfl
      clear hys hpl
      obtain ⟨X, hX⟩ : ∃ X, X = bA (tPut y) := ⟨_, rfl⟩
      rw [← hX] at HP hX1
      have HX := Lib.hid hX
      clear hX
      by_cases hjb : j < BL.length
      · obtain ⟨gb, ob, ha, hgb, hcb⟩ := IN.out _ hbel j hjb
        have q3 : decide ((j : Int) < (BL.length : Int)) = true := decide_eq_true (by omega)
        have q4 : (j : Int) < (BL.length : Int) := by omega
        subst ha
        have HSE := Lib.hid (show bSep BL j = [32, bW BL[j]] by unfold bSep; rw [List.getElem?_eq_getElem hjb])
        generalize BL[j] = z at *
        have hz := z.toNat_lt
        have hm4 : z.toNat % 4 = 0 ∨ z.toNat % 4 = 1 ∨ z.toNat % 4 = 2 ∨ z.toNat % 4 = 3 := by omega
        rcases hm4 with hm | hm | hm | hm
        · have HBW := Lib.hid (show bSep BL j = [32, 32] by rw [HSE.out]; unfold bW; simp [hm])
          have mi : (z.toNat : Int) % 4 = 0 := by omega
          have mt : (z.toNat : Int).tmod 4 = 0 := by rw [Int.tmod_eq_emod_of_nonneg (by omega)]; omega
          clear HSE hm
          go_wp2_with fail
          go_quiet (fail)
          have hT2 : T ++ (⟨#[32]⟩ : ByteArray) ++ (⟨#[32, 9, 10, 13]⟩ : ByteArray).extract 0 1 = bA (bTx BL 0 (L.take j) ++ [32, 32]) := by
            rw [show (⟨#[32, 9, 10, 13]⟩ : ByteArray).extract 0 1 = bA [32] from by decide +kernel, hT.out]
            show bA _ ++ bA [32] ++ bA _ = _
            rw [bA_append, bA_append, List.append_assoc]; rfl
          have hT2s : (T ++ (⟨#[32]⟩ : ByteArray) ++ (⟨#[32, 9, 10, 13]⟩ : ByteArray).extract 0 1).size ≤ 600002 := by
            rw [ByteArray.size_append, e1]
            have : ((⟨#[32, 9, 10, 13]⟩ : ByteArray).extract 0 1).size = 1 := by decide +kernel
            omega
          generalize T ++ (⟨#[32]⟩ : ByteArray) ++ (⟨#[32, 9, 10, 13]⟩ : ByteArray).extract 0 1 = T2 at *
          have HT2 := Lib.hid hT2
          have l2 : ¬ 9223372036854775807 < T2.size + X.size := by omega
          have hbelD := Below.drewN hbel nq
          clear hT2
          go_wp2_with fail
          refine (HP.out _).mono ?_
          rintro e w2 ⟨v, rfl, hv, hb2⟩
          have hbel2 := hbelD.trans (hb2.mono hbelD.size)
          clear hb2 hbel hbelD
          go_wp2
          go_roundw
          case rel =>
            have e2 : T2 ++ X = bA (bTx BL 0 (L.take (j + 1))) := by
              rw [HSN.out, HBW.out, HT2.out, HX.out, bA_append, List.append_assoc]
            exact ⟨j + 1, _, by omega, by go_num, rfl, Lib.hid e2, by rw [e2, bA_size]; exact HS1.out, hbel2⟩
          case measure => simp [intOf]; omega
        · have HBW := Lib.hid (show bSep BL j = [32, 9] by rw [HSE.out]; unfold bW; simp [hm])
          have mi : (z.toNat : Int) % 4 = 1 := by omega
          have mt : (z.toNat : Int).tmod 4 = 1 := by rw [Int.tmod_eq_emod_of_nonneg (by omega)]; omega
          clear HSE hm
          go_wp2_with fail
          go_quiet (fail)
          have hT2 : T ++ (⟨#[32]⟩ : ByteArray) ++ (⟨#[32, 9, 10, 13]⟩ : ByteArray).extract 1 2 = bA (bTx BL 0 (L.take j) ++ [32, 9]) := by
            rw [show (⟨#[32, 9, 10, 13]⟩ : ByteArray).extract 1 2 = bA [9] from by decide +kernel, hT.out]
            show bA _ ++ bA [32] ++ bA _ = _
            rw [bA_append, bA_append, List.append_assoc]; rfl
          have hT2s : (T ++ (⟨#[32]⟩ : ByteArray) ++ (⟨#[32, 9, 10, 13]⟩ : ByteArray).extract 1 2).size ≤ 600002 := by
            rw [ByteArray.size_append, e1]
            have : ((⟨#[32, 9, 10, 13]⟩ : ByteArray).extract 1 2).size = 1 := by decide +kernel
            omega
          generalize T ++ (⟨#[32]⟩ : ByteArray) ++ (⟨#[32, 9, 10, 13]⟩ : ByteArray).extract 1 2 = T2 at *
          have HT2 := Lib.hid hT2
          have l2 : ¬ 9223372036854775807 < T2.size + X.size := by omega
          have hbelD := Below.drewN hbel nq
          clear hT2
          go_wp2_with fail
          refine (HP.out _).mono ?_
          rintro e w2 ⟨v, rfl, hv, hb2⟩
          have hbel2 := hbelD.trans (hb2.mono hbelD.size)
          clear hb2 hbel hbelD
          go_wp2
          go_roundw
          case rel =>
            have e2 : T2 ++ X = bA (bTx BL 0 (L.take (j + 1))) := by
              rw [HSN.out, HBW.out, HT2.out, HX.out, bA_append, List.append_assoc]
            exact ⟨j + 1, _, by omega, by go_num, rfl, Lib.hid e2, by rw [e2, bA_size]; exact HS1.out, hbel2⟩
          case measure => simp [intOf]; omega
        · have HBW := Lib.hid (show bSep BL j = [32, 10] by rw [HSE.out]; unfold bW; simp [hm])
          have mi : (z.toNat : Int) % 4 = 2 := by omega
          have mt : (z.toNat : Int).tmod 4 = 2 := by rw [Int.tmod_eq_emod_of_nonneg (by omega)]; omega
          clear HSE hm
          go_wp2_with fail
          go_quiet (fail)
          have hT2 : T ++ (⟨#[32]⟩ : ByteArray) ++ (⟨#[32, 9, 10, 13]⟩ : ByteArray).extract 2 3 = bA (bTx BL 0 (L.take j) ++ [32, 10]) := by
            rw [show (⟨#[32, 9, 10, 13]⟩ : ByteArray).extract 2 3 = bA [10] from by decide +kernel, hT.out]
            show bA _ ++ bA [32] ++ bA _ = _
            rw [bA_append, bA_append, List.append_assoc]; rfl
          have hT2s : (T ++ (⟨#[32]⟩ : ByteArray) ++ (⟨#[32, 9, 10, 13]⟩ : ByteArray).extract 2 3).size ≤ 600002 := by
            rw [ByteArray.size_append, e1]
            have : ((⟨#[32, 9, 10, 13]⟩ : ByteArray).extract 2 3).size = 1 := by decide +kernel
            omega
          generalize T ++ (⟨#[32]⟩ : ByteArray) ++ (⟨#[32, 9, 10, 13]⟩ : ByteArray).extract 2 3 = T2 at *
          have HT2 := Lib.hid hT2
          have l2 : ¬ 9223372036854775807 < T2.size + X.size := by omega
          have hbelD := Below.drewN hbel nq
          clear hT2
          go_wp2_with fail
          refine (HP.out _).mono ?_
          rintro e w2 ⟨v, rfl, hv, hb2⟩
          have hbel2 := hbelD.trans (hb2.mono hbelD.size)
          clear hb2 hbel hbelD
          go_wp2
          go_roundw
          case rel =>
            have e2 : T2 ++ X = bA (bTx BL 0 (L.take (j + 1))) := by
              rw [HSN.out, HBW.out, HT2.out, HX.out, bA_append, List.append_assoc]
            exact ⟨j + 1, _, by omega, by go_num, rfl, Lib.hid e2, by rw [e2, bA_size]; exact HS1.out, hbel2⟩
          case measure => simp [intOf]; omega
        · have HBW := Lib.hid (show bSep BL j = [32, 13] by rw [HSE.out]; unfold bW; simp [hm])
          have mi : (z.toNat : Int) % 4 = 3 := by omega
          have mt : (z.toNat : Int).tmod 4 = 3 := by rw [Int.tmod_eq_emod_of_nonneg (by omega)]; omega
          clear HSE hm
          go_wp2_with fail
          go_quiet (fail)
          have hT2 : T ++ (⟨#[32]⟩ : ByteArray) ++ (⟨#[32, 9, 10, 13]⟩ : ByteArray).extract 3 4 = bA (bTx BL 0 (L.take j) ++ [32, 13]) := by
            rw [show (⟨#[32, 9, 10, 13]⟩ : ByteArray).extract 3 4 = bA [13] from by decide +kernel, hT.out]
            show bA _ ++ bA [32] ++ bA _ = _
            rw [bA_append, bA_append, List.append_assoc]; rfl
          have hT2s : (T ++ (⟨#[32]⟩ : ByteArray) ++ (⟨#[32, 9, 10, 13]⟩ : ByteArray).extract 3 4).size ≤ 600002 := by
            rw [ByteArray.size_append, e1]
            have : ((⟨#[32, 9, 10, 13]⟩ : ByteArray).extract 3 4).size = 1 := by decide +kernel
            omega
          generalize T ++ (⟨#[32]⟩ : ByteArray) ++ (⟨#[32, 9, 10, 13]⟩ : ByteArray).extract 3 4 = T2 at *
          have HT2 := Lib.hid hT2
          have l2 : ¬ 9223372036854775807 < T2.size + X.size := by omega
          have hbelD := Below.drewN hbel nq
          clear hT2
          go_wp2_with fail
          refine (HP.out _).mono ?_
          rintro e w2 ⟨v, rfl, hv, hb2⟩
          have hbel2 := hbelD.trans (hb2.mono hbelD.size)
          clear hb2 hbel hbelD
          go_wp2
          go_roundw
          case rel =>
            have e2 : T2 ++ X = bA (bTx BL 0 (L.take (j + 1))) := by
              rw [HSN.out, HBW.out, HT2.out, HX.out, bA_append, List.append_assoc]
            exact ⟨j + 1, _, by omega, by go_num, rfl, Lib.hid e2, by rw [e2, bA_size]; exact HS1.out, hbel2⟩
          case measure => simp [intOf]; omega
      · have q3 : decide ((j : Int) < (BL.length : Int)) = false := decide_eq_false (by omega)
        have HSE := Lib.hid (show bSep BL j = [32] by unfold bSep; rw [List.getElem?_eq_none (by omega)])
        go_wp2_with fail
        refine (HP.out _).mono ?_
        rintro e w2 ⟨v, rfl, hv, hb2⟩
        have hbel2 := hbel.trans (hb2.mono hbel.size)
        have l2 : ¬ 9223372036854775807 < T.size + 1 + X.size := by omega
        have l3 : ¬ 9223372036854775807 < (T ++ (⟨#[32]⟩ : ByteArray)).size + X.size := by omega
        clear hb2 hbel
        go_wp2
        go_roundw
        case rel =>
          have e2 : T ++ (⟨#[32]⟩ : ByteArray) ++ X = bA (bTx BL 0 (L.take (j + 1))) := by
            rw [HSN.out, HSE.out, hT.out, HX.out]
            show bA _ ++ bA [32] ++ bA _ = _
            rw [bA_append, bA_append, List.append_assoc]
          exact ⟨j + 1, _, by omega, by go_num, rfl, Lib.hid e2, by rw [e2, bA_size]; exact HS1.out, hbel2⟩
        case measure => simp [intOf]; omega
    · have q1 : decide ((j : Int) < (L.length : Int)) = false := decide_eq_false (by omega)
      have HLJ := Lib.hid (show L.take j = L from List.take_of_length_le (by omega))
      have eT : (T ++ (⟨#[13, 10]⟩ : ByteArray)).data.toList = bTx BL 0 L ++ [13, 10] := by
        rw [hT.out, HLJ.out]; simp [bA]
      have hTz : (T ++ (⟨#[13, 10]⟩ : ByteArray)).size = T.size + 2 := by rw [ByteArray.size_append]; rfl
      have HA2 := Lib.hid (fun w ht => kall_call (T ++ (⟨#[13, 10]⟩ : ByteArray)) w (by omega) ht)
      rw [eT, HAG.out] at HA2
      have l1 : ¬ 9223372036854775807 < T.size + 2 := by omega
      have hLb : L.length ≤ 1099511627776 := by omega
      have t1 := Lib.hid (HT.out _ (B1.out.trans (hbel.mono B1.out.size)))
      have d1 : decide (L = L) = true := decide_eq_true rfl
      clear eT hTz
      go_wp2_with fail
      refine (HA2.out _ t1.out).mono ?_
      rintro e w2 ⟨a2, k2, rfl, i2, b2⟩
      have K2 := hbel.trans (b2.mono hbel.size)
      have I2 := Lib.hid (U1.out _ K2)
      have U2 := Lib.hid i2.up
      clear b2 hbel i2
      go_wp2_with fail
      with_reducible refine (kback a1 k1 L hLb I2.out).mono ?_
      rintro e w3 ⟨a3, k3, rfl, i3, b3⟩
      have U3 := Lib.hid i3.up
      have I23 := Lib.hid (U2.out _ b3)
      have K3 := Lib.hid (K2.trans (b3.mono K2.size))
      clear b3 i3 K2
      go_wp2_with fail
      with_reducible refine (kback a2 k2 L hLb I23.out).mono ?_
      rintro e w4 ⟨a4, k4, rfl, i4, b4⟩
      have I34 := Lib.hid (U3.out _ b4)
      have I4 := Lib.hid i4
      have K4 := Lib.hid (K3.out.trans (b4.mono K3.out.size))
      clear b4 i4
      go_wp2_with fail
      with_reducible refine (same_any a3 a4 k3 k4 L L _ hLb I34.out I4.out).mono ?_
      rintro e w5 ⟨rfl, b5⟩
      have K5 := Lib.hid (K4.out.trans (b5.mono K4.out.size))
      have W5 := Lib.hid (B1.out.trans (K5.out.mono B1.out.size))
      clear b5
      go_wp2_with fail
      with_reducible refine (works12_any _ (HT.out _ W5.out)).mono ?_
      rintro e w6 ⟨rfl, b6⟩
      have hf := Lib.hid (grown_then W5.out b6)
      clear b6
      go_wp2
      go_ret
      exact ⟨rfl, hf.out⟩
theorem kbl_any (s : ByteArray) (a : Option Addr) (n cap : Nat) (w : World) (hs : s.size ≤ 140737488351232) (hc : ∀ k, k < n → ∃ (bl off : Nat) (z : Int), a = some ⟨bl, off, none⟩ ∧ bl < w.heap.size ∧ w.cell? ⟨bl, off + k, none⟩ = some (.int .u8 z) ∧ 0 ≤ z ∧ z ≤ 255) (hh : Hds w) :
    Calls Tryd.prog 4 #[.string s, .slice a n cap] w fun e w' => e = .returned (.bool true) ∧ Below w.heap.size w w' := by
  by_cases h : 300 < s.size ∨ 400 < n
  · exact kbl_long s a n cap w h hh
  · by_cases hC : (tAll s.data.toList).2 = 0
    · obtain ⟨BL, hl, hin⟩ := bin_of n hc
      subst hl
      exact kbl_good s a BL cap w (by omega) (by omega) hin hh hC
    · exact kbl_bad s a n cap w (by omega) (by omega) hh hC
end Go.Proofs.YticlijjkeeejpaaDoor
