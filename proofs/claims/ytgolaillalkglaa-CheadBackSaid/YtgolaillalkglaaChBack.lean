/- CheadBack, walked. -/
import Derived.Test.YtgolaillalkglaaChWork
import Derived.Test.YtgolaillalkglaaChP
import Derived.Test.YtgolaillalkglaaChWay
import Derived.Deep.QuietTactic
import Derived.BigQuiet
import Derived.Deep.Cut
namespace Go.Proofs.Ytgolaillalkglaa
open Go Go.RowKit
set_option linter.unusedVariables false

theorem back_piece (p X : ByteArray) : (p ++ X).extract p.size (p.size + X.size) = X := by
  apply ByteArray.ext
  apply Array.toList_inj.mp
  rw [ext_toList, toList_append, ← toList_size p, List.drop_left, List.take_of_length_le]
  rw [toList_size]; omega
/-- What memory holds while the law looks: its numbers, its kinds. -/
structure BkS (w0 w : World) (n0 n1 n2 : Int) (x y : Nat) : Prop where
  n : w.heap[w0.heap.size]? = some (.cells #[.int .i64 n0, .int .i64 n1, .int .i64 n2] 43 (0, 0))
  k : w.heap[w0.heap.size + 1]? = some (.cells #[.int .u8 (x : Nat), .int .u8 (y : Nat)] 44 (0, 0))
  b : Below w0.heap.size w0 w
variable {w0 w w' : World} {n0 n1 n2 : Int} {x y : Nat}
theorem BkS.next (h : BkS w0 w n0 n1 n2 x y) (hb : Below w.heap.size w w') : BkS w0 w' n0 n1 n2 x y :=
  ⟨(hb.block _ (lt_of_block h.n)).trans h.n, (hb.block _ (lt_of_block h.k)).trans h.k, grown_then h.b hb⟩
theorem BkS.only (h : BkS w0 w n0 n1 n2 x y) {c : Nat} (hc : w.heap.size ≤ c) (ho : Only c w w') : BkS w0 w' n0 n1 n2 x y := h.next (ho.below hc (Nat.le_refl _))
theorem BkS.lt (h : BkS w0 w n0 n1 n2 x y) : w0.heap.size + 1 < w.heap.size := lt_of_block h.k
theorem BkS.onlyB (h : BkS w0 w n0 n1 n2 x y) {c : Nat} (hc : w0.heap.size + 1 < c) (ho : Only c w w') : BkS w0 w' n0 n1 n2 x y :=
  ⟨(ho.block _ (lt_of_block h.n) (by omega)).trans h.n, (ho.block _ (lt_of_block h.k) (by omega)).trans h.k, h.b.trans (ho.below (by omega) h.b.size)⟩
theorem BkS.i0 (h : BkS w0 w n0 n1 n2 x y) : w.cell? ⟨w0.heap.size, 0, none⟩ = some (.int .i64 n0) := by simp [World.cell?, h.n]
theorem BkS.i1 (h : BkS w0 w n0 n1 n2 x y) : w.cell? ⟨w0.heap.size, 1, none⟩ = some (.int .i64 n1) := by simp [World.cell?, h.n]
theorem BkS.i2 (h : BkS w0 w n0 n1 n2 x y) : w.cell? ⟨w0.heap.size, 2, none⟩ = some (.int .i64 n2) := by simp [World.cell?, h.n]
theorem BkS.k0 (h : BkS w0 w n0 n1 n2 x y) : w.cell? ⟨w0.heap.size + 1, 0, none⟩ = some (.int .u8 (x : Nat)) := by simp [World.cell?, h.k]
theorem BkS.k1 (h : BkS w0 w n0 n1 n2 x y) : w.cell? ⟨w0.heap.size + 1, 1, none⟩ = some (.int .u8 (y : Nat)) := by simp [World.cell?, h.k]
theorem bk_start (w : World) (n0 n1 n2 : Int) (x y : Nat) : BkS w ((w.alloc (.cells #[.int .i64 n0, .int .i64 n1, .int .i64 n2] 43)).alloc (.cells #[.int .u8 (x : Nat), .int .u8 (y : Nat)] 44)) n0 n1 n2 x y := by
  refine ⟨?_, ?_, ((Below.refl _ _).alloc (Nat.le_refl _) _).alloc (by simp) _⟩
  · rw [Below.heap_alloc _ _ _ (by simp)]; exact heap_alloc_new _ _
  · have := heap_alloc_new (w.alloc (.cells #[.int .i64 n0, .int .i64 n1, .int .i64 n2] 43)) (.cells #[.int .u8 (x : Nat), .int .u8 (y : Nat)] 44)
    rw [World.size_alloc] at this; exact this
theorem hdB_len (last id : Int) (k : Nat) : (hdB last id k).length ≤ 11 := by
  unfold hdB
  split
  · rename_i h
    have hn : numB id = true := by rw [Bool.and_eq_true] at h; exact h.1
    have hz := zigI_range hn
    have := vB_le10 (show (zigI id).toNat < 18446744073709551616 by omega)
    split
    · simp
    · rw [List.length_cons]; omega
  · simp
theorem lsB_len (n : Int) (k : Nat) : (lsB n k).length ≤ 11 := by
  unfold lsB
  split
  · rename_i h
    have hn := cntB_yes (show cntB n = true by rw [Bool.and_eq_true] at h; exact h.1)
    have := vB_le10 (show n.toNat < 18446744073709551616 by omega)
    split
    · simp
    · rw [List.length_cons]; omega
  · simp
theorem mpB_len (n : Int) (k y : Nat) : (mpB n k y).length ≤ 11 := by
  unfold mpB
  split
  · simp
  · split
    · rename_i h
      have hn := cntB_yes (show cntB n = true by rw [Bool.and_eq_true, Bool.and_eq_true] at h; exact h.1.1)
      have := vB_le10 (show n.toNat < 18446744073709551616 by omega)
      rw [List.length_append, List.length_singleton]; omega
    · simp
theorem hd_facts (last id : Int) (k : Nat) : ((numB id && kB k) = true → 0 < (bA (hdB last id k)).size ∧ (CS.new (bA (hdB last id k))).hTo last = ⟨bA (hdB last id k), (bA (hdB last id k)).size, (bA (hdB last id k)).size, 0⟩ ∧ (CS.new (bA (hdB last id k))).hId last = id ∧ (CS.new (bA (hdB last id k))).hKd last = k) ∧ (¬ (numB id && kB k) = true → (bA (hdB last id k)).size = 0) := by
  constructor
  · intro h
    refine ⟨?_, hd_back last id k h⟩
    rw [bA_size]
    unfold hdB; rw [if_pos h]; split <;> simp
  · intro h
    rw [bA_size]; unfold hdB; rw [if_neg h, List.length_nil]
theorem ls_facts (n : Int) (k : Nat) : ((cntB n && kB k) = true → 0 < (bA (lsB n k)).size ∧ (CS.new (bA (lsB n k))).lTo = ⟨bA (lsB n k), (bA (lsB n k)).size, (bA (lsB n k)).size, 0⟩ ∧ ((CS.new (bA (lsB n k))).lCt : Int) = n ∧ (CS.new (bA (lsB n k))).lKd = k) ∧ (¬ (cntB n && kB k) = true → (bA (lsB n k)).size = 0) := by
  constructor
  · intro h
    have hn := cntB_yes (show cntB n = true by rw [Bool.and_eq_true] at h; exact h.1)
    obtain ⟨d, rfl⟩ := Int.eq_ofNat_of_zero_le hn.1
    obtain ⟨h1, h2, h3⟩ := ls_back d k h
    refine ⟨?_, h1, by rw [h2], h3⟩
    rw [bA_size]
    unfold lsB; rw [if_pos h]; split <;> simp
  · intro h
    rw [bA_size]; unfold lsB; rw [if_neg h, List.length_nil]
theorem same_law (x y : Nat) (hx : x < 256) (hy : y < 256) : sameB x y = (decide (x = y) || (decide ((x + y) % 256 = 3) && decide (0 < x) && decide (0 < y) && decide (x < 3))) := by
  rw [Bool.eq_iff_iff]
  simp only [sameB, trB, Bool.or_eq_true, Bool.and_eq_true, decide_eq_true_eq]
  omega
theorem end_of {b : Nat} {F : ByteArray} {w : World} (h : CurT 56 w b ⟨F, F.size, F.size, 0⟩) (hF : F.size ≤ 11) :
    Calls Try.prog 26 #[.pointer (some ⟨b, 0, none⟩)] w fun e w' => e = .returned (.int .i64 0) ∧ Below w.heap.size w w' := by
  refine (end_any h ⟨Nat.le_refl _, Nat.le_refl _, by show F.size ≤ _; omega⟩).mono ?_
  rintro e w' ⟨rfl, n, rfl⟩
  refine ⟨?_, drew_below w n⟩
  have : (⟨F, F.size, F.size, 0⟩ : CS).endC = 0 := by unfold CS.endC; rw [if_neg (by simp)]
  rw [this]
theorem bytes_sl (w : World) (p : ByteArray) : SlB (Lib.bytesWorld w 5 p) (.slice (some ⟨w.heap.size, 0, none⟩) p.size (grownCap w p.size 0 5)) p.data.toList :=
  ⟨_, _, by rw [toList_size], by rw [toList_size]; exact grownCap_ge w p.size 0 _, bytes_in w 5 p⟩

set_option maxRecDepth 100000 in
set_option maxHeartbeats 4000000 in
theorem chb_nat (p : ByteArray) (n0 n1 n2 : Int) (x y : Nat) (w : World) (hp : p.size ≤ 140737488351232) (hx : x < 256) (hy : y < 256) (h0 : -9223372036854775808 ≤ n0 ∧ n0 ≤ 9223372036854775807) :
    Calls Try.prog 5 #[.string p, .agg #[.int .i64 n0, .int .i64 n1, .int .i64 n2], .agg #[.int .u8 (x : Nat), .int .u8 (y : Nat)]] w fun e w' => e = .returned (.bool true) ∧ Below w.heap.size w w' := by
  have hcv := Lib.hid (fun (w : World) => Lib.run_convert_string_bytes (P := Try.prog) w 9 45 5 p Try.underlying9 Try.underlying45 Try.underlying5)
  have hpl : p.data.toList.length ≤ 140737488351232 := by rw [toList_size]; exact hp
  have P1 := Lib.hid (fun (w : World) (v : Value) (h : SlB w v p.data.toList) => putf_any h hpl n0 n1 x hx)
  have P2 := Lib.hid (fun (w : World) (v : Value) (h : SlB w v p.data.toList) => putl_any h hpl n2 x)
  have P3 := Lib.hid (fun (w : World) (v : Value) (h : SlB w v p.data.toList) => putm_any h hpl n2 x y)
  have S0 := bk_start w n0 n1 n2 x y
  go_enter Try.func5, Try.ntmps5
  go_wp2_with fail
  generalize (w.alloc (.cells #[.int .i64 n0, .int .i64 n1, .int .i64 n2] 43)).alloc (.cells #[.int .u8 (x : Nat), .int .u8 (y : Nat)] 44) = wa at S0 ⊢
  rw [hcv.out]
  have T1 := S0.next (bytes_below _ 5 p)
  have i0 := T1.i0; have i1 := T1.i1; have i2 := T1.i2; have k0 := T1.k0; have k1 := T1.k1
  go_wp2_with fail
  with_reducible refine (P1.out _ _ (bytes_sl _ p)).mono ?_
  rintro e w1 ⟨v1, rfl, hb1, b1⟩
  have S1 := T1.next b1
  have ht1 := Lib.hid (hb1.text (P := Try.prog) Try.underlying45 Try.underlying5 Try.underlying9)
  rw [bA_front] at ht1
  clear i0 i1 i2 k0 k1 T1 b1 hb1 S0
  go_wp2_with fail
  rw [ht1.out]
  clear ht1
  go_wp2_with fail
  rw [hcv.out]
  have T2 := S1.next (bytes_below _ 5 p)
  have i0 := T2.i0; have i1 := T2.i1; have i2 := T2.i2; have k0 := T2.k0; have k1 := T2.k1
  go_wp2_with fail
  with_reducible refine (P2.out _ _ (bytes_sl _ p)).mono ?_
  rintro e w2 ⟨v2, rfl, hb2, b2⟩
  have S2 := T2.next b2
  have ht2 := Lib.hid (hb2.text (P := Try.prog) Try.underlying45 Try.underlying5 Try.underlying9)
  rw [bA_front] at ht2
  clear i0 i1 i2 k0 k1 T2 b2 hb2 S1
  go_wp2_with fail
  rw [ht2.out]
  clear ht2
  go_wp2_with fail
  rw [hcv.out]
  have T3 := S2.next (bytes_below _ 5 p)
  have i0 := T3.i0; have i1 := T3.i1; have i2 := T3.i2; have k0 := T3.k0; have k1 := T3.k1
  go_wp2_with fail
  with_reducible refine (P3.out _ _ (bytes_sl _ p)).mono ?_
  rintro e w3 ⟨v3, rfl, hb3, b3⟩
  have S3 := T3.next b3
  have ht3 := Lib.hid (hb3.text (P := Try.prog) Try.underlying45 Try.underlying5 Try.underlying9)
  rw [bA_front] at ht3
  clear i0 i1 i2 k0 k1 T3 b3 hb3 S2
  go_wp2_with fail
  rw [ht3.out]
  clear ht3
  have i0 := S3.i0; have i1 := S3.i1; have i2 := S3.i2; have k0 := S3.k0; have k1 := S3.k1
  have R4 := Lib.hid (fun w => rpf_any n0 n1 x w)
  have R5 := Lib.hid (fun w => rpl_any n2 x w)
  have R6 := Lib.hid (fun w => rpm_any n2 x y w)
  have HF := Lib.hid (hd_facts n0 n1 x)
  have HL := Lib.hid (ls_facts n2 x)
  have sF : (bA (hdB n0 n1 x)).size ≤ 11 := by rw [bA_size]; exact hdB_len n0 n1 x
  have sL : (bA (lsB n2 x)).size ≤ 11 := by rw [bA_size]; exact lsB_len n2 x
  have sM : (bA (mpB n2 x y)).size ≤ 11 := by rw [bA_size]; exact mpB_len n2 x y
  clear P1 P2 P3 hcv hpl
  generalize bA (hdB n0 n1 x) = F at *
  generalize bA (lsB n2 x) = L at *
  generalize bA (mpB n2 x y) = M at *
  have l1 : ¬ 9223372036854775807 < p.size + F.size := by omega
  have l2 : ¬ 9223372036854775807 < p.size + L.size := by omega
  have l3 : ¬ 9223372036854775807 < p.size + M.size := by omega
  go_wp2_with fail
  with_reducible refine (R4.out _).mono ?_
  rintro e w4 ⟨rfl, b4⟩
  have S4 := S3.next b4
  clear b4 S3 i0 i1 i2 k0 k1
  have i0 := S4.i0; have i1 := S4.i1; have i2 := S4.i2; have k0 := S4.k0; have k1 := S4.k1
  go_wp2_with fail
  with_reducible refine (R5.out _).mono ?_
  rintro e w5 ⟨rfl, b5⟩
  have S5 := S4.next b5
  clear b5 S4 i0 i1 i2 k0 k1
  have i0 := S5.i0; have i1 := S5.i1; have i2 := S5.i2; have k0 := S5.k0; have k1 := S5.k1
  go_wp2_with fail
  with_reducible refine (R6.out _).mono ?_
  rintro e w6 ⟨rfl, b6⟩
  have S6 := S5.next b6
  clear b6 S5 i0 i1 i2 k0 k1
  have i0 := S6.i0; have i1 := S6.i1; have i2 := S6.i2; have k0 := S6.k0; have k1 := S6.k1
  clear R4 R5 R6
  go_wp2_with fail
  go_cut [121] from 79 (fun q wr => q = .bool false ∧ BkS w wr n0 n1 n2 x y)
  case first =>
    have HI := Lib.hid (fun w => is_any x w)
    have HI2 := Lib.hid (fun w => ris_any x w)
    have HQ := Lib.hid (fun w => same_any x y w)
    have HV := Lib.hid (same_law x y hx hy)
    generalize kB x = K at HI HI2
    have S6' := Lib.hid S6
    obtain ⟨s, hs⟩ : ∃ s, s = (x + y) % 256 := ⟨_, rfl⟩
    have e1 : IntKind.u8.wrap ((x : Int) + (y : Int)) = (s : Int) := by rw [IntKind.wrap_u8]; omega
    rw [← hs] at HV
    clear S6 hs HF HL
    by_cases c1 : x = y
    · subst c1
      have p1 : ((x : Int) == (x : Int)) = true := by simp
      rw [show sameB x x = true by rw [HV.out, decide_eq_true (rfl : x = x)]; rfl] at HQ
      go_quiet (first | (go_at_call 23; exact Calls.quiet_of_same (HI.out _)) | (go_at_call 24; exact Calls.quiet_of_same (HI2.out _)) | (go_at_call 25; exact Calls.quiet_of_same (HQ.out _)))
      go_wp2_with fail
      go_meet
      case rel => exact ⟨rfl, S6'.out.next (drew_below _ _)⟩
    · have p1 : ((x : Int) == (y : Int)) = false := beq_eq_false_iff_ne.mpr (by omega)
      have p1' : (x == y) = false := beq_eq_false_iff_ne.mpr c1
      by_cases c2 : s = 3
      · have p2 : ((s : Int) == 3) = true := by rw [c2]; rfl
        by_cases c3 : 0 < x
        · have p3 : decide ((0 : Int) < (x : Int)) = true := decide_eq_true (by omega)
          have p3' : decide (0 < x) = true := decide_eq_true c3
          by_cases c4 : 0 < y
          · have p4 : decide ((0 : Int) < (y : Int)) = true := decide_eq_true (by omega)
            have p4' : decide (0 < y) = true := decide_eq_true c4
            by_cases c5 : x < 3
            · have p5 : decide ((x : Int) < 3) = true := decide_eq_true (by omega)
              have p5' : decide (x < 3) = true := decide_eq_true c5
              rw [show sameB x y = true by rw [HV.out, decide_eq_false c1, decide_eq_true c2, p3', p4', p5']; rfl] at HQ
              go_quiet (first | (go_at_call 23; exact Calls.quiet_of_same (HI.out _)) | (go_at_call 24; exact Calls.quiet_of_same (HI2.out _)) | (go_at_call 25; exact Calls.quiet_of_same (HQ.out _)))
              go_wp2_with fail
              go_meet
              case rel => exact ⟨rfl, S6'.out.next (drew_below _ _)⟩
            · have p5 : decide ((x : Int) < 3) = false := decide_eq_false (by omega)
              have p5' : decide (x < 3) = false := decide_eq_false c5
              rw [show sameB x y = false by rw [HV.out, decide_eq_false c1, decide_eq_true c2, p3', p4', p5']; rfl] at HQ
              go_quiet (first | (go_at_call 23; exact Calls.quiet_of_same (HI.out _)) | (go_at_call 24; exact Calls.quiet_of_same (HI2.out _)) | (go_at_call 25; exact Calls.quiet_of_same (HQ.out _)))
              go_wp2_with fail
              go_meet
              case rel => exact ⟨rfl, S6'.out.next (drew_below _ _)⟩
          · have p4 : decide ((0 : Int) < (y : Int)) = false := decide_eq_false (by omega)
            have p4' : decide (0 < y) = false := decide_eq_false c4
            rw [show sameB x y = false by rw [HV.out, decide_eq_false c1, decide_eq_true c2, p3', p4']; rfl] at HQ
            go_quiet (first | (go_at_call 23; exact Calls.quiet_of_same (HI.out _)) | (go_at_call 24; exact Calls.quiet_of_same (HI2.out _)) | (go_at_call 25; exact Calls.quiet_of_same (HQ.out _)))
            go_wp2_with fail
            go_meet
            case rel => exact ⟨rfl, S6'.out.next (drew_below _ _)⟩
        · have p3 : decide ((0 : Int) < (x : Int)) = false := decide_eq_false (by omega)
          have p3' : decide (0 < x) = false := decide_eq_false c3
          rw [show sameB x y = false by rw [HV.out, decide_eq_false c1, decide_eq_true c2, p3']; rfl] at HQ
          go_quiet (first | (go_at_call 23; exact Calls.quiet_of_same (HI.out _)) | (go_at_call 24; exact Calls.quiet_of_same (HI2.out _)) | (go_at_call 25; exact Calls.quiet_of_same (HQ.out _)))
          go_wp2_with fail
          go_meet
          case rel => exact ⟨rfl, S6'.out.next (drew_below _ _)⟩
      · have p2 : ((s : Int) == 3) = false := beq_eq_false_iff_ne.mpr (by omega)
        have p2' : (s == 3) = false := beq_eq_false_iff_ne.mpr c2
        rw [show sameB x y = false by rw [HV.out, decide_eq_false c1, decide_eq_false c2]; rfl] at HQ
        go_quiet (first | (go_at_call 23; exact Calls.quiet_of_same (HI.out _)) | (go_at_call 24; exact Calls.quiet_of_same (HI2.out _)) | (go_at_call 25; exact Calls.quiet_of_same (HQ.out _)))
        go_wp2_with fail
        go_meet
        case rel => exact ⟨rfl, S6'.out.next (drew_below _ _)⟩
  case rest =>
    obtain ⟨rfl, hcut⟩ := hcut
    rename_i wc
    clear S6 l3 sM
    have i0 := hcut.i0; have i1 := hcut.i1; have i2 := hcut.i2; have k0 := hcut.k0; have k1 := hcut.k1
    by_cases hA : (numB n1 && kB x) = true
    · obtain ⟨f1, f2, f3, f4⟩ := HF.out.1 hA
      have z1 : decide ((p.size : Int) < (p.size : Int) + (F.size : Int)) = true := decide_eq_true (by omega)
      have z1' : decide (p.size < p.size + F.size) = true := decide_eq_true (by omega)
      have z1'' : decide (0 < F.size) = true := decide_eq_true (by omega)
      have z1c : decide ((0 : Int) < (F.size : Int)) = true := decide_eq_true (by omega)
      by_cases r1 : -32768 ≤ n0
      · have y1 : decide (-32768 ≤ n0) = true := decide_eq_true r1
        by_cases r2 : n0 ≤ 32767
        · have y2 : decide (n0 ≤ 32767) = true := decide_eq_true r2
          have hn0 : numB n0 = true := by unfold numB; rw [y1, y2]; rfl
          have RF := Lib.hid (fun b w (h : CurT 56 w b (CS.new F)) => field_any h (CS.new_ok (by omega)) n0 hn0)
          rw [f2, f3, f4] at RF
          clear f2 f3 f4 hA HF hn0 r1 r2
          have e1 := back_piece p F
          go_wp2_with fail
          refine (new_cur F _ (by omega)).mono ?_
          rintro e fa ⟨fb, rfl, hf, cf, bf⟩
          have fS := hcut.next bf
          have fl : w.heap.size + 1 < fb := by have := hcut.lt; omega
          clear e1 i0 i1 i2 k0 k1 hcut bf hf
          have i0 := fS.i0; have i1 := fS.i1; have i2 := fS.i2; have k0 := fS.k0; have k1 := fS.k1
          go_wp2_with fail
          with_reducible refine (RF.out _ _ cf).mono ?_
          rintro e fc ⟨rfl, df, of⟩
          have fT := fS.onlyB fl of
          clear i0 i1 i2 k0 k1 fS cf of
          have i0 := fT.i0; have i1 := fT.i1; have i2 := fT.i2; have k0 := fT.k0; have k1 := fT.k1
          go_wp2_with fail
          with_reducible refine (end_of df (by omega)).mono ?_
          rintro e fe ⟨rfl, bf⟩
          have fU := fT.next bf
          clear i0 i1 i2 k0 k1 fT df bf
          have i0 := fU.i0; have i1 := fU.i1; have i2 := fU.i2; have k0 := fU.k0; have k1 := fU.k1
          clear z1 z1' z1'' z1c y1 y2 RF
          by_cases hB : (cntB n2 && kB x) = true
          · obtain ⟨g1, g2, g3, g4⟩ := HL.out.1 hB
            have z1 : decide ((p.size : Int) < (p.size : Int) + (L.size : Int)) = true := decide_eq_true (by omega)
            have z1' : decide (p.size < p.size + L.size) = true := decide_eq_true (by omega)
            have z1'' : decide (0 < L.size) = true := decide_eq_true (by omega)
            have z1c : decide ((0 : Int) < (L.size : Int)) = true := decide_eq_true (by omega)
            have RL := Lib.hid (fun b w (h : CurT 56 w b (CS.new L)) => list_any h (CS.new_ok (by omega)))
            rw [g2, g3, g4] at RL
            clear g2 g3 g4 hB HL
            have e1 := back_piece p L
            go_wp2_with fail
            refine (new_cur L _ (by omega)).mono ?_
            rintro e la ⟨lb, rfl, hl, cl, bl⟩
            have lS := fU.next bl
            have ll : w.heap.size + 1 < lb := by have := fU.lt; omega
            clear e1 i0 i1 i2 k0 k1 fU bl hl
            have i0 := lS.i0; have i1 := lS.i1; have i2 := lS.i2; have k0 := lS.k0; have k1 := lS.k1
            go_wp2_with fail
            with_reducible refine (RL.out _ _ cl).mono ?_
            rintro e lc ⟨rfl, dl, ol⟩
            have lT := lS.onlyB ll ol
            clear i0 i1 i2 k0 k1 lS cl ol
            have i0 := lT.i0; have i1 := lT.i1; have i2 := lT.i2; have k0 := lT.k0; have k1 := lT.k1
            go_wp2_with fail
            with_reducible refine (end_of dl (by omega)).mono ?_
            rintro e le ⟨rfl, bl⟩
            have lU := lT.next bl
            clear i0 i1 i2 k0 k1 lT dl bl
            have i0 := lU.i0; have i1 := lU.i1; have i2 := lU.i2; have k0 := lU.k0; have k1 := lU.k1
            go_wp2_with ((with_reducible refine (works20_any _).mono ?_); rintro e w9 ⟨rfl, b9⟩)
            go_ret
            exact ⟨rfl, grown_then lU.b b9⟩
          · have g1 := HL.out.2 hB
            have z1 : decide ((p.size : Int) < (p.size : Int) + (L.size : Int)) = false := decide_eq_false (by omega)
            have z1' : decide (p.size < p.size + L.size) = false := decide_eq_false (by omega)
            have z1'' : decide (0 < L.size) = false := decide_eq_false (by omega)
            have z1c : decide ((0 : Int) < (L.size : Int)) = false := decide_eq_false (by omega)
            clear hB HL
            go_wp2_with ((with_reducible refine (works20_any _).mono ?_); rintro e w9 ⟨rfl, b9⟩)
            go_ret
            exact ⟨rfl, grown_then fU.b b9⟩
        · have y2 : decide (n0 ≤ 32767) = false := decide_eq_false r2
          clear f2 f3 f4 hA HF r1 r2
          by_cases hB : (cntB n2 && kB x) = true
          · obtain ⟨g1, g2, g3, g4⟩ := HL.out.1 hB
            have u1 : decide ((p.size : Int) < (p.size : Int) + (L.size : Int)) = true := decide_eq_true (by omega)
            have u1' : decide (p.size < p.size + L.size) = true := decide_eq_true (by omega)
            have u1'' : decide (0 < L.size) = true := decide_eq_true (by omega)
            have u1c : decide ((0 : Int) < (L.size : Int)) = true := decide_eq_true (by omega)
            have RL := Lib.hid (fun b w (h : CurT 56 w b (CS.new L)) => list_any h (CS.new_ok (by omega)))
            rw [g2, g3, g4] at RL
            clear g2 g3 g4 hB HL
            have e1 := back_piece p L
            go_wp2_with fail
            refine (new_cur L _ (by omega)).mono ?_
            rintro e la ⟨lb, rfl, hl, cl, bl⟩
            have lS := hcut.next bl
            have ll : w.heap.size + 1 < lb := by have := hcut.lt; omega
            clear e1 i0 i1 i2 k0 k1 hcut bl hl
            have i0 := lS.i0; have i1 := lS.i1; have i2 := lS.i2; have k0 := lS.k0; have k1 := lS.k1
            go_wp2_with fail
            with_reducible refine (RL.out _ _ cl).mono ?_
            rintro e lc ⟨rfl, dl, ol⟩
            have lT := lS.onlyB ll ol
            clear i0 i1 i2 k0 k1 lS cl ol
            have i0 := lT.i0; have i1 := lT.i1; have i2 := lT.i2; have k0 := lT.k0; have k1 := lT.k1
            go_wp2_with fail
            with_reducible refine (end_of dl (by omega)).mono ?_
            rintro e le ⟨rfl, bl⟩
            have lU := lT.next bl
            clear i0 i1 i2 k0 k1 lT dl bl
            have i0 := lU.i0; have i1 := lU.i1; have i2 := lU.i2; have k0 := lU.k0; have k1 := lU.k1
            go_wp2_with ((with_reducible refine (works20_any _).mono ?_); rintro e w9 ⟨rfl, b9⟩)
            go_ret
            exact ⟨rfl, grown_then lU.b b9⟩
          · have g1 := HL.out.2 hB
            have u1 : decide ((p.size : Int) < (p.size : Int) + (L.size : Int)) = false := decide_eq_false (by omega)
            have u1' : decide (p.size < p.size + L.size) = false := decide_eq_false (by omega)
            have u1'' : decide (0 < L.size) = false := decide_eq_false (by omega)
            have u1c : decide ((0 : Int) < (L.size : Int)) = false := decide_eq_false (by omega)
            clear hB HL
            go_wp2_with ((with_reducible refine (works20_any _).mono ?_); rintro e w9 ⟨rfl, b9⟩)
            go_ret
            exact ⟨rfl, grown_then hcut.b b9⟩
      · have y1 : decide (-32768 ≤ n0) = false := decide_eq_false r1
        clear f2 f3 f4 hA HF r1
        by_cases hB : (cntB n2 && kB x) = true
        · obtain ⟨g1, g2, g3, g4⟩ := HL.out.1 hB
          have u1 : decide ((p.size : Int) < (p.size : Int) + (L.size : Int)) = true := decide_eq_true (by omega)
          have u1' : decide (p.size < p.size + L.size) = true := decide_eq_true (by omega)
          have u1'' : decide (0 < L.size) = true := decide_eq_true (by omega)
          have u1c : decide ((0 : Int) < (L.size : Int)) = true := decide_eq_true (by omega)
          have RL := Lib.hid (fun b w (h : CurT 56 w b (CS.new L)) => list_any h (CS.new_ok (by omega)))
          rw [g2, g3, g4] at RL
          clear g2 g3 g4 hB HL
          have e1 := back_piece p L
          go_wp2_with fail
          refine (new_cur L _ (by omega)).mono ?_
          rintro e la ⟨lb, rfl, hl, cl, bl⟩
          have lS := hcut.next bl
          have ll : w.heap.size + 1 < lb := by have := hcut.lt; omega
          clear e1 i0 i1 i2 k0 k1 hcut bl hl
          have i0 := lS.i0; have i1 := lS.i1; have i2 := lS.i2; have k0 := lS.k0; have k1 := lS.k1
          go_wp2_with fail
          with_reducible refine (RL.out _ _ cl).mono ?_
          rintro e lc ⟨rfl, dl, ol⟩
          have lT := lS.onlyB ll ol
          clear i0 i1 i2 k0 k1 lS cl ol
          have i0 := lT.i0; have i1 := lT.i1; have i2 := lT.i2; have k0 := lT.k0; have k1 := lT.k1
          go_wp2_with fail
          with_reducible refine (end_of dl (by omega)).mono ?_
          rintro e le ⟨rfl, bl⟩
          have lU := lT.next bl
          clear i0 i1 i2 k0 k1 lT dl bl
          have i0 := lU.i0; have i1 := lU.i1; have i2 := lU.i2; have k0 := lU.k0; have k1 := lU.k1
          go_wp2_with ((with_reducible refine (works20_any _).mono ?_); rintro e w9 ⟨rfl, b9⟩)
          go_ret
          exact ⟨rfl, grown_then lU.b b9⟩
        · have g1 := HL.out.2 hB
          have u1 : decide ((p.size : Int) < (p.size : Int) + (L.size : Int)) = false := decide_eq_false (by omega)
          have u1' : decide (p.size < p.size + L.size) = false := decide_eq_false (by omega)
          have u1'' : decide (0 < L.size) = false := decide_eq_false (by omega)
          have u1c : decide ((0 : Int) < (L.size : Int)) = false := decide_eq_false (by omega)
          clear hB HL
          go_wp2_with ((with_reducible refine (works20_any _).mono ?_); rintro e w9 ⟨rfl, b9⟩)
          go_ret
          exact ⟨rfl, grown_then hcut.b b9⟩
    · have f1 := HF.out.2 hA
      have z1 : decide ((p.size : Int) < (p.size : Int) + (F.size : Int)) = false := decide_eq_false (by omega)
      have z1' : decide (p.size < p.size + F.size) = false := decide_eq_false (by omega)
      have z1'' : decide (0 < F.size) = false := decide_eq_false (by omega)
      have z1c : decide ((0 : Int) < (F.size : Int)) = false := decide_eq_false (by omega)
      clear hA HF
      by_cases hB : (cntB n2 && kB x) = true
      · obtain ⟨g1, g2, g3, g4⟩ := HL.out.1 hB
        have u1 : decide ((p.size : Int) < (p.size : Int) + (L.size : Int)) = true := decide_eq_true (by omega)
        have u1' : decide (p.size < p.size + L.size) = true := decide_eq_true (by omega)
        have u1'' : decide (0 < L.size) = true := decide_eq_true (by omega)
        have u1c : decide ((0 : Int) < (L.size : Int)) = true := decide_eq_true (by omega)
        have RL := Lib.hid (fun b w (h : CurT 56 w b (CS.new L)) => list_any h (CS.new_ok (by omega)))
        rw [g2, g3, g4] at RL
        clear g2 g3 g4 hB HL
        have e1 := back_piece p L
        go_wp2_with fail
        refine (new_cur L _ (by omega)).mono ?_
        rintro e la ⟨lb, rfl, hl, cl, bl⟩
        have lS := hcut.next bl
        have ll : w.heap.size + 1 < lb := by have := hcut.lt; omega
        clear e1 i0 i1 i2 k0 k1 hcut bl hl
        have i0 := lS.i0; have i1 := lS.i1; have i2 := lS.i2; have k0 := lS.k0; have k1 := lS.k1
        go_wp2_with fail
        with_reducible refine (RL.out _ _ cl).mono ?_
        rintro e lc ⟨rfl, dl, ol⟩
        have lT := lS.onlyB ll ol
        clear i0 i1 i2 k0 k1 lS cl ol
        have i0 := lT.i0; have i1 := lT.i1; have i2 := lT.i2; have k0 := lT.k0; have k1 := lT.k1
        go_wp2_with fail
        with_reducible refine (end_of dl (by omega)).mono ?_
        rintro e le ⟨rfl, bl⟩
        have lU := lT.next bl
        clear i0 i1 i2 k0 k1 lT dl bl
        have i0 := lU.i0; have i1 := lU.i1; have i2 := lU.i2; have k0 := lU.k0; have k1 := lU.k1
        go_wp2_with ((with_reducible refine (works20_any _).mono ?_); rintro e w9 ⟨rfl, b9⟩)
        go_ret
        exact ⟨rfl, grown_then lU.b b9⟩
      · have g1 := HL.out.2 hB
        have u1 : decide ((p.size : Int) < (p.size : Int) + (L.size : Int)) = false := decide_eq_false (by omega)
        have u1' : decide (p.size < p.size + L.size) = false := decide_eq_false (by omega)
        have u1'' : decide (0 < L.size) = false := decide_eq_false (by omega)
        have u1c : decide ((0 : Int) < (L.size : Int)) = false := decide_eq_false (by omega)
        clear hB HL
        go_wp2_with ((with_reducible refine (works20_any _).mono ?_); rintro e w9 ⟨rfl, b9⟩)
        go_ret
        exact ⟨rfl, grown_then hcut.b b9⟩
theorem chb_any (p : ByteArray) (n0 n1 n2 : Int) (x y : Nat) (w : World) (hp : p.size ≤ 140737488351232) (h0 : -9223372036854775808 ≤ n0 ∧ n0 ≤ 9223372036854775807) (h1 : -9223372036854775808 ≤ n1 ∧ n1 ≤ 9223372036854775807) (h2 : -9223372036854775808 ≤ n2 ∧ n2 ≤ 9223372036854775807) (hx : x < 256) (hy : y < 256) :
    Calls Try.prog 5 #[.string p, .agg #[.int .i64 n0, .int .i64 n1, .int .i64 n2], .agg #[.int .u8 (x : Nat), .int .u8 (y : Nat)]] w fun e w' => e = .returned (.bool true) ∧ Below w.heap.size w w' :=
  chb_nat p n0 n1 n2 x y w hp hx hy h0
end Go.Proofs.Ytgolaillalkglaa
