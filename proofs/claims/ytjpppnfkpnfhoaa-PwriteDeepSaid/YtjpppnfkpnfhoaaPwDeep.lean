/- Law 19: PwriteDeep. -/
import Derived.Test.YtjpppnfkpnfhoaaPwWork
import Derived.Test.YtjpppnfkpnfhoaaPrTx
namespace Go.Proofs.Ytjpppnfkpnfhoaa
open Go Go.RowKit
set_option linter.unusedVariables false

/-- The document's Added of SureText. -/
theorem radd2 (n v : Int) (q : Nat) (s : ByteArray) (w : World) (hs : s.size ≤ 1099511627776) :
    Calls Try.prog 8 #[.agg #[.int .u8 2, .int .i64 n, .int .i64 v, .int .u64 (q : Nat), .string s]] w fun e w' => e = .returned (.string (bA (fB n 2 0 s))) ∧ Below w.heap.size w w' := by
  have HF := Lib.hid (fun w => rftext_any n 2 0 s w (by decide) (by omega))
  have B0 := Lib.hid (show Below w.heap.size w (w.alloc (.cells #[.int .u8 2, .int .i64 n, .int .i64 v, .int .u64 (q : Nat), .string s] 28)) from (Below.refl _ w).alloc (Nat.le_refl _) _)
  generalize fB n 2 0 s = L at *
  clear hs
  go_enter Try.func8, Try.ntmps8
  go_wp2_with fail
  refine (HF.out _).mono ?_
  rintro e w1 ⟨rfl, b1⟩
  have B1 := Lib.hid (grown_then B0.out b1)
  clear b1
  go_wp2
  go_ret
  exact ⟨rfl, B1.out⟩
theorem oF_le (s : ByteArray) (hs : s.size ≤ 300) : (pB (oF s)).length ≤ 320 ∧ (oF s).length ≤ 1 := by
  have h1 := fTag_le 1 2 0 s (by decide) (by omega)
  have h2 := fTag_len (1, 2, 0, s)
  unfold oF
  split
  · simp [pB_nil]
  · exact ⟨by omega, h2⟩
def tLate : ByteArray := ⟨#[108, 97, 116, 101]⟩
theorem late_len : (pB (fTag (3, 2, 0, tLate))).length ≤ 100 := by decide +kernel
theorem pB_two2 (l : List UInt8) (hl : l.length ≤ 1099511627776) : fTag (2, 2, 0, bA l) = [(2, 2, 0, bA l)] ∧ (pBs (2, 2, 0, bA l)).length ≤ l.length + 20 := by
  have h1 : fTag (2, 2, 0, bA l) = [(2, 2, 0, bA l)] := if_pos (by show tagB 2 2 = true; decide)
  have h2 := fTag_le 2 2 0 (bA l) (by decide) (by rw [size_bA]; exact hl)
  rw [h1, pB_one, size_bA] at h2
  exact ⟨h1, h2⟩
def PdRel (w : World) (N : Nat) (m want i : Value) (wr : World) : Prop := ∃ (j : Nat) (b : Nat) (v : Value) (X : List FD), j ≤ N ∧ m = .pointer (some ⟨b, 0, none⟩) ∧ want = .string (bA (pB X)) ∧ i = .int .i64 (j : Nat) ∧ MsgR False wr w.heap.size b v X ∧ Below w.heap.size w wr ∧ (pB X).length ≤ 320 + 30 * j ∧ X.length ≤ 1
theorem pdeep_any (s : ByteArray) (n : Nat) (w : World) (hn : n < 256) :
    Calls Try.prog 4 #[.string s, .int .u8 (n : Nat)] w fun e w' => e = .returned (.bool true) ∧ Below w.heap.size w w' := by
  have HW := Lib.hid (fun w => works19_any w)
  by_cases hs : 300 < s.size
  · have p1 : decide ((300 : Int) < (s.size : Int)) = true := decide_eq_true (by omega)
    have p2 : decide (300 < s.size) = true := decide_eq_true hs
    go_enter Try.func4, Try.ntmps4
    go_wp2_with fail
    refine (HW.out _).mono ?_
    rintro e w1 ⟨rfl, b1⟩
    go_wp2
    go_ret
    exact ⟨rfl, b1⟩
  · have p1 : decide ((300 : Int) < (s.size : Int)) = false := decide_eq_false (by omega)
    have p2 : decide (300 < s.size) = false := decide_eq_false hs
    have HO := Lib.hid (pof_any False s w (by omega))
    have HX := Lib.hid (oF_le s (by omega))
    have HN := Lib.hid (fun w => pnewT False w)
    generalize oF s = X0 at *
    go_enter Try.func4, Try.ntmps4
    go_wp2_with fail
    refine HO.out.mono ?_
    rintro e w1 ⟨rfl, v1, m1, b1⟩
    have M1 := Lib.hid m1
    have B1 := Lib.hid b1
    clear m1 b1
    have HB := Lib.hid (pbytes_any M1.out (tb_false _ _) (by have := HX.out.1; omega))
    go_wp2_with fail
    refine HB.out.mono ?_
    rintro e w2 ⟨rfl, b2⟩
    have M2 := Lib.hid (M1.out.below b2)
    have B2 := Lib.hid (B1.out.trans (b2.mono B1.out.size))
    clear b2 HB M1 B1
    go_wp2_with fail
    go_loopw [5, 6, 7] (fun m want i wr => PdRel w (n % 40) m want i wr) (fun _ _ i _ => n % 40 - (intOf i).toNat)
    case atStart => exact ⟨0, w.heap.size, v1, X0, by omega, rfl, rfl, rfl, M2.out, B2.out, by have := HX.out.1; omega, HX.out.2⟩
    case round =>
      obtain ⟨j, b, v, X, hj, rfl, rfl, rfl, hm, hb, hl, hX⟩ := hrel
      clear M2 B2 HO
      have M := Lib.hid hm
      have B := Lib.hid hb
      have HL := Lib.hid (And.intro hl hX)
      have z0 := hb.size
      clear hm hb hl hX
      have HN40 := Lib.hid (show j ≤ 40 by omega)
      by_cases hlt : j < n % 40
      · have p3 : decide ((j : Int) < (n : Int) % 40) = true := decide_eq_true (by omega)
        go_wp2_with fail
        refine (HN.out _).mono ?_
        rintro e w3 ⟨rfl, m3, b3⟩
        have S3 := Lib.hid (two_of M.out m3 b3)
        have B3 := Lib.hid (B.out.trans (b3.mono (by omega)))
        have z3 := b3.size
        clear m3 b3 B M
        generalize wr.heap.size = c at *
        have hT2 := Lib.hid (pB_two2 (pB X) (by have := HL.out.1; have := HN40.out; omega))
        go_wp2_with fail
        refine (pssub_any S3.out.m S3.out.x 2 (by have := HL.out.1; have := HN40.out; omega) ⟨by omega, by rw [List.nil_append, hT2.out.1, pB_one]; have := hT2.out.2; have := HL.out.1; have := HN40.out; omega, by simp⟩).mono ?_
        intro e w4 hq
        obtain ⟨rfl, u4, s4, b4⟩ := S3.out.ad hq (N := w.heap.size) (by omega) (by omega)
        rw [List.nil_append, hT2.out.1] at s4
        have S4 := Lib.hid s4
        have B4 := Lib.hid (B3.out.trans b4)
        have z4 := b4.size
        clear hq s4 b4 S3 B3
        go_wp2_with fail
        refine (ptext_any S4.out.x 3 tLate (by decide) ⟨by omega, by rw [pB_len]; have := late_len; have := HL.out.1; have := HN40.out; omega, by have := HL.out.2; omega⟩).mono ?_
        intro e w5 hq
        obtain ⟨rfl, u5, s5, b5⟩ := S4.out.swap.ad hq (N := w.heap.size) (by omega) (by omega)
        have M5 := Lib.hid s5.x
        have B5 := Lib.hid (B4.out.trans b5)
        have z5 := b5.size
        clear hq s5 b5 S4 B4
        have HA := Lib.hid (fun w => radd2 2 0 0 (bA (pB X)) w (by rw [size_bA]; have := HL.out.1; have := HN40.out; omega))
        go_wp2_with fail
        refine (HA.out _).mono ?_
        rintro e w6 ⟨rfl, b6⟩
        have M6 := Lib.hid (M5.out.below b6)
        have B6 := Lib.hid (B5.out.trans (b6.mono (by omega)))
        have z6 := b6.size
        clear b6 M5 B5 HA
        have hE := Lib.hid (show fB 2 2 0 (bA (pB X)) = pB [(2, 2, 0, bA (pB X))] by rw [pB_one]; rfl)
        rw [hE.out]
        have HB := Lib.hid (pbytes_any M6.out (tb_false _ _) (by rw [pB_one]; have := hT2.out.2; have := HL.out.1; have := HN40.out; omega))
        have hL7 := Lib.hid (show (pB [(2, 2, 0, bA (pB X))]).length ≤ 320 + 30 * (j + 1) by rw [pB_one]; have := hT2.out.2; have := HL.out.1; omega)
        have HS := Lib.hid (fun W (hW : Below w6.heap.size w6 W) => psize_any (M6.out.below hW))
        have HM6 := Lib.hid (fun W (hW : Below w6.heap.size w6 W) => M6.out.below hW)
        have hz : ((bA (pB [((2 : Int), (2 : Int), (0 : Nat), bA (pB X))])).size : Int) = ((pB [((2 : Int), (2 : Int), (0 : Nat), bA (pB X))]).length : Nat) := by rw [size_bA]
        generalize hF : ((2 : Int), (2 : Int), (0 : Nat), bA (pB X)) = F at *
        clear hF hT2 hE M6
        have q2 : ((bA (pB [F])).toList == (bA (pB [F])).toList) = true := by simp
        go_wp2_with fail
        refine HB.out.mono ?_
        rintro e w7 ⟨rfl, b7⟩
        have HS7 := Lib.hid (HS.out w7 b7)
        have M7 := Lib.hid (HM6.out w7 b7)
        have B7 := Lib.hid (B6.out.trans (b7.mono (by omega)))
        clear b7 HB HS HM6 B6
        go_wp2_with fail
        refine HS7.out.mono ?_
        rintro e w8 ⟨rfl, rfl⟩
        go_wp2
        go_roundw
        case rel => exact ⟨j + 1, c, u4, [F], by omega, rfl, rfl, by go_num, M7.out.rebase (by omega), B7.out, hL7.out, by simp⟩
        case measure => simp [intOf]; omega
      · have p3 : decide ((j : Int) < (n : Int) % 40) = false := decide_eq_false (by omega)
        have HB := Lib.hid (pbytes_any M.out (tb_false _ _) (by have := HL.out.1; have := HN40.out; omega))
        generalize pB X = L at *
        have q2 : ((bA L).toList == (bA L).toList) = true := by simp
        go_wp2_with fail
        refine HB.out.mono ?_
        rintro e w3 ⟨rfl, b3⟩
        have B3 := Lib.hid (B.out.trans (b3.mono (by omega)))
        have z3 := b3.size
        clear b3 HB
        go_wp2_with fail
        refine (HW.out _).mono ?_
        rintro e w4 ⟨rfl, b4⟩
        have B4 := Lib.hid (B3.out.trans (b4.mono (by omega)))
        clear b4
        go_wp2
        go_ret
        exact ⟨rfl, B4.out⟩
theorem pdeep_int (s : ByteArray) (n : Int) (w : World) (hs : s.size ≤ 140737488351232) (h0 : 0 ≤ n) (h1 : n ≤ 255) :
    Calls Try.prog 4 #[.string s, .int .u8 n] w fun e w' => e = .returned (.bool true) ∧ Below w.heap.size w w' := by
  obtain ⟨m, rfl⟩ : ∃ m : Nat, n = (m : Int) := ⟨n.toNat, by omega⟩
  exact pdeep_any s m w (by omega)
end Go.Proofs.Ytjpppnfkpnfhoaa
