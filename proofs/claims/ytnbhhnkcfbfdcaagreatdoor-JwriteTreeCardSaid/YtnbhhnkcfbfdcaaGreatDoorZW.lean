/- Several texts in one (URefA, URefB): each begins with its own words. -/
import Derived.Test.YtnbhhnkcfbfdcaaGreatDoorZF
/- The document's own utf (package truchmanref05): Bytes, guess, Rune. -/
namespace Go.Proofs.YtnbhhnkcfbfdcaaGreatDoor
open Go Go.RowKit
set_option linter.unusedVariables false

/-- 'string([]byte{..})', just laid. -/
theorem text_new (P : Program) (t e d : TypeId) (w : World) (l : List UInt8) (n : Nat) (cs : Array Value) (hn : l.length = n) (hcs : cs = (bV l).toArray) (ht : P.underlying t = some (.slice e)) (he : P.underlying e = some (.int .u8)) (hd : P.underlying d = some .string) :
    (convert t d (.slice (some ⟨w.heap.size, 0, none⟩) n n)).run P (w.alloc (.cells cs e)) = .ok (.string (bA l)) (w.alloc (.cells cs e)) := by
  subst hn hcs
  refine run_convert_bytes_back _ t d e ⟨w.heap.size, 0, none⟩ l.length l ht he hd fun j hj => ?_
  have h1 := heap_alloc_new w (.cells (bV l).toArray e)
  have e1 : (Addr.mk w.heap.size 0 none).add j = ⟨w.heap.size, j, none⟩ := by unfold Addr.add; split <;> simp_all
  rw [e1]
  simp only [World.cell?]
  rw [h1]
  show (bV l).toArray[j]? = _
  rw [List.getElem?_toArray, bV_get l j hj]
theorem bV1 (a : UInt8) : (bV [a]).toArray = #[.int .u8 (a.toNat : Int)] := rfl
theorem bV2 (a b : UInt8) : (bV [a, b]).toArray = #[.int .u8 (a.toNat : Int), .int .u8 (b.toNat : Int)] := rfl
theorem bV3 (a b c : UInt8) : (bV [a, b, c]).toArray = #[.int .u8 (a.toNat : Int), .int .u8 (b.toNat : Int), .int .u8 (c.toNat : Int)] := rfl
theorem bV4 (a b c d : UInt8) : (bV [a, b, c, d]).toArray = #[.int .u8 (a.toNat : Int), .int .u8 (b.toNat : Int), .int .u8 (c.toNat : Int), .int .u8 (d.toNat : Int)] := rfl
set_option maxRecDepth 20000 in
theorem rbytes_any (r : Nat) (w : World) (hr : r ≤ 1114111) :
    Calls Tryz.prog 110 #[.int .i32 (r : Nat)] w fun e w' => e = .returned (.string (bA (uB r))) ∧ Below w.heap.size w w' := by
  have e1 : r / 64 / 64 = r / 4096 := Nat.div_div_eq_div_mul r 64 64
  by_cases h1 : r < 128
  · have p1 : decide ((r : Int) < 128) = true := decide_eq_true (by omega)
    have hu : uB r = [b8 r] := by unfold uB; rw [if_pos h1]
    have hone := Lib.hid (text_new Tryz.prog 43 5 9 w [b8 r] 1 #[.int .u8 (r : Int)] rfl (by rw [bV1, b8_toNat (by omega)]) Tryz.underlying43 Tryz.underlying5 Tryz.underlying9)
    rw [← hu] at hone
    clear hu e1
    go_enter Tryz.func110, Tryz.ntmps110
    go_wp2_with fail
    rw [hone.out]
    go_wp2
    go_ret
    exact ⟨rfl, (Below.refl _ _).alloc (Nat.le_refl _) _⟩
  · have p1 : decide ((r : Int) < 128) = false := decide_eq_false (by omega)
    by_cases h2 : r < 2048
    · have p2 : decide ((r : Int) < 2048) = true := decide_eq_true (by omega)
      have hu : uB r = [b8 (192 + r / 64), b8 (128 + r % 64)] := by unfold uB; rw [if_neg h1, if_pos h2]
      have hone := Lib.hid (text_new Tryz.prog 43 5 9 w [b8 (192 + r / 64), b8 (128 + r % 64)] 2 #[.int .u8 (192 + (r : Int) / 64), .int .u8 (128 + (r : Int) % 64)] rfl (by rw [bV2, b8_toNat (by omega), b8_toNat (by omega)]; simp) Tryz.underlying43 Tryz.underlying5 Tryz.underlying9)
      rw [← hu] at hone
      clear hu e1
      go_enter Tryz.func110, Tryz.ntmps110
      go_wp2_with fail
      rw [hone.out]
      go_wp2
      go_ret
      exact ⟨rfl, (Below.refl _ _).alloc (Nat.le_refl _) _⟩
    · have p2 : decide ((r : Int) < 2048) = false := decide_eq_false (by omega)
      by_cases h3 : r < 65536
      · have p3 : decide ((r : Int) < 65536) = true := decide_eq_true (by omega)
        have hu : uB r = [b8 (224 + r / 4096), b8 (128 + r / 64 % 64), b8 (128 + r % 64)] := by unfold uB; rw [if_neg h1, if_neg h2, if_pos h3]
        have hone := Lib.hid (text_new Tryz.prog 43 5 9 w [b8 (224 + r / 4096), b8 (128 + r / 64 % 64), b8 (128 + r % 64)] 3 #[.int .u8 (224 + (r : Int) / 4096), .int .u8 (128 + (r : Int) / 64 % 64), .int .u8 (128 + (r : Int) % 64)] rfl (by rw [bV3, b8_toNat (by omega), b8_toNat (by omega), b8_toNat (by omega)]; simp) Tryz.underlying43 Tryz.underlying5 Tryz.underlying9)
        rw [← hu] at hone
        clear hu e1
        go_enter Tryz.func110, Tryz.ntmps110
        go_wp2_with fail
        rw [hone.out]
        go_wp2
        go_ret
        exact ⟨rfl, (Below.refl _ _).alloc (Nat.le_refl _) _⟩
      · have p3 : decide ((r : Int) < 65536) = false := decide_eq_false (by omega)
        have hu : uB r = [b8 (240 + r / 262144), b8 (128 + r / 4096 % 64), b8 (128 + r / 64 % 64), b8 (128 + r % 64)] := by unfold uB; rw [if_neg h1, if_neg h2, if_neg h3]
        have hone := Lib.hid (text_new Tryz.prog 43 5 9 w [b8 (240 + r / 262144), b8 (128 + r / 4096 % 64), b8 (128 + r / 64 % 64), b8 (128 + r % 64)] 4 #[.int .u8 (240 + (r : Int) / 262144), .int .u8 (128 + (r : Int) / 4096 % 64), .int .u8 (128 + (r : Int) / 64 % 64), .int .u8 (128 + (r : Int) % 64)] rfl (by rw [bV4, b8_toNat (by omega), b8_toNat (by omega), b8_toNat (by omega), b8_toNat (by omega)]; simp) Tryz.underlying43 Tryz.underlying5 Tryz.underlying9)
        rw [← hu] at hone
        clear hu e1
        go_enter Tryz.func110, Tryz.ntmps110
        go_wp2_with fail
        rw [hone.out]
        go_wp2
        go_ret
        exact ⟨rfl, (Below.refl _ _).alloc (Nat.le_refl _) _⟩

theorem gFold_snoc (n : Int) (t : List UInt8) (b : UInt8) : gFold n (t ++ [b]) = 64 * gFold n t + (b.toNat : Int) - 128 := by
  unfold gFold; rw [List.foldl_append]; rfl
def RGuessRel (t : List UInt8) (k : Nat) (N0 : Int) (W : World) (z n i : Value) (wr : World) : Prop :=
  ∃ (j : Nat) (N : Int), z = .int .i64 0 ∧ j ≤ k ∧ j ≤ t.length ∧ i = .int .i64 ((1 + j : Nat) : Int) ∧ n = .int .i64 N ∧ Hid (N = gFold N0 (t.take j)) ∧ Hid (-256 * (64 : Int) ^ j + 3 ≤ N ∧ N ≤ 256 * (64 : Int) ^ j - 3) ∧ wr = W
theorem pow_three {j : Nat} (h : j ≤ 3) : (64 : Int) ^ j ≤ 262144 ∧ 0 < (64 : Int) ^ j := by
  match j, h with
  | 0, _ => decide
  | 1, _ => decide
  | 2, _ => decide
  | 3, _ => decide
theorem guess_bound {j : Nat} {N D : Int} (hj : j < 3) (h1 : -256 * (64 : Int) ^ j + 3 ≤ N ∧ N ≤ 256 * (64 : Int) ^ j - 3) (hD0 : 0 ≤ D) (hD : D < 256) :
    (-67108864 ≤ N ∧ N ≤ 67108864) ∧ (-256 * (64 : Int) ^ (j + 1) + 3 ≤ 64 * N + D - 128 ∧ 64 * N + D - 128 ≤ 256 * (64 : Int) ^ (j + 1) - 3) := by
  have hp := pow_three (j := j) (by omega)
  have hpow : (64 : Int) ^ (j + 1) = 64 * 64 ^ j := by rw [Int.pow_succ]; omega
  rw [hpow]
  generalize (64 : Int) ^ j = X at *
  omega
theorem guess_wraps {N D : Int} (h1 : -67108864 ≤ N) (h2 : N ≤ 67108864) (h3 : 0 ≤ D) (h4 : D < 256) : IntKind.i64.wrap (64 * N) = 64 * N ∧ IntKind.i64.wrap D = D ∧ IntKind.i64.wrap (64 * N + D) = 64 * N + D ∧ IntKind.i64.wrap (64 * N + D - 128) = 64 * N + D - 128 :=
  ⟨i64_small (by omega) (by omega), i64_small (by omega) (by omega), i64_small (by omega) (by omega), i64_small (by omega) (by omega)⟩

set_option maxRecDepth 20000 in
set_option maxHeartbeats 1000000 in
theorem rguess_3 (s : ByteArray) (w : World) (hs : s.size ≤ 1125899906842624) (h0 : 0 < s.size) (c : Nat) (hc : c = s[0].toNat) (hlo : 240 ≤ c) (hhi : c < 256) :
    Calls Tryz.prog 111 #[.string s] w fun e w' => e = .returned (.int .i64 (uGs s.data.toList)) ∧ w' = w := by
  have hci : (s[0].toNat : Int) = (c : Int) := by omega
  have hl : s.data.toList = s[0] :: s.data.toList.drop 1 := by
    have := drop_at s 0 h0
    rwa [List.drop_zero] at this
  have iz : (0 : Int) < (s.size : Int) := by omega
  have zc : IntKind.i64.wrap (c : Int) = (c : Int) := IntWalk.i64_in _ (by omega)
  have zc2 : wrap64 (c : Int) = (c : Int) := wrap64_in (by omega) (by omega)
  have p1 : decide ((c : Int) < 128) = false := decide_eq_false (by omega)
  have p2 : decide ((240 : Int) ≤ (c : Int)) = true := decide_eq_true (by omega)
  have HG := Lib.hid (show ∀ hl : ¬ (s.data.toList.drop 1).length < 3, uGs s.data.toList = gFold ((c : Int) - 240) ((s.data.toList.drop 1).take 3) from fun hlen => by
    have e := gsN s[0] (s.data.toList.drop 1) 3 240 (by omega) (by unfold gK; rw [if_pos (by omega)]) (by unfold gH; rw [if_pos (by omega)]) hlen
    rw [← hl, ← hc] at e; exact e)
  have HG2 := Lib.hid (show (s.data.toList.drop 1).length < 3 → uGs s.data.toList = -1 from fun hlen => by
    have e : uGs (s[0] :: s.data.toList.drop 1) = -1 := by
      simp only [uGs]
      rw [if_neg (by omega), show gK s[0].toNat = 3 by unfold gK; rw [if_pos (by omega)], if_pos hlen]
    rw [← hl] at e; exact e)
  have htl : (s.data.toList.drop 1).length = s.size - 1 := by rw [List.length_drop, toList_size]
  have hgt := Lib.hid (fun (j : Nat) (hj : j < (s.data.toList.drop 1).length) (hj2 : 1 + j < s.size) => (show (s.data.toList.drop 1)[j] = s[1 + j] by
    rw [List.getElem_drop]
    exact byte_at s (1 + j) hj2 (by rw [toList_size]; exact hj2)))
  generalize s.data.toList.drop 1 = t at *
  have zn : IntKind.i64.wrap ((c : Int) - 240) = (c : Int) - 240 := IntWalk.i64_in _ (by omega)
  have hN1 := Lib.hid (show -256 + 3 ≤ (c : Int) - 240 ∧ (c : Int) - 240 ≤ 256 - 3 by omega)
  clear hl hc hlo hhi
  go_enter Tryz.func111, Tryz.ntmps111
  go_wp2_with fail
  go_loopw [2, 4, 6] (fun z n i wr => RGuessRel t 3 ((c : Int) - 240) w z n i wr) (fun _ _ i _ => s.size + 1 - (intOf i).toNat)
  case atStart => exact ⟨0, (c : Int) - 240, rfl, Nat.zero_le _, Nat.zero_le _, rfl, rfl, Lib.hid (by simp [gFold]), Lib.hid (by simpa using hN1.out), rfl⟩
  case round =>
    obtain ⟨j, N, rfl, hj, hjl, rfl, rfl, hinv, hbd, hww⟩ := hrel
    rw [hww]
    clear hww hN1
    obtain ⟨I, hI⟩ : ∃ I, I = 1 + j := ⟨_, rfl⟩
    rw [← hI]
    by_cases hk : j < 3
    · have q1 : decide ((I : Int) ≤ 3) = true := decide_eq_true (by omega)
      by_cases hi : s.size ≤ I
      · have q2 : decide (s.size ≤ I) = true := decide_eq_true hi
        have HR := Lib.hid (HG2.out (by omega))
        clear hinv hbd hgt htl hI hj hjl
        go_wp2
        go_ret
        exact ⟨by rw [HR.out]; rfl, rfl⟩
      · have q2 : decide (s.size ≤ I) = false := decide_eq_false hi
        have jk0 : (0 : Int) ≤ (I : Int) := by omega
        have jk1 : (I : Int) < (s.size : Int) := by omega
        have hIs : I < s.size := by omega
        have hjt : j < t.length := by omega
        have hD := s[I].toNat_lt
        obtain ⟨D, hDe⟩ : ∃ D, D = s[I].toNat := ⟨_, rfl⟩
        have hDi : (s[I].toNat : Int) = (D : Int) := by omega
        rw [← hDe] at hD
        have hbd2 := guess_bound (D := (D : Int)) (by omega) hbd.out (by omega) (by omega)
        have hinv2 := Lib.hid (show 64 * N + (D : Int) - 128 = gFold ((c : Int) - 240) (t.take (j + 1)) by
          have e := hgt.out j hjt (by omega)
          have e2 : s[1 + j] = s[I] := by congr 1; exact hI.symm
          rw [List.take_succ_eq_append_getElem hjt, gFold_snoc, ← hinv.out, e, e2, ← hDe])
        have HB := Lib.hid hbd2.2
        have bN := hbd2.1
        have hD0 : (0 : Int) ≤ (D : Int) := by omega
        have hD1 : (D : Int) < 256 := by omega
        have y4 : IntKind.i64.wrap ((I : Int) + 1) = (I : Int) + 1 := i64_small (by omega) (by omega)
        have HI := Lib.hid hI
        have hmore := Lib.hid (show I < s.size ∧ j + 1 ≤ t.length by omega)
        obtain ⟨y0, y1, y2, y3⟩ := guess_wraps bN.1 bN.2 hD0 hD1
        have y1' : wrap64 (D : Int) = (D : Int) := wrap64_in hD0 hD1
        clear hinv hbd hgt htl hI hDe hbd2 hjl hjt hi hD
        go_wp2
        go_roundw
        case rel => exact ⟨j + 1, _, rfl, by omega, hmore.out.2, by have := HI.out; simp; omega, rfl, hinv2, HB, rfl⟩
        case measure => have := hmore.out.1; simp [intOf]; omega
    · have hjk : j = 3 := by omega
      subst hjk
      have q1 : decide ((I : Int) ≤ 3) = false := decide_eq_false (by omega)
      have HR := Lib.hid ((HG.out (by omega)).trans hinv.out.symm)
      clear hinv hbd hgt htl hI hjl
      go_wp2
      go_ret
      exact ⟨by rw [HR.out]; rfl, rfl⟩

set_option maxRecDepth 20000 in
set_option maxHeartbeats 1000000 in
theorem rguess_2 (s : ByteArray) (w : World) (hs : s.size ≤ 1125899906842624) (h0 : 0 < s.size) (c : Nat) (hc : c = s[0].toNat) (hlo : 224 ≤ c) (hhi : c < 240) :
    Calls Tryz.prog 111 #[.string s] w fun e w' => e = .returned (.int .i64 (uGs s.data.toList)) ∧ w' = w := by
  have hci : (s[0].toNat : Int) = (c : Int) := by omega
  have hl : s.data.toList = s[0] :: s.data.toList.drop 1 := by
    have := drop_at s 0 h0
    rwa [List.drop_zero] at this
  have iz : (0 : Int) < (s.size : Int) := by omega
  have zc : IntKind.i64.wrap (c : Int) = (c : Int) := IntWalk.i64_in _ (by omega)
  have zc2 : wrap64 (c : Int) = (c : Int) := wrap64_in (by omega) (by omega)
  have p1 : decide ((c : Int) < 128) = false := decide_eq_false (by omega)
  have p2 : decide ((240 : Int) ≤ (c : Int)) = false := decide_eq_false (by omega)
  have p3 : decide ((224 : Int) ≤ (c : Int)) = true := decide_eq_true (by omega)
  have HG := Lib.hid (show ∀ hl : ¬ (s.data.toList.drop 1).length < 2, uGs s.data.toList = gFold ((c : Int) - 224) ((s.data.toList.drop 1).take 2) from fun hlen => by
    have e := gsN s[0] (s.data.toList.drop 1) 2 224 (by omega) (by unfold gK; rw [if_neg (by omega), if_pos (by omega)]) (by unfold gH; rw [if_neg (by omega), if_pos (by omega)]) hlen
    rw [← hl, ← hc] at e; exact e)
  have HG2 := Lib.hid (show (s.data.toList.drop 1).length < 2 → uGs s.data.toList = -1 from fun hlen => by
    have e : uGs (s[0] :: s.data.toList.drop 1) = -1 := by
      simp only [uGs]
      rw [if_neg (by omega), show gK s[0].toNat = 2 by unfold gK; rw [if_neg (by omega), if_pos (by omega)], if_pos hlen]
    rw [← hl] at e; exact e)
  have htl : (s.data.toList.drop 1).length = s.size - 1 := by rw [List.length_drop, toList_size]
  have hgt := Lib.hid (fun (j : Nat) (hj : j < (s.data.toList.drop 1).length) (hj2 : 1 + j < s.size) => (show (s.data.toList.drop 1)[j] = s[1 + j] by
    rw [List.getElem_drop]
    exact byte_at s (1 + j) hj2 (by rw [toList_size]; exact hj2)))
  generalize s.data.toList.drop 1 = t at *
  have zn : IntKind.i64.wrap ((c : Int) - 224) = (c : Int) - 224 := IntWalk.i64_in _ (by omega)
  have hN1 := Lib.hid (show -256 + 3 ≤ (c : Int) - 224 ∧ (c : Int) - 224 ≤ 256 - 3 by omega)
  clear hl hc hlo hhi
  go_enter Tryz.func111, Tryz.ntmps111
  go_wp2_with fail
  go_loopw [2, 4, 6] (fun z n i wr => RGuessRel t 2 ((c : Int) - 224) w z n i wr) (fun _ _ i _ => s.size + 1 - (intOf i).toNat)
  case atStart => exact ⟨0, (c : Int) - 224, rfl, Nat.zero_le _, Nat.zero_le _, rfl, rfl, Lib.hid (by simp [gFold]), Lib.hid (by simpa using hN1.out), rfl⟩
  case round =>
    obtain ⟨j, N, rfl, hj, hjl, rfl, rfl, hinv, hbd, hww⟩ := hrel
    rw [hww]
    clear hww hN1
    obtain ⟨I, hI⟩ : ∃ I, I = 1 + j := ⟨_, rfl⟩
    rw [← hI]
    by_cases hk : j < 2
    · have q1 : decide ((I : Int) ≤ 2) = true := decide_eq_true (by omega)
      by_cases hi : s.size ≤ I
      · have q2 : decide (s.size ≤ I) = true := decide_eq_true hi
        have HR := Lib.hid (HG2.out (by omega))
        clear hinv hbd hgt htl hI hj hjl
        go_wp2
        go_ret
        exact ⟨by rw [HR.out]; rfl, rfl⟩
      · have q2 : decide (s.size ≤ I) = false := decide_eq_false hi
        have jk0 : (0 : Int) ≤ (I : Int) := by omega
        have jk1 : (I : Int) < (s.size : Int) := by omega
        have hIs : I < s.size := by omega
        have hjt : j < t.length := by omega
        have hD := s[I].toNat_lt
        obtain ⟨D, hDe⟩ : ∃ D, D = s[I].toNat := ⟨_, rfl⟩
        have hDi : (s[I].toNat : Int) = (D : Int) := by omega
        rw [← hDe] at hD
        have hbd2 := guess_bound (D := (D : Int)) (by omega) hbd.out (by omega) (by omega)
        have hinv2 := Lib.hid (show 64 * N + (D : Int) - 128 = gFold ((c : Int) - 224) (t.take (j + 1)) by
          have e := hgt.out j hjt (by omega)
          have e2 : s[1 + j] = s[I] := by congr 1; exact hI.symm
          rw [List.take_succ_eq_append_getElem hjt, gFold_snoc, ← hinv.out, e, e2, ← hDe])
        have HB := Lib.hid hbd2.2
        have bN := hbd2.1
        have hD0 : (0 : Int) ≤ (D : Int) := by omega
        have hD1 : (D : Int) < 256 := by omega
        have y4 : IntKind.i64.wrap ((I : Int) + 1) = (I : Int) + 1 := i64_small (by omega) (by omega)
        have HI := Lib.hid hI
        have hmore := Lib.hid (show I < s.size ∧ j + 1 ≤ t.length by omega)
        obtain ⟨y0, y1, y2, y3⟩ := guess_wraps bN.1 bN.2 hD0 hD1
        have y1' : wrap64 (D : Int) = (D : Int) := wrap64_in hD0 hD1
        clear hinv hbd hgt htl hI hDe hbd2 hjl hjt hi hD
        go_wp2
        go_roundw
        case rel => exact ⟨j + 1, _, rfl, by omega, hmore.out.2, by have := HI.out; simp; omega, rfl, hinv2, HB, rfl⟩
        case measure => have := hmore.out.1; simp [intOf]; omega
    · have hjk : j = 2 := by omega
      subst hjk
      have q1 : decide ((I : Int) ≤ 2) = false := decide_eq_false (by omega)
      have HR := Lib.hid ((HG.out (by omega)).trans hinv.out.symm)
      clear hinv hbd hgt htl hI hjl
      go_wp2
      go_ret
      exact ⟨by rw [HR.out]; rfl, rfl⟩

set_option maxRecDepth 20000 in
set_option maxHeartbeats 1000000 in
theorem rguess_1 (s : ByteArray) (w : World) (hs : s.size ≤ 1125899906842624) (h0 : 0 < s.size) (c : Nat) (hc : c = s[0].toNat) (hlo : 128 ≤ c) (hhi : c < 224) :
    Calls Tryz.prog 111 #[.string s] w fun e w' => e = .returned (.int .i64 (uGs s.data.toList)) ∧ w' = w := by
  have hci : (s[0].toNat : Int) = (c : Int) := by omega
  have hl : s.data.toList = s[0] :: s.data.toList.drop 1 := by
    have := drop_at s 0 h0
    rwa [List.drop_zero] at this
  have iz : (0 : Int) < (s.size : Int) := by omega
  have zc : IntKind.i64.wrap (c : Int) = (c : Int) := IntWalk.i64_in _ (by omega)
  have zc2 : wrap64 (c : Int) = (c : Int) := wrap64_in (by omega) (by omega)
  have p1 : decide ((c : Int) < 128) = false := decide_eq_false (by omega)
  have p2 : decide ((240 : Int) ≤ (c : Int)) = false := decide_eq_false (by omega)
  have p3 : decide ((224 : Int) ≤ (c : Int)) = false := decide_eq_false (by omega)
  have HG := Lib.hid (show ∀ hl : ¬ (s.data.toList.drop 1).length < 1, uGs s.data.toList = gFold ((c : Int) - 192) ((s.data.toList.drop 1).take 1) from fun hlen => by
    have e := gsN s[0] (s.data.toList.drop 1) 1 192 (by omega) (by unfold gK; rw [if_neg (by omega), if_neg (by omega)]) (by unfold gH; rw [if_neg (by omega), if_neg (by omega)]) hlen
    rw [← hl, ← hc] at e; exact e)
  have HG2 := Lib.hid (show (s.data.toList.drop 1).length < 1 → uGs s.data.toList = -1 from fun hlen => by
    have e : uGs (s[0] :: s.data.toList.drop 1) = -1 := by
      simp only [uGs]
      rw [if_neg (by omega), show gK s[0].toNat = 1 by unfold gK; rw [if_neg (by omega), if_neg (by omega)], if_pos hlen]
    rw [← hl] at e; exact e)
  have htl : (s.data.toList.drop 1).length = s.size - 1 := by rw [List.length_drop, toList_size]
  have hgt := Lib.hid (fun (j : Nat) (hj : j < (s.data.toList.drop 1).length) (hj2 : 1 + j < s.size) => (show (s.data.toList.drop 1)[j] = s[1 + j] by
    rw [List.getElem_drop]
    exact byte_at s (1 + j) hj2 (by rw [toList_size]; exact hj2)))
  generalize s.data.toList.drop 1 = t at *
  have zn : IntKind.i64.wrap ((c : Int) - 192) = (c : Int) - 192 := IntWalk.i64_in _ (by omega)
  have hN1 := Lib.hid (show -256 + 3 ≤ (c : Int) - 192 ∧ (c : Int) - 192 ≤ 256 - 3 by omega)
  clear hl hc hlo hhi
  go_enter Tryz.func111, Tryz.ntmps111
  go_wp2_with fail
  go_loopw [2, 4, 6] (fun z n i wr => RGuessRel t 1 ((c : Int) - 192) w z n i wr) (fun _ _ i _ => s.size + 1 - (intOf i).toNat)
  case atStart => exact ⟨0, (c : Int) - 192, rfl, Nat.zero_le _, Nat.zero_le _, rfl, rfl, Lib.hid (by simp [gFold]), Lib.hid (by simpa using hN1.out), rfl⟩
  case round =>
    obtain ⟨j, N, rfl, hj, hjl, rfl, rfl, hinv, hbd, hww⟩ := hrel
    rw [hww]
    clear hww hN1
    obtain ⟨I, hI⟩ : ∃ I, I = 1 + j := ⟨_, rfl⟩
    rw [← hI]
    by_cases hk : j < 1
    · have q1 : decide ((I : Int) ≤ 1) = true := decide_eq_true (by omega)
      by_cases hi : s.size ≤ I
      · have q2 : decide (s.size ≤ I) = true := decide_eq_true hi
        have HR := Lib.hid (HG2.out (by omega))
        clear hinv hbd hgt htl hI hj hjl
        go_wp2
        go_ret
        exact ⟨by rw [HR.out]; rfl, rfl⟩
      · have q2 : decide (s.size ≤ I) = false := decide_eq_false hi
        have jk0 : (0 : Int) ≤ (I : Int) := by omega
        have jk1 : (I : Int) < (s.size : Int) := by omega
        have hIs : I < s.size := by omega
        have hjt : j < t.length := by omega
        have hD := s[I].toNat_lt
        obtain ⟨D, hDe⟩ : ∃ D, D = s[I].toNat := ⟨_, rfl⟩
        have hDi : (s[I].toNat : Int) = (D : Int) := by omega
        rw [← hDe] at hD
        have hbd2 := guess_bound (D := (D : Int)) (by omega) hbd.out (by omega) (by omega)
        have hinv2 := Lib.hid (show 64 * N + (D : Int) - 128 = gFold ((c : Int) - 192) (t.take (j + 1)) by
          have e := hgt.out j hjt (by omega)
          have e2 : s[1 + j] = s[I] := by congr 1; exact hI.symm
          rw [List.take_succ_eq_append_getElem hjt, gFold_snoc, ← hinv.out, e, e2, ← hDe])
        have HB := Lib.hid hbd2.2
        have bN := hbd2.1
        have hD0 : (0 : Int) ≤ (D : Int) := by omega
        have hD1 : (D : Int) < 256 := by omega
        have y4 : IntKind.i64.wrap ((I : Int) + 1) = (I : Int) + 1 := i64_small (by omega) (by omega)
        have HI := Lib.hid hI
        have hmore := Lib.hid (show I < s.size ∧ j + 1 ≤ t.length by omega)
        obtain ⟨y0, y1, y2, y3⟩ := guess_wraps bN.1 bN.2 hD0 hD1
        have y1' : wrap64 (D : Int) = (D : Int) := wrap64_in hD0 hD1
        clear hinv hbd hgt htl hI hDe hbd2 hjl hjt hi hD
        go_wp2
        go_roundw
        case rel => exact ⟨j + 1, _, rfl, by omega, hmore.out.2, by have := HI.out; simp; omega, rfl, hinv2, HB, rfl⟩
        case measure => have := hmore.out.1; simp [intOf]; omega
    · have hjk : j = 1 := by omega
      subst hjk
      have q1 : decide ((I : Int) ≤ 1) = false := decide_eq_false (by omega)
      have HR := Lib.hid ((HG.out (by omega)).trans hinv.out.symm)
      clear hinv hbd hgt htl hI hjl
      go_wp2
      go_ret
      exact ⟨by rw [HR.out]; rfl, rfl⟩

theorem rguess_any (s : ByteArray) (w : World) (hs : s.size ≤ 1125899906842624) (h0 : 0 < s.size) :
    Calls Tryz.prog 111 #[.string s] w fun e w' => e = .returned (.int .i64 (uGs s.data.toList)) ∧ w' = w := by
  have hB := s[0].toNat_lt
  obtain ⟨c, hc⟩ : ∃ c, c = s[0].toNat := ⟨_, rfl⟩
  by_cases h1 : c < 128
  · have hci : (s[0].toNat : Int) = (c : Int) := by omega
    have hl : s.data.toList = s[0] :: s.data.toList.drop 1 := by
      have := drop_at s 0 h0
      rwa [List.drop_zero] at this
    have iz : (0 : Int) < (s.size : Int) := by omega
    have zc : IntKind.i64.wrap (c : Int) = (c : Int) := IntWalk.i64_in _ (by omega)
    have zc2 : wrap64 (c : Int) = (c : Int) := wrap64_in (by omega) (by omega)
    have p1 : decide ((c : Int) < 128) = true := decide_eq_true (by omega)
    have HG := Lib.hid (show uGs s.data.toList = c by rw [hl, gs1 _ _ (by omega), hc])
    clear hl hc hB h1
    go_enter Tryz.func111, Tryz.ntmps111
    go_wp2
    go_ret
    exact ⟨by rw [HG.out]; rfl, rfl⟩
  · by_cases h2 : 240 ≤ c
    · exact rguess_3 s w hs h0 c hc h2 (by omega)
    · by_cases h3 : 224 ≤ c
      · exact rguess_2 s w hs h0 c hc h3 (by omega)
      · exact rguess_1 s w hs h0 c hc (by omega) (by omega)
end Go.Proofs.YtnbhhnkcfbfdcaaGreatDoor
/- The document's own utf (package truchmanref05): Rune, walk, Check, Count, Cut. -/
namespace Go.Proofs.YtnbhhnkcfbfdcaaGreatDoor
open Go Go.RowKit
set_option linter.unusedVariables false

theorem text_is (s : ByteArray) (k L : Nat) (l : List UInt8) : s.extract k (k + L) = bA l ↔ (s.data.toList.drop k).take L = l := by
  have e := ext_toList s k (k + L)
  rw [show k + L - k = L by omega] at e
  constructor
  · intro h
    rw [h] at e
    rw [← e]; rfl
  · intro h
    rw [h] at e
    rw [← bA_of (s.extract k (k + L)), e]
set_option maxRecDepth 20000 in
set_option maxHeartbeats 1000000 in
theorem rrune_any (s : ByteArray) (a : Int) (w : World) (hs : s.size ≤ 1125899906842624) (ha1 : -9223372036854775808 ≤ a) (ha2 : a ≤ 9223372036854775807) :
    Calls Tryz.prog 94 #[.string s, .int .i64 a] w fun e w' => e = .returned (.tuple #[.int .i32 ((uR s a).1 : Nat), .int .i64 ((uR s a).2 : Nat)]) ∧ Below w.heap.size w w' := by
  by_cases h0 : a < 0
  · have p1 : decide (a < 0) = true := decide_eq_true h0
    have HR := Lib.hid (show uR s a = (0, 0) by unfold uR; rw [if_neg (by omega)])
    clear h0
    go_enter Tryz.func94, Tryz.ntmps94
    go_wp2
    go_ret2
    exact ⟨uR_none HR.out, Below.refl _ _⟩
  · obtain ⟨k, rfl⟩ := Int.eq_ofNat_of_zero_le (show 0 ≤ a by omega)
    have p1 : decide ((k : Int) < 0) = false := decide_eq_false h0
    rw [uR_at]
    by_cases h1 : s.size ≤ k
    · have p2 : decide (s.size ≤ k) = true := decide_eq_true h1
      have HR := Lib.hid (dAt_out h1)
      clear h0 h1
      go_enter Tryz.func94, Tryz.ntmps94
      go_wp2
      go_ret2
      exact ⟨by rw [HR.out]; rfl, Below.refl _ _⟩
    · have hlt : k < s.size := by omega
      have p2 : decide (s.size ≤ k) = false := decide_eq_false h1
      have ik0 : (0 : Int) ≤ (k : Int) := by omega
      have ik1 : (k : Int) < (s.size : Int) := by omega
      have ik2 : (k : Int) ≤ (s.size : Int) := by omega
      have hsz : (s.extract k s.size).size = s.size - k := by rw [ByteArray.size_extract]; omega
      have HG := Lib.hid (fun w => rguess_any (s.extract k s.size) w (by omega) (by omega))
      rw [back_toList] at HG
      have hno := Lib.hid (gs_no (l := s.data.toList.drop k))
      have hyes := Lib.hid (fun r h1 h2 => gs_yes (l := s.data.toList.drop k) (r := r) h1 h2)
      have HD := Lib.hid (show dAt s k = uDec (s.data.toList.drop k) from rfl)
      rw [← HD.out] at hno hyes
      obtain ⟨G, hGe⟩ : ∃ G, G = uGs (s.data.toList.drop k) := ⟨_, rfl⟩
      rw [← hGe] at HG hno
      by_cases hG0 : G < 0
      · have p3 : decide (G < 0) = true := decide_eq_true hG0
        have HR := Lib.hid (hno.out (fun h => by have := (uIs_iff.mp h.1).1; omega))
        clear h0 h1 hG0 hno hyes hGe HD
        go_enter Tryz.func94, Tryz.ntmps94
        go_wp2_with fail
        with_reducible refine (HG.out _).mono ?_
        rintro e w' ⟨rfl, hw⟩
        rw [hw]; clear hw
        go_wp2
        go_ret2
        exact ⟨by rw [HR.out]; rfl, Below.refl _ _⟩
      · have p3 : decide (G < 0) = false := decide_eq_false hG0
        by_cases hG1 : 1114111 < G
        · have p4 : decide (1114111 < G) = true := decide_eq_true hG1
          have HR := Lib.hid (hno.out (fun h => by have := (uIs_iff.mp h.1).2.1; omega))
          clear h0 h1 hG0 hG1 hno hyes hGe HD
          go_enter Tryz.func94, Tryz.ntmps94
          go_wp2_with fail
          with_reducible refine (HG.out _).mono ?_
          rintro e w' ⟨rfl, hw⟩
          rw [hw]; clear hw
          go_wp2
          go_ret2
          exact ⟨by rw [HR.out]; rfl, Below.refl _ _⟩
        · have p4 : decide (1114111 < G) = false := decide_eq_false hG1
          obtain ⟨g, rfl⟩ := Int.eq_ofNat_of_zero_le (show 0 ≤ G by omega)
          have zg : IntKind.i32.wrap (g : Int) = (g : Int) := IntWalk.i32_in _ (by omega)
          have HI := Lib.hid (fun w => ruis_any (g : Int) w)
          by_cases hI : uIs (g : Int) = true
          · rw [hI] at HI
            have HB := Lib.hid (fun w => rbytes_any g w (by omega))
            obtain ⟨L, hL⟩ : ∃ L, L = (uB g).length := ⟨_, rfl⟩
            have hLs : (bA (uB g)).size = L := by rw [bA_size]; exact hL.symm
            have hL4 := uB_pos g
            rw [← hL] at hL4
            have z1 : IntKind.i64.wrap ((s.size : Int) - (k : Int)) = (s.size : Int) - (k : Int) := IntWalk.i64_in _ (by omega)
            have z2 : IntKind.i64.wrap ((k : Int) + (L : Int)) = (k : Int) + (L : Int) := IntWalk.i64_in _ (by omega)
            by_cases h2 : s.size - k < L
            · have p5 : decide ((s.size : Int) - (k : Int) < (L : Int)) = true := decide_eq_true (by omega)
              have HR := Lib.hid (hno.out (fun h => by
                have := congrArg List.length h.2
                rw [Int.toNat_natCast, List.length_take, List.length_drop, toList_size] at this
                omega))
              clear h0 h1 hG0 hG1 hno hyes hGe HD h2 hL hI
              generalize bA (uB g) = X at *
              go_enter Tryz.func94, Tryz.ntmps94
              go_wp2_with fail
              with_reducible refine (HG.out _).mono ?_
              rintro e w' ⟨rfl, hw⟩
              rw [hw]; clear hw
              go_wp2_with fail
              with_reducible refine (HI.out _).mono ?_
              rintro e w' ⟨rfl, hw⟩
              rw [hw]; clear hw
              go_wp2_with fail
              with_reducible refine (HB.out _).mono ?_
              rintro e w' ⟨rfl, hbe⟩
              go_wp2
              go_ret2
              exact ⟨by rw [HR.out]; rfl, hbe⟩
            · have p5 : decide ((s.size : Int) - (k : Int) < (L : Int)) = false := decide_eq_false (by omega)
              have hin : k + L ≤ s.size := by omega
              have jk1 : (k : Int) ≤ (k : Int) + (L : Int) := by omega
              have jk2 : (k : Int) + (L : Int) ≤ (s.size : Int) := by omega
              have hX := text_eq (s.extract k (k + L)) (bA (uB g))
              by_cases h3 : s.extract k (k + L) = bA (uB g)
              · have q1 : ((s.extract k (k + L)).toList == (bA (uB g)).toList) = true := by rw [hX]; simp [h3]
                have HR := Lib.hid (hyes.out g hI (by rw [← hL]; exact (text_is s k L (uB g)).mp h3))
                rw [← hL] at HR
                clear h0 h1 hG0 hG1 hno hyes hGe HD h2 hL hI h3 hX
                generalize bA (uB g) = X at *
                go_enter Tryz.func94, Tryz.ntmps94
                go_wp2_with fail
                with_reducible refine (HG.out _).mono ?_
                rintro e w' ⟨rfl, hw⟩
                rw [hw]; clear hw
                go_wp2_with fail
                with_reducible refine (HI.out _).mono ?_
                rintro e w' ⟨rfl, hw⟩
                rw [hw]; clear hw
                go_wp2_with fail
                with_reducible refine (HB.out _).mono ?_
                rintro e w' ⟨rfl, hbe⟩
                go_wp2
                go_ret2
                exact ⟨by rw [HR.out]; rfl, hbe⟩
              · have q1 : ((s.extract k (k + L)).toList == (bA (uB g)).toList) = false := by rw [hX]; simp [h3]
                have HR := Lib.hid (hno.out (fun h => by
                  rw [Int.toNat_natCast, ← hL] at h
                  exact h3 ((text_is s k L (uB g)).mpr h.2)))
                clear h0 h1 hG0 hG1 hno hyes hGe HD h2 hL hI h3 hX
                generalize bA (uB g) = X at *
                go_enter Tryz.func94, Tryz.ntmps94
                go_wp2_with fail
                with_reducible refine (HG.out _).mono ?_
                rintro e w' ⟨rfl, hw⟩
                rw [hw]; clear hw
                go_wp2_with fail
                with_reducible refine (HI.out _).mono ?_
                rintro e w' ⟨rfl, hw⟩
                rw [hw]; clear hw
                go_wp2_with fail
                with_reducible refine (HB.out _).mono ?_
                rintro e w' ⟨rfl, hbe⟩
                go_wp2
                go_ret2
                exact ⟨by rw [HR.out]; rfl, hbe⟩
          · have HR := Lib.hid (hno.out (fun h => hI h.1))
            rw [show uIs (g : Int) = false by simpa using hI] at HI
            clear h0 h1 hG0 hG1 hno hyes hGe HD hI
            go_enter Tryz.func94, Tryz.ntmps94
            go_wp2_with fail
            with_reducible refine (HG.out _).mono ?_
            rintro e w' ⟨rfl, hw⟩
            rw [hw]; clear hw
            go_wp2_with fail
            with_reducible refine (HI.out _).mono ?_
            rintro e w' ⟨rfl, hw⟩
            rw [hw]; clear hw
            go_wp2
            go_ret2
            exact ⟨by rw [HR.out]; rfl, Below.refl _ _⟩

def RWalkRel (s : ByteArray) (W : World) (x y e c : Value) (wr : World) : Prop :=
  ∃ E C : Nat, x = .int .i64 0 ∧ y = .int .i64 0 ∧ e = .int .i64 (E : Nat) ∧ c = .int .i64 (C : Nat) ∧ WPre s s.size E C ∧ Below W.heap.size W wr


theorem uCheck_ok {s : ByteArray} : uCheck s = -1 ↔ uOk s := by
  unfold uCheck uOk
  by_cases h : (wk s s.size).1 = s.size
  · rw [if_pos h]; exact ⟨fun _ => h, fun _ => rfl⟩
  · rw [if_neg h]; exact ⟨fun e => by omega, fun e => absurd e h⟩
def RCutRel (s : ByteArray) (n : Int) (W : World) (x k : Value) (wr : World) : Prop :=
  ∃ K : Int, x = .string ⟨#[]⟩ ∧ k = .int .i64 K ∧ K ≤ n ∧ K ≤ s.size ∧ -9223372036854775808 ≤ K ∧ Hid ((wk s n).1 ≤ K ∨ (wk s n).1 = 0) ∧ Below W.heap.size W wr
end Go.Proofs.YtnbhhnkcfbfdcaaGreatDoor
