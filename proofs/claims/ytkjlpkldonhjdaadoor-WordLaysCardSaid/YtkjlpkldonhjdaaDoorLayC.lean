/- Low32, Low64, High64, and the document's own Low, High. -/
import Derived.Test.YtkjlpkldonhjdaaDoorLayB
namespace Go.Proofs.YtkjlpkldonhjdaaDoor
open Go Go.RowKit
set_option linter.unusedVariables false

theorem low32_any (a : Option Addr) (cap : Nat) (l : List UInt8) (u : Nat) (w : World) (hl : l.length ≤ 140737488351232) (hu : u < 4294967296) (hin : BIn w a l) (ht : Tab w) :
    Calls Tryd.prog 12 #[.slice a l.length cap, .int .u32 u] w fun e w' => ∃ v, e = .returned v ∧ Bts 5 w' w.heap.size v (l ++ lowL u 4) ∧ Below w.heap.size w w' := by
  have hc := Lib.hid (layLow_any a cap l u 4 w hl (by omega) (by omega) hin ht)
  clear ht hin
  go_enter Tryd.func12, Tryd.ntmps12
  go_wp2_with fail
  refine hc.out.mono ?_
  rintro e w1 ⟨v, rfl, hbt, hbel⟩
  go_wp2
  go_ret
  exact ⟨_, rfl, hbt, hbel⟩
theorem low64_any (a : Option Addr) (cap : Nat) (l : List UInt8) (u : Nat) (w : World) (hl : l.length ≤ 140737488351232) (hu : u < 18446744073709551616) (hin : BIn w a l) (ht : Tab w) :
    Calls Tryd.prog 13 #[.slice a l.length cap, .int .u64 u] w fun e w' => ∃ v, e = .returned v ∧ Bts 5 w' w.heap.size v (l ++ lowL u 8) ∧ Below w.heap.size w w' := by
  have hc := Lib.hid (layLow_any a cap l u 8 w hl (by omega) (by omega) hin ht)
  clear ht hin
  go_enter Tryd.func13, Tryd.ntmps13
  go_wp2_with fail
  refine hc.out.mono ?_
  rintro e w1 ⟨v, rfl, hbt, hbel⟩
  go_wp2
  go_ret
  exact ⟨_, rfl, hbt, hbel⟩

/-- The highest k of eight bytes, the highest first. -/
def highL (u k : Nat) : List UInt8 := (lowL u 8).reverse.take k
theorem highL_length (u k : Nat) (h : k ≤ 8) : (highL u k).length = k := by
  unfold highL; rw [List.length_take, List.length_reverse, lowL_length]; omega
theorem highL_snoc (u k : Nat) (h : k < 8) : highL u (k + 1) = highL u k ++ [UInt8.ofNat (u / 256 ^ (7 - k) % 256)] := by
  unfold highL
  rw [List.take_add_one]
  congr 1
  rw [List.getElem?_reverse (by rw [lowL_length]; exact h), lowL_length, lowL_get _ _ _ (by omega)]
  rfl
theorem highL_all (u : Nat) : highL u 8 = (lowL u 8).reverse := by
  unfold highL; rw [List.take_of_length_le]; rw [List.length_reverse, lowL_length]; exact Nat.le_refl _

def HighRel (t : TypeId) (W : World) (l : List UInt8) (u : Nat) (B : Nat) (v i : Value) (wr : World) : Prop :=
  ∃ k : Nat, k ≤ 8 ∧ i = .int .i64 k ∧ Bts t wr B v (l ++ highL u k) ∧ Below W.heap.size W wr

theorem high64_any (a : Option Addr) (cap : Nat) (l : List UInt8) (u : Nat) (w : World) (hl : l.length ≤ 140737488351232) (hu : u < 18446744073709551616) (hin : BIn w a l) (ht : Tab w) :
    Calls Tryd.prog 14 #[.slice a l.length cap, .int .u64 u] w fun e w' => ∃ v, e = .returned v ∧ Bts 5 w' w.heap.size v (l ++ highL u 8) ∧ Below w.heap.size w w' := by
  obtain ⟨i0, hi, hz0, hz1, hz2⟩ := info_parts info8
  have HT := Lib.hid ht
  have hc := Lib.hid (copied_any a cap l 8 w hl (by omega) hin)
  have hpos := ht.lt
  clear ht hin
  go_enter Tryd.func14, Tryd.ntmps14
  go_wp2_with fail
  refine hc.out.mono ?_
  rintro e w1 ⟨v, rfl, hbt, hbel⟩
  go_wp2_with fail
  go_loopw [5, 9] (fun v i wr => HighRel 5 w l u w.heap.size v i wr) (fun _ i _ => 8 - (intOf i).toNat)
  case atStart => exact ⟨0, Nat.zero_le _, rfl, by simpa [highL] using hbt, hbel⟩
  case round =>
    obtain ⟨k, hk, rfl, hb, hbe⟩ := hrel
    have hsz := hbe.size
    by_cases hlt : k < 8
    · have p1 : decide ((k : Int) < 8) = true := by simp; omega
      obtain ⟨m, hm⟩ : ∃ m, m + k = 7 := ⟨7 - k, by omega⟩
      have hw7 : IntKind.i64.wrap (7 - (k : Int)) = ((m : Nat) : Int) := by rw [IntWalk.i64_in _ (by omega)]; omega
      have hw8 : (7 - (k : Int)) = ((m : Nat) : Int) := by omega
      have hm8 : (m : Int) < 8 := by omega
      have hcell := (HT.out.below hbe hpos) m (by omega)
      have HL := Lib.hid (show (l ++ highL u k) ++ [UInt8.ofNat (u / 256 ^ m % 256)] = l ++ highL u (k + 1) by rw [highL_snoc _ _ hlt, List.append_assoc, show 7 - k = m by omega])
      go_wp2_with (at_builtin; refine wpList_append_byte rfl (.tmp 12) (.tmp 20) 28 rfl 5 i0 Tryd.underlying28 hi hz0 hz1 hz2 _ w wr w.heap.size (l ++ highL u k) hb hbe hsz rfl _ _ (byte_val u m) rfl (by rw [List.length_append, highL_length _ _ hk]; omega) ?_; intro v2 w2 hb2 hbe2)
      go_roundw
      case rel => exact ⟨k + 1, by omega, by go_num, by rw [← HL.out]; exact hb2, hbe2⟩
      case measure => simp [intOf]; omega
    · have p1 : decide ((k : Int) < 8) = false := by simp; omega
      have hkn : k = 8 := by omega
      subst hkn
      go_wp2
      go_ret
      exact ⟨_, rfl, hb, hbe⟩

/-- A text of bytes. -/
def bA (l : List UInt8) : ByteArray := ⟨l.toArray⟩
theorem bA_size (l : List UInt8) : (bA l).size = l.length := by simp [bA, ByteArray.size]
theorem bA_append (l m : List UInt8) : bA l ++ bA m = bA (l ++ m) := by
  apply ByteArray.ext
  simp [bA]

/-- 'string(b)' of a list that the call itself made. -/
theorem Bts.text {P : Program} {t e d : TypeId} {w : World} {B : Nat} {v : Value} {l : List UInt8} (h : Bts e w B v l) (ht : P.underlying t = some (.slice e)) (he : P.underlying e = some (.int .u8)) (hd : P.underlying d = some .string) :
    (convert t d v).run P w = .ok (.string (bA l)) w := by
  rcases h.2 with ⟨rfl, hn⟩ | ⟨g, cap, cur, rfl, _, hg, _⟩
  · obtain rfl := List.eq_nil_of_length_eq_zero hn
    exact run_convert_bytes_nil w t e ht he 0 0 d hd
  · refine run_convert_bytes_back w t d e ⟨g, 0, none⟩ cap l ht he hd fun j hj => ?_
    have e1 : (Addr.mk g 0 none).add j = ⟨g, j, none⟩ := by unfold Addr.add; split <;> simp_all
    rw [e1, World.ownsRow.cellAt h j (by omega), bV_get l j hj]
/-- Of one byte, just laid. -/
theorem text_one (P : Program) (t e d : TypeId) (w : World) (z : Int) (b : UInt8) (hz : z = (b.toNat : Int)) (ht : P.underlying t = some (.slice e)) (he : P.underlying e = some (.int .u8)) (hd : P.underlying d = some .string) :
    (convert t d (.slice (some ⟨w.heap.size, 0, none⟩) 1 1)).run P (w.alloc (.cells #[.int .u8 z] e)) = .ok (.string (bA [b])) (w.alloc (.cells #[.int .u8 z] e)) := by
  subst hz
  refine run_convert_bytes_back _ t d e ⟨w.heap.size, 0, none⟩ 1 [b] ht he hd fun j hj => ?_
  have h0 : j = 0 := by simpa using hj
  subst h0
  have h1 := heap_alloc_new w (.cells #[.int .u8 (b.toNat : Int)] e)
  show World.cell? _ ⟨w.heap.size, 0 + 0, none⟩ = _
  simp only [World.cell?]
  rw [h1]; rfl
theorem mod_byte (u : Nat) : (u : Int) % 256 = ((UInt8.ofNat (u % 256)).toNat : Int) := by
  have : (UInt8.ofNat (u % 256)).toNat = u % 256 := by rw [UInt8.toNat_ofNat']; omega
  rw [this]; omega

def RLowRel (n u0 : Nat) (W : World) (u s i : Value) (wr : World) : Prop :=
  ∃ k uk A, k ≤ n ∧ i = .int .i64 (k : Nat) ∧ u = .int .u64 (uk : Nat) ∧ s = .string (bA A) ∧ uk < 18446744073709551616 ∧ A ++ lowL uk (n - k) = lowL u0 n ∧ A.length = k ∧ Below W.heap.size W wr

theorem rlow_any (u n : Nat) (w : World) (hu : u < 18446744073709551616) (hn : n ≤ 8) :
    Calls Tryd.prog 15 #[.int .u64 u, .int .i64 n] w fun e w' => e = .returned (.string (bA (lowL u n))) ∧ Below w.heap.size w w' := by
  go_enter Tryd.func15, Tryd.ntmps15
  go_wp2_with fail
  go_loopw [0, 5, 6] (fun u' s i wr => RLowRel n u w u' s i wr) (fun _ _ i _ => n - (intOf i).toNat)
  case atStart => exact ⟨0, u, [], Nat.zero_le _, rfl, rfl, rfl, hu, rfl, rfl, Below.refl _ _⟩
  case round =>
    obtain ⟨k, uk, A, hk, rfl, rfl, rfl, hu2, hA, hAl, hbe⟩ := hrel
    by_cases hlt : k < n
    · have p1 : decide ((k : Int) < n) = true := by simp; omega
      have hsz := hbe.size
      have hone := Lib.hid (text_one Tryd.prog 28 5 9 wr _ _ (mod_byte uk) Tryd.underlying28 Tryd.underlying5 Tryd.underlying9)
      have hA2 := Lib.hid (show (A ++ [UInt8.ofNat (uk % 256)]) ++ lowL (uk / 256) (n - (k + 1)) = lowL u n by
        rw [← hA, show n - k = (n - (k + 1)) + 1 by omega, lowL, List.append_assoc]; rfl)
      have hsA : (bA A).size = k := by rw [bA_size, hAl]
      have hs1 : (bA [UInt8.ofNat (uk % 256)]).size = 1 := by rw [bA_size]; rfl
      have hj := Lib.hid (bA_append A [UInt8.ofNat (uk % 256)])
      clear hA
      go_wp2_with fail
      rw [hone.out]
      go_wp2
      go_roundw
      case rel => exact ⟨k + 1, uk / 256, A ++ [UInt8.ofNat (uk % 256)], by omega, by go_num, by go_num, by rw [hj.out], by omega, hA2.out, by simp [hAl], hbe.alloc hsz _⟩
      case measure => simp [intOf]; omega
    · have p1 : decide ((k : Int) < n) = false := by simp; omega
      have hkn : k = n := by omega
      subst hkn
      have hA' : A = lowL u k := by rw [← hA, Nat.sub_self]; simp [lowL]
      go_wp2
      go_ret
      exact ⟨by rw [hA']; rfl, hbe⟩

def RHighRel (n u0 : Nat) (W : World) (u s i : Value) (wr : World) : Prop :=
  ∃ k A, k ≤ n ∧ i = .int .i64 (k : Nat) ∧ u = .int .u64 ((u0 / 256 ^ k : Nat) : Int) ∧ s = .string (bA A) ∧ A = (lowL u0 k).reverse ∧ A.length = k ∧ Below W.heap.size W wr

theorem rhigh_any (u n : Nat) (w : World) (hu : u < 18446744073709551616) (hn : n ≤ 8) :
    Calls Tryd.prog 16 #[.int .u64 u, .int .i64 n] w fun e w' => e = .returned (.string (bA (lowL u n).reverse)) ∧ Below w.heap.size w w' := by
  go_enter Tryd.func16, Tryd.ntmps16
  go_wp2_with fail
  go_loopw [0, 5, 6] (fun u' s i wr => RHighRel n u w u' s i wr) (fun _ _ i _ => n - (intOf i).toNat)
  case atStart => exact ⟨0, [], Nat.zero_le _, rfl, by simp, rfl, rfl, rfl, Below.refl _ _⟩
  case round =>
    obtain ⟨k, A, hk, rfl, rfl, rfl, hA, hAl, hbe⟩ := hrel
    by_cases hlt : k < n
    · have p1 : decide ((k : Int) < n) = true := by simp; omega
      have hsz := hbe.size
      have hu2 : u / 256 ^ k < 18446744073709551616 := Nat.lt_of_le_of_lt (Nat.div_le_self _ _) hu
      have hA2 := Lib.hid (show ([UInt8.ofNat (u / 256 ^ k % 256)] ++ A) = (lowL u (k + 1)).reverse by
        rw [hA, lowL_snoc, List.reverse_append]; rfl)
      have hU := Lib.hid (show u / 256 ^ k / 256 = u / 256 ^ (k + 1) by rw [Nat.div_div_eq_div_mul, Nat.pow_succ])
      generalize u / 256 ^ k = uk at *
      have hone := Lib.hid (text_one Tryd.prog 28 5 9 wr _ _ (mod_byte uk) Tryd.underlying28 Tryd.underlying5 Tryd.underlying9)
      have hsA : (bA A).size = k := by rw [bA_size, hAl]
      have hs1 : (bA [UInt8.ofNat (uk % 256)]).size = 1 := by rw [bA_size]; rfl
      have hj := Lib.hid (bA_append [UInt8.ofNat (uk % 256)] A)
      clear hA
      go_wp2_with fail
      rw [hone.out]
      go_wp2
      go_roundw
      case rel => exact ⟨k + 1, [UInt8.ofNat (uk % 256)] ++ A, by omega, by go_num, by rw [← hU.out]; go_num, by rw [hj.out], hA2.out, by simp [hAl], hbe.alloc hsz _⟩
      case measure => simp [intOf]; omega
    · have p1 : decide ((k : Int) < n) = false := by simp; omega
      have hkn : k = n := by omega
      subst hkn
      go_wp2
      go_ret
      exact ⟨by rw [hA]; rfl, hbe⟩

end Go.Proofs.YtkjlpkldonhjdaaDoor
