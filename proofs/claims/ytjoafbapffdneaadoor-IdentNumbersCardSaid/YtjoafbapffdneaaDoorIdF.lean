/- The document's own names: trace, span (a text laid into an array), bytes of names, numbers. -/
import Derived.Test.YtjoafbapffdneaaDoorIdE
namespace Go.Proofs.YtjoafbapffdneaaDoor
open Go Go.RowKit
set_option linter.unusedVariables false

/-- Bytes, and behind them zeros, n in all. -/
def pad (n : Nat) (l : List UInt8) : List UInt8 := l ++ zs (n - l.length)
theorem pad_length {n : Nat} {l : List UInt8} (h : l.length ≤ n) : (pad n l).length = n := by unfold pad; rw [List.length_append, zs_length]; omega
theorem pad_nil (n : Nat) : pad n [] = zs n := rfl
theorem pad_full {n : Nat} {l : List UInt8} (h : l.length = n) : pad n l = l := by unfold pad; rw [h, Nat.sub_self]; exact List.append_nil l
theorem set_pad (l : List UInt8) (n k : Nat) (hk : k < l.length) (hl : l.length ≤ n) : (aC (pad n (l.take k))).setIfInBounds k (.int .u8 (l[k].toNat : Int)) = aC (pad n (l.take (k + 1))) := by
  have hlk : (l.take k).length = k := by rw [List.length_take]; omega
  have hlk1 : (l.take (k + 1)).length = k + 1 := by rw [List.length_take]; omega
  apply Array.toList_inj.mp
  rw [Array.toList_setIfInBounds, aC_toList, aC_toList]
  unfold pad
  rw [hlk, hlk1, bV_append, bV_append, List.set_append_right _ _ (by rw [bV_length, hlk]; exact Nat.le_refl _), bV_length, hlk, Nat.sub_self, List.take_succ_eq_append_getElem hk, bV_append, List.append_assoc]
  congr 1
  have : n - k = (n - (k + 1)) + 1 := by omega
  rw [this]
  rfl
theorem ABlk.set {t : TypeId} {w : World} {b k n : Nat} {l : List UInt8} (h : ABlk t w b (pad n (l.take k))) (hk : k < l.length) (hl : l.length ≤ n) (x : UInt8) (hx : x = l[k]'hk) : ABlk t (w.setCell ⟨b, k, none⟩ (.int .u8 (x.toNat : Int))) b (pad n (l.take (k + 1))) := by
  subst hx
  unfold ABlk
  rw [heap_setCell_same w b k _ t _ h, set_pad l n k hk hl]
theorem ABlk.set_ne {t : TypeId} {w : World} {b c o : Nat} {l : List UInt8} {v : Value} (h : ABlk t w b l) (hb : b ≠ c) : ABlk t (w.setCell ⟨c, o, none⟩ v) b l := (Below.heap_setCell _ _ _ _ hb).trans h
theorem ABlk.cell {t : TypeId} {w : World} {b k : Nat} {l : List UInt8} (h : ABlk t w b l) (hk : k < l.length) : w.cell? ⟨b, k, none⟩ = some (.int .u8 (l[k].toNat : Int)) := by
  rw [cell_of_row w b k (aC l) t (0, 0) h, ← Array.getElem?_toList, aC_toList, bV_get l k hk]
theorem ABlk.free {t : TypeId} {w : World} {b : Nat} {l : List UInt8} (h : ABlk t w b l) (k : Nat) : w.frozen? ⟨b, k, none⟩ = false := frozen_of_row w b k (aC l) t h
theorem setCell_below {w W : World} {N b o : Nat} {v : Value} (h : Below N w W) (hb : N ≤ b) : Below N w (W.setCell ⟨b, o, none⟩ v) :=
  h.trans ⟨rfl, rfl, rfl, by simp [World.setCell], fun k hk => Below.heap_setCell _ _ _ _ (by show k ≠ b; omega)⟩
theorem bA_get (l : List UInt8) (k : Nat) (h : k < (bA l).size) (h' : k < l.length) : (bA l)[k]'h = l[k]'h' := (byte_at (bA l) k h h').symm

def rtraceRel (W : World) (l : List UInt8) (b0 : Nat) (i : Value) (wr : World) : Prop :=
  ∃ k : Nat, k ≤ l.length ∧ i = .int .i64 k ∧ ABlk 23 wr b0 (zs 16) ∧ ABlk 23 wr (b0 + 1) (pad 16 (l.take k)) ∧ Below b0 W wr
set_option maxHeartbeats 1000000 in
theorem rtrace_any (l : List UInt8) (w : World) (hl : l.length ≤ 16) :
    Calls Tryd.prog 31 #[.string (bA l)] w fun e w' => e = .returned (.agg (aC (pad 16 l))) ∧ Below w.heap.size w w' := by
  have h2 := two_z16 23 23 w
  have hsz := bA_size l
  go_enter Tryd.func31, Tryd.ntmps31
  go_wp2_with fail
  generalize (w.alloc (.cells z16 23)).alloc (.cells z16 23) = W at h2 ⊢
  obtain ⟨hA, hB, hsw, hbe⟩ := h2
  generalize hb0 : w.heap.size = b0 at *
  have HB0 := Lib.hid hb0
  clear hb0
  have HA := Lib.hid hA
  have HB := Lib.hid hB
  have HE := Lib.hid hbe
  clear hA hB hbe hsw
  go_loopw [4] (fun i wr => rtraceRel w l b0 i wr) (fun i _ => l.length - (intOf i).toNat)
  case atStart => exact ⟨0, Nat.zero_le _, rfl, HA.out, HB.out, HE.out⟩
  case round =>
    obtain ⟨k, hk, rfl, kA, kB, kE⟩ := hrel
    by_cases hlt : k < l.length
    · have hlt2 : k < (bA l).size := by omega
      have p1 : decide ((k : Int) < ((bA l).size : Int)) = true := decide_eq_true (by omega)
      have p2 : decide ((k : Int) < 16) = true := decide_eq_true (by omega)
      have c1 := kB.cell (k := k) (by rw [pad_length (by rw [List.length_take]; omega)]; omega)
      have c2 := kB.free k
      have kB2 := kB.set hlt hl ((bA l)[k]'hlt2) (bA_get l k hlt2 hlt)
      have kA2 := kA.set_ne (c := b0 + 1) (o := k) (v := .int .u8 (((bA l)[k]'hlt2).toNat : Int)) (by omega)
      have kE2 := setCell_below (b := b0 + 1) (o := k) (v := .int .u8 (((bA l)[k]'hlt2).toNat : Int)) kE (by omega)
      have KB2 := Lib.hid kB2
      have KA2 := Lib.hid kA2
      have KE2 := Lib.hid kE2
      clear kA kB kE kA2 kB2 kE2
      go_wp2
      go_roundw
      case rel => exact ⟨k + 1, by omega, by go_num, KA2.out, KB2.out, KE2.out⟩
      case measure => simp [intOf]; omega
    · have p1 : decide ((k : Int) < ((bA l).size : Int)) = false := decide_eq_false (by omega)
      have hkn : k = l.length := by omega
      have hp : pad 16 (l.take k) = pad 16 l := by rw [List.take_of_length_le (by omega)]
      rw [hp] at kB
      have hpl : (pad 16 l).length = 16 := pad_length hl
      clear hkn hp
      generalize hL : pad 16 l = L at *
      have HL := Lib.hid hL
      clear hL
      have E1 := Lib.hid kB.at0
      have E2 := Lib.hid kA
      have E3 := Lib.hid (setRow_blk kA (l := L))
      have K2 := Lib.hid (setRow_below (cs := aC L) (b := b0) kE (Nat.le_refl _))
      clear kA kB kE HA HB HE
      go_wp2_with (first | refine wl_load traceT (by rfl) (by rfl) hpl E1.out ?_ | refine wl_store traceT (by rfl) (by rfl) (by rfl) hpl (zs_length 16) E2.out ?_)
      exact bodyPost_ret (traceT.result Tryd.results31 E3.out hpl rfl) rfl ⟨by rw [HL.out], by rw [HB0.out]; exact K2.out⟩

def rspanRel (W : World) (l : List UInt8) (b0 : Nat) (i : Value) (wr : World) : Prop :=
  ∃ k : Nat, k ≤ l.length ∧ i = .int .i64 k ∧ ABlk 28 wr b0 (zs 8) ∧ ABlk 28 wr (b0 + 1) (pad 8 (l.take k)) ∧ Below b0 W wr
set_option maxHeartbeats 1000000 in
theorem rspan_any (l : List UInt8) (w : World) (hl : l.length ≤ 8) :
    Calls Tryd.prog 32 #[.string (bA l)] w fun e w' => e = .returned (.agg (aC (pad 8 l))) ∧ Below w.heap.size w w' := by
  have h2 := two_z8 28 28 w
  have hsz := bA_size l
  go_enter Tryd.func32, Tryd.ntmps32
  go_wp2_with fail
  generalize (w.alloc (.cells z8 28)).alloc (.cells z8 28) = W at h2 ⊢
  obtain ⟨hA, hB, hsw, hbe⟩ := h2
  generalize hb0 : w.heap.size = b0 at *
  have HB0 := Lib.hid hb0
  clear hb0
  have HA := Lib.hid hA
  have HB := Lib.hid hB
  have HE := Lib.hid hbe
  clear hA hB hbe hsw
  go_loopw [4] (fun i wr => rspanRel w l b0 i wr) (fun i _ => l.length - (intOf i).toNat)
  case atStart => exact ⟨0, Nat.zero_le _, rfl, HA.out, HB.out, HE.out⟩
  case round =>
    obtain ⟨k, hk, rfl, kA, kB, kE⟩ := hrel
    by_cases hlt : k < l.length
    · have hlt2 : k < (bA l).size := by omega
      have p1 : decide ((k : Int) < ((bA l).size : Int)) = true := decide_eq_true (by omega)
      have p2 : decide ((k : Int) < 8) = true := decide_eq_true (by omega)
      have c1 := kB.cell (k := k) (by rw [pad_length (by rw [List.length_take]; omega)]; omega)
      have c2 := kB.free k
      have kB2 := kB.set hlt hl ((bA l)[k]'hlt2) (bA_get l k hlt2 hlt)
      have kA2 := kA.set_ne (c := b0 + 1) (o := k) (v := .int .u8 (((bA l)[k]'hlt2).toNat : Int)) (by omega)
      have kE2 := setCell_below (b := b0 + 1) (o := k) (v := .int .u8 (((bA l)[k]'hlt2).toNat : Int)) kE (by omega)
      have KB2 := Lib.hid kB2
      have KA2 := Lib.hid kA2
      have KE2 := Lib.hid kE2
      clear kA kB kE kA2 kB2 kE2
      go_wp2
      go_roundw
      case rel => exact ⟨k + 1, by omega, by go_num, KA2.out, KB2.out, KE2.out⟩
      case measure => simp [intOf]; omega
    · have p1 : decide ((k : Int) < ((bA l).size : Int)) = false := decide_eq_false (by omega)
      have hkn : k = l.length := by omega
      have hp : pad 8 (l.take k) = pad 8 l := by rw [List.take_of_length_le (by omega)]
      rw [hp] at kB
      have hpl : (pad 8 l).length = 8 := pad_length hl
      clear hkn hp
      generalize hL : pad 8 l = L at *
      have HL := Lib.hid hL
      clear hL
      have E1 := Lib.hid kB.at0
      have E2 := Lib.hid kA
      have E3 := Lib.hid (setRow_blk kA (l := L))
      have K2 := Lib.hid (setRow_below (cs := aC L) (b := b0) kE (Nat.le_refl _))
      clear kA kB kE HA HB HE
      go_wp2_with (first | refine wl_load spanT (by rfl) (by rfl) hpl E1.out ?_ | refine wl_store spanT (by rfl) (by rfl) (by rfl) hpl (zs_length 8) E2.out ?_)
      exact bodyPost_ret (spanT.result Tryd.results32 E3.out hpl rfl) rfl ⟨by rw [HL.out], by rw [HB0.out]; exact K2.out⟩

end Go.Proofs.YtjoafbapffdneaaDoor
