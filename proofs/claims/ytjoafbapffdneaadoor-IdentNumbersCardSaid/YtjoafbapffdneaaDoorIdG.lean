/- The document's own names: bytes as texts, numbers of eight bytes. -/
import Derived.Test.YtjoafbapffdneaaDoorIdF
import Derived.Test.YtjoafbapffdneaaDoorHRef
namespace Go.Proofs.YtjoafbapffdneaaDoor
open Go Go.RowKit
set_option linter.unusedVariables false

def TBRel (W : World) (l : List UInt8) (v i : Value) (wr : World) : Prop :=
  ∃ k : Nat, k ≤ l.length ∧ i = .int .i64 k ∧ Bts 5 wr W.heap.size v (l.take k) ∧ Below W.heap.size W wr
theorem bts_none (t : TypeId) (w : World) (B : Nat) : Bts t w B (.slice none 0 0) [] := ⟨rfl, .inl ⟨rfl, rfl⟩⟩

set_option maxHeartbeats 1000000 in
theorem tbytes_any (l : List UInt8) (w : World) (hl : l.length = 16) :
    Calls Tryd.prog 22 #[.agg (aC l)] w fun e w' => e = .returned (.string (bA l)) ∧ Below w.heap.size w w' := by
  obtain ⟨i0, hi, hz0, hz1, hz2⟩ := info_parts info8
  have ha := blk_alloc 23 w l
  have hbl := below_alloc w (.cells (aC l) 23)
  have hsw : (w.alloc (.cells (aC l) 23)).heap.size = w.heap.size + 1 := by simp
  go_enter Tryd.func22, Tryd.ntmps22
  go_wp2_with fail
  generalize w.alloc (.cells (aC l) 23) = W at ha hbl hsw ⊢
  have HA := Lib.hid ha
  have HE := Lib.hid hbl
  have hpos : w.heap.size < W.heap.size := by omega
  clear ha hbl hsw
  generalize hb0 : w.heap.size = b0 at *
  have HB0 := Lib.hid hb0
  clear hb0
  go_loopw [3, 4] (fun v i wr => TBRel W l v i wr) (fun _ i _ => l.length - (intOf i).toNat)
  case atStart => exact ⟨0, Nat.zero_le _, rfl, bts_none _ _ _, Below.refl _ _⟩
  case round =>
    obtain ⟨k, hk, rfl, hb, hbe⟩ := hrel
    by_cases hlt : k < l.length
    · have p1 : decide ((k : Int) < 16) = true := decide_eq_true (by omega)
      have c1 := (HA.out.below hbe hpos).cell hlt
      have hsz := hbe.size
      have HL := Lib.hid (show l.take k ++ [l[k]'hlt] = l.take (k + 1) from (List.take_succ_eq_append_getElem hlt).symm)
      have hlen : (l.take k).length + 1 ≤ 140737488355328 := by rw [List.length_take]; omega
      have hk2 : (k : Int) < 16 := by omega
      generalize hx : l[k]'hlt = x at *
      clear hx hlt
      go_wp2_with (at_builtin; go_loud (refine wpList_append_byte rfl (.tmp 9) (.tmp 13) 55 rfl 5 i0 Tryd.underlying55 hi hz0 hz1 hz2 _ W wr W.heap.size (l.take k) hb hbe hsz rfl _ x rfl rfl hlen ?_; intro v2 w2 hb2 hbe2))
      go_roundw
      case rel => exact ⟨k + 1, by omega, by go_num, by rw [← HL.out]; exact hb2, hbe2⟩
      case measure => simp [intOf]; omega
    · have p1 : decide ((k : Int) < 16) = false := decide_eq_false (by omega)
      have hkn : k = l.length := by omega
      have hall : l.take k = l := List.take_of_length_le (by omega)
      rw [hall] at hb
      have hcv := Lib.hid (hb.text (P := Tryd.prog) Tryd.underlying55 Tryd.underlying5 Tryd.underlying9)
      have HE2 := Lib.hid (below_on HE.out hbe (by omega))
      clear hkn hall hb hbe
      go_wp2_with fail
      rw [hcv.out]
      go_wp2
      go_ret
      exact ⟨rfl, by rw [HB0.out]; exact HE2.out⟩

set_option maxHeartbeats 1000000 in
theorem sbytes_any (l : List UInt8) (w : World) (hl : l.length = 8) :
    Calls Tryd.prog 23 #[.agg (aC l)] w fun e w' => e = .returned (.string (bA l)) ∧ Below w.heap.size w w' := by
  obtain ⟨i0, hi, hz0, hz1, hz2⟩ := info_parts info8
  have ha := blk_alloc 28 w l
  have hbl := below_alloc w (.cells (aC l) 28)
  have hsw : (w.alloc (.cells (aC l) 28)).heap.size = w.heap.size + 1 := by simp
  go_enter Tryd.func23, Tryd.ntmps23
  go_wp2_with fail
  generalize w.alloc (.cells (aC l) 28) = W at ha hbl hsw ⊢
  have HA := Lib.hid ha
  have HE := Lib.hid hbl
  have hpos : w.heap.size < W.heap.size := by omega
  clear ha hbl hsw
  generalize hb0 : w.heap.size = b0 at *
  have HB0 := Lib.hid hb0
  clear hb0
  go_loopw [3, 4] (fun v i wr => TBRel W l v i wr) (fun _ i _ => l.length - (intOf i).toNat)
  case atStart => exact ⟨0, Nat.zero_le _, rfl, bts_none _ _ _, Below.refl _ _⟩
  case round =>
    obtain ⟨k, hk, rfl, hb, hbe⟩ := hrel
    by_cases hlt : k < l.length
    · have p1 : decide ((k : Int) < 8) = true := decide_eq_true (by omega)
      have c1 := (HA.out.below hbe hpos).cell hlt
      have hsz := hbe.size
      have HL := Lib.hid (show l.take k ++ [l[k]'hlt] = l.take (k + 1) from (List.take_succ_eq_append_getElem hlt).symm)
      have hlen : (l.take k).length + 1 ≤ 140737488355328 := by rw [List.length_take]; omega
      have hk2 : (k : Int) < 8 := by omega
      generalize hx : l[k]'hlt = x at *
      clear hx hlt
      go_wp2_with (at_builtin; go_loud (refine wpList_append_byte rfl (.tmp 9) (.tmp 13) 55 rfl 5 i0 Tryd.underlying55 hi hz0 hz1 hz2 _ W wr W.heap.size (l.take k) hb hbe hsz rfl _ x rfl rfl hlen ?_; intro v2 w2 hb2 hbe2))
      go_roundw
      case rel => exact ⟨k + 1, by omega, by go_num, by rw [← HL.out]; exact hb2, hbe2⟩
      case measure => simp [intOf]; omega
    · have p1 : decide ((k : Int) < 8) = false := decide_eq_false (by omega)
      have hkn : k = l.length := by omega
      have hall : l.take k = l := List.take_of_length_le (by omega)
      rw [hall] at hb
      have hcv := Lib.hid (hb.text (P := Tryd.prog) Tryd.underlying55 Tryd.underlying5 Tryd.underlying9)
      have HE2 := Lib.hid (below_on HE.out hbe (by omega))
      clear hkn hall hb hbe
      go_wp2_with fail
      rw [hcv.out]
      go_wp2
      go_ret
      exact ⟨rfl, by rw [HB0.out]; exact HE2.out⟩

def NumRel (l : List UInt8) (W : World) (u i : Value) (wr : World) : Prop :=
  ∃ k : Nat, k ≤ l.length ∧ i = .int .i64 k ∧ u = .int .u64 (beV (l.take k) : Nat) ∧ wr = W
theorem beV_snoc (l : List UInt8) (b : UInt8) : beV (l ++ [b]) = 256 * beV l + b.toNat := by
  unfold beV
  rw [List.reverse_append]
  show b.toNat + 256 * valL l.reverse = _
  omega
theorem beV_bound (l : List UInt8) (h : l.length ≤ 8) : beV l < 18446744073709551616 := by
  have h1 := valL_lt l.reverse
  rw [List.length_reverse] at h1
  have h2 : 256 ^ l.length ≤ 256 ^ 8 := p256 h
  have h3 : 256 ^ 8 = 18446744073709551616 := by decide
  unfold beV; omega
theorem rnumber_any (l : List UInt8) (w : World) (hl : l.length ≤ 8) :
    Calls Tryd.prog 36 #[.string (bA l)] w fun e w' => e = .returned (.int .u64 (beV l : Nat)) ∧ w' = w := by
  have hsz := bA_size l
  go_enter Tryd.func36, Tryd.ntmps36
  go_wp2_with fail
  go_loopw [3, 4] (fun u i wr => NumRel l w u i wr) (fun _ i _ => l.length - (intOf i).toNat)
  case atStart => exact ⟨0, Nat.zero_le _, rfl, rfl, rfl⟩
  case round =>
    obtain ⟨k, hk, rfl, rfl, hwr⟩ := hrel
    rw [hwr]; clear hwr
    by_cases hlt : k < l.length
    · have hlt2 : k < (bA l).size := by omega
      have p1 : decide ((k : Int) < ((bA l).size : Int)) = true := decide_eq_true (by omega)
      have hb := ((bA l)[k]'hlt2).toNat_lt
      have HV := Lib.hid (show beV (l.take (k + 1)) = 256 * beV (l.take k) + ((bA l)[k]'hlt2).toNat by
        rw [List.take_succ_eq_append_getElem hlt, beV_snoc, bA_get l k hlt2 hlt])
      have hbd := beV_bound (l.take (k + 1)) (by rw [List.length_take]; omega)
      have w1 : IntKind.u64.wrap (256 * ((beV (l.take k) : Nat) : Int)) = 256 * ((beV (l.take k) : Nat) : Int) := IntWalk.u64_in _ (by rw [HV.out] at hbd; omega)
      have w2 : IntKind.u64.wrap ((((bA l)[k]'hlt2).toNat : Nat) : Int) = (((bA l)[k]'hlt2).toNat : Int) := IntWalk.u64_in _ (by omega)
      have w3 : IntKind.u64.wrap (256 * ((beV (l.take k) : Nat) : Int) + (((bA l)[k]'hlt2).toNat : Int)) = 256 * ((beV (l.take k) : Nat) : Int) + (((bA l)[k]'hlt2).toNat : Int) := IntWalk.u64_in _ (by rw [HV.out] at hbd; omega)
      clear hbd
      go_wp2
      go_roundw
      case rel => exact ⟨k + 1, by omega, by go_num, by rw [HV.out]; go_num, rfl⟩
      case measure => simp [intOf]; omega
    · have p1 : decide ((k : Int) < ((bA l).size : Int)) = false := decide_eq_false (by omega)
      have hkn : k = l.length := by omega
      have hall : l.take k = l := List.take_of_length_le (by omega)
      rw [hall]
      clear hkn hall
      go_wp2
      go_ret
      exact ⟨rfl, rfl⟩

end Go.Proofs.YtjoafbapffdneaaDoor
