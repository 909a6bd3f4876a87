/- The document's own varint (package truchmanref03): Put, power, Len; and truchmanref01's New, End. -/
import Derived.Test.YtmcklfndnjagiaaDoorVarPut
import Derived.Test.YtmcklfndnjagiaaDoorRefN
import Derived.Deep.RegionWith
namespace Go.Proofs.YtmcklfndnjagiaaDoor
open Go Go.RowKit
set_option linter.unusedVariables false


def PowRel (n : Nat) (W : World) (u i : Value) (wr : World) : Prop :=
  ∃ k, k ≤ n ∧ i = .int .i64 (k : Nat) ∧ u = .int .u64 ((128 ^ k : Nat) : Int) ∧ wr = W

/-- Len: how many bytes from a place on are one number's; 0: none of these is. -/
def lenN (l : List UInt8) : Nat := if vlead l < l.length ∧ vlead l ≤ 9 then vlead l + 1 else 0

def LenRel (s : ByteArray) (p : Nat) (W : World) (i : Value) (wr : World) : Prop :=
  ∃ k, k ≤ 10 ∧ k ≤ vlead (s.data.toList.drop p) ∧ i = .int .i64 (k : Nat) ∧ wr = W

/-- 'string' of a list of one byte, wherever that lies. -/
theorem text_cell {P : Program} {t e d : TypeId} {g : Nat} {z : Int} {b : UInt8} (w : World) (ht : P.underlying t = some (.slice e)) (he : P.underlying e = some (.int .u8)) (hd : P.underlying d = some .string) (hz : z = (b.toNat : Int)) (h : w.cell? ⟨g, 0, none⟩ = some (.int .u8 z)) :
    (convert t d (.slice (some ⟨g, 0, none⟩) 1 1)).run P w = .ok (.string (bA [b])) w := by
  subst hz
  refine run_convert_bytes_back _ t d e ⟨g, 0, none⟩ 1 [b] ht he hd fun j hj => ?_
  have h0 : j = 0 := by simpa using hj
  subst h0
  exact h

set_option maxRecDepth 4000 in
/-- Put: the document's own bytes of a number, by sevens. -/
theorem rput_any : ∀ (f u : Nat) (w : World), u < 128 ^ f → u < 18446744073709551616 →
    Calls Tryd.prog 53 #[.int .u64 u] w fun e w' => e = .returned (.string (bA (vB u))) ∧ Below w.heap.size w w'
  | f, u, w, hf, hu => by
    by_cases hs : u < 128
    · have p1 : decide ((u : Int) < 128) = true := decide_eq_true (by omega)
      have hz := Lib.hid (show (u : Int) = ((UInt8.ofNat u).toNat : Int) by rw [toNat_ofNat8 (by omega)])
      have hone := Lib.hid (text_one Tryd.prog 52 5 9 w (u : Int) _ hz.out Tryd.underlying52 Tryd.underlying5 Tryd.underlying9)
      have hB := Lib.hid (vB_small hs)
      go_enter Tryd.func53, Tryd.ntmps53
      go_wp2_with fail
      rw [hone.out]
      go_wp2
      go_ret
      exact ⟨by rw [hB.out]; rfl, by go_grown⟩
    · match f, hf with
      | 0, hf => simp at hf; omega
      | f + 1, hf =>
        have hf2 : u / 128 < 128 ^ f := by rw [Nat.pow_succ] at hf; omega
        have p1 : decide ((u : Int) < 128) = false := decide_eq_false (by omega)
        have hB := Lib.hid (vB_great hs)
        have hq : u / 128 < 18446744073709551616 := by omega
        have m1 : (u : Int).tmod 128 = ((u % 128 : Nat) : Int) := by rw [Int.tmod_eq_emod_of_nonneg (by omega)]; omega
        have m2 : (u : Int) / 128 = ((u / 128 : Nat) : Int) := by omega
        have ih := Lib.hid (fun w => rput_any f (u / 128) w hf2 (by omega))
        have hr : u % 128 < 128 := by omega
        have hL := vB_le10 hq
        generalize vB (u / 128) = L at *
        generalize u / 128 = q at *
        generalize u % 128 = r at *
        obtain ⟨b, hb⟩ : ∃ b, b = 128 + r := ⟨_, rfl⟩
        rw [← hb] at hB
        have m3 : IntKind.u64.wrap (128 + (r : Int)) = (b : Int) := by rw [IntWalk.u64_in _ (by omega)]; omega
        have m3'' : IntKind.u64.wrap (b : Int) = (b : Int) := IntWalk.u64_in _ (by omega)
        have m4 : IntKind.u8.wrap (b : Int) = (b : Int) := IntWalk.u8_in _ (by omega)
        have m5 : IntKind.u64.wrap (q : Int) = (q : Int) := IntWalk.u64_in _ (by omega)
        have hb2 : b < 256 := by omega
        clear hb hs
        have K : ∀ (g : Nat) (w' : World), w'.cell? ⟨g, 0, none⟩ = some (.int .u8 (b : Int)) → (convert 52 9 (.slice (some ⟨g, 0, none⟩) 1 1)).run Tryd.prog w' = .ok (.string (bA [UInt8.ofNat b])) w' := fun g w' h =>
          text_cell w' Tryd.underlying52 Tryd.underlying5 Tryd.underlying9 (by rw [toNat_ofNat8 hb2]) h
        have hJ := Lib.hid (bA_append [UInt8.ofNat b] L)
        have s1 : (bA [UInt8.ofNat b]).size = 1 := rfl
        have s2 : (bA L).size ≤ 10 := by rw [bA_size]; exact hL
        have hfin := Lib.hid (show bA (UInt8.ofNat b :: L) = bA [UInt8.ofNat b] ++ bA L from (bA_append [UInt8.ofNat b] L).symm)
        generalize bA [UInt8.ofNat b] = X at *
        generalize bA L = Y at *
        go_enter Tryd.func53, Tryd.ntmps53
        go_wp2
        go_region_with (go_at_call 53; (with_reducible refine (ih.out _).mono ?_); rintro e w' ⟨rfl, hbq⟩; (first | (have hcell : w'.cell? ⟨w.heap.size, 0, none⟩ = some (.int .u8 (b : Int)) := by (rw [hbq.cell (p := ⟨w.heap.size, 0, none⟩) (by simp)]; simp)) | skip); (have hbel := grown_then (w := w) (by go_grown) hbq))
        all_goals go_wp2
        all_goals go_ret
        all_goals refine ⟨by rw [hB.out, hfin.out]; rfl, ?_⟩
        all_goals first | exact hbel | exact hbel.alloc hbel.size _

end Go.Proofs.YtmcklfndnjagiaaDoor
