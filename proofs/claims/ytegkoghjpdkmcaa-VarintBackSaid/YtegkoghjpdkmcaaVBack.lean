/- VarintBack, walked. -/
import Derived.Test.YtegkoghjpdkmcaaVShort
import Derived.Deep.RegionHeld3
import Derived.Deep.Cut
import Derived.Deep.DrawnRows
namespace Go.Proofs.Ytegkoghjpdkmcaa
open Go Go.RowKit
set_option linter.unusedVariables false

/-- A number's bytes are read as that number, whatever stands behind. -/
theorem back_read (u : Nat) (rest : ByteArray) (hu : u < 18446744073709551616) :
    (CS.new (bA (vB u) ++ rest)).vVal = u ∧ (CS.new (bA (vB u) ++ rest)).vTo = ⟨bA (vB u) ++ rest, (vB u).length, (vB u).length + rest.size, 0⟩ := by
  have hr : (CS.new (bA (vB u) ++ rest)).rest = vB u ++ rest.data.toList := by
    rw [new_rest]; simp [bA]
  have hsz : (bA (vB u) ++ rest).size = (vB u).length + rest.size := by rw [ByteArray.size_append, bA_size]
  have hl := vlead_VF (vB u) rest.data.toList (VF_vB u)
  have h10 := vB_le10 hu
  have hg : ¬ (9 ≤ vlead (CS.new (bA (vB u) ++ rest)).rest ∧ 1 < (((CS.new (bA (vB u) ++ rest)).rest[9]?).getD 0).toNat) := by
    rw [hr]
    rintro ⟨h1, h2⟩
    have h9 : 9 < (vB u).length := by omega
    rw [List.getElem?_append_left h9, List.getElem?_eq_getElem h9] at h2
    have := vB_tenth hu h9
    simp only [Option.getD_some] at h2
    omega
  have hc : ¬ (CS.new (bA (vB u) ++ rest)).rest.length ≤ vlead (CS.new (bA (vB u) ++ rest)).rest := by
    rw [hr, List.length_append]; omega
  have he : ¬ (CS.new (bA (vB u) ++ rest)).er ≠ 0 := fun h => h rfl
  have hcode : (CS.new (bA (vB u) ++ rest)).vCode = 0 := by unfold CS.vCode; rw [if_neg he, if_neg hg, if_neg hc]
  constructor
  · unfold CS.vVal
    rw [if_pos hcode, hr, hl, List.take_left, vvL_vB]
  · unfold CS.vTo
    rw [if_neg he, if_neg hg, if_neg hc, hr, hl]
    show (⟨bA (vB u) ++ rest, 0 + (vB u).length, (bA (vB u) ++ rest).size, 0⟩ : CS) = _
    rw [hsz, Nat.zero_add]
theorem back_short (u : Nat) (hu : u < 18446744073709551616) : vShort (bA (vB u)) = true := by
  obtain ⟨h1, h2⟩ := back_read u ⟨#[]⟩ hu
  have e : bA (vB u) ++ ⟨#[]⟩ = bA (vB u) := by apply ByteArray.ext; simp
  rw [e] at h1 h2
  refine decide_eq_true ⟨?_, by rw [h1, bA_size]⟩
  rw [h2]
  exact endC_zero.mpr ⟨rfl, by simp [ByteArray.size]⟩

/-- What memory holds while the law looks at its list. -/
def VS (W0 : World) (p : ByteArray) (x : List UInt8) (g : Nat) (w : World) : Prop := Holds w g p x ∧ g < w.heap.size ∧ Below W0.heap.size W0 w
theorem VS.drewN {W0 w : World} {p : ByteArray} {x : List UInt8} {g : Nat} (h : VS W0 p x g w) (n : Nat) : VS W0 p x g (w.drewN n) := ⟨h.1, h.2.1, Below.drewN h.2.2 n⟩
theorem VS.drew {W0 w : World} {p : ByteArray} {x : List UInt8} {g : Nat} (h : VS W0 p x g w) : VS W0 p x g w.drew := ⟨h.1, h.2.1, h.2.2.drew⟩
theorem VS.below {W0 w w' : World} {p : ByteArray} {x : List UInt8} {g : Nat} (h : VS W0 p x g w) (hb : Below w.heap.size w w') : VS W0 p x g w' := by
  obtain ⟨h1, h2, h3⟩ := h
  have := hb.size
  exact ⟨h1.below hb h2, by omega, h3.trans (hb.mono h3.size)⟩
theorem VS.only {W0 w w' : World} {p : ByteArray} {x : List UInt8} {g b : Nat} (h : VS W0 p x g w) (ho : Only b w w') (hb : W0.heap.size ≤ b) (hg : g ≠ b) : VS W0 p x g w' := by
  obtain ⟨h1, h2, h3⟩ := h
  have := ho.size
  exact ⟨fun j hj => (World.cell?_of_block (w := w) (ho.block g h2 hg)).trans (h1 j hj), by omega, h3.trans (ho.below hb h3.size)⟩
theorem vs_drew {W0 w : World} {p : ByteArray} {x : List UInt8} {g : Nat} : VS W0 p x g w.drew ↔ VS W0 p x g w :=
  ⟨fun h => ⟨h.1, h.2.1, ⟨h.2.2.os, h.2.2.tape, h.2.2.output, h.2.2.size, h.2.2.block⟩⟩, VS.drew⟩
theorem vs_drewN {W0 w : World} {n : Nat} {p : ByteArray} {x : List UInt8} {g : Nat} : VS W0 p x g (w.drewN n) ↔ VS W0 p x g w :=
  ⟨fun h => ⟨h.1, h.2.1, ⟨h.2.2.os, h.2.2.tape, h.2.2.output, h.2.2.size, h.2.2.block⟩⟩, fun h => h.drewN n⟩
attribute [local go_sem ↓] Go.wp_at_zero Go.wp_at_succ
attribute [local simp] vs_drew vs_drewN

theorem put_p (a : Option Addr) (cap : Nat) (p : ByteArray) (u : Nat) (w : World) (hp : p.size ≤ 140737488351232) (hu : u < 18446744073709551616) (hin : BIn w a p.data.toList) :
    Calls Try.prog 13 #[.slice a p.size cap, .int .u64 u] w fun e w' => ∃ v, e = .returned v ∧ Bts 5 w' w.heap.size v (p.data.toList ++ vB u) ∧ Below w.heap.size w w' := by
  have := vput_any a cap p.data.toList u w (by rw [toList_size]; exact hp) hu hin
  rw [toList_size] at this; exact this

set_option maxRecDepth 100000 in
set_option maxHeartbeats 4000000 in
theorem vback_nat (p : ByteArray) (u : Nat) (rest : ByteArray) (w : World) (hp : p.size ≤ 140737488351232) (hu : u < 18446744073709551616) (hr : rest.size ≤ 140737488351232) :
    Calls Try.prog 4 #[.string p, .int .u64 u, .string rest] w fun e w' => e = .returned (.bool true) ∧ Below w.heap.size w w' := by
  have hcv := Lib.hid (fun (w : World) => Lib.run_convert_string_bytes (P := Try.prog) w 9 36 5 p Try.underlying9 Try.underlying36 Try.underlying5)
  go_enter Try.func4, Try.ntmps4
  go_wp2_with fail
  rw [hcv.out]
  go_wp2_with fail
  refine (put_p _ _ p u _ hp hu (bytes_in _ _ _)).mono ?_
  rintro e w1 ⟨va, rfl, hta, hba⟩
  have hb1 : Below w.heap.size w w1 := (bytes_below _ _ _).trans (hba.mono (bytes_below _ _ _).size)
  clear hba
  obtain ⟨x, hx⟩ : ∃ x, x = vB u := ⟨_, rfl⟩
  obtain ⟨n, hn⟩ : ∃ n, n = x.length := ⟨_, rfl⟩
  rw [← hx] at hta
  have lx : x.length = n := hn.symm
  have hn0 : 0 < n := by rw [hn, hx]; exact vB_pos u
  have hn10 : n ≤ 10 := by rw [hn, hx]; exact vB_le10 hu
  obtain ⟨g, ca, rfl, ha1, ha2, ha3, ha4⟩ := bts_form lx hn0 hta
  have HVS : VS w p x g w1 := ⟨ha4, ha2, hb1⟩
  have KA : ∀ w', VS w p x g w' → (convert 36 9 (.slice (some ⟨g, 0, none⟩) (p.size + n) ca)).run Try.prog w' = .ok (.string (p ++ bA x)) w' := fun w' h => h.1.all lx Try.underlying36 Try.underlying5 Try.underlying9
  have KD : ∀ (c : Nat) w', VS w p x g w' → (convert 36 9 (.slice (some ⟨g, p.size, none⟩) n c)).run Try.prog w' = .ok (.string (bA x)) w' := fun c w' h => h.1.back lx Try.underlying36 Try.underlying5 Try.underlying9
  have R1 := Lib.hid (fun w => rput_any 10 u w (Nat.lt_of_lt_of_le hu (by decide)) hu)
  have R2 := Lib.hid (fun w => vsize_any u w hu)
  have BR := Lib.hid (back_read u rest hu)
  have BS := Lib.hid (back_short u hu)
  rw [← hx] at R1 R2 BR BS
  rw [lx] at R2 BR
  have sx : (bA x).size = n := by rw [bA_size, lx]
  have R3 := Lib.hid (fun w => vshort_any (bA x) w (by omega))
  rw [BS.out] at R3
  have okx := Lib.hid (new_ok (s := bA x ++ rest) (by rw [ByteArray.size_append]; omega))
  clear hta ha1 ha2 ha4 hb1 BS
  generalize bA x = X at *
  clear hx hn lx
  have s1 : IntKind.i64.wrap (((p.size : Int) + (n : Int)) - (p.size : Int)) = (n : Int) := by rw [IntWalk.i64_in _ (by omega)]; omega
  have l1 : ¬ 9223372036854775807 < p.size + n := by omega
  have l2 : ¬ 9223372036854775807 < n + rest.size := by omega
  have hs4 : (p.size : Int) ≤ (p.size : Int) + (n : Int) := by omega
  have na : ¬ ca = p.size := by omega
  go_wp2_with fail
  go_region_held3 (fun w' => VS w p x g w') (first | go_keep | exact VS.below (by assumption) hbq)
    (first | (go_at_call 14; with_reducible refine (R1.out _).mono ?_; rintro e w' ⟨rfl, hbq⟩) | (go_at_call 15; with_reducible refine (R2.out _).mono ?_; rintro e w' ⟨rfl, rfl⟩))
  rename_i hHeld
  clear KA
  go_wp2_with fail
  with_reducible refine (new_cur _ _ (by rw [ByteArray.size_append]; omega)).mono ?_
  rintro e w2 ⟨b, rfl, hb, hc, hb2⟩
  have v2 := hHeld.below hb2
  have hbW := Lib.hid (Nat.le_trans hHeld.2.2.size hb)
  have hgb : g ≠ b := by have := hHeld.2.1; omega
  have HR := Lib.hid (vread_any hc okx.out)
  rw [BR.out.1, BR.out.2] at HR
  clear hb2 hHeld hc
  go_wp2_with fail
  with_reducible refine HR.out.mono ?_
  rintro e w3 ⟨rfl, hc3, ho3⟩
  have v3 := v2.only ho3 hbW.out hgb
  clear v2 ho3 HR
  go_wp2_with fail
  with_reducible refine (err_any hc3).mono ?_
  rintro e w4 ⟨rfl, hw4⟩
  rw [hw4]
  clear hw4
  have HL := Lib.hid (left_any hc3 ⟨Nat.le_add_right _ _, by show n + rest.size ≤ (X ++ rest).size; rw [ByteArray.size_append]; omega, okx.out.2.2⟩)
  have s2 : (((n + rest.size : Nat) : Int) - (n : Int)) = (rest.size : Int) := by omega
  simp only [s2] at HL
  go_wp2_with fail
  with_reducible refine HL.out.mono ?_
  rintro e w5 ⟨rfl, m, rfl⟩
  have v5 := v3.drewN m
  clear v3 hc3 HL
  generalize w3.drewN m = w6 at *
  go_wp2_with fail
  with_reducible refine (R3.out _).mono ?_
  rintro e w7 ⟨rfl, hb7⟩
  have k7 := Lib.hid (grown_then v5.2.2 hb7)
  go_wp2_with fail
  with_reducible refine (works3_any _).mono ?_
  rintro e w8 ⟨rfl, hb8⟩
  have k8 := Lib.hid (grown_then k7.out hb8)
  clear hb7 hb8
  go_wp2
  go_ret
  exact ⟨rfl, k8.out⟩

theorem vback_any (p : ByteArray) (u : Int) (rest : ByteArray) (w : World) (hp : p.size ≤ 140737488351232) (h1 : 0 ≤ u) (h2 : u ≤ 18446744073709551615) (hr : rest.size ≤ 140737488351232) :
    Calls Try.prog 4 #[.string p, .int .u64 u, .string rest] w fun e w' => e = .returned (.bool true) ∧ Below w.heap.size w w' := by
  obtain ⟨m, rfl⟩ := Int.eq_ofNat_of_zero_le h1
  exact vback_nat p m rest w hp (by omega) hr

end Go.Proofs.Ytegkoghjpdkmcaa
