/- A field's bytes are read as that field, but for what its wire type does not keep. Of no program. -/
import Derived.Test.YtjpppnfkpnfhoaaDoorZJ
namespace Go.Proofs.YtjpppnfkpnfhoaaDoor
open Go Go.RowKit
set_option linter.unusedVariables false

/-- A number's bytes are read as that number, whatever stands behind. -/
theorem lv_back (u : Nat) (m : List UInt8) (hu : u < 18446744073709551616) : lvC (vB u ++ m) = 0 ∧ lvK (vB u ++ m) = (vB u).length ∧ lvV (vB u ++ m) = u := by
  have hl := vlead_VF (vB u) m (VF_vB u)
  have h10 := vB_le10 hu
  have hk : lvK (vB u ++ m) = (vB u).length := hl
  have hc : lvC (vB u ++ m) = 0 := by
    unfold lvC
    rw [if_neg, if_neg]
    · rw [List.length_append]; omega
    · rintro ⟨h1, h2⟩
      have h9 : 9 < (vB u).length := by omega
      rw [List.getElem?_append_left h9, List.getElem?_eq_getElem h9] at h2
      have := vB_tenth hu h9
      simp only [Option.getD_some] at h2
      omega
  refine ⟨hc, hk, ?_⟩
  unfold lvV
  rw [if_pos hc, hk, List.take_left, vvL_vB]
/-- What of Num, of Text a field of wire type v keeps. -/
def kU (v : Int) (u : Nat) : Nat := if v = 2 then 0 else if v = 5 then u % 4294967296 else u
def kS (v : Int) (s : ByteArray) : ByteArray := if v = 2 then s else ⟨#[]⟩
theorem cRd_back {v : Int} (h : v = 0 ∨ v = 1 ∨ v = 2 ∨ v = 5) (u : Nat) (s : ByteArray) (hu : u < 18446744073709551616) (hs : s.size ≤ 140737488351232) :
    cRd v (bB v u s) = (0, (bB v u s).length, kU v u, kS v s) := by
  rcases h with rfl | rfl | rfl | rfl
  · obtain ⟨a1, a2, a3⟩ := lv_back u [] hu
    rw [List.append_nil] at a1 a2 a3
    have e : bB 0 u s = vB u := rfl
    have e1 : kU 0 u = u := rfl
    have e2 : kS 0 s = ⟨#[]⟩ := rfl
    rw [e, e1, e2]
    unfold cRd
    rw [if_pos rfl, if_neg (by rw [a1]; simp), a2, a3]
  · have a1 : (lowL u 8).length = 8 := lowL_length 8 u
    have a2 : valL (lowL u 8) = u := by rw [valL_lowL, Nat.mod_eq_of_lt hu]
    have e : bB 1 u s = lowL u 8 := rfl
    have e1 : kU 1 u = u := rfl
    have e2 : kS 1 s = ⟨#[]⟩ := rfl
    rw [e, e1, e2]
    unfold cRd
    rw [if_neg (by decide), if_pos rfl, if_neg (by rw [a1]; omega), List.take_of_length_le (by rw [a1]; omega), a1, a2]
  · obtain ⟨a1, a2, a3⟩ := lv_back s.size s.data.toList (by omega)
    have hz := toList_size s
    have e : bB 2 u s = vB s.size ++ s.data.toList := rfl
    have e1 : kU 2 u = 0 := rfl
    have e2 : kS 2 s = s := rfl
    rw [e, e1, e2]
    unfold cRd
    rw [if_neg (by decide), if_neg (by decide), if_neg (by decide), if_neg (by rw [a1]; simp), a2, a3, if_neg (by rw [List.length_append]; omega), List.drop_left, List.take_of_length_le (by omega), List.length_append, hz]
    rfl
  · have a1 : (lowL u 4).length = 4 := lowL_length 4 u
    have a2 : valL (lowL u 4) = u % 4294967296 := by rw [valL_lowL]
    have e : bB 5 u s = lowL u 4 := rfl
    have e1 : kU 5 u = u % 4294967296 := rfl
    have e2 : kS 5 s = ⟨#[]⟩ := rfl
    rw [e, e1, e2]
    unfold cRd
    rw [if_neg (by decide), if_neg (by decide), if_pos rfl, if_neg (by rw [a1]; omega), List.take_of_length_le (by rw [a1]; omega), a1, a2]
theorem fRd_back {n v : Int} (h : tagB n v = true) (u : Nat) (s : ByteArray) (hu : u < 18446744073709551616) (hs : s.size ≤ 140737488351232) :
    fRd (fB n v u s) = (0, (fB n v u s).length, (n, v, kU v u, kS v s)) := by
  have hU := tagU_lt h
  have hL : tagL n v = vB (tagU n v) := if_pos h
  obtain ⟨a1, a2, a3⟩ := lv_back (tagU n v) (bB v u s) (by omega)
  obtain ⟨b1, b2⟩ := tagU_back h
  have ht := tag_yes h
  have hN : ¬ mN (tagU n v) = 0 := by omega
  have hc := cRd_back ht.2.2 u s hu hs
  have hf : fB n v u s = vB (tagU n v) ++ bB v u s := by unfold fB; rw [if_pos h, hL]
  rw [hf]
  unfold fRd
  rw [if_neg (by rw [a1]; simp), a3, if_neg hN, a2, List.drop_left, b1, b2, hc, if_neg (by simp), List.length_append]
theorem fAll_back {n v : Int} (h : tagB n v = true) (u : Nat) (s : ByteArray) (hu : u < 18446744073709551616) (hs : s.size ≤ 140737488351232) :
    fAll (fB n v u s) = ([(n, v, kU v u, kS v s)], 0) := by
  have hr := fRd_back h u s hu hs
  have hne : fB n v u s ≠ [] := by
    unfold fB
    rw [if_pos h]
    have := tagL_ne h
    simp [this]
  rw [fAll_more hne (by rw [hr]), hr]
  simp only [List.drop_length, fAll_nil]
  simp
theorem fB_no {n v : Int} (h : tagB n v = false) (u : Nat) (s : ByteArray) : fB n v u s = [] := by unfold fB; rw [h]; rfl
end Go.Proofs.YtjpppnfkpnfhoaaDoor
