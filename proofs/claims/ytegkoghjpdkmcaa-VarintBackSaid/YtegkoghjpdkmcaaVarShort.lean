/- Short: the package's, and the document's own. -/
import Derived.Test.YtegkoghjpdkmcaaVarRefB
namespace Go.Proofs.Ytegkoghjpdkmcaa
open Go Go.RowKit
set_option linter.unusedVariables false

/-- Are all of s just the bytes of some number? -/
def vShort (s : ByteArray) : Bool := decide ((CS.new s).vTo.endC = 0 ∧ s.size = (vB (CS.new s).vVal).length)

theorem endC_zero {c : CS} : c.endC = 0 ↔ c.er = 0 ∧ ¬ c.at_ < c.en := by
  unfold CS.endC
  by_cases h : c.er = 0 ∧ c.at_ < c.en
  · rw [if_pos h]; simp [h]
  · rw [if_neg h]
    exact ⟨fun h1 => ⟨h1, fun h2 => h ⟨h1, h2⟩⟩, fun h1 => h1.1⟩
theorem endC_vTo {c : CS} (h : c.vTo.endC = 0) : c.vCode = 0 ∧ c.vTo.at_ = c.at_ + (vlead c.rest + 1) ∧ c.en ≤ c.at_ + (vlead c.rest + 1) := by
  obtain ⟨h1, h2⟩ := endC_zero.mp h
  rw [CS.vTo_er] at h1
  obtain ⟨_, e, _⟩ := CS.vTo_good h1
  rw [e] at h2 ⊢
  exact ⟨h1, rfl, by simpa using h2⟩
theorem new_rest (s : ByteArray) : (CS.new s).rest = s.data.toList := by
  show (s.data.toList.drop 0).take (s.size - 0) = _
  rw [List.drop_zero, List.take_of_length_le (by rw [toList_size]; omega)]
theorem new_ok {s : ByteArray} (h : s.size ≤ 9223372036854775807) : (CS.new s).ok := CS.new_ok h

/-- All of s is read as one number: s is a number's bytes. -/
theorem all_read {s : ByteArray} (h : (CS.new s).vTo.endC = 0) : VF s.data.toList ∧ (CS.new s).vVal = vvL s.data.toList := by
  obtain ⟨h1, h2, h3⟩ := endC_vTo h
  obtain ⟨_, _, hl, _, _⟩ := CS.vTo_good h1
  have hall : (CS.new s).rest.take (vlead (CS.new s).rest + 1) = (CS.new s).rest := by
    apply List.take_of_length_le
    have : (CS.new s).rest.length = s.size := by rw [new_rest, toList_size]
    have h4 : s.size ≤ 0 + (vlead (CS.new s).rest + 1) := h3
    omega
  have hv := VF_take _ hl
  rw [hall, new_rest] at hv
  refine ⟨hv, ?_⟩
  unfold CS.vVal
  rw [if_pos h1, hall, new_rest]
theorem short_bytes {s : ByteArray} (h : (CS.new s).vTo.endC = 0) : s.size = (vB (CS.new s).vVal).length ↔ bA (vB (CS.new s).vVal) = s := by
  obtain ⟨h1, h2⟩ := all_read h
  rw [h2]
  constructor
  · intro h3
    rw [vB_of_length _ h1 (by rw [toList_size]; exact h3.symm)]
    exact ByteArray.ext (by simp [bA])
  · intro h3
    have := congrArg ByteArray.size h3
    rw [bA_size] at this
    exact this.symm

theorem vshort_any (s : ByteArray) (w : World) (hs : s.size ≤ 9223372036854775807) :
    Calls Try.prog 17 #[.string s] w fun e w' => e = .returned (.bool (vShort s)) ∧ Below w.heap.size w w' := by
  have hok := new_ok hs
  have HN := Lib.hid (fun w => new_any s w hs)
  have HT := Lib.hid (CS.vTo_ok hok)
  have HR := Lib.hid (fun (b : Nat) (w : World) h => vread_any (b := b) (w := w) (c := CS.new s) h hok)
  have HV := Lib.hid (CS.vVal_lt (CS.new s))
  by_cases he : (CS.new s).vTo.endC = 0
  · have HE := Lib.hid (show ∀ (b : Nat) (w : World), CurT 43 w b (CS.new s).vTo → Calls Try.prog 19 #[.pointer (some ⟨b, 0, none⟩)] w fun e w' => e = .returned (.int .i64 0) ∧ ∃ n, w' = w.drewN n from fun b w h => by
      have := end_any h HT.out; rw [he] at this; exact this)
    have HZ := Lib.hid (fun w => vsize_any (CS.new s).vVal w HV.out)
    by_cases hz : s.size = (vB (CS.new s).vVal).length
    · have hB := Lib.hid (show vShort s = true from decide_eq_true ⟨he, hz⟩)
      rw [← hz] at HZ
      clear hz he
      generalize (CS.new s).vTo = d at *
      generalize (CS.new s).vVal = v at *
      go_enter Try.func17, Try.ntmps17
      go_wp2_with fail
      with_reducible refine (new_cur s _ hs).mono ?_
      rintro e w1 ⟨b, rfl, hb1, hc1, hbel1⟩
      go_wp2_with fail
      with_reducible refine (HR.out b _ hc1).mono ?_
      rintro e w2 ⟨rfl, hc2, ho2⟩
      have hbel2 := Lib.hid (hbel1.trans (ho2.below hb1 hbel1.size))
      clear ho2 hbel1
      go_wp2_with fail
      with_reducible refine (HE.out b _ hc2).mono ?_
      rintro e w3 ⟨rfl, n, rfl⟩
      go_wp2_with fail
      with_reducible refine (HZ.out _).mono ?_
      rintro e w4 ⟨rfl, hw4⟩
      rw [hw4]
      clear hw4
      go_wp2
      go_ret
      exact ⟨ret_bool hB.out.symm, Below.drewN hbel2.out _⟩
    · have hB := Lib.hid (show vShort s = false from decide_eq_false (fun h => hz h.2))
      have p1 : ((s.size : Int) == ((vB (CS.new s).vVal).length : Int)) = false := beq_eq_false_iff_ne.mpr (by omega)
      clear hz he
      generalize (vB (CS.new s).vVal).length = z at *
      generalize (CS.new s).vTo = d at *
      generalize (CS.new s).vVal = v at *
      go_enter Try.func17, Try.ntmps17
      go_wp2_with fail
      with_reducible refine (new_cur s _ hs).mono ?_
      rintro e w1 ⟨b, rfl, hb1, hc1, hbel1⟩
      go_wp2_with fail
      with_reducible refine (HR.out b _ hc1).mono ?_
      rintro e w2 ⟨rfl, hc2, ho2⟩
      have hbel2 := Lib.hid (hbel1.trans (ho2.below hb1 hbel1.size))
      clear ho2 hbel1
      go_wp2_with fail
      with_reducible refine (HE.out b _ hc2).mono ?_
      rintro e w3 ⟨rfl, n, rfl⟩
      go_wp2_with fail
      with_reducible refine (HZ.out _).mono ?_
      rintro e w4 ⟨rfl, hw4⟩
      rw [hw4]
      clear hw4
      go_wp2
      go_ret
      exact ⟨ret_bool hB.out.symm, Below.drewN hbel2.out _⟩
  · have hB := Lib.hid (show vShort s = false from decide_eq_false (fun h => he h.1))
    have p1 : ((CS.new s).vTo.endC == 0) = false := beq_eq_false_iff_ne.mpr he
    have HE := Lib.hid (show ∀ (b : Nat) (w : World), CurT 43 w b (CS.new s).vTo → Calls Try.prog 19 #[.pointer (some ⟨b, 0, none⟩)] w fun e w' => e = .returned (.int .i64 (CS.new s).vTo.endC) ∧ ∃ n, w' = w.drewN n from fun b w h => end_any h HT.out)
    clear he
    generalize (CS.new s).vTo.endC = z at *
    generalize (CS.new s).vTo = d at *
    generalize (CS.new s).vVal = v at *
    go_enter Try.func17, Try.ntmps17
    go_wp2_with fail
    with_reducible refine (new_cur s _ hs).mono ?_
    rintro e w1 ⟨b, rfl, hb1, hc1, hbel1⟩
    go_wp2_with fail
    with_reducible refine (HR.out b _ hc1).mono ?_
    rintro e w2 ⟨rfl, hc2, ho2⟩
    have hbel2 := Lib.hid (hbel1.trans (ho2.below hb1 hbel1.size))
    clear ho2 hbel1
    go_wp2_with fail
    with_reducible refine (HE.out b _ hc2).mono ?_
    rintro e w3 ⟨rfl, n, rfl⟩
    go_wp2
    go_ret
    exact ⟨ret_bool hB.out.symm, Below.drewN hbel2.out _⟩

theorem vShort_of {s : ByteArray} (h : (CS.new s).vTo.endC = 0) : vShort s = decide (bA (vB (CS.new s).vVal) = s) := by
  unfold vShort
  by_cases hz : s.size = (vB (CS.new s).vVal).length
  · rw [decide_eq_true ⟨h, hz⟩, decide_eq_true ((short_bytes h).mp hz)]
  · rw [decide_eq_false (fun x => hz x.2), decide_eq_false (fun x => hz ((short_bytes h).mpr x))]
theorem ref_endC {c d : CS} (h1 : d.er = c.vCode) (h2 : c.vCode = 0 → d = c.vTo) : d.endC = 0 ↔ c.vTo.endC = 0 := by
  by_cases h : c.vCode = 0
  · rw [h2 h]
  · rw [endC_zero, endC_zero, h1, CS.vTo_er]
    exact ⟨fun x => absurd x.1 h, fun x => absurd x.1 h⟩

set_option maxHeartbeats 1000000 in
theorem rshort_any (s : ByteArray) (w : World) (hs : s.size ≤ 140737488351232) :
    Calls Try.prog 18 #[.string s] w fun e w' => e = .returned (.bool (vShort s)) ∧ Below w.heap.size w w' := by
  have hok := new_ok (s := s) (by omega)
  have HN := Lib.hid (fun w => ref_new s w (by omega))
  have HR := Lib.hid (fun (w : World) => rread_any (CS.new s) w hok hs)
  have HV := Lib.hid (CS.vVal_lt (CS.new s))
  go_enter Try.func18, Try.ntmps18
  go_wp2_with fail
  with_reducible refine (HN.out _).mono ?_
  rintro e w1 ⟨rfl, hbel1⟩
  go_wp2_with fail
  refine (HR.out _).mono ?_
  rintro e w2 ⟨d, rfl, d1, d2, d3, d4, d5, hbel2⟩
  have hb2 := Lib.hid (hbel1.trans (hbel2.mono hbel1.size))
  have hec := Lib.hid (ref_endC d1 d2)
  have hdv := Lib.hid (show d.val = .agg #[.string d.s, .int .i64 d.at_, .int .i64 d.en, .int .i64 d.er] from rfl)
  clear hbel1 hbel2 d1 d2 d3 d4 d5
  rw [hdv.out]
  by_cases he : (CS.new s).vTo.endC = 0
  · have hd0 := hec.out.mpr he
    have HE := Lib.hid (show ∀ w, Calls Try.prog 25 #[.agg #[.string d.s, .int .i64 d.at_, .int .i64 d.en, .int .i64 d.er]] w fun e w' => e = .returned (.int .i64 0) ∧ Below w.heap.size w w' from fun w => by
      have := ref_end d w; rw [hd0] at this; exact this)
    have HP := Lib.hid (fun w => rput_any 10 (CS.new s).vVal w (Nat.lt_of_lt_of_le HV.out (by decide)) HV.out)
    have hB := Lib.hid (vShort_of he)
    clear hd0 he
    generalize (CS.new s).vVal = v at *
    generalize bA (vB v) = X at *
    go_wp2_with fail
    with_reducible refine (HE.out _).mono ?_
    rintro e w3 ⟨rfl, hbel3⟩
    have hb3 := Lib.hid (Below.trans (show Below w.heap.size w _ from Below.alloc hb2.out (by have := hb2.out.size; omega) _) (Below.mono hbel3 (by have := hb2.out.size; simp; omega)))
    clear hbel3
    go_wp2_with fail
    with_reducible refine (HP.out _).mono ?_
    rintro e w4 ⟨rfl, hbel4⟩
    have hb4 := Lib.hid (hb3.out.trans (hbel4.mono hb3.out.size))
    clear hbel4
    go_wp2
    go_ret
    refine ⟨ret_bool ?_, hb4.out⟩
    rw [hB.out]
    exact text_eq _ _
  · have p1 : (d.endC == 0) = false := beq_eq_false_iff_ne.mpr (fun h => he (hec.out.mp h))
    have HE := Lib.hid (fun w => ref_end d w)
    have hB := Lib.hid (show vShort s = false from decide_eq_false (fun h => he h.1))
    clear he
    generalize d.endC = z at *
    go_wp2_with fail
    with_reducible refine (HE.out _).mono ?_
    rintro e w3 ⟨rfl, hbel3⟩
    have hb3 := Lib.hid (Below.trans (show Below w.heap.size w _ from Below.alloc hb2.out (by have := hb2.out.size; omega) _) (Below.mono hbel3 (by have := hb2.out.size; simp; omega)))
    clear hbel3
    go_wp2
    go_ret
    exact ⟨ret_bool hB.out.symm, hb3.out⟩

end Go.Proofs.Ytegkoghjpdkmcaa
