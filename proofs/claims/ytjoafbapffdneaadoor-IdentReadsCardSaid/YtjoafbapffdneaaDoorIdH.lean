/- The document's own names: bytes of a name. -/
import Derived.Test.YtjoafbapffdneaaDoorIdG
namespace Go.Proofs.YtjoafbapffdneaaDoor
open Go Go.RowKit
set_option linter.unusedVariables false

/-- The bytes of a name of k bytes whose digits s is, as a text; none, if there is none. -/
def rbT (k : Nat) (s : ByteArray) : ByteArray := if nmC k s = 0 then bA (nmL k s) else ⟨#[]⟩
theorem nmC_is (k : Nat) (s : ByteArray) : nmC k s = 0 ↔ nmIs k s = true ∧ ¬ nmL k s = zs k := by
  constructor
  · intro h
    by_cases hy : nmIs k s = true
    · refine ⟨hy, fun hz => ?_⟩
      rw [(nm_yes hy).2, if_pos hz] at h; omega
    · rw [(nm_no hy).2] at h; omega
  · rintro ⟨hy, hz⟩
    rw [(nm_yes hy).2, if_neg hz]
def RbRel (k : Nat) (L : List UInt8) (W : World) (x y i : Value) (wr : World) : Prop :=
  ∃ j : Nat, j ≤ k ∧ i = .int .i64 j ∧ L.take j = zs j ∧ x = .string ⟨#[]⟩ ∧ y = .int .i64 0 ∧ wr = W
set_option maxHeartbeats 1000000 in
theorem rbytes_any (k : Nat) (s : ByteArray) (w : World) (hs : s.size ≤ 140737488351232) (hk : k ≤ 16) :
    Calls Tryd.prog 30 #[.string s, .int .i64 k] w fun e w' => e = .returned (.tuple #[.string (rbT k s), .int .i64 (nmC k s)]) ∧ Below w.heap.size w w' := by
  have R := Lib.hid (rread_any s w hs)
  by_cases hy : nmIs k s = true
  · have hn := nmL_length k s
    have hsz : (bA (nmL k s)).size = k := by rw [bA_size, hn]
    have e1 : hC s = 0 ∧ hT s = bA (nmL k s) := by
      have := nm_yes hy
      simp only [nmIs, Bool.and_eq_true, decide_eq_true_eq] at hy
      rw [this.1]
      exact ⟨hC_yes hy.2, hT_yes hy.2⟩
    have C2 := Lib.hid (nm_yes hy).2
    have C3 := Lib.hid (show rbT k s = if nmL k s = zs k then ⟨#[]⟩ else bA (nmL k s) by
      unfold rbT
      by_cases hz : nmL k s = zs k
      · rw [if_neg (fun h => ((nmC_is k s).mp h).2 hz), if_pos hz]
      · rw [if_pos ((nmC_is k s).mpr ⟨hy, hz⟩), if_neg hz])
    rw [e1.1, e1.2] at R
    clear hy e1
    generalize nmL k s = L at *
    have q1 : (((bA L).size : Int) != (k : Int)) = false := by simp; omega
    go_enter Tryd.func30, Tryd.ntmps30
    go_wp2_with fail
    with_reducible refine R.out.mono ?_
    rintro e w1 ⟨rfl, h1⟩
    have H1 := Lib.hid h1
    clear h1 R
    go_wp2_with fail
    go_loopw [4, 5, 8] (fun x y i wr => RbRel k L w1 x y i wr) (fun _ _ i _ => k - (intOf i).toNat)
    case atStart => exact ⟨0, Nat.zero_le _, rfl, rfl, rfl, rfl, rfl⟩
    case round =>
      obtain ⟨j, hj, rfl, hz, rfl, rfl, hwr⟩ := hrel
      rw [hwr]; clear hwr
      by_cases hlt : j < k
      · have p1 : decide ((j : Int) < (k : Int)) = true := decide_eq_true (by omega)
        have hlt2 : j < (bA L).size := by omega
        have hlt3 : j < L.length := by omega
        have hgt := bA_get L j hlt2 hlt3
        by_cases h0 : ((bA L)[j]'hlt2) = 0
        · have q2 : ((((bA L)[j]'hlt2).toNat : Int) != 0) = false := by rw [h0]; rfl
          have HZ := Lib.hid (show L.take (j + 1) = zs (j + 1) by
            rw [List.take_succ_eq_append_getElem hlt3, hz, ← hgt, h0]
            unfold zs
            rw [← List.replicate_succ'])
          clear h0 hz hgt
          go_wp2
          go_roundw
          case rel => exact ⟨j + 1, by omega, by go_num, HZ.out, rfl, rfl, rfl⟩
          case measure => simp [intOf]; omega
        · have q2 : ((((bA L)[j]'hlt2).toNat : Int) != 0) = true := by
            rw [bne_iff_ne]
            intro h; exact h0 (UInt8.toNat_inj.mp (by show _ = 0; omega))
          have HN := Lib.hid (show ¬ L = zs k from fun h => h0 (by
            rw [hgt]; subst h; simp [zs]))
          clear h0 hz hgt
          go_wp2
          go_ret2
          exact ⟨ret_read (by rw [C3.out, if_neg HN.out]) (by rw [C2.out, if_neg HN.out]), H1.out⟩
      · have p1 : decide ((j : Int) < (k : Int)) = false := decide_eq_false (by omega)
        have hjk : j = k := by omega
        have HN := Lib.hid (show L = zs k by rw [hjk, List.take_of_length_le (by omega)] at hz; exact hz)
        clear hz hjk
        go_wp2
        go_ret2
        exact ⟨ret_read (by rw [C3.out, if_pos HN.out]) (by rw [C2.out, if_pos HN.out]), H1.out⟩
  · have C2 := Lib.hid (nm_no hy).2
    have C3 := Lib.hid (show rbT k s = ⟨#[]⟩ by unfold rbT; rw [if_neg (fun h => hy ((nmC_is k s).mp h).1)])
    by_cases ho : hOK s.data.toList = true
    · have e1 := hC_yes ho
      have hne : ((hT s).size : Int) ≠ (k : Int) := by
        intro h
        apply hy
        have h2 := uh_even s.data.toList
        rw [toList_size] at h2
        rw [hT_yes ho, bA_size] at h
        have h3 : s.size % 2 = 0 := by
          have := ho
          simp only [hOK, Bool.and_eq_true, decide_eq_true_eq] at this
          rw [toList_size] at this; exact this.1
        simp only [nmIs, Bool.and_eq_true, decide_eq_true_eq]
        exact ⟨by omega, ho⟩
      have q1 : (((hT s).size : Int) != (k : Int)) = true := bne_iff_ne.mpr hne
      rw [e1] at R
      clear hy ho e1 hne
      generalize hT s = T at *
      go_enter Tryd.func30, Tryd.ntmps30
      go_wp2_with fail
      with_reducible refine R.out.mono ?_
      rintro e w1 ⟨rfl, h1⟩
      have H1 := Lib.hid h1
      clear h1 R
      go_wp2
      go_ret2
      exact ⟨ret_read C3.out.symm C2.out.symm, H1.out⟩
    · have e1 := hC_no ho
      rw [e1] at R
      clear hy ho e1
      go_enter Tryd.func30, Tryd.ntmps30
      go_wp2_with fail
      with_reducible refine R.out.mono ?_
      rintro e w1 ⟨rfl, h1⟩
      have H1 := Lib.hid h1
      clear h1 R
      go_wp2
      go_ret2
      exact ⟨ret_read C3.out.symm C2.out.symm, H1.out⟩

end Go.Proofs.YtjoafbapffdneaaDoor
