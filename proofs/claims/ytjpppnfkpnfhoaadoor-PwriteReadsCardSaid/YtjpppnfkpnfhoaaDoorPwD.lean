/- Package pwrite: a message's put: its parts in order, each asked through the interface. -/
import Derived.Test.YtjpppnfkpnfhoaaDoorPwC
namespace Go.Proofs.YtjpppnfkpnfhoaaDoor
open Go Go.RowKit
set_option linter.unusedVariables false

def MpRel (B b : Nat) (X : List FD) (l : List UInt8) (w : World) (i : Value) (wr : World) : Prop := ∃ j : Nat, j ≤ X.length ∧ i = .int .i64 (j : Nat) ∧ IsBld B b (bV (l ++ pB (X.take j))) wr ∧ BW B b w wr
theorem mput_step {T : Prop} {k : Nat} (hI : ∀ m, k = m + 1 → MPut T m) : MPut T k := by
  intro B b mb off u X l w hc hr h hBw ht hlen
  have hl := pB_long X hr.oks
  have HL := Lib.hid hlen
  have HB := Lib.hid hBw
  have HT := Lib.hid ht
  have HI := Lib.hid hI
  have HR := Lib.hid hr
  have HK := Lib.hid h
  have hXl : X.length ≤ 70368744177664 := by omega
  obtain ⟨a, cap, hu, _⟩ := hr
  subst hu
  clear hlen hBw ht hI h hl
  go_enter Tryd.func20, Tryd.ntmps20
  go_wp2_with fail
  go_loopw [11] (fun i wr => MpRel B b X l w i wr) (fun i _ => X.length - (intOf i).toNat)
  case atStart => exact ⟨0, Nat.zero_le _, rfl, by simpa [pB_nil] using HK.out, BW.refl _ _ _⟩
  case round =>
    obtain ⟨j, hj, rfl, hb, hk⟩ := hrel
    have HB2 := Lib.hid hb
    have HK2 := Lib.hid hk
    clear hb hk
    by_cases hlt : j < X.length
    · have p1 : decide ((j : Int) < (X.length : Int)) = true := decide_eq_true (by omega)
      obtain ⟨a', cap', hu', hjj⟩ := HR.out.mono (HK2.out.kp HK.out) fun q y hq => PartV.kp hq (HK2.out.kp HK.out)
      obtain ⟨g, cs, ea, hg, t, y, hy, hp⟩ := hjj j hlt
      have hok := hp.ok
      simp only [Value.slice.injEq] at hu'
      obtain ⟨rfl, -, -⟩ := hu'
      subst ea
      have cA : wr.cell? ⟨g, j, none⟩ = some (.iface t y) := by rw [Lib.cell_of_heap hg]; exact hy
      have hx := Lib.hid (pB_take X j hlt)
      have hle := pB_take_le X (j + 1)
      rw [hx.out, List.length_append] at hle
      have HLE := Lib.hid hle
      clear hle hjj hg hy
      cases k with
      | zero => exact False.elim hp
      | succ m =>
        obtain ⟨_, hp⟩ := hp
        rcases hp with e | ⟨u2, X2, e, htag, h2, h3, h4, hr2⟩
        · obtain ⟨⟨n, v, q, s⟩, hx0⟩ : ∃ x, x = X[j] := ⟨_, rfl⟩
          rw [← hx0] at e hok hx HLE
          simp only [pfI, pfV, Value.iface.injEq] at e
          obtain ⟨rfl, rfl⟩ := e
          have HF := Lib.hid (fwr4 B b n v q s (l ++ pB (X.take j)) wr hok (HT.out.below HK2.out.bel) HB2.out (by have := HK2.out.bel.size; have := HB.out; omega) (by rw [List.length_append]; have := HL.out; have := HLE.out; omega))
          clear hok hx0
          go_wp2_with fail
          refine HF.out.mono ?_
          rintro e w2 ⟨rfl, h2, k2⟩
          have E2 := Lib.hid (show IsBld B b (bV (l ++ pB (X.take (j + 1)))) w2 by rw [hx.out, ← List.append_assoc]; exact h2)
          have W2 := Lib.hid (HK2.out.trans k2)
          clear h2 k2 HF
          go_wp2
          go_roundw
          case rel => exact ⟨j + 1, by omega, by go_num, E2.out, W2.out⟩
          case measure => simp [intOf]; omega
        · have hz : (pB X2).length ≤ 1099511627776 := by
            have h5 := hok.txt
            rw [h4] at h5
            have e5 : (bA (pB X2)).size = (pB X2).length := by rw [← toList_size, toList_bA]
            rwa [e5] at h5
          obtain ⟨⟨n, v, q, s⟩, hx0⟩ : ∃ x, x = X[j] := ⟨_, rfl⟩
          rw [← hx0] at e hok hx HLE htag h2 h3 h4
          simp only at e htag h2 h3 h4
          subst h2 h3 h4
          simp only [pwI, Value.iface.injEq] at e
          obtain ⟨rfl, rfl⟩ := e
          have HF := Lib.hid (wwr_any (HI.out m rfl) B b n u2 X2 (l ++ pB (X.take j)) wr htag hr2 (HT.out.below HK2.out.bel) HB2.out (by have := HK2.out.bel.size; have := HB.out; omega) hz (by rw [List.length_append]; have := HL.out; have := HLE.out; omega))
          clear hok hx0 hr2 hz
          go_wp2_with fail
          refine HF.out.mono ?_
          rintro e w2 ⟨rfl, h2, k2⟩
          have E2 := Lib.hid (show IsBld B b (bV (l ++ pB (X.take (j + 1)))) w2 by rw [hx.out, ← List.append_assoc]; exact h2)
          have W2 := Lib.hid (HK2.out.trans k2)
          clear h2 k2 HF
          go_wp2
          go_roundw
          case rel => exact ⟨j + 1, by omega, by go_num, E2.out, W2.out⟩
          case measure => simp [intOf]; omega
    · obtain rfl : j = X.length := by omega
      have p1 : decide ((X.length : Int) < (X.length : Int)) = false := decide_eq_false (by omega)
      rw [List.take_length] at HB2
      go_wp2
      go_end0
      exact ⟨rfl, HB2.out, HK2.out⟩
theorem mput_any (T : Prop) : ∀ k, MPut T k
  | 0 => mput_step fun m h => absurd h (by omega)
  | k + 1 => mput_step fun m h => by
    obtain rfl : m = k := by omega
    exact mput_any T m
end Go.Proofs.YtjpppnfkpnfhoaaDoor
