/- Package pwrite: put: a message within, a message's parts, called through the interface. -/
import Derived.Test.YtjpppnfkpnfhoaaPwB
namespace Go.Proofs.Ytjpppnfkpnfhoaa
open Go Go.RowKit
set_option linter.unusedVariables false

/-- A message's put, where messages within are at most k deep. -/
def MPut (T : Prop) (k : Nat) : Prop := ∀ (B b mb off : Nat) (u : Value) (X : List FD) (l : List UInt8) (w : World), w.cell? ⟨mb, off, none⟩ = some u → RowOf (fun q y => PartV T k w q y) w u X → IsBld B b (bV l) w → B ≤ w.heap.size → Tb T B w → l.length + (pB X).length ≤ 70368744177664 →
  Calls Try.prog 22 #[.pointer (some ⟨mb, off, none⟩), .pointer (some ⟨b, 0, none⟩)] w fun e w' => e = .returned (.tuple #[]) ∧ IsBld B b (bV (l ++ pB X)) w' ∧ BW B b w w'

theorem wwr_any {T : Prop} {k : Nat} (hM : MPut T k) (B b : Nat) (n : Int) (u : Value) (X : List FD) (l : List UInt8) (w : World) (hn : tagB n 2 = true) (hr : RowOf (fun q y => PartV T k w q y) w u X) (ht : Tb T B w) (h : IsBld B b (bV l) w) (hBw : B ≤ w.heap.size) (hX : (pB X).length ≤ 1099511627776) (hlen : l.length + (pBs (n, 2, 0, bA (pB X))).length ≤ 70368744177664) :
    Calls Try.prog 49 #[pwV n u ((pB X).length : Nat), .pointer (some ⟨b, 0, none⟩)] w fun e w' => e = .returned (.tuple #[]) ∧ IsBld B b (bV (l ++ pBs (n, 2, 0, bA (pB X)))) w' ∧ BW B b w w' := by
  have hR0 : pBs (n, 2, 0, bA (pB X)) = tagL n 2 ++ (vB (pB X).length ++ pB X) := by rw [pBs_two, if_pos hn]
  rw [hR0] at hlen ⊢
  have HL := Lib.hid (show l.length + ((tagL n 2).length + ((vB (pB X).length).length + (pB X).length)) ≤ 70368744177664 by rw [List.length_append, List.length_append] at hlen; exact hlen)
  have HG := Lib.hid (fun w => wtag_any n u ((pB X).length : Nat) w)
  have HP := Lib.hid (fun w => tput_nil n 2 w)
  have HV := Lib.hid (fun w => vput_nil (pB X).length w (by omega))
  have e0 : IntKind.u64.wrap ((pB X).length : Int) = ((pB X).length : Int) := IntWalk.u64_in _ (by omega)
  have hTne := Lib.hid (tagL_ne hn)
  have hVne := Lib.hid (vB_ne (pB X).length)
  have F := Lib.hid (wt_grow 55 w n u ((pB X).length : Nat))
  have A0 := Lib.hid (wt_alloc 55 w n u ((pB X).length : Nat))
  have hlt := h.lt.2.1
  have hBb := h.lt.1
  have H0 := Lib.hid (h.below F.out)
  have HT := Lib.hid ht
  have HR := Lib.hid hr
  have HB := Lib.hid hBw
  have W0 := Lib.hid (show BW B b w _ from BW.of F.out hBw)
  have HK := Lib.hid h
  have HM := Lib.hid hM
  generalize hz : ((pB X).length : Nat) = Z at *
  have HZ := Lib.hid hz
  clear hlen hR0 hn hr ht hBw h hM hX hz
  obtain ⟨f, hf⟩ : ∃ f, f = w.heap.size := ⟨_, rfl⟩
  have c0 := A0.out.c0; have c1 := A0.out.c1; have c2 := A0.out.c2
  go_enter Try.func49, Try.ntmps49
  go_wp2_with fail
  refine (HG.out _).mono ?_
  rintro e w1 ⟨rfl, b1⟩
  have K1 := Lib.hid (And.intro (H0.out.below b1) (And.intro (W0.out.trans (BW.of b1 (by simp; have := HB.out; omega))) (A0.out.at (b1.block _ A0.out.lt))))
  have s1 := b1.size
  simp only [World.size_alloc] at s1
  clear b1 c0 c1 c2 H0 W0 A0
  go_wp2_with fail
  refine (HP.out _).mono ?_
  rintro e w2 ⟨u2, rfl, hu2, b2⟩
  have K2 := Lib.hid (And.intro (K1.out.1.below b2) (And.intro (K1.out.2.1.trans (BW.of b2 (by have := HB.out; omega))) (K1.out.2.2.at (b2.block _ (by omega)))))
  have U2 := Lib.hid hu2
  have s2 := b2.size
  clear b2 hu2 K1
  go_wp2_with fail
  refine (bwb_any B b _ u2 l (tagL n 2) w2 K2.out.1 U2.out hTne.out (by omega) (by have := HL.out; omega) (by have := HB.out; omega)).mono ?_
  rintro e w3 ⟨rfl, h3, k3⟩
  have K3 := Lib.hid (And.intro h3 (And.intro (K2.out.2.1.trans k3) (k3.wt K2.out.2.2 (by omega))))
  have s3 := k3.bel.size
  have c2 := K3.out.2.2.c2
  clear h3 k3 K2 U2 HG HP hTne
  go_wp2_with fail
  refine (HV.out _).mono ?_
  rintro e w4 ⟨u4, rfl, hu4, b4⟩
  have K4 := Lib.hid (And.intro (K3.out.1.below b4) (And.intro (K3.out.2.1.trans (BW.of b4 (by have := HB.out; omega))) (K3.out.2.2.at (b4.block _ (by omega)))))
  have U4 := Lib.hid hu4
  have s4 := b4.size
  clear b4 hu4 K3 c2
  go_wp2_with fail
  refine (bwb_any B b _ u4 (l ++ tagL n 2) (vB Z) w4 K4.out.1 U4.out hVne.out (by omega) (by rw [List.length_append]; have := HL.out; omega) (by have := HB.out; omega)).mono ?_
  rintro e w5 ⟨rfl, h5, k5⟩
  have K5 := Lib.hid (And.intro h5 (And.intro (K4.out.2.1.trans k5) (k5.wt K4.out.2.2 (by omega))))
  have s5 := k5.bel.size
  clear h5 k5 K4 U4 HV hVne
  go_wp2_with fail
  refine (HM.out B b w.heap.size 1 u X (l ++ tagL n 2 ++ vB Z) w5 K5.out.2.2.c1 (HR.out.mono (K5.out.2.1.kp HK.out) fun q y hq => hq.kp (K5.out.2.1.kp HK.out)) K5.out.1 (by have := HB.out; omega) (HT.out.below K5.out.2.1.bel) (by rw [List.length_append, List.length_append, HZ.out]; have := HL.out; omega)).mono ?_
  rintro e w6 ⟨rfl, h6, k6⟩
  have K6 := Lib.hid (And.intro h6 (K5.out.2.1.trans k6))
  clear h6 k6 K5
  go_wp2
  go_end0
  refine ⟨rfl, ?_, K6.out.2⟩
  have := K6.out.1
  rwa [List.append_assoc, List.append_assoc] at this
end Go.Proofs.Ytjpppnfkpnfhoaa
