/- CursorParts, walked: it returns true, whatever the text and the parts are, and turns nothing that was there. -/
import Derived.Test.YtikjckdeciagiaaWorks
namespace Go.Proofs.Ytikjckdeciagiaa
open Go Go.RowKit
set_option linter.unusedVariables false

def PartsSaid (W : World) (e : Ending) (w' : World) : Prop := e = .returned (.bool true) ∧ Below W.heap.size W w'

theorem extract_join (s : ByteArray) (p n : Nat) : s.extract 0 p ++ s.extract p (p + n) = s.extract 0 (p + n) := by
  rw [ByteArray.extract_append_extract]
  congr 1 <;> omega
theorem extract_all (s : ByteArray) : s.extract 0 s.size = s := by simp

def PRel (s : ByteArray) (len B1 B2 : Nat) (W : World) (a b i : Value) (wr : World) : Prop :=
  ∃ (p k : Nat) (A : ByteArray), p ≤ s.size ∧ k ≤ len ∧ i = .int .i64 k ∧ a = .string A ∧ b = .string A ∧ A = s.extract 0 p ∧ CurT 53 wr B1 ⟨s, p, s.size, 0⟩ ∧ CurT 53 wr B2 ⟨s, p, s.size, 0⟩ ∧ B1 ≠ B2 ∧ W.heap.size ≤ B1 ∧ W.heap.size ≤ B2 ∧ Below W.heap.size W wr

theorem PRel.drewN {s : ByteArray} {len B1 B2 : Nat} {W wr : World} {a b i : Value} (h : PRel s len B1 B2 W a b i wr) (n : Nat) : PRel s len B1 B2 W a b i (wr.drewN n) := by
  obtain ⟨p, k, A, h1, h2, h3, h4, h5, h6, h7, h8, h9, h10, h11, h12⟩ := h
  exact ⟨p, k, A, h1, h2, h3, h4, h5, h6, h7.drewN n, h8.drewN n, h9, h10, h11, Below.drewN h12 n⟩

theorem rest_ok {s : ByteArray} {p : Nat} (hs : s.size ≤ 9223372036854775807) (hp : p ≤ s.size) : CS.ok ⟨s, p, s.size, 0⟩ := ⟨hp, Nat.le_refl _, hs⟩

theorem tk_any {s T : ByteArray} {p m b : Nat} {N : Int} {w : World} (hN : Hid (N = (m : Int))) (hm : p + m ≤ s.size) (hT : Hid (T = s.extract p (p + m))) (hs : s.size ≤ 9223372036854775807) (h : CurT 53 w b ⟨s, p, s.size, 0⟩) :
    Calls Try.prog 13 #[.pointer (some ⟨b, 0, none⟩), .int .i64 N] w fun e w' => e = .returned (.string T) ∧ CurT 53 w' b ⟨s, p + m, s.size, 0⟩ ∧ Only b w w' := by
  have hN' := hN.out
  subst hN'
  have hy : (CS.mk s p s.size 0).why m = 0 := CS.why_mk rfl (by omega) (by simp only; omega)
  have := take_any h (rest_ok hs (by omega)) m
  rw [take_yes hy, takeS_yes hy, Int.toNat_natCast] at this
  rw [hT.out]
  exact this

theorem tx_any {s T : ByteArray} {p m b : Nat} {N : Int} {w : World} (hN : Hid (N = (m : Int))) (hm : p + m ≤ s.size) (hT : Hid (T = s.extract p (p + m))) (hs : s.size ≤ 9223372036854775807) (h : CurT 53 w b ⟨s, p, p + m, 0⟩) :
    Calls Try.prog 13 #[.pointer (some ⟨b, 0, none⟩), .int .i64 N] w fun e w' => e = .returned (.string T) ∧ CurT 53 w' b ⟨s, p + m, p + m, 0⟩ ∧ Only b w w' := by
  have hN' := hN.out
  subst hN'
  have hy : (CS.mk s p (p + m) 0).why m = 0 := CS.why_mk rfl (by omega) (by simp only; omega)
  have := take_any h ⟨by simp, hm, hs⟩ m
  rw [take_yes hy, takeS_yes hy, Int.toNat_natCast] at this
  rw [hT.out]
  exact this

theorem sb_any {s : ByteArray} {p m b : Nat} {N : Int} {w : World} (hN : Hid (N = (m : Int))) (hm : p + m ≤ s.size) (hs : s.size ≤ 9223372036854775807) (h : CurT 53 w b ⟨s, p, s.size, 0⟩) :
    Calls Try.prog 17 #[.pointer (some ⟨b, 0, none⟩), .int .i64 N] w fun e w' => ∃ b', e = .returned (.pointer (some ⟨b', 0, none⟩)) ∧ w.heap.size ≤ b' ∧ CurT 53 w' b' ⟨s, p, p + m, 0⟩ ∧ CurT 53 w' b ⟨s, p + m, s.size, 0⟩ ∧ Only b w w' := by
  have hN' := hN.out
  subst hN'
  have hy : (CS.mk s p s.size 0).why m = 0 := CS.why_mk rfl (by omega) (by simp only; omega)
  have := sub_any h (rest_ok hs (by omega)) m hy
  rw [take_yes hy, sub_yes hy, Int.toNat_natCast] at this
  exact this

theorem en_any {s : ByteArray} {p b : Nat} {w : World} (hm : p ≤ s.size) (hs : s.size ≤ 9223372036854775807) (h : CurT 53 w b ⟨s, p, p, 0⟩) :
    Calls Try.prog 19 #[.pointer (some ⟨b, 0, none⟩)] w fun e w' => e = .returned (.int .i64 0) ∧ ∃ n, w' = w.drewN n := by
  have := end_any h ⟨Nat.le_refl _, hm, hs⟩
  rw [show CS.endC ⟨s, p, p, 0⟩ = 0 from by unfold CS.endC; rw [if_neg (by simp)]] at this
  exact this

theorem lf_any {s : ByteArray} {p b : Nat} {w : World} (hm : p ≤ s.size) (hs : s.size ≤ 9223372036854775807) (h : CurT 53 w b ⟨s, p, s.size, 0⟩) :
    Calls Try.prog 18 #[.pointer (some ⟨b, 0, none⟩)] w fun e w' => e = .returned (.int .i64 ((s.size : Int) - p)) ∧ ∃ n, w' = w.drewN n :=
  left_any h (rest_ok hs hm)

theorem parts_long (s : ByteArray) (a1 : Option Addr) (len cap : Nat) (w : World) (h : 60 < len) :
    Calls Try.prog 4 #[.string s, .slice a1 len cap] w (PartsSaid w) := by
  go_enter Try.func4, Try.ntmps4
  go_wp2_with ((with_reducible refine (works_any _).mono ?_); rintro e w2 ⟨rfl, hbel2⟩)
  go_ret
  exact ⟨rfl, hbel2⟩

set_option maxHeartbeats 1000000 in
theorem parts_short (s : ByteArray) (a1 : Option Addr) (len cap : Nat) (w : World) (hs : s.size ≤ 9223372036854775807) (h : len ≤ 60)
    (hcell : ∀ k, k < len → ∃ (bl off : Nat) (z : Int), a1 = some ⟨bl, off, none⟩ ∧ bl < w.heap.size ∧ w.cell? ⟨bl, off + k, none⟩ = some (.int .u8 z) ∧ 0 ≤ z ∧ z ≤ 255) :
    Calls Try.prog 4 #[.string s, .slice a1 len cap] w (PartsSaid w) := by
  have p1 : decide (60 < (len : Int)) = false := by simp; omega
  have HC := Lib.hid hcell
  clear hcell
  go_enter Try.func4, Try.ntmps4
  go_wp2_with fail
  refine (new_cur s _ hs).mono ?_
  rintro e w1 ⟨B1, rfl, hb1, hc1, hbel1⟩
  go_wp2_with fail
  refine (new_cur s _ hs).mono ?_
  rintro e w2 ⟨B2, rfl, hb2, hd2, hbel2⟩
  have hne : B1 ≠ B2 := by have := hc1.lt; omega
  have HR := Lib.hid (show PRel s len B1 B2 w (.string ⟨#[]⟩) (.string ⟨#[]⟩) (.int .i64 0) w2 from by
    have z1 := hbel1.size
    exact ⟨0, 0, _, Nat.zero_le _, Nat.zero_le _, rfl, rfl, rfl, by simp; rfl, Below.cur hbel2 hc1 hc1.lt, hd2, hne, hb1, by omega, hbel1.trans (hbel2.mono z1)⟩)
  clear hb1 hb2 hc1 hd2 hbel1 hbel2 hne
  go_wp2_with fail
  go_loopw [7, 8, 9] (fun a b i wr => PRel s len B1 B2 w a b i wr) (fun _ _ i _ => len - (intOf i).toNat)
  case atStart => exact HR.out
  case round =>
    obtain ⟨p, k, A, hp, hk, rfl, rfl, rfl, hA0, hc, hd, hne, hb1, hb2, hbel⟩ := hrel
    have hA := Lib.hid hA0
    have hAs : A.size ≤ p := by rw [hA0]; simp; omega
    clear hA0
    have hsz := hbel.size
    have hL := fun n => lf_any (b := B1) (w := wr.drewN n) hp hs hc
    have HL := Lib.hid hL
    clear hL
    by_cases hlt : k < len
    · have hlt' : (k : Int) < len := by omega
      obtain ⟨bl, off, zk, ha1, hb, hcell0, hz1, hz2⟩ := HC.out k hlt
      have hcell : wr.cell? ⟨bl, off + k, none⟩ = some (.int .u8 zk) := (hbel.cell (p := ⟨bl, off + k, none⟩) hb).trans hcell0
      clear hcell0
      subst ha1
      have hwz : IntKind.i64.wrap zk = zk := IntWalk.i64_in _ (by omega)
      have hd1 : decide ((k : Int) < len) = true := by simp; omega
      by_cases hmin : (s.size : Int) - p < zk
      · have hm : p + (s.size - p) ≤ s.size := by omega
        have hN := Lib.hid (show (s.size : Int) - p = ((s.size - p : Nat) : Int) by omega)
        generalize s.size - p = m at hm hN
        obtain ⟨T, hT0⟩ : ∃ T, T = s.extract p (p + m) := ⟨_, rfl⟩
        have hT := Lib.hid hT0
        have hTs : A.size + T.size ≤ 9223372036854775807 := by rw [hT0]; simp; omega
        clear hT0
        go_wp2
        go_quiet ((go_at_call 18; exact Calls.quiet_of (HL.out _)))
        clear HL hcell hwz
        go_wp2_with fail
        refine (tk_any hN hm hT hs (hc.drewN _)).mono ?_
        rintro e w1 ⟨rfl, hc1, ho1⟩
        have hd1 := ho1.cur (hd.drewN _) hne.symm
        go_wp2_with fail
        refine (sb_any hN hm hs hd1).mono ?_
        rintro e w2 ⟨x, rfl, hx, hx2, hd2, ho2⟩
        have hxc : B1 ≠ x := by have := hc1.lt; omega
        have hxd : B2 ≠ x := by have := hd1.lt; omega
        have hc2 := ho2.cur hc1 hne
        go_wp2_with fail
        refine (tx_any hN hm hT hs hx2).mono ?_
        rintro e w3 ⟨rfl, hx3, ho3⟩
        have hc3 := ho3.cur hc2 hxc
        have hd3 := ho3.cur hd2 hxd
        have hbel3 : Below w.heap.size w w3 := (((Below.drewN hbel _).trans (ho1.below hb1 hsz)).trans (ho2.below hb2 (Nat.le_trans hsz ho1.size))).trans (ho3.below (by have := ho1.size; simp at this; omega) (Nat.le_trans hsz (Nat.le_trans ho1.size ho2.size)))
        have HF := Lib.hid (show PRel s len B1 B2 w (.string (A ++ T)) (.string (A ++ T)) (.int .i64 ((k + 1 : Nat) : Int)) w3 from
          ⟨p + m, k + 1, A ++ T, hm, by omega, rfl, rfl, rfl, by rw [hA.out, hT.out, extract_join], hc3, hd3, hne, hb1, hb2, hbel3⟩)
        clear hc1 hc2 hc3 hd1 hd2 hd3 ho1 ho2 ho3 hbel3 hx hx2 hxc hxd
        go_wp2_with ((with_reducible refine (en_any hm hs hx3).mono ?_); rintro e w' ⟨rfl, n, rfl⟩)
        go_roundw
        case rel => exact HF.out.drewN n
        case measure => simp [intOf]; omega
      · obtain ⟨m, hmz⟩ := Int.eq_ofNat_of_zero_le hz1
        have hm : p + m ≤ s.size := by omega
        have hN := Lib.hid hmz
        obtain ⟨T, hT0⟩ : ∃ T, T = s.extract p (p + m) := ⟨_, rfl⟩
        have hT := Lib.hid hT0
        have hTs : A.size + T.size ≤ 9223372036854775807 := by rw [hT0]; simp; omega
        clear hT0 hmz
        go_wp2
        go_quiet ((go_at_call 18; exact Calls.quiet_of (HL.out _)))
        clear HL hcell hwz
        go_wp2_with fail
        refine (tk_any hN hm hT hs (hc.drewN _)).mono ?_
        rintro e w1 ⟨rfl, hc1, ho1⟩
        have hd1 := ho1.cur (hd.drewN _) hne.symm
        go_wp2_with fail
        refine (sb_any hN hm hs hd1).mono ?_
        rintro e w2 ⟨x, rfl, hx, hx2, hd2, ho2⟩
        have hxc : B1 ≠ x := by have := hc1.lt; omega
        have hxd : B2 ≠ x := by have := hd1.lt; omega
        have hc2 := ho2.cur hc1 hne
        go_wp2_with fail
        refine (tx_any hN hm hT hs hx2).mono ?_
        rintro e w3 ⟨rfl, hx3, ho3⟩
        have hc3 := ho3.cur hc2 hxc
        have hd3 := ho3.cur hd2 hxd
        have hbel3 : Below w.heap.size w w3 := (((Below.drewN hbel _).trans (ho1.below hb1 hsz)).trans (ho2.below hb2 (Nat.le_trans hsz ho1.size))).trans (ho3.below (by have := ho1.size; simp at this; omega) (Nat.le_trans hsz (Nat.le_trans ho1.size ho2.size)))
        have HF := Lib.hid (show PRel s len B1 B2 w (.string (A ++ T)) (.string (A ++ T)) (.int .i64 ((k + 1 : Nat) : Int)) w3 from
          ⟨p + m, k + 1, A ++ T, hm, by omega, rfl, rfl, rfl, by rw [hA.out, hT.out, extract_join], hc3, hd3, hne, hb1, hb2, hbel3⟩)
        clear hc1 hc2 hc3 hd1 hd2 hd3 ho1 ho2 ho3 hbel3 hx hx2 hxc hxd
        go_wp2_with ((with_reducible refine (en_any hm hs hx3).mono ?_); rintro e w' ⟨rfl, n, rfl⟩)
        go_roundw
        case rel => exact HF.out.drewN n
        case measure => simp [intOf]; omega
    · have hlt' : ¬ (k : Int) < len := by omega
      have hd1 : decide ((k : Int) < len) = false := by simp; omega
      have hm : p + (s.size - p) ≤ s.size := by omega
      have hmm := Lib.hid (show p + (s.size - p) = s.size by omega)
      have hN := Lib.hid (show (s.size : Int) - p = ((s.size - p : Nat) : Int) by omega)
      generalize s.size - p = m at hm hN hmm
      obtain ⟨T, hT0⟩ : ∃ T, T = s.extract p (p + m) := ⟨_, rfl⟩
      have hT := Lib.hid hT0
      have hTs : A.size + T.size ≤ 9223372036854775807 := by rw [hT0]; simp; omega
      have hAT : A ++ T = s := by rw [hA.out, hT.out, extract_join, hmm.out, extract_all]
      clear hT0
      go_wp2_with fail
      refine (lf_any hp hs hc).mono ?_
      rintro e w' ⟨rfl, n, rfl⟩
      go_wp2_with fail
      refine (tk_any hN hm hT hs (hc.drewN _)).mono ?_
      rintro e w1 ⟨rfl, hc1, ho1⟩
      have hd1 := ho1.cur (hd.drewN _) hne.symm
      rw [hmm.out] at hc1
      go_wp2_with fail
      refine (lf_any hp hs hd1).mono ?_
      rintro e w' ⟨rfl, n2, rfl⟩
      go_wp2_with fail
      refine (tk_any hN hm hT hs (hd1.drewN _)).mono ?_
      rintro e w2 ⟨rfl, hd2, ho2⟩
      rw [hmm.out] at hd2
      have hc2 := ho2.cur (hc1.drewN _) hne
      have hbel2 := Lib.hid (show Below w.heap.size w w2 from ((Below.drewN hbel n).trans ((ho1.drewN n2).trans (Only.refl _ _) |>.below hb1 hsz)).trans (ho2.below hb2 (Nat.le_trans hsz ho1.size)))
      clear hbel ho1 ho2 hc1 hd1
      go_wp2_with fail
      refine (en_any (Nat.le_refl _) hs hc2).mono ?_
      rintro e w' ⟨rfl, n3, rfl⟩
      go_wp2_with fail
      refine (en_any (Nat.le_refl _) hs (hd2.drewN _)).mono ?_
      rintro e w' ⟨rfl, n4, rfl⟩
      go_wp2_with fail
      refine (works_any _).mono ?_
      rintro e w5 ⟨rfl, hbel5⟩
      go_wp2
      go_ret
      have hb' := Below.drewN hbel2.out (n3 + n4)
      exact ⟨rfl, hb'.trans (hbel5.mono hb'.size)⟩

end Go.Proofs.Ytikjckdeciagiaa
