/- WordReads, walked: a round of its loop, for each of the three readers. -/
import Derived.Test.YtkjlpkldonhjdaaDoorWorkB
import Derived.Test.YtkjlpkldonhjdaaDoorReadB
import Derived.Test.YtkjlpkldonhjdaaDoorRdRef
import Derived.Deep.QuietTactic
namespace Go.Proofs.YtkjlpkldonhjdaaDoor
open Go Go.RowKit
set_option linter.unusedVariables false

theorem new_cur (s : ByteArray) (w : World) (hs : s.size ≤ 9223372036854775807) :
    Calls Tryd.prog 17 #[.string s] w fun e w' => ∃ b, e = .returned (.pointer (some ⟨b, 0, none⟩)) ∧ w.heap.size ≤ b ∧ CurT 56 w' b (CS.new s) ∧ Below w.heap.size w w' := by
  refine (new_any s w hs).mono ?_
  rintro e w' ⟨rfl, rfl⟩
  exact ⟨_, rfl, Nat.le_refl _, cur_alloc (c := CS.new s) _, (Below.refl _ _).alloc (Nat.le_refl _) _⟩

theorem CurT.setAll {t : TypeId} {w : World} {b : Nat} {c : CS} (h : CurT t w b c) (d : CS) :
    CurT t ((((w.setCell ⟨b, 0, none⟩ (.string d.s)).setCell ⟨b, 1, none⟩ (.int .i64 d.at_)).setCell ⟨b, 2, none⟩ (.int .i64 d.en)).setCell ⟨b, 3, none⟩ (.int .i64 d.er)) b d :=
  heap_setCell_block (heap_setCell_block (heap_setCell_block (heap_setCell_block h _) _) _) _
theorem Only.setAll (w : World) (b : Nat) (d : CS) :
    Only b w ((((w.setCell ⟨b, 0, none⟩ (.string d.s)).setCell ⟨b, 1, none⟩ (.int .i64 d.at_)).setCell ⟨b, 2, none⟩ (.int .i64 d.en)).setCell ⟨b, 3, none⟩ (.int .i64 d.er)) :=
  ((((Only.refl _ _).setCell _ _).setCell _ _).setCell _ _).setCell _ _

theorem rd4_l {b : Nat} {c d : CS} {V : Int} {w : World} (hd : Hid (d = c.take (4 : Nat))) (hV : Hid (V = ((valL (c.takeS (4 : Nat)).data.toList : Nat) : Int))) (h : CurT 56 w b c) (hc : c.ok) (ht : Tab w) (hg : 0 ≠ b) :
    Calls Tryd.prog 18 #[.pointer (some ⟨b, 0, none⟩)] w fun e w' => e = .returned (.int .u32 V) ∧ CurT 56 w' b d ∧ Only b w w' := by
  have e1 := hd.out; have e2 := hV.out; subst e1; subst e2
  exact readLow32_any h hc ht hg
theorem rd8_l {b : Nat} {c d : CS} {V : Int} {w : World} (hd : Hid (d = c.take (8 : Nat))) (hV : Hid (V = ((valL (c.takeS (8 : Nat)).data.toList : Nat) : Int))) (h : CurT 56 w b c) (hc : c.ok) (ht : Tab w) (hg : 0 ≠ b) :
    Calls Tryd.prog 19 #[.pointer (some ⟨b, 0, none⟩)] w fun e w' => e = .returned (.int .u64 V) ∧ CurT 56 w' b d ∧ Only b w w' := by
  have e1 := hd.out; have e2 := hV.out; subst e1; subst e2
  exact readLow64_any h hc ht hg
theorem rdh_l {b : Nat} {c d : CS} {V : Int} {w : World} (hd : Hid (d = c.take (8 : Nat))) (hV : Hid (V = ((valL (c.takeS (8 : Nat)).data.toList.reverse : Nat) : Int))) (h : CurT 56 w b c) (hc : c.ok) (ht : Tab w) (hg : 0 ≠ b) :
    Calls Tryd.prog 20 #[.pointer (some ⟨b, 0, none⟩)] w fun e w' => e = .returned (.int .u64 V) ∧ CurT 56 w' b d ∧ Only b w w' := by
  have e1 := hd.out; have e2 := hV.out; subst e1; subst e2
  exact readHigh64_any h hc ht hg
theorem rf4_l {c d : CS} {V : Int} (hd : Hid (d = c.take (4 : Nat))) (hV : Hid (V = ((valL (c.takeS (4 : Nat)).data.toList : Nat) : Int))) (w : World) (hc : c.ok) :
    Calls Tryd.prog 23 #[.agg #[.string c.s, .int .i64 c.at_, .int .i64 c.en, .int .i64 c.er], .int .i64 4] w fun e w' => e = .returned (.tuple #[.agg #[.string d.s, .int .i64 d.at_, .int .i64 d.en, .int .i64 d.er], .int .u64 V]) ∧ Below w.heap.size w w' := by
  have e1 := hd.out; have e2 := hV.out; subst e1; subst e2
  exact ref_readLow c 4 w hc (by omega) (Nat.le_trans (takeS_size c 4 hc) (by omega))
theorem rf8_l {c d : CS} {V : Int} (hd : Hid (d = c.take (8 : Nat))) (hV : Hid (V = ((valL (c.takeS (8 : Nat)).data.toList : Nat) : Int))) (w : World) (hc : c.ok) :
    Calls Tryd.prog 23 #[.agg #[.string c.s, .int .i64 c.at_, .int .i64 c.en, .int .i64 c.er], .int .i64 8] w fun e w' => e = .returned (.tuple #[.agg #[.string d.s, .int .i64 d.at_, .int .i64 d.en, .int .i64 d.er], .int .u64 V]) ∧ Below w.heap.size w w' := by
  have e1 := hd.out; have e2 := hV.out; subst e1; subst e2
  exact ref_readLow c 8 w hc (by omega) (takeS_size c 8 hc)
theorem rfh_l {c d : CS} {V : Int} (hd : Hid (d = c.take (8 : Nat))) (hV : Hid (V = ((valL (c.takeS (8 : Nat)).data.toList.reverse : Nat) : Int))) (w : World) (hc : c.ok) :
    Calls Tryd.prog 24 #[.agg #[.string c.s, .int .i64 c.at_, .int .i64 c.en, .int .i64 c.er], .int .i64 8] w fun e w' => e = .returned (.tuple #[.agg #[.string d.s, .int .i64 d.at_, .int .i64 d.en, .int .i64 d.er], .int .u64 V]) ∧ Below w.heap.size w w' := by
  have e1 := hd.out; have e2 := hV.out; subst e1; subst e2
  exact ref_readHigh c w hc (takeS_size c 8 hc)

theorem val4_range {c : CS} {V : Int} (hc : c.ok) (hV : Hid (V = ((valL (c.takeS (4 : Nat)).data.toList : Nat) : Int))) : 0 ≤ V ∧ V ≤ 4294967295 := by
  have e2 := hV.out
  have := valL_lt (c.takeS (4 : Nat)).data.toList
  rw [toList_size] at this
  have h2 := Nat.lt_of_lt_of_le this (p256 (takeS_size c 4 hc))
  have h3 : 256 ^ 4 = 4294967296 := by decide
  omega
theorem val8_range {V : Int} {l : List UInt8} (hl : l.length ≤ 8) (hV : Hid (V = ((valL l : Nat) : Int))) : 0 ≤ V ∧ V ≤ 18446744073709551615 := by
  have e2 := hV.out
  have h2 := Nat.lt_of_lt_of_le (valL_lt l) (p256 hl)
  have h3 : 256 ^ 8 = 18446744073709551616 := by decide
  omega

def WRel (len B BW : Nat) (W : World) (i : Value) (wr : World) : Prop :=
  ∃ k c, k ≤ len ∧ i = .int .i64 (k : Nat) ∧ c.ok ∧ CurT 56 wr B c ∧ CurT 40 wr BW c ∧ B ≠ BW ∧ W.heap.size ≤ B ∧ W.heap.size ≤ BW ∧ Below W.heap.size W wr

theorem wreads_long (s : ByteArray) (a1 : Option Addr) (len cap : Nat) (w : World) (h : 40 < len) (ht : Tab w) :
    Calls Tryd.prog 5 #[.string s, .slice a1 len cap] w fun e w' => e = .returned (.bool true) ∧ Below w.heap.size w w' := by
  have p1 : decide (40 < (len : Int)) = true := by simp; omega
  go_enter Tryd.func5, Tryd.ntmps5
  go_wp2_with ((with_reducible refine (works2_any _ ht).mono ?_); rintro e w2 ⟨rfl, hbel2⟩)
  go_ret
  exact ⟨rfl, hbel2⟩

set_option maxRecDepth 100000 in
set_option maxHeartbeats 4000000 in
theorem wreads_short (s : ByteArray) (a1 : Option Addr) (len cap : Nat) (w : World) (hs : s.size ≤ 9223372036854775807) (h : len ≤ 40) (ht : Tab w)
    (hcell : ∀ k, k < len → ∃ (bl off : Nat) (z : Int), a1 = some ⟨bl, off, none⟩ ∧ bl < w.heap.size ∧ w.cell? ⟨bl, off + k, none⟩ = some (.int .u8 z) ∧ 0 ≤ z ∧ z ≤ 255) :
    Calls Tryd.prog 5 #[.string s, .slice a1 len cap] w fun e w' => e = .returned (.bool true) ∧ Below w.heap.size w w' := by
  have p1 : decide (40 < (len : Int)) = false := by simp; omega
  have HC := Lib.hid hcell
  have HT := Lib.hid ht
  have hpos := ht.lt
  clear hcell ht
  go_enter Tryd.func5, Tryd.ntmps5
  go_wp2_with fail
  refine (new_cur s _ hs).mono ?_
  rintro e w1 ⟨B, rfl, hb1, hc1, hbel1⟩
  go_wp2_with fail
  refine (ref_new s _ hs).mono ?_
  rintro e w2 ⟨rfl, hbel2⟩
  have hc2 := Below.cur hbel2 hc1 hc1.lt
  go_wp2_with fail
  have hc3 := hc2.allocOld (.cells #[.string s, .int .i64 0, .int .i64 s.size, .int .i64 0] 40)
  have hlt3 := hc2.lt
  have HR := Lib.hid (show WRel len B w2.heap.size w (.int .i64 0) (w2.alloc (.cells #[.string s, .int .i64 0, .int .i64 s.size, .int .i64 0] 40)) from by
    have z1 := hbel1.size
    have z2 := hbel2.size
    exact ⟨0, CS.new s, Nat.zero_le _, rfl, CS.new_ok hs, hc3, cur_alloc (c := CS.new s) _, by omega, hb1, by omega, (hbel1.trans (hbel2.mono z1)).alloc (by omega) _⟩)
  generalize w2.alloc (.cells #[.string s, .int .i64 0, .int .i64 s.size, .int .i64 0] 40) = w3 at HR hc3 ⊢
  generalize w2.heap.size = BW at HR hlt3 ⊢
  clear hbel1 hbel2 hc1 hc2 hc3 hlt3 hb1
  go_loopw [7] (fun i wr => WRel len B BW w i wr) (fun i _ => len - (intOf i).toNat)
  case atStart => exact HR.out
  case round =>
    obtain ⟨k, c, hk, rfl, hok, q1, q2, hne, hB, hBW, hbel⟩ := hrel
    have hsz := hbel.size
    have hgB : 0 ≠ B := by omega
    have htab := Lib.hid (HT.out.below hbel hpos)
    by_cases hlt : k < len
    · have hlt' : (k : Int) < len := by omega
      have hd1 : decide ((k : Int) < len) = true := by simp; omega
      obtain ⟨bl, off, z, ha1, hbl, e0, z1, z2⟩ := HC.out k hlt
      subst ha1
      have o0 := (hbel.cell (p := ⟨bl, off + k, none⟩) hbl).trans e0
      clear e0
      have l1 := q1.lt; have l2 := q2.lt
      have HOK := Lib.hid hok
      by_cases hk0 : z % 3 = 0
      · have hq0 : (z % 3 == 0) = true := by simp [hk0]
        clear hk0
        obtain ⟨d, hd0⟩ : ∃ d, d = c.take (4 : Nat) := ⟨_, rfl⟩
        obtain ⟨V, hV0⟩ : ∃ V : Int, V = ((valL (c.takeS (4 : Nat)).data.toList : Nat) : Int) := ⟨_, rfl⟩
        have hdok := Lib.hid (show d.ok by rw [hd0]; exact CS.take_ok hok _)
        have hd := Lib.hid hd0
        have hV := Lib.hid hV0
        obtain ⟨v1, v2⟩ := val4_range hok hV
        clear hd0 hV0 hok
        go_wp2_with fail
        refine (rd4_l hd hV q1 HOK.out htab.out hgB).mono ?_
        rintro e w4 ⟨rfl, r1, ho4⟩
        have g2 := ho4.cur q2 hne.symm
        have hbel4 := hbel.trans (ho4.below hB hsz)
        clear o0 q1 q2 hbel l1 l2 ho4
        have a0 := g2.c0; have a1 := g2.c1; have a2 := g2.c2; have a3 := g2.c3; have af := g2.fr
        go_wp2_with fail
        refine (rf4_l hd hV _ HOK.out).mono ?_
        rintro e w5 ⟨rfl, hb5⟩
        have s1 := Below.cur hb5 r1 r1.lt
        have s2 := Below.cur hb5 g2 g2.lt
        have hbel5 := hbel4.trans (hb5.mono hbel4.size)
        clear hb5 a0 a1 a2 a3 af g2 r1 hbel4
        have a0 := s2.c0; have a1 := s2.c1; have a2 := s2.c2; have a3 := s2.c3; have af := s2.fr
        go_wp2_with fail
        have t1 := (Only.setAll w5 BW d).cur s1 hne
        have t2 := s2.setAll d
        have hbel6 := hbel5.trans ((Only.setAll w5 BW d).below hBW hbel5.size)
        obtain ⟨w6, hw6⟩ : ∃ w6, w6 = ((((w5.setCell ⟨BW, 0, none⟩ (.string d.s)).setCell ⟨BW, 1, none⟩ (.int .i64 d.at_)).setCell ⟨BW, 2, none⟩ (.int .i64 d.en)).setCell ⟨BW, 3, none⟩ (.int .i64 d.er)) := ⟨_, rfl⟩
        rw [← hw6] at t1 t2 hbel6 ⊢
        clear hw6 a0 a1 a2 a3 af s1 s2 hbel5
        have a1 := t2.c1; have a3 := t2.c3
        have HE := Lib.hid (fun n => err_any (w := w6.drewN n) (t1.drewN n))
        have HA := Lib.hid (fun n => at_any (w := w6.drewN n) (t1.drewN n) hdok.out)
        go_quiet (first | (go_at_call 25; exact Calls.quiet_of_same (HE.out _)) | (go_at_call 26; exact Calls.quiet_of_same (HA.out _)))
        go_wp2
        go_roundw
        case rel => exact ⟨k + 1, d, by omega, by go_num, hdok.out, t1.drewN _, t2.drewN _, hne, hB, hBW, Below.drewN hbel6 _⟩
        case measure => simp [intOf]; omega
      · have hq0 : (z % 3 == 0) = false := by simp [hk0]
        by_cases hk1 : z % 3 = 1
        · have hq1 : (z % 3 == 1) = true := by simp [hk1]
          clear hk0 hk1
          obtain ⟨d, hd0⟩ : ∃ d, d = c.take (8 : Nat) := ⟨_, rfl⟩
          obtain ⟨V, hV0⟩ : ∃ V : Int, V = ((valL (c.takeS (8 : Nat)).data.toList : Nat) : Int) := ⟨_, rfl⟩
          have hdok := Lib.hid (show d.ok by rw [hd0]; exact CS.take_ok hok _)
          have hd := Lib.hid hd0
          have hV := Lib.hid hV0
          obtain ⟨v1, v2⟩ := val8_range (l := (c.takeS (8 : Nat)).data.toList) (by rw [toList_size]; exact takeS_size c 8 hok) hV
          clear hd0 hV0 hok
          go_wp2_with fail
          refine (rd8_l hd hV q1 HOK.out htab.out hgB).mono ?_
          rintro e w4 ⟨rfl, r1, ho4⟩
          have g2 := ho4.cur q2 hne.symm
          have hbel4 := hbel.trans (ho4.below hB hsz)
          clear o0 q1 q2 hbel l1 l2 ho4
          have a0 := g2.c0; have a1 := g2.c1; have a2 := g2.c2; have a3 := g2.c3; have af := g2.fr
          go_wp2_with fail
          refine (rf8_l hd hV _ HOK.out).mono ?_
          rintro e w5 ⟨rfl, hb5⟩
          have s1 := Below.cur hb5 r1 r1.lt
          have s2 := Below.cur hb5 g2 g2.lt
          have hbel5 := hbel4.trans (hb5.mono hbel4.size)
          clear hb5 a0 a1 a2 a3 af g2 r1 hbel4
          have a0 := s2.c0; have a1 := s2.c1; have a2 := s2.c2; have a3 := s2.c3; have af := s2.fr
          go_wp2_with fail
          have t1 := (Only.setAll w5 BW d).cur s1 hne
          have t2 := s2.setAll d
          have hbel6 := hbel5.trans ((Only.setAll w5 BW d).below hBW hbel5.size)
          obtain ⟨w6, hw6⟩ : ∃ w6, w6 = ((((w5.setCell ⟨BW, 0, none⟩ (.string d.s)).setCell ⟨BW, 1, none⟩ (.int .i64 d.at_)).setCell ⟨BW, 2, none⟩ (.int .i64 d.en)).setCell ⟨BW, 3, none⟩ (.int .i64 d.er)) := ⟨_, rfl⟩
          rw [← hw6] at t1 t2 hbel6 ⊢
          clear hw6 a0 a1 a2 a3 af s1 s2 hbel5
          have a1 := t2.c1; have a3 := t2.c3
          have HE := Lib.hid (fun n => err_any (w := w6.drewN n) (t1.drewN n))
          have HA := Lib.hid (fun n => at_any (w := w6.drewN n) (t1.drewN n) hdok.out)
          go_quiet (first | (go_at_call 25; exact Calls.quiet_of_same (HE.out _)) | (go_at_call 26; exact Calls.quiet_of_same (HA.out _)))
          go_wp2
          go_roundw
          case rel => exact ⟨k + 1, d, by omega, by go_num, hdok.out, t1.drewN _, t2.drewN _, hne, hB, hBW, Below.drewN hbel6 _⟩
          case measure => simp [intOf]; omega
        · have hq1 : (z % 3 == 1) = false := by simp [hk1]
          clear hk0 hk1
          obtain ⟨d, hd0⟩ : ∃ d, d = c.take (8 : Nat) := ⟨_, rfl⟩
          obtain ⟨V, hV0⟩ : ∃ V : Int, V = ((valL (c.takeS (8 : Nat)).data.toList.reverse : Nat) : Int) := ⟨_, rfl⟩
          have hdok := Lib.hid (show d.ok by rw [hd0]; exact CS.take_ok hok _)
          have hd := Lib.hid hd0
          have hV := Lib.hid hV0
          obtain ⟨v1, v2⟩ := val8_range (l := (c.takeS (8 : Nat)).data.toList.reverse) (by rw [List.length_reverse, toList_size]; exact takeS_size c 8 hok) hV
          clear hd0 hV0 hok
          go_wp2_with fail
          refine (rdh_l hd hV q1 HOK.out htab.out hgB).mono ?_
          rintro e w4 ⟨rfl, r1, ho4⟩
          have g2 := ho4.cur q2 hne.symm
          have hbel4 := hbel.trans (ho4.below hB hsz)
          clear o0 q1 q2 hbel l1 l2 ho4
          have a0 := g2.c0; have a1 := g2.c1; have a2 := g2.c2; have a3 := g2.c3; have af := g2.fr
          go_wp2_with fail
          refine (rfh_l hd hV _ HOK.out).mono ?_
          rintro e w5 ⟨rfl, hb5⟩
          have s1 := Below.cur hb5 r1 r1.lt
          have s2 := Below.cur hb5 g2 g2.lt
          have hbel5 := hbel4.trans (hb5.mono hbel4.size)
          clear hb5 a0 a1 a2 a3 af g2 r1 hbel4
          have a0 := s2.c0; have a1 := s2.c1; have a2 := s2.c2; have a3 := s2.c3; have af := s2.fr
          go_wp2_with fail
          have t1 := (Only.setAll w5 BW d).cur s1 hne
          have t2 := s2.setAll d
          have hbel6 := hbel5.trans ((Only.setAll w5 BW d).below hBW hbel5.size)
          obtain ⟨w6, hw6⟩ : ∃ w6, w6 = ((((w5.setCell ⟨BW, 0, none⟩ (.string d.s)).setCell ⟨BW, 1, none⟩ (.int .i64 d.at_)).setCell ⟨BW, 2, none⟩ (.int .i64 d.en)).setCell ⟨BW, 3, none⟩ (.int .i64 d.er)) := ⟨_, rfl⟩
          rw [← hw6] at t1 t2 hbel6 ⊢
          clear hw6 a0 a1 a2 a3 af s1 s2 hbel5
          have a1 := t2.c1; have a3 := t2.c3
          have HE := Lib.hid (fun n => err_any (w := w6.drewN n) (t1.drewN n))
          have HA := Lib.hid (fun n => at_any (w := w6.drewN n) (t1.drewN n) hdok.out)
          go_quiet (first | (go_at_call 25; exact Calls.quiet_of_same (HE.out _)) | (go_at_call 26; exact Calls.quiet_of_same (HA.out _)))
          go_wp2
          go_roundw
          case rel => exact ⟨k + 1, d, by omega, by go_num, hdok.out, t1.drewN _, t2.drewN _, hne, hB, hBW, Below.drewN hbel6 _⟩
          case measure => simp [intOf]; omega
    · have hd1 : decide ((k : Int) < len) = false := by simp; omega
      go_wp2_with ((with_reducible refine (works2_any _ htab.out).mono ?_); rintro e w2 ⟨rfl, hbel2⟩)
      go_ret
      exact ⟨rfl, hbel.trans (hbel2.mono hsz)⟩

theorem wreads_any (s : ByteArray) (a1 : Option Addr) (len cap : Nat) (w : World) (hs : s.size ≤ 140737488351232)
    (hcell : ∀ k, k < len → ∃ (bl off : Nat) (z : Int), a1 = some ⟨bl, off, none⟩ ∧ bl < w.heap.size ∧ w.cell? ⟨bl, off + k, none⟩ = some (.int .u8 z) ∧ 0 ≤ z ∧ z ≤ 255) (ht : Tab w) :
    Calls Tryd.prog 5 #[.string s, .slice a1 len cap] w fun e w' => e = .returned (.bool true) ∧ Below w.heap.size w w' := by
  by_cases h : 40 < len
  · exact wreads_long s a1 len cap w h ht
  · exact wreads_short s a1 len cap w (by omega) (by omega) ht hcell

end Go.Proofs.YtkjlpkldonhjdaaDoor
