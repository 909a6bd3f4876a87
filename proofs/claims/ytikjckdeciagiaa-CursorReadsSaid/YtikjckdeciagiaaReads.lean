/- CursorReads, walked: a round of its loop, for each kind of step. -/
import Derived.Test.YtikjckdeciagiaaStands
namespace Go.Proofs.Ytikjckdeciagiaa
open Go Go.RowKit
set_option linter.unusedVariables false

def ReadsSaid (W : World) (e : Ending) (w' : World) : Prop := e = .returned (.bool true) ∧ Below W.heap.size W w'

theorem reads_long (s : ByteArray) (a1 : Option Addr) (len cap : Nat) (w : World) (h : 60 < len) :
    Calls Try.prog 3 #[.string s, .slice a1 len cap] w (ReadsSaid w) := by
  have p1 : decide (60 < (len : Int)) = true := by simp; omega
  go_enter Try.func3, Try.ntmps3
  go_wp2_with ((with_reducible refine (works_any _).mono ?_); rintro e w2 ⟨rfl, hbel2⟩)
  go_ret
  exact ⟨rfl, hbel2⟩

theorem CurT.setAll {t : TypeId} {w : World} {b : Nat} {c : CS} (h : CurT t w b c) (d : CS) :
    CurT t ((((w.setCell ⟨b, 0, none⟩ (.string d.s)).setCell ⟨b, 1, none⟩ (.int .i64 d.at_)).setCell ⟨b, 2, none⟩ (.int .i64 d.en)).setCell ⟨b, 3, none⟩ (.int .i64 d.er)) b d :=
  heap_setCell_block (heap_setCell_block (heap_setCell_block (heap_setCell_block h _) _) _) _
theorem Only.setAll (w : World) (b : Nat) (d : CS) :
    Only b w ((((w.setCell ⟨b, 0, none⟩ (.string d.s)).setCell ⟨b, 1, none⟩ (.int .i64 d.at_)).setCell ⟨b, 2, none⟩ (.int .i64 d.en)).setCell ⟨b, 3, none⟩ (.int .i64 d.er)) :=
  ((((Only.refl _ _).setCell _ _).setCell _ _).setCell _ _).setCell _ _

theorem ref_byte_l {c d : CS} {p : Int} (hd : Hid (d = c.byte)) (hp : Hid (p = c.peekB)) (w : World) (hc : c.ok) :
    Calls Try.prog 10 #[.agg #[.string c.s, .int .i64 c.at_, .int .i64 c.en, .int .i64 c.er]] w fun e w' => e = .returned (.tuple #[.agg #[.string d.s, .int .i64 d.at_, .int .i64 d.en, .int .i64 d.er], .int .u8 p]) ∧ Below w.heap.size w w' := by
  have e1 := hd.out
  have e2 := hp.out
  subst e1; subst e2
  exact ref_byte c w hc
theorem byte_l {b : Nat} {c d : CS} {p : Int} {w : World} (hd : Hid (d = c.byte)) (hp : Hid (p = c.peekB)) (h : CurT 53 w b c) (hc : c.ok) :
    Calls Try.prog 11 #[.pointer (some ⟨b, 0, none⟩)] w fun e w' => e = .returned (.int .u8 p) ∧ CurT 53 w' b d ∧ Only b w w' := by
  have e1 := hd.out
  have e2 := hp.out
  subst e1; subst e2
  exact byte_any h hc
theorem ref_take_l {c d : CS} {T : ByteArray} {n : Int} (hd : Hid (d = c.take n)) (hT : Hid (T = c.takeS n)) (w : World) (hc : c.ok) :
    Calls Try.prog 12 #[.agg #[.string c.s, .int .i64 c.at_, .int .i64 c.en, .int .i64 c.er], .int .i64 n] w fun e w' => e = .returned (.tuple #[.agg #[.string d.s, .int .i64 d.at_, .int .i64 d.en, .int .i64 d.er], .string T]) ∧ Below w.heap.size w w' := by
  have e1 := hd.out
  have e2 := hT.out
  subst e1; subst e2
  exact ref_take c n w hc
theorem take_l {b : Nat} {c d : CS} {T : ByteArray} {n : Int} {w : World} (hd : Hid (d = c.take n)) (hT : Hid (T = c.takeS n)) (h : CurT 53 w b c) (hc : c.ok) :
    Calls Try.prog 13 #[.pointer (some ⟨b, 0, none⟩), .int .i64 n] w fun e w' => e = .returned (.string T) ∧ CurT 53 w' b d ∧ Only b w w' := by
  have e1 := hd.out
  have e2 := hT.out
  subst e1; subst e2
  exact take_any h hc n
theorem ref_fail_l {c d : CS} {n : Int} (hd : Hid (d = c.fail n)) (w : World) :
    Calls Try.prog 15 #[.agg #[.string c.s, .int .i64 c.at_, .int .i64 c.en, .int .i64 c.er], .int .i64 n] w fun e w' => e = .returned (.agg #[.string d.s, .int .i64 d.at_, .int .i64 d.en, .int .i64 d.er]) ∧ Below w.heap.size w w' := by
  have e1 := hd.out
  subst e1
  exact ref_fail c n w
theorem fail_l {b : Nat} {c d : CS} {n : Int} {w : World} (hd : Hid (d = c.fail n)) (h : CurT 53 w b c) :
    Calls Try.prog 14 #[.pointer (some ⟨b, 0, none⟩), .int .i64 n] w fun e w' => e = .returned (.tuple #[]) ∧ CurT 53 w' b d ∧ Only b w w' := by
  have e1 := hd.out
  subst e1
  exact fail_any h n
theorem ref_sub_yes_l {c d f : CS} {n : Int} (hd : Hid (d = c.take n)) (hf : Hid (f = c.sub n)) (w : World) (hc : c.ok) (hy : c.why n = 0) :
    Calls Try.prog 16 #[.agg #[.string c.s, .int .i64 c.at_, .int .i64 c.en, .int .i64 c.er], .int .i64 n] w fun e w' => e = .returned (.tuple #[.agg #[.string d.s, .int .i64 d.at_, .int .i64 d.en, .int .i64 d.er], .agg #[.string f.s, .int .i64 f.at_, .int .i64 f.en, .int .i64 f.er], .bool true]) ∧ Below w.heap.size w w' := by
  have e1 := hd.out
  have e2 := hf.out
  subst e1; subst e2
  exact ref_sub_yes c n w hc hy
theorem ref_sub_no_l {c d : CS} {n : Int} (hd : Hid (d = c.take n)) (w : World) (hc : c.ok) (hy : ¬ c.why n = 0) :
    Calls Try.prog 16 #[.agg #[.string c.s, .int .i64 c.at_, .int .i64 c.en, .int .i64 c.er], .int .i64 n] w fun e w' => e = .returned (.tuple #[.agg #[.string d.s, .int .i64 d.at_, .int .i64 d.en, .int .i64 d.er], .agg #[.string ⟨#[]⟩, .int .i64 0, .int .i64 0, .int .i64 0], .bool false]) ∧ Below w.heap.size w w' := by
  have e1 := hd.out
  subst e1
  exact ref_sub_no c n w hc hy
theorem sub_yes_l {b : Nat} {c d f : CS} {n : Int} {w : World} (hd : Hid (d = c.take n)) (hf : Hid (f = c.sub n)) (h : CurT 53 w b c) (hc : c.ok) (hy : c.why n = 0) :
    Calls Try.prog 17 #[.pointer (some ⟨b, 0, none⟩), .int .i64 n] w fun e w' => ∃ b', e = .returned (.pointer (some ⟨b', 0, none⟩)) ∧ w.heap.size ≤ b' ∧ CurT 53 w' b' f ∧ CurT 53 w' b d ∧ Only b w w' := by
  have e1 := hd.out
  have e2 := hf.out
  subst e1; subst e2
  exact sub_any h hc n hy
theorem sub_no_l {b : Nat} {c d : CS} {n : Int} {w : World} (hd : Hid (d = c.take n)) (h : CurT 53 w b c) (hc : c.ok) (hy : ¬ c.why n = 0) :
    Calls Try.prog 17 #[.pointer (some ⟨b, 0, none⟩), .int .i64 n] w fun e w' => e = .returned (.pointer none) ∧ CurT 53 w' b d ∧ Only b w w' := by
  have e1 := hd.out
  subst e1
  exact sub_no h hc n hy

/-- Block b holds a step of the law's list. -/
def OpT (w : World) (b : Nat) (kd n dp : Int) : Prop := w.heap[b]? = some (.cells #[.int .u8 kd, .int .i64 n, .int .i64 dp] 32 (0, 0))
theorem OpT.lt {w : World} {b : Nat} {kd n dp : Int} (h : OpT w b kd n dp) : b < w.heap.size := lt_of_block h
theorem OpT.c0 {w : World} {b : Nat} {kd n dp : Int} (h : OpT w b kd n dp) : w.cell? ⟨b, 0, none⟩ = some (.int .u8 kd) := by unfold OpT at h; simp [World.cell?, h]
theorem OpT.c1 {w : World} {b : Nat} {kd n dp : Int} (h : OpT w b kd n dp) : w.cell? ⟨b, 1, none⟩ = some (.int .i64 n) := by unfold OpT at h; simp [World.cell?, h]
theorem OpT.c2 {w : World} {b : Nat} {kd n dp : Int} (h : OpT w b kd n dp) : w.cell? ⟨b, 2, none⟩ = some (.int .i64 dp) := by unfold OpT at h; simp [World.cell?, h]
theorem Only.op {b k : Nat} {kd n dp : Int} {w w' : World} (h : Only b w w') (hc : OpT w k kd n dp) (hk : k ≠ b) : OpT w' k kd n dp := (h.block k hc.lt hk).trans hc
theorem Below.op {N k : Nat} {kd n dp : Int} {w w' : World} (h : Below N w w') (hc : OpT w k kd n dp) (hk : k < N) : OpT w' k kd n dp := (h.block k hk).trans hc
theorem op_alloc {w : World} {kd n dp : Int} : OpT (w.alloc (.cells #[.int .u8 kd, .int .i64 n, .int .i64 dp] 32 (0, 0))) w.heap.size kd n dp := by
  show (w.heap.push _)[w.heap.size]? = _
  simp

theorem sub_laid {w4 : World} {B BW ob : Nat} {c d f : CS} {kd n dp : Int} (g1 : CurT 53 w4 B c) (g2 : CurT 28 w4 BW c) (g3 : OpT w4 ob kd n dp) (hne : B ≠ BW) (ho : ob ≠ BW) {w5 : World}
    (e : w5 = ((((((w4.setCell ⟨BW, 0, none⟩ (.string d.s)).setCell ⟨BW, 1, none⟩ (.int .i64 d.at_)).setCell ⟨BW, 2, none⟩ (.int .i64 d.en)).setCell ⟨BW, 3, none⟩ (.int .i64 d.er)).alloc (.cells #[.string d.s, .int .i64 d.at_, .int .i64 d.en, .int .i64 d.er] 28)).alloc (.cells #[.string f.s, .int .i64 f.at_, .int .i64 f.en, .int .i64 f.er] 28))) :
    CurT 53 w5 B c ∧ CurT 28 w5 BW d ∧ OpT w5 ob kd n dp ∧ CurT 28 w5 (w4.heap.size + 1) f ∧ Only BW w4 w5 ∧ w5.heap.size = w4.heap.size + 2 := by
  subst e
  have hO := ((Only.setAll w4 BW d).alloc (.cells #[.string d.s, .int .i64 d.at_, .int .i64 d.en, .int .i64 d.er] 28)).alloc (.cells #[.string f.s, .int .i64 f.at_, .int .i64 f.en, .int .i64 f.er] 28)
  have hf := cur_alloc (w := (((((w4.setCell ⟨BW, 0, none⟩ (.string d.s)).setCell ⟨BW, 1, none⟩ (.int .i64 d.at_)).setCell ⟨BW, 2, none⟩ (.int .i64 d.en)).setCell ⟨BW, 3, none⟩ (.int .i64 d.er)).alloc (.cells #[.string d.s, .int .i64 d.at_, .int .i64 d.en, .int .i64 d.er] 28))) (c := f) 28
  simp only [World.size_alloc, World.size_setCell] at hf
  exact ⟨hO.cur g1 hne, ((g2.setAll d).allocOld _).allocOld _, hO.op g3 ho, hf, hO, by simp [World.size_alloc, World.size_setCell]⟩

def RRel (len B BW : Nat) (W : World) (i : Value) (wr : World) : Prop :=
  ∃ (k : Nat) (c : CS), k ≤ len ∧ i = .int .i64 k ∧ c.ok ∧ CurT 53 wr B c ∧ CurT 28 wr BW c ∧ B ≠ BW ∧ W.heap.size ≤ B ∧ W.heap.size ≤ BW ∧ Below W.heap.size W wr

set_option maxHeartbeats 2000000 in
set_option maxRecDepth 100000 in
theorem reads_short (s : ByteArray) (a1 : Option Addr) (len cap : Nat) (w : World) (hs : s.size ≤ 9223372036854775807) (h : len ≤ 60)
    (hcell : ∀ k, k < len → ∃ (bl off : Nat) (kd n dp : Int), a1 = some ⟨bl, off, none⟩ ∧ bl < w.heap.size ∧ w.cell? ⟨bl, off + k * 3, none⟩ = some (.int .u8 kd) ∧ w.cell? ⟨bl, off + k * 3 + 1, none⟩ = some (.int .i64 n) ∧ w.cell? ⟨bl, off + k * 3 + 2, none⟩ = some (.int .i64 dp)) :
    Calls Try.prog 3 #[.string s, .slice a1 len cap] w (ReadsSaid w) := by
  have p1 : decide (60 < (len : Int)) = false := by simp; omega
  have HC := Lib.hid hcell
  clear hcell
  go_enter Try.func3, Try.ntmps3
  go_wp2_with fail
  refine (new_cur s _ hs).mono ?_
  rintro e w1 ⟨B, rfl, hb1, hc1, hbel1⟩
  go_wp2_with fail
  refine (ref_new s _ hs).mono ?_
  rintro e w2 ⟨rfl, hbel2⟩
  have hc2 := Below.cur hbel2 hc1 hc1.lt
  go_wp2_with fail
  have hc3 := hc2.allocOld (.cells #[.string s, .int .i64 0, .int .i64 s.size, .int .i64 0] 28)
  refine (stands_any hc3 (CS.new_ok hs)).mono ?_
  rintro e w3 ⟨rfl, hbel3⟩
  have hlt3 := hc2.lt
  have HR := Lib.hid (show RRel len B w2.heap.size w (.int .i64 0) w3 from by
    have z1 := hbel1.size
    have z2 := hbel2.size
    exact ⟨0, CS.new s, Nat.zero_le _, rfl, CS.new_ok hs, Below.cur hbel3 hc3 hc3.lt, Below.cur hbel3 (cur_alloc (c := CS.new s) _) (cur_alloc (c := CS.new s) 28).lt, by omega, hb1, by omega, ((hbel1.trans (hbel2.mono z1)).alloc (by omega) _).trans (hbel3.mono (by simp; omega))⟩)
  generalize w2.heap.size = BW at HR
  clear hbel1 hbel2 hbel3 hc1 hc2 hc3 hlt3
  go_wp2_with fail
  go_loopw [7] (fun i wr => RRel len B BW w i wr) (fun i _ => len - (intOf i).toNat)
  case atStart => exact HR.out
  case round =>
    obtain ⟨k, c, hk, rfl, hok, q1, q2, hne, hB, hBW, hbel⟩ := hrel
    have hsz := hbel.size
    by_cases hlt : k < len
    · have hlt' : (k : Int) < len := by omega
      have hd1 : decide ((k : Int) < len) = true := by simp; omega
      obtain ⟨bl, off, kd, n, dp, ha1, hbl, e0, e1, e2⟩ := HC.out k hlt
      subst ha1
      have o0 := (hbel.cell (p := ⟨bl, off + k * 3, none⟩) hbl).trans e0
      have o1 := (hbel.cell (p := ⟨bl, off + k * 3 + 1, none⟩) hbl).trans e1
      have o2 := (hbel.cell (p := ⟨bl, off + k * 3 + 2, none⟩) hbl).trans e2
      clear e0 e1 e2
      have a0 := q2.c0; have a1 := q2.c1; have a2 := q2.c2; have a3 := q2.c3
      have l1 := q1.lt; have l2 := q2.lt
      have HOK := Lib.hid hok
      by_cases hk0 : kd = 0
      · have hq0 : (kd == 0) = true := by simp [hk0]
        clear hk0
        obtain ⟨d, hd0⟩ : ∃ d, d = c.byte := ⟨_, rfl⟩
        obtain ⟨p, hp0⟩ : ∃ p, p = c.peekB := ⟨_, rfl⟩
        have hdok := Lib.hid (show d.ok by rw [hd0]; exact CS.take_ok hok 1)
        have hd := Lib.hid hd0
        have hp := Lib.hid hp0
        clear hd0 hp0 hok
        go_wp2_with fail
        refine (ref_byte_l hd hp _ HOK.out).mono ?_
        rintro e w4 ⟨rfl, hb4⟩
        have g1 := Below.cur hb4 (q1.allocOld _) (q1.allocOld _).lt
        have g2 := Below.cur hb4 (q2.allocOld _) (q2.allocOld _).lt
        have hbel4 := (hbel.alloc hsz _).trans (hb4.mono (by simp; omega))
        clear hb4 a0 a1 a2 a3 l1 l2 o0 o1 o2 hbel q1 q2
        have a0 := g2.c0; have a1 := g2.c1; have a2 := g2.c2; have a3 := g2.c3; have af := g2.fr
        go_wp2_with fail
        have hz4 := hbel4.size
        refine (byte_l hd hp ((Only.setAll _ _ d).cur g1 hne) HOK.out).mono ?_
        rintro e w5 ⟨rfl, r1, ho5⟩
        have r2 := ho5.cur (g2.setAll d) hne.symm
        have hbel5 := (hbel4.trans ((Only.setAll w4 BW d).below hBW hz4)).trans (ho5.below hB (Nat.le_trans hz4 (Only.setAll w4 BW d).size))
        clear ho5 a0 a1 a2 a3 af g1 g2 hbel4
        have a0 := r2.c0; have a1 := r2.c1; have a2 := r2.c2; have a3 := r2.c3
        go_wp2_with fail
        refine (stands_any r1 hdok.out).mono ?_
        rintro e w6 ⟨rfl, hb6⟩
        have HF := Lib.hid (show RRel len B BW w (.int .i64 ((k + 1 : Nat) : Int)) w6 from
          ⟨k + 1, d, by omega, rfl, hdok.out, Below.cur hb6 r1 r1.lt, Below.cur hb6 r2 r2.lt, hne, hB, hBW, hbel5.trans (hb6.mono hbel5.size)⟩)
        go_wp2
        go_roundw
        case rel => exact HF.out
        case measure => simp [intOf]; omega
      · have hq0 : (kd == 0) = false := by simp [hk0]
        clear hk0
        have hop := op_alloc (w := wr) (kd := kd) (n := n) (dp := dp)
        by_cases hk1 : kd = 1
        · have hq1 : (kd == 1) = true := by simp [hk1]
          clear hk1
          obtain ⟨d, hd0⟩ : ∃ d, d = c.take n := ⟨_, rfl⟩
          obtain ⟨T, hT0⟩ : ∃ T, T = c.takeS n := ⟨_, rfl⟩
          have hdok := Lib.hid (show d.ok by rw [hd0]; exact CS.take_ok hok n)
          have hd := Lib.hid hd0
          have hT := Lib.hid hT0
          clear hd0 hT0 hok
          go_wp2_with fail
          refine (ref_take_l hd hT _ HOK.out).mono ?_
          rintro e w4 ⟨rfl, hb4⟩
          have g1 := Below.cur hb4 (q1.allocOld _) (q1.allocOld _).lt
          have g2 := Below.cur hb4 (q2.allocOld _) (q2.allocOld _).lt
          have g3 := Below.op hb4 hop hop.lt
          have hbel4 := (hbel.alloc hsz _).trans (hb4.mono (by simp; omega))
          clear hb4 a0 a1 a2 a3 o0 o1 o2 hbel q1 q2 hop
          have a0 := g2.c0; have a1 := g2.c1; have a2 := g2.c2; have a3 := g2.c3; have af := g2.fr
          have o1 := g3.c1
          go_wp2_with fail
          have hz4 := hbel4.size
          refine (take_l hd hT ((Only.setAll _ _ d).cur g1 hne) HOK.out).mono ?_
          rintro e w5 ⟨rfl, r1, ho5⟩
          have r2 := ho5.cur (g2.setAll d) hne.symm
          have hbel5 := (hbel4.trans ((Only.setAll w4 BW d).below hBW hz4)).trans (ho5.below hB (Nat.le_trans hz4 (Only.setAll w4 BW d).size))
          clear ho5 a0 a1 a2 a3 af g1 g2 g3 o1 hbel4
          have a0 := r2.c0; have a1 := r2.c1; have a2 := r2.c2; have a3 := r2.c3
          go_wp2_with fail
          refine (stands_any r1 hdok.out).mono ?_
          rintro e w6 ⟨rfl, hb6⟩
          have HF := Lib.hid (show RRel len B BW w (.int .i64 ((k + 1 : Nat) : Int)) w6 from
            ⟨k + 1, d, by omega, rfl, hdok.out, Below.cur hb6 r1 r1.lt, Below.cur hb6 r2 r2.lt, hne, hB, hBW, hbel5.trans (hb6.mono hbel5.size)⟩)
          go_wp2
          go_roundw
          case rel => exact HF.out
          case measure => simp [intOf]; omega
        · have hq1 : (kd == 1) = false := by simp [hk1]
          clear hk1
          by_cases hk2 : kd = 2
          · have hq2 : (kd == 2) = true := by simp [hk2]
            clear hk2
            obtain ⟨d, hd0⟩ : ∃ d, d = c.fail n := ⟨_, rfl⟩
            have hdok := Lib.hid (show d.ok by rw [hd0]; exact CS.fail_ok hok n)
            have hd := Lib.hid hd0
            clear hd0 hok
            go_wp2_with fail
            refine (fail_l hd (q1.allocOld _)).mono ?_
            rintro e w4 ⟨rfl, g1, ho4⟩
            have g2 := ho4.cur (q2.allocOld _) hne.symm
            have g3 := ho4.op hop (by omega)
            have hbel4 := (hbel.alloc hsz _).trans (ho4.below hB (by simp; omega))
            clear ho4 a0 a1 a2 a3 o0 o1 o2 hbel q1 q2 hop
            have a0 := g2.c0; have a1 := g2.c1; have a2 := g2.c2; have a3 := g2.c3
            have o1 := g3.c1
            go_wp2_with fail
            have hz4 := hbel4.size
            refine (ref_fail_l hd _).mono ?_
            rintro e w5 ⟨rfl, hb5⟩
            have r1 := Below.cur hb5 g1 g1.lt
            have r2 := Below.cur hb5 g2 g2.lt
            have hbel5 := hbel4.trans (hb5.mono hz4)
            clear hb5 a0 a1 a2 a3 g1 g2 g3 o1 hbel4
            have a0 := r2.c0; have a1 := r2.c1; have a2 := r2.c2; have a3 := r2.c3; have af := r2.fr
            have hz5 := hbel5.size
            go_wp2_with fail
            refine (stands_any ((Only.setAll w5 BW d).cur r1 hne) hdok.out).mono ?_
            rintro e w6 ⟨rfl, hb6⟩
            have hbel6 := hbel5.trans ((Only.setAll w5 BW d).below hBW hz5)
            have s1 := (Only.setAll w5 BW d).cur r1 hne
            have s2 := r2.setAll d
            have HF := Lib.hid (show RRel len B BW w (.int .i64 ((k + 1 : Nat) : Int)) w6 from
              ⟨k + 1, d, by omega, rfl, hdok.out, Below.cur hb6 s1 s1.lt, Below.cur hb6 s2 s2.lt, hne, hB, hBW, hbel6.trans (hb6.mono hbel6.size)⟩)
            go_wp2
            go_roundw
            case rel => exact HF.out
            case measure => simp [intOf]; omega
          · have hq2 : (kd == 2) = false := by simp [hk2]
            clear hk2
            by_cases hy : c.why n = 0
            · obtain ⟨d, hd0⟩ : ∃ d, d = c.take n := ⟨_, rfl⟩
              obtain ⟨f, hf0⟩ : ∃ f, f = c.sub n := ⟨_, rfl⟩
              obtain ⟨g, hg0⟩ : ∃ g, g = f.take dp := ⟨_, rfl⟩
              obtain ⟨U, hU0⟩ : ∃ U, U = f.takeS dp := ⟨_, rfl⟩
              have hdok := Lib.hid (show d.ok by rw [hd0]; exact CS.take_ok hok n)
              have hfok := Lib.hid (show f.ok by rw [hf0]; exact CS.sub_ok hok n)
              have hgok := Lib.hid (show g.ok by rw [hg0, hf0]; exact CS.take_ok (CS.sub_ok hok n) dp)
              have hd := Lib.hid hd0
              have hf := Lib.hid hf0
              have hg := Lib.hid hg0
              have hU := Lib.hid hU0
              have HY := Lib.hid hy
              clear hd0 hf0 hg0 hU0 hok hy
              go_wp2_with fail
              refine (ref_sub_yes_l hd hf _ HOK.out HY.out).mono ?_
              rintro e w4 ⟨rfl, hb4⟩
              have g1 := Below.cur hb4 (q1.allocOld _) (q1.allocOld _).lt
              have g2 := Below.cur hb4 (q2.allocOld _) (q2.allocOld _).lt
              have g3 := Below.op hb4 hop hop.lt
              have hbel4 := (hbel.alloc hsz _).trans (hb4.mono (by simp; omega))
              have hz4 := hbel4.size
              clear hb4 a0 a1 a2 a3 o0 o1 o2 hbel q1 q2 hop
              have a0 := g2.c0; have a1 := g2.c1; have a2 := g2.c2; have a3 := g2.c3; have af := g2.fr
              have o1 := g3.c1
              have m2 := g2.lt; have m3 := g3.lt
              go_wp2_with fail
              obtain ⟨w5, hw5⟩ : ∃ w5, w5 = ((((((w4.setCell ⟨BW, 0, none⟩ (.string d.s)).setCell ⟨BW, 1, none⟩ (.int .i64 d.at_)).setCell ⟨BW, 2, none⟩ (.int .i64 d.en)).setCell ⟨BW, 3, none⟩ (.int .i64 d.er)).alloc (.cells #[.string d.s, .int .i64 d.at_, .int .i64 d.en, .int .i64 d.er] 28)).alloc (.cells #[.string f.s, .int .i64 f.at_, .int .i64 f.en, .int .i64 f.er] 28)) := ⟨_, rfl⟩
              rw [← hw5]
              obtain ⟨r1, r2, r3, r4, ho5, hz5⟩ := sub_laid (f := f) (d := d) g1 g2 g3 hne (by omega) hw5
              have hbel5 := hbel4.trans (ho5.below hBW hz4)
              have hzz := ho5.size
              clear hw5 a0 a1 a2 a3 af o1 g1 g2 g3 ho5 hbel4
              refine (sub_yes_l hd hf r1 HOK.out HY.out).mono ?_
              rintro e w6 ⟨X, rfl, hX, x1, s1, ho6⟩
              have s2 := ho6.cur r2 hne.symm
              have s3 := ho6.op r3 (by have := r1.lt; omega)
              have s4 := ho6.cur r4 (by have := r1.lt; omega)
              have hbel6 := hbel5.trans (ho6.below hB (by omega))
              have hz6 := ho6.size
              clear ho6 hbel5 r1 r2 r3 r4
              have v0 := s4.c0; have v1 := s4.c1; have v2 := s4.c2; have v3 := s4.c3
              have o2 := s3.c2
              go_wp2_with fail
              refine (ref_take_l hg hU _ hfok.out).mono ?_
              rintro e w7 ⟨rfl, hb7⟩
              have x7 := Below.cur hb7 x1 x1.lt
              have t1 := Below.cur hb7 s1 s1.lt
              have t2 := Below.cur hb7 s2 s2.lt
              have t3 := Below.op hb7 s3 s3.lt
              have t4 := Below.cur hb7 s4 s4.lt
              have hbel7 := hbel6.trans (hb7.mono (by omega))
              have hz7 := hb7.size
              clear hb7 hbel6 s1 s2 s3 s4 x1 v0 v1 v2 v3 o2
              have v0 := t4.c0; have v1 := t4.c1; have v2 := t4.c2; have v3 := t4.c3; have vf := t4.fr
              have o2 := t3.c2
              have hOb : wr.heap.size ≠ w4.heap.size + 1 := by omega
              have hXV : X ≠ w4.heap.size + 1 := by omega
              have hBV : B ≠ w4.heap.size + 1 := by omega
              have hBWV : BW ≠ w4.heap.size + 1 := by omega
              go_wp2_with fail
              have hA := Only.setAll w7 (w4.heap.size + 1) g
              refine (take_l hg hU (hA.cur x7 hXV) hfok.out).mono ?_
              rintro e w8 ⟨rfl, y1, ho8⟩
              have u1 := ho8.cur (hA.cur t1 hBV) (by omega)
              have u2 := ho8.cur (hA.cur t2 hBWV) (by omega)
              have u4 := ho8.cur (t4.setAll g) (by omega)
              have hbel8 := (hbel7.trans (hA.below (by omega) (by omega))).trans (ho8.below (by omega) (by have := hA.size; omega))
              clear ho8 hA hbel7 t1 t2 t3 t4 x7 v0 v1 v2 v3 vf o2
              have v0 := u4.c0; have v1 := u4.c1; have v2 := u4.c2; have v3 := u4.c3
              go_wp2_with fail
              refine (stands_any y1 hgok.out).mono ?_
              rintro e w9 ⟨rfl, hb9⟩
              have z1 := Below.cur hb9 u1 u1.lt
              have z2 := Below.cur hb9 u2 u2.lt
              have hbel9 := hbel8.trans (hb9.mono hbel8.size)
              clear hb9 hbel8 u1 u2 u4 y1 v0 v1 v2 v3
              have a0 := z2.c0; have a1 := z2.c1; have a2 := z2.c2; have a3 := z2.c3
              go_wp2_with fail
              refine (stands_any z1 hdok.out).mono ?_
              rintro e w10 ⟨rfl, hb10⟩
              have HF := Lib.hid (show RRel len B BW w (.int .i64 ((k + 1 : Nat) : Int)) w10 from
                ⟨k + 1, d, by omega, rfl, hdok.out, Below.cur hb10 z1 z1.lt, Below.cur hb10 z2 z2.lt, hne, hB, hBW, hbel9.trans (hb10.mono hbel9.size)⟩)
              go_wp2
              go_roundw
              case rel => exact HF.out
              case measure => simp [intOf]; omega
            · obtain ⟨d, hd0⟩ : ∃ d, d = c.take n := ⟨_, rfl⟩
              have hdok := Lib.hid (show d.ok by rw [hd0]; exact CS.take_ok hok n)
              have hd := Lib.hid hd0
              have HY := Lib.hid hy
              clear hd0 hok hy
              go_wp2_with fail
              refine (ref_sub_no_l hd _ HOK.out HY.out).mono ?_
              rintro e w4 ⟨rfl, hb4⟩
              have g1 := Below.cur hb4 (q1.allocOld _) (q1.allocOld _).lt
              have g2 := Below.cur hb4 (q2.allocOld _) (q2.allocOld _).lt
              have g3 := Below.op hb4 hop hop.lt
              have hbel4 := (hbel.alloc hsz _).trans (hb4.mono (by simp; omega))
              have hz4 := hbel4.size
              clear hb4 a0 a1 a2 a3 o0 o1 o2 hbel q1 q2 hop
              have a0 := g2.c0; have a1 := g2.c1; have a2 := g2.c2; have a3 := g2.c3; have af := g2.fr
              have o1 := g3.c1
              have m2 := g2.lt; have m3 := g3.lt
              go_wp2_with fail
              obtain ⟨w5, hw5⟩ : ∃ w5, w5 = ((((((w4.setCell ⟨BW, 0, none⟩ (.string d.s)).setCell ⟨BW, 1, none⟩ (.int .i64 d.at_)).setCell ⟨BW, 2, none⟩ (.int .i64 d.en)).setCell ⟨BW, 3, none⟩ (.int .i64 d.er)).alloc (.cells #[.string d.s, .int .i64 d.at_, .int .i64 d.en, .int .i64 d.er] 28)).alloc (.cells #[.string ⟨#[]⟩, .int .i64 0, .int .i64 0, .int .i64 0] 28)) := ⟨_, rfl⟩
              rw [← hw5]
              obtain ⟨r1, r2, r3, r4, ho5, hz5⟩ := sub_laid (f := CS.zero) (d := d) g1 g2 g3 hne (by omega) hw5
              have hbel5 := hbel4.trans (ho5.below hBW hz4)
              have hzz := ho5.size
              clear hw5 a0 a1 a2 a3 af o1 g1 g2 g3 ho5 hbel4
              refine (sub_no_l hd r1 HOK.out HY.out).mono ?_
              rintro e w6 ⟨rfl, s1, ho6⟩
              have s2 := ho6.cur r2 hne.symm
              have hbel6 := hbel5.trans (ho6.below hB (by omega))
              clear ho6 hbel5 r1 r2 r3 r4
              have a0 := s2.c0; have a1 := s2.c1; have a2 := s2.c2; have a3 := s2.c3
              go_wp2_with fail
              refine (stands_any s1 hdok.out).mono ?_
              rintro e w7 ⟨rfl, hb7⟩
              have HF := Lib.hid (show RRel len B BW w (.int .i64 ((k + 1 : Nat) : Int)) w7 from
                ⟨k + 1, d, by omega, rfl, hdok.out, Below.cur hb7 s1 s1.lt, Below.cur hb7 s2 s2.lt, hne, hB, hBW, hbel6.trans (hb7.mono hbel6.size)⟩)
              go_wp2
              go_roundw
              case rel => exact HF.out
              case measure => simp [intOf]; omega
    · have hlt' : ¬ (k : Int) < len := by omega
      have hd1 : decide ((k : Int) < len) = false := by simp; omega
      go_wp2_with fail
      refine (works_any _).mono ?_
      rintro e w4 ⟨rfl, hb4⟩
      go_wp2
      go_ret
      exact ⟨rfl, hbel.trans (hb4.mono hsz)⟩

end Go.Proofs.Ytikjckdeciagiaa
