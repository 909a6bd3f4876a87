/- JpickLists, walked. -/
import Derived.Test.YtmkcfilgiehjaaaGreatDoorZZ
import Derived.Test.YtmkcfilgiehjaaaGreatDoorJpWork
namespace Go.Proofs.YtmkcfilgiehjaaaGreatDoor
open Go Go.RowKit
set_option linter.unusedVariables false

theorem jlists_long (s k : ByteArray) (x : Int) (w : World) (h : 300 < s.size) (hh : Hds w) (hm : MaxL w) :
    Calls Tryz.prog 5 #[.string s, .int .i64 x, .string k] w fun e w' => e = .returned (.bool true) ∧ Below w.heap.size w w' := by
  have p1 : decide (300 < (s.size : Int)) = true := decide_eq_true (by omega)
  have HW := Lib.hid (works14_any w hh hm)
  clear hh hm
  go_enter Tryz.func5, Tryz.ntmps5
  go_wp2_with ((with_reducible refine HW.out.mono ?_); rintro e w2 ⟨rfl, hbel2⟩)
  go_ret
  exact ⟨rfl, hbel2⟩
theorem fd_two (w4 : World) (t u : TypeId) (x y : Value) (b d : Bool) (c e : Int) :
    FdT t ((w4.alloc (.cells #[x, .bool b, .int .i64 c] t)).alloc (.cells #[y, .bool d, .int .i64 e] u)) w4.heap.size x b c ∧
    FdT u ((w4.alloc (.cells #[x, .bool b, .int .i64 c] t)).alloc (.cells #[y, .bool d, .int .i64 e] u)) (w4.heap.size + 1) y d e ∧
    Below w4.heap.size w4 ((w4.alloc (.cells #[x, .bool b, .int .i64 c] t)).alloc (.cells #[y, .bool d, .int .i64 e] u)) := by
  have q1 := FdT.new w4 t x b c
  have b1 := alloc_below w4 (.cells #[x, .bool b, .int .i64 c] t)
  have e1 : (w4.alloc (.cells #[x, .bool b, .int .i64 c] t)).heap.size = w4.heap.size + 1 := by simp
  generalize w4.alloc (.cells #[x, .bool b, .int .i64 c] t) = w5 at *
  have q2 := FdT.new w5 u y d e
  have b2 := alloc_below w5 (.cells #[y, .bool d, .int .i64 e] u)
  generalize w5.alloc (.cells #[y, .bool d, .int .i64 e] u) = w6 at *
  rw [e1] at q2
  exact ⟨q1.below b2, q2, b1.trans (b2.mono (by omega))⟩
theorem fo_pk (L : List ND) (x : Int) (key : List UInt8) (hs : SzOk L) : decide (0 ≤ fdV (pkL L x key 123 123).1) = (foA L x key).2.1 ∧ max 0 (fdV (pkL L x key 123 123).1) = (foA L x key).1 ∧ (pkL L x key 123 123).2 = (foA L x key).2.2 := by
  unfold foA
  cases hp : pkL L x key 123 123 with
  | mk r e =>
    cases r with
    | none => exact ⟨rfl, rfl, rfl⟩
    | some k =>
      have := (pkL_at hs (x := x) (key := key) (c := 123) (d := 123) (k := k) (by rw [hp])).2.2.1
      rw [hp] at this
      refine ⟨decide_eq_true (by show (0 : Int) ≤ (k : Nat); omega), ?_, this⟩
      show max 0 ((k : Nat) : Int) = (k : Nat)
      omega
theorem fl_pk (L : List ND) (x : Int) (key : List UInt8) (hs : SzOk L) : decide (0 ≤ fdV (pkL L x key 91 91).1) = (flA L x key).2.1 ∧ kidsL L (fdV (pkL L x key 91 91).1) = (flA L x key).1 ∧ (pkL L x key 91 91).2 = (flA L x key).2.2 := by
  unfold flA
  cases hp : pkL L x key 91 91 with
  | mk r e =>
    cases r with
    | none => exact ⟨rfl, rfl, rfl⟩
    | some k =>
      have := (pkL_at hs (x := x) (key := key) (c := 91) (d := 91) (k := k) (by rw [hp])).2.2.1
      rw [hp] at this
      exact ⟨decide_eq_true (by show (0 : Int) ≤ (k : Nat); omega), rfl, this⟩
theorem fdV_in (L : List ND) (x : Int) (key : List UInt8) (c d : UInt8) (hs : SzOk L) : -1 ≤ fdV (pkL L x key c d).1 ∧ fdV (pkL L x key c d).1 < L.length := by
  cases hp : (pkL L x key c d).1 with
  | none => exact ⟨Int.le_refl _, by show (-1 : Int) < L.length; omega⟩
  | some k =>
    have := (pkL_at hs hp).1
    exact ⟨by show (-1 : Int) ≤ (k : Nat); omega, by show ((k : Nat) : Int) < L.length; omega⟩
theorem kids_le (L : List ND) (x : Int) : (kidsL L x).length ≤ L.length := by
  unfold kidsL
  split
  · exact Nat.zero_le _
  · exact kdL_len _ _ _ _
def LsRel (n : Nat) (W : World) (i : Value) (wr : World) : Prop := ∃ j : Nat, j ≤ n ∧ i = .int .i64 (j : Nat) ∧ Below W.heap.size W wr
set_option maxRecDepth 100000 in
set_option maxHeartbeats 4000000 in
theorem jlists_short (s : ByteArray) (key : List UInt8) (x : Int) (w : World) (h : s.size ≤ 300) (h0 : -9223372036854775808 ≤ x) (h1 : x ≤ 9223372036854775807) (hh : Hds w) (hm : MaxL w) :
    Calls Tryz.prog 5 #[.string s, .int .i64 x, .string (bA key)] w fun e w' => e = .returned (.bool true) ∧ Below w.heap.size w w' := by
  have p1 : decide (300 < (s.size : Int)) = false := decide_eq_false (by omega)
  have HT := Lib.hid (show ∀ w', Below w.heap.size w w' → Hds w' ∧ MaxL w' from fun w' hb => ⟨hh.below hb hh.lt, hm.below hb hm.lt⟩)
  obtain ⟨L, C, hsz, hL, _, hR⟩ := l14_set s h
  have HR := Lib.hid (hR w)
  have HO := Lib.hid (fun a k w hin => jobject_any a k L x key w (by omega) hin hsz h0 h1)
  have HLs := Lib.hid (fun a k w hin => jlist_any a k L x key w (by omega) hin hsz h0 h1)
  have HP1 := Lib.hid (show ∀ a k w, NIn w a L → Calls Tryz.prog 16 #[.slice a L.length k, .int .i64 x, .string (bA key), .int .u8 123, .int .u8 123] w fun o w' => o = .returned (.tuple #[.int .i64 (fdV (pkL L x key 123 123).1), .int .i64 (pkL L x key 123 123).2]) ∧ Below w.heap.size w w' from fun a k w hin => rpick_any a k L x key 123 123 w (by omega) hin hsz h0 h1)
  have HP2 := Lib.hid (show ∀ a k w, NIn w a L → Calls Tryz.prog 16 #[.slice a L.length k, .int .i64 x, .string (bA key), .int .u8 91, .int .u8 91] w fun o w' => o = .returned (.tuple #[.int .i64 (fdV (pkL L x key 91 91).1), .int .i64 (pkL L x key 91 91).2]) ∧ Below w.heap.size w w' from fun a k w hin => rpick_any a k L x key 91 91 w (by omega) hin hsz h0 h1)
  have hj := fdV_in L x key 91 91 hsz
  have HK := Lib.hid (fun a k w hin => rkids_any a k L (fdV (pkL L x key 91 91).1) w (by omega) hin hsz (by omega) (by omega))
  obtain ⟨z1, z2, z3⟩ := fo_pk L x key hsz
  obtain ⟨y1, y2, y3⟩ := fl_pk L x key hsz
  have hKl := kids_le L (fdV (pkL L x key 91 91).1)
  rw [y2] at hKl
  rw [z3] at HP1
  rw [y3] at HP2
  rw [y2] at HK
  generalize fdV (pkL L x key 123 123).1 = k1 at *
  generalize fdV (pkL L x key 91 91).1 = j1 at *
  generalize (foA L x key).1 = ov at *
  generalize (foA L x key).2.1 = b1 at *
  generalize (foA L x key).2.2 = c1 at *
  generalize (flA L x key).1 = K at *
  generalize (flA L x key).2.1 = b2 at *
  generalize (flA L x key).2.2 = c2 at *
  clear hh hm hR hsz h h0 h1 y2 z3 y3 hj
  go_enter Tryz.func5, Tryz.ntmps5
  go_wp2_with fail
  with_reducible refine HR.out.mono ?_
  rintro e w1 ⟨a1, k1', rfl, i1, d1⟩
  have I1 := Lib.hid i1
  have B1 := Lib.hid d1
  clear i1 d1 HR
  go_wp2_with fail
  with_reducible refine (l14_own a1 k1' L hL w1 I1.out).mono ?_
  rintro e w2 ⟨a2, k2, rfl, i2, d2⟩
  have I2 := Lib.hid i2
  have J2 := Lib.hid (I1.out.below d2 (Nat.le_refl _))
  have B2 := Lib.hid (B1.out.trans (d2.mono B1.out.size))
  clear i2 d2 I1 B1
  go_wp2_with fail
  with_reducible refine (HO.out a2 k2 w2 I2.out).mono ?_
  rintro e w3 ⟨rfl, d3⟩
  have I3 := Lib.hid (I2.out.below d3 (Nat.le_refl _))
  have J3 := Lib.hid (J2.out.below d3 (Nat.le_refl _))
  have B3 := Lib.hid (B2.out.trans (d3.mono B2.out.size))
  clear d3 I2 J2 B2 HO
  go_wp2_with fail
  with_reducible refine (HLs.out a2 k2 w3 I3.out).mono ?_
  rintro e w4 ⟨v, rfl, hv, d4⟩
  obtain ⟨va, vc, rfl, hi⟩ := hv.inn
  have J4 := Lib.hid (J3.out.below d4 (Nat.le_refl _))
  have B4 := Lib.hid (B3.out.trans (d4.mono B3.out.size))
  have V4 := Lib.hid hi
  clear d4 hv hi I3 J3 B3 HLs
  go_upto_region 6 with fail
  have FF := Lib.hid (fd_two w4 38 51 (.int .i64 ov) (.slice va K.length vc) b1 b2 c1 c2)
  have J5 := Lib.hid (J4.out.below FF.out.2.2 (Nat.le_refl _))
  have B5 := Lib.hid (B4.out.trans (FF.out.2.2.mono B4.out.size))
  have V5 := Lib.hid (V4.out.below FF.out.2.2 (Nat.le_refl _))
  have F5 := Lib.hid FF.out.1
  have G5 := Lib.hid FF.out.2.1
  clear FF J4 B4 V4
  generalize (w4.alloc (.cells #[.int .i64 ov, .bool b1, .int .i64 c1] 38)).alloc (.cells #[.slice va K.length vc, .bool b2, .int .i64 c2] 51) = w5 at *
  generalize w4.heap.size = G at *
  go_wp2_with fail
  with_reducible refine (HP1.out a1 k1' w5 J5.out).mono ?_
  rintro e w6 ⟨rfl, d6⟩
  have J6 := Lib.hid (J5.out.below d6 (Nat.le_refl _))
  have B6 := Lib.hid (B5.out.trans (d6.mono B5.out.size))
  have V6 := Lib.hid (V5.out.below d6 (Nat.le_refl _))
  have F6 := Lib.hid (F5.out.below d6)
  have G6 := Lib.hid (G5.out.below d6)
  clear d6 J5 B5 V5 F5 G5 HP1
  go_wp2_with fail
  with_reducible refine (HP2.out a1 k1' w6 J6.out).mono ?_
  rintro e w7 ⟨rfl, d7⟩
  have J7 := Lib.hid (J6.out.below d7 (Nat.le_refl _))
  have B7 := Lib.hid (B6.out.trans (d7.mono B6.out.size))
  have V7 := Lib.hid (V6.out.below d7 (Nat.le_refl _))
  have F7 := Lib.hid (F6.out.below d7)
  have G7 := Lib.hid (G6.out.below d7)
  clear d7 J6 B6 V6 F6 G6 HP2
  have f0 := F7.out.c0; have f1 := F7.out.c1; have f2 := F7.out.c2
  have g0 := G7.out.c0; have g1 := G7.out.c1; have g2 := G7.out.c2
  go_wp2_with fail
  with_reducible refine (HK.out a1 k1' w7 J7.out).mono ?_
  rintro e w8 ⟨u, rfl, hu, d8⟩
  obtain ⟨ua, uc, rfl, hui⟩ := hu.inn
  have B8 := Lib.hid (B7.out.trans (d8.mono B7.out.size))
  have V8 := Lib.hid (V7.out.below d8 (Nat.le_refl _))
  have U8 := Lib.hid hui
  have G8 := Lib.hid (G7.out.below d8)
  clear d8 J7 B7 V7 F7 G7 HK f0 f1 f2 g0 g1 g2 hu hui
  have g0 := G8.out.c0
  have hKn : (K.length : Int) ≤ 300 := by omega
  go_wp2_with fail
  clear g0
  go_loopw [17] (fun i wr => LsRel K.length w8 i wr) (fun i _ => K.length - (intOf i).toNat)
  case atStart => exact ⟨0, Nat.zero_le _, rfl, Below.refl _ _⟩
  case round =>
    obtain ⟨j, hj, rfl, hbel⟩ := hrel
    by_cases hlt : j < K.length
    · have p3 : decide (j < K.length) = true := decide_eq_true hlt
      have p4 : (j : Int) < (K.length : Int) := by omega
      have p5 : (0 : Int) ≤ (j : Int) := by omega
      have hj1 : (j : Int) ≤ 300 := by omega
      obtain ⟨vb, rfl, -, e1⟩ := (V8.out.below hbel (Nat.le_refl _)) j hlt
      obtain ⟨ub, rfl, -, e2⟩ := (U8.out.below hbel (Nat.le_refl _)) j hlt
      have g0 := (G8.out.below hbel).c0
      have HB := Lib.hid hbel
      have HLt := Lib.hid hlt
      generalize K[j] = m at *
      clear hbel hlt
      go_wp2_with fail
      go_quiet (fail)
      go_wp2
      go_roundw
      case rel => exact ⟨j + 1, HLt.out, by go_num, HB.out.trans ((drew_below _ _).mono HB.out.size)⟩
      case measure => have := HLt.out; simp [intOf]; omega
    · have p3 : decide (j < K.length) = false := decide_eq_false hlt
      have p4 : ¬ j < K.length := hlt
      have B9 := Lib.hid (B8.out.trans (hbel.mono B8.out.size))
      have HW := Lib.hid (works14_any wr (HT.out _ B9.out).1 (HT.out _ B9.out).2)
      clear hbel hlt
      go_wp2_with fail
      with_reducible refine HW.out.mono ?_
      rintro e w9 ⟨rfl, d9⟩
      have B10 := Lib.hid (B9.out.trans (d9.mono B9.out.size))
      clear d9 HW
      go_wp2
      go_ret
      exact ⟨rfl, B10.out⟩
theorem jlists_any (s : ByteArray) (x : Int) (k : ByteArray) (w : World) (hs : s.size ≤ 140737488351232) (h0 : -9223372036854775808 ≤ x) (h1 : x ≤ 9223372036854775807) (hk : k.size ≤ 140737488351232) (hh : Hds w) (hm : MaxL w) :
    Calls Tryz.prog 5 #[.string s, .int .i64 x, .string k] w fun e w' => e = .returned (.bool true) ∧ Below w.heap.size w w' := by
  by_cases h : 300 < s.size
  · exact jlists_long s k x w h hh hm
  · have := jlists_short s k.data.toList x w (by omega) h0 h1 hh hm
    rw [bA_of] at this; exact this
end Go.Proofs.YtmkcfilgiehjaaaGreatDoor
