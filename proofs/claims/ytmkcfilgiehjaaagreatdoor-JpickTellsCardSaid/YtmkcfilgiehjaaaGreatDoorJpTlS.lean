/- JpickTells where a truth is found. -/
import Derived.Test.YtmkcfilgiehjaaaGreatDoorYX
import Derived.Deep.RegionHeld3
namespace Go.Proofs.YtmkcfilgiehjaaaGreatDoor
open Go Go.RowKit
set_option linter.unusedVariables false

set_option maxRecDepth 100000 in
set_option maxHeartbeats 8000000 in
theorem jtells_some (s : ByteArray) (L : List ND) (C : Int) (key : List UInt8) (x : Int) (w : World) (h : s.size ≤ 300) (hsz : SzOk L) (hL : L.length ≤ 300) (htx : ∀ k, k < L.length → (txL L k).length ≤ 1048576)
    (hR : ∀ w, Calls Tryz.prog 7 #[.string s] w fun e w' => ∃ a k, e = .returned (.tuple #[.slice a L.length k, .int .i64 C]) ∧ NIn w' a L ∧ Below w.heap.size w w')
    (h0 : -9223372036854775808 ≤ x) (h1 : x ≤ 9223372036854775807) (hh : Hds w) (hm : MaxL w) (q : Nat) (hp : (pkL L x key 116 102).1 = some q) :
    Calls Tryz.prog 4 #[.string s, .int .i64 x, .string (bA key)] w fun e w' => e = .returned (.bool true) ∧ Below w.heap.size w w' := by
  have p1 : decide (300 < (s.size : Int)) = false := decide_eq_false (by omega)
  have HT := Lib.hid (show ∀ w', Below w.heap.size w w' → Hds w' ∧ MaxL w' from fun w' hb => ⟨hh.below hb hh.lt, hm.below hb hm.lt⟩)
  have HR := Lib.hid (hR w)
  have HA := Lib.hid (fun a k w hin => jtext_any a k L x key w (by omega) hin hsz h0 h1)
  have HB := Lib.hid (fun a k w hin hm => jwhole_any a k L x key w (by omega) hin hsz h0 h1 htx hm)
  have HC := Lib.hid (fun a k w hin => jflag_any a k L x key w (by omega) hin hsz h0 h1)
  have HD := Lib.hid (fun a k w hin => rtextP_any a k L x key w (by omega) hin hsz h0 h1)
  have HE := Lib.hid (fun a k w hin => rwholeP_any a k L x key w (by omega) hin hsz h0 h1 htx)
  have HP := Lib.hid (show ∀ a k w, NIn w a L → Calls Tryz.prog 16 #[.slice a L.length k, .int .i64 x, .string (bA key), .int .u8 116, .int .u8 102] w fun o w' => o = .returned (.tuple #[.int .i64 (fdV (pkL L x key 116 102).1), .int .i64 (pkL L x key 116 102).2]) ∧ Below w.heap.size w w' from fun a k w hin => rpick_any a k L x key 116 102 w (by omega) hin hsz h0 h1)
  have hq := (pkL_at hsz hp).1
  rw [ff_some hsz hp] at HC
  rw [hp, show fdV (some q) = ((q : Nat) : Int) from rfl] at HP
  have q1 : (q : Int) < (L.length : Int) := by omega
  have q2 : (0 : Int) ≤ (q : Int) := by omega
  have q3 : decide (0 ≤ (q : Int)) = true := decide_eq_true q2
  have q4 : max 0 (q : Int) = (q : Int) := by omega
  have HKN := Lib.hid (show ∃ h : q < L.length, knL L q = L[q].1 from ⟨hq, kn_at hq⟩)
  have r1 : (((knL L q).toNat : Int) == 116) = decide (knL L q = 116) := eq8 (knL L q) 116
  generalize knL L q = y at *
  generalize decide (y = 116) = fv at *
  generalize (pkL L x key 116 102).2 = fc at *
  generalize (ftA L x key).1 = tv at *
  generalize (ftA L x key).2.1 = tb at *
  generalize (ftA L x key).2.2 = tc at *
  generalize (fwA L x key).1 = nv at *
  generalize (fwA L x key).2.1 = nb at *
  generalize (fwA L x key).2.2 = nc at *
  clear hh hm hR hsz h h0 h1 htx hp hq
  go_enter Tryz.func4, Tryz.ntmps4
  go_wp2_with fail
  with_reducible refine HR.out.mono ?_
  rintro e w1 ⟨a1, k1, rfl, i1, d1⟩
  have I1 := Lib.hid i1
  have B1 := Lib.hid d1
  clear i1 d1 HR
  go_wp2_with fail
  with_reducible refine (l14_own a1 k1 L hL w1 I1.out).mono ?_
  rintro e w2 ⟨a2, k2, rfl, i2, d2⟩
  have I2 := Lib.hid i2
  have J2 := Lib.hid (I1.out.below d2 (Nat.le_refl _))
  have B2 := Lib.hid (B1.out.trans (d2.mono B1.out.size))
  clear i2 d2 I1 B1
  go_wp2_with fail
  with_reducible refine (HA.out a2 k2 w2 I2.out).mono ?_
  rintro e w3 ⟨rfl, d3⟩
  have I3 := Lib.hid (I2.out.below d3 (Nat.le_refl _))
  have J3 := Lib.hid (J2.out.below d3 (Nat.le_refl _))
  have B3 := Lib.hid (B2.out.trans (d3.mono B2.out.size))
  clear d3 I2 J2 B2 HA
  go_wp2_with fail
  with_reducible refine (HB.out a2 k2 w3 I3.out (HT.out _ B3.out).2).mono ?_
  rintro e w4 ⟨rfl, d4⟩
  have I4 := Lib.hid (I3.out.below d4 (Nat.le_refl _))
  have J4 := Lib.hid (J3.out.below d4 (Nat.le_refl _))
  have B4 := Lib.hid (B3.out.trans (d4.mono B3.out.size))
  clear d4 I3 J3 B3 HB
  go_wp2_with fail
  with_reducible refine (HC.out a2 k2 w4 I4.out).mono ?_
  rintro e w5 ⟨rfl, d5⟩
  have I5 := Lib.hid (I4.out.below d5 (Nat.le_refl _))
  have J5 := Lib.hid (J4.out.below d5 (Nat.le_refl _))
  have B5 := Lib.hid (B4.out.trans (d5.mono B4.out.size))
  clear d5 I4 J4 B4 HC
  go_upto_region 6 with fail
  have FF := Lib.hid (fd_threes w5 35 38 41 (.string (bA tv)) (.int .i64 nv) (.bool fv) tb nb true tc nc fc)
  have J6 := Lib.hid (J5.out.below FF.out.2.2.2 (Nat.le_refl _))
  have B6 := Lib.hid (B5.out.trans (FF.out.2.2.2.mono B5.out.size))
  have E6 := Lib.hid FF.out.1
  have F6 := Lib.hid FF.out.2.1
  have G6 := Lib.hid FF.out.2.2.1
  clear FF I5 J5 B5
  generalize ((w5.alloc (.cells #[.string (bA tv), .bool tb, .int .i64 tc] 35)).alloc (.cells #[.int .i64 nv, .bool nb, .int .i64 nc] 38)).alloc (.cells #[.bool fv, .bool true, .int .i64 fc] 41) = w6 at *
  generalize w5.heap.size = G at *
  go_wp2_with fail
  with_reducible refine (HD.out a1 k1 w6 J6.out).mono ?_
  rintro e w7 ⟨rfl, d7⟩
  have J7 := Lib.hid (J6.out.below d7 (Nat.le_refl _))
  have B7 := Lib.hid (B6.out.trans (d7.mono B6.out.size))
  have E7 := Lib.hid (E6.out.below d7)
  have F7 := Lib.hid (F6.out.below d7)
  have G7 := Lib.hid (G6.out.below d7)
  clear d7 J6 B6 E6 F6 G6 HD
  go_wp2_with fail
  with_reducible refine (HE.out a1 k1 w7 J7.out).mono ?_
  rintro e w8 ⟨rfl, d8⟩
  have J8 := Lib.hid (J7.out.below d8 (Nat.le_refl _))
  have B8 := Lib.hid (B7.out.trans (d8.mono B7.out.size))
  have E8 := Lib.hid (E7.out.below d8)
  have F8 := Lib.hid (F7.out.below d8)
  have G8 := Lib.hid (G7.out.below d8)
  clear d8 J7 B7 E7 F7 G7 HE
  go_wp2_with fail
  with_reducible refine (HP.out a1 k1 w8 J8.out).mono ?_
  rintro e w9 ⟨rfl, d9⟩
  have J9 := Lib.hid (J8.out.below d9 (Nat.le_refl _))
  have B9 := Lib.hid (B8.out.trans (d9.mono B8.out.size))
  have E9 := Lib.hid (E8.out.below d9)
  have F9 := Lib.hid (F8.out.below d9)
  have G9 := Lib.hid (G8.out.below d9)
  clear d9 J8 B8 E8 F8 G8 HP
  have e0 := E9.out.c0; have e1 := E9.out.c1; have e2 := E9.out.c2
  have f0 := F9.out.c0; have f1 := F9.out.c1; have f2 := F9.out.c2
  go_upto_region 11 with fail
  clear e0 e1 e2 f0 f1 f2 E9 F9
  have HW := Lib.hid (fun wx (hx : T14 w (G + 1 + 1) fv true fc wx) => works14_any wx (HT.out _ hx.b).1 (HT.out _ hx.b).2)
  have HC0 := (show T14 w (G + 1 + 1) fv true fc w9 from ⟨G9.out, B9.out⟩).cells
  obtain ⟨hq, hkn⟩ := HKN.out
  obtain ⟨g, hg, hgl, c0, -⟩ := J9.out q hq
  subst hg
  rw [← hkn] at c0
  clear hkn hq
  have HC1 : TD w (G + 1 + 1) g q y fv true fc w9 := ⟨c0, HC0⟩
  clear HC0 c0 J9 G9 B9
  go_region_held3 (fun wx => wx.cell? ⟨g, q * 4, none⟩ = some (.int .u8 (y.toNat : Int)) ∧ wx.cell? ⟨G + 1 + 1, 0, none⟩ = some (.bool fv) ∧ wx.cell? ⟨G + 1 + 1, 1, none⟩ = some (.bool true) ∧ wx.cell? ⟨G + 1 + 1, 2, none⟩ = some (.int .i64 fc) ∧ T14 w (G + 1 + 1) fv true fc wx)
    (first | with_reducible exact HC1 | with_reducible exact td_next (drew_below _ _) hgl HC1 | with_reducible exact hTD)
    (first | (go_at_call 6; (with_reducible refine (HW.out _ (TC.w (And.right (by assumption)))).mono ?_); rintro e w' ⟨rfl, hbq⟩; have hTD := td_next hbq (Nat.lt_of_lt_of_le hgl (drew_below w9 1).size) (by assumption)))
  rename_i hHeld9
  have HF := Lib.hid (TC.w hHeld9.2).b
  clear hHeld9 HC1
  go_wp2
  go_ret
  exact ⟨rfl, HF.out⟩
end Go.Proofs.YtmkcfilgiehjaaaGreatDoor
