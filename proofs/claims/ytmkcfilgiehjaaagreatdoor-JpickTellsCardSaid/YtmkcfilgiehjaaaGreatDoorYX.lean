/- Several texts in one (JpTlA, JpTlN): each begins with its own words. -/
import Derived.Test.YtmkcfilgiehjaaaGreatDoorZZ
import Derived.Test.YtmkcfilgiehjaaaGreatDoorJpWork
import Derived.Deep.RegionHeld3
/- JpickTells: what its two ways share. -/
namespace Go.Proofs.YtmkcfilgiehjaaaGreatDoor
open Go Go.RowKit
set_option linter.unusedVariables false

theorem jtells_long (s k : ByteArray) (x : Int) (w : World) (h : 300 < s.size) (hh : Hds w) (hm : MaxL w) :
    Calls Tryz.prog 4 #[.string s, .int .i64 x, .string k] w fun e w' => e = .returned (.bool true) ∧ Below w.heap.size w w' := by
  have p1 : decide (300 < (s.size : Int)) = true := decide_eq_true (by omega)
  have HW := Lib.hid (works14_any w hh hm)
  clear hh hm
  go_enter Tryz.func4, Tryz.ntmps4
  go_wp2_with ((with_reducible refine HW.out.mono ?_); rintro e w2 ⟨rfl, hbel2⟩)
  go_ret
  exact ⟨rfl, hbel2⟩
theorem fd_threes (w4 : World) (t u r : TypeId) (x y z : Value) (b d f : Bool) (c e g : Int) :
    FdT t (((w4.alloc (.cells #[x, .bool b, .int .i64 c] t)).alloc (.cells #[y, .bool d, .int .i64 e] u)).alloc (.cells #[z, .bool f, .int .i64 g] r)) w4.heap.size x b c ∧
    FdT u (((w4.alloc (.cells #[x, .bool b, .int .i64 c] t)).alloc (.cells #[y, .bool d, .int .i64 e] u)).alloc (.cells #[z, .bool f, .int .i64 g] r)) (w4.heap.size + 1) y d e ∧
    FdT r (((w4.alloc (.cells #[x, .bool b, .int .i64 c] t)).alloc (.cells #[y, .bool d, .int .i64 e] u)).alloc (.cells #[z, .bool f, .int .i64 g] r)) (w4.heap.size + 1 + 1) z f g ∧
    Below w4.heap.size w4 (((w4.alloc (.cells #[x, .bool b, .int .i64 c] t)).alloc (.cells #[y, .bool d, .int .i64 e] u)).alloc (.cells #[z, .bool f, .int .i64 g] r)) := by
  have q1 := FdT.new w4 t x b c
  have b1 := alloc_below w4 (.cells #[x, .bool b, .int .i64 c] t)
  have e1 : (w4.alloc (.cells #[x, .bool b, .int .i64 c] t)).heap.size = w4.heap.size + 1 := by simp
  generalize w4.alloc (.cells #[x, .bool b, .int .i64 c] t) = w5 at *
  have q2 := FdT.new w5 u y d e
  have b2 := alloc_below w5 (.cells #[y, .bool d, .int .i64 e] u)
  have e2 : (w5.alloc (.cells #[y, .bool d, .int .i64 e] u)).heap.size = w5.heap.size + 1 := by simp
  generalize w5.alloc (.cells #[y, .bool d, .int .i64 e] u) = w6 at *
  have q3 := FdT.new w6 r z f g
  have b3 := alloc_below w6 (.cells #[z, .bool f, .int .i64 g] r)
  generalize w6.alloc (.cells #[z, .bool f, .int .i64 g] r) = w7 at *
  rw [e2, e1] at q3
  rw [e1] at q2
  exact ⟨(q1.below b2).below b3, q2.below b3, q3, (b1.trans (b2.mono (by omega))).trans (b3.mono (by omega))⟩
/-- What the law's last look reads. -/
structure T14 (W : World) (G : Nat) (fv fb : Bool) (fc : Int) (w : World) : Prop where
  f : FdT 41 w G (.bool fv) fb fc
  b : Below W.heap.size W w
theorem T14.next {W w w' : World} {G : Nat} {fv fb : Bool} {fc : Int} (h : T14 W G fv fb fc w) (hb : Below w.heap.size w w') : T14 W G fv fb fc w' := ⟨h.f.below hb, h.b.trans (hb.mono h.b.size)⟩
@[reducible] def TC (W : World) (G : Nat) (fv fb : Bool) (fc : Int) (w : World) : Prop :=
  w.cell? ⟨G, 0, none⟩ = some (.bool fv) ∧ w.cell? ⟨G, 1, none⟩ = some (.bool fb) ∧ w.cell? ⟨G, 2, none⟩ = some (.int .i64 fc) ∧ T14 W G fv fb fc w
theorem T14.cells {W w : World} {G : Nat} {fv fb : Bool} {fc : Int} (h : T14 W G fv fb fc w) : TC W G fv fb fc w := ⟨h.f.c0, h.f.c1, h.f.c2, h⟩
theorem tc_next {W w w' : World} {G : Nat} {fv fb : Bool} {fc : Int} (hb : Below w.heap.size w w') (h : TC W G fv fb fc w) : TC W G fv fb fc w' := (h.2.2.2.next hb).cells
theorem TC.w {W w : World} {G : Nat} {fv fb : Bool} {fc : Int} (h : TC W G fv fb fc w) : T14 W G fv fb fc w := h.2.2.2
@[reducible] def TD (W : World) (G g q : Nat) (y : UInt8) (fv fb : Bool) (fc : Int) (w : World) : Prop :=
  w.cell? ⟨g, q * 4, none⟩ = some (.int .u8 (y.toNat : Int)) ∧ w.cell? ⟨G, 0, none⟩ = some (.bool fv) ∧ w.cell? ⟨G, 1, none⟩ = some (.bool fb) ∧ w.cell? ⟨G, 2, none⟩ = some (.int .i64 fc) ∧ T14 W G fv fb fc w
theorem td_next {W w w' : World} {G g q : Nat} {y : UInt8} {fv fb : Bool} {fc : Int} (hb : Below w.heap.size w w') (hg : g < w.heap.size) (h : TD W G g q y fv fb fc w) : TD W G g q y fv fb fc w' :=
  ⟨(hb.cell (p := ⟨g, q * 4, none⟩) hg).trans h.1, tc_next hb h.2⟩
theorem td_drew {W w : World} {G g q n : Nat} {y : UInt8} {fv fb : Bool} {fc : Int} (hg : g < w.heap.size) (h : TD W G g q y fv fb fc w) : TD W G g q y fv fb fc (w.drewN n) := td_next (drew_below w n) hg h
theorem ff_none {L : List ND} {x : Int} {key : List UInt8} (h : (pkL L x key 116 102).1 = none) : ffA L x key = (false, false, (pkL L x key 116 102).2) := by
  unfold ffA
  cases hp : pkL L x key 116 102 with
  | mk r e => rw [hp] at h; dsimp only at h; subst h; rfl
theorem ff_some {L : List ND} {x : Int} {key : List UInt8} {q : Nat} (hs : SzOk L) (h : (pkL L x key 116 102).1 = some q) : ffA L x key = (decide (knL L q = 116), true, (pkL L x key 116 102).2) := by
  have h0 := (pkL_at hs h).2.2.1
  unfold ffA
  cases hp : pkL L x key 116 102 with
  | mk r e => rw [hp] at h h0; dsimp only at h h0; subst h; rw [h0]
end Go.Proofs.YtmkcfilgiehjaaaGreatDoor
/- JpickTells where no truth is found. -/
namespace Go.Proofs.YtmkcfilgiehjaaaGreatDoor
open Go Go.RowKit
set_option linter.unusedVariables false

set_option maxRecDepth 100000 in
set_option maxHeartbeats 8000000 in
theorem jtells_none (s : ByteArray) (L : List ND) (C : Int) (key : List UInt8) (x : Int) (w : World) (h : s.size ≤ 300) (hsz : SzOk L) (hL : L.length ≤ 300) (htx : ∀ k, k < L.length → (txL L k).length ≤ 1048576)
    (hR : ∀ w, Calls Tryz.prog 7 #[.string s] w fun e w' => ∃ a k, e = .returned (.tuple #[.slice a L.length k, .int .i64 C]) ∧ NIn w' a L ∧ Below w.heap.size w w')
    (h0 : -9223372036854775808 ≤ x) (h1 : x ≤ 9223372036854775807) (hh : Hds w) (hm : MaxL w) (hp : (pkL L x key 116 102).1 = none) :
    Calls Tryz.prog 4 #[.string s, .int .i64 x, .string (bA key)] w fun e w' => e = .returned (.bool true) ∧ Below w.heap.size w w' := by
  have p1 : decide (300 < (s.size : Int)) = false := decide_eq_false (by omega)
  have HT := Lib.hid (show ∀ w', Below w.heap.size w w' → Hds w' ∧ MaxL w' from fun w' hb => ⟨hh.below hb hh.lt, hm.below hb hm.lt⟩)
  have HR := Lib.hid (hR w)
  have HA := Lib.hid (fun a k w hin => jtext_any a k L x key w (by omega) hin hsz h0 h1)
  have HB := Lib.hid (fun a k w hin hm => jwhole_any a k L x key w (by omega) hin hsz h0 h1 htx hm)
  have HC := Lib.hid (fun a k w hin => jflag_any a k L x key w (by omega) hin hsz h0 h1)
  have HD := Lib.hid (fun a k w hin => rtextP_any a k L x key w (by omega) hin hsz h0 h1)
  have HE := Lib.hid (fun a k w hin => rwholeP_any a k L x key w (by omega) hin hsz h0 h1 htx)
  have HP := Lib.hid (show ∀ a k w, NIn w a L → Calls Tryz.prog 16 #[.slice a L.length k, .int .i64 x, .string (bA key), .int .u8 116, .int .u8 102] w fun o w' => o = .returned (.tuple #[.int .i64 (fdV (pkL L x key 116 102).1), .int .i64 (pkL L x key 116 102).2]) ∧ Below w.heap.size w w' from fun a k w hin => rpick_any a k L x key 116 102 w (by omega) hin hsz h0 h1)
  rw [ff_none hp] at HC
  obtain ⟨z, hz⟩ : ∃ z : Int, z = -1 := ⟨_, rfl⟩
  rw [hp, show fdV none = z from hz.symm] at HP
  have n1 : decide (0 ≤ z) = false := by rw [hz]; rfl
  clear hz
  generalize (pkL L x key 116 102).2 = fc at *
  generalize (ftA L x key).1 = tv at *
  generalize (ftA L x key).2.1 = tb at *
  generalize (ftA L x key).2.2 = tc at *
  generalize (fwA L x key).1 = nv at *
  generalize (fwA L x key).2.1 = nb at *
  generalize (fwA L x key).2.2 = nc at *
  clear hh hm hR hsz h h0 h1 htx hp
  go_enter Tryz.func4, Tryz.ntmps4
  go_wp2_with fail
  with_reducible refine HR.out.mono ?_
  rintro e w1 ⟨a1, k1, rfl, i1, d1⟩
  have I1 := Lib.hid i1
  have B1 := Lib.hid d1
  clear i1 d1 HR
  go_wp2_with fail
  with_reducible refine (l14_own a1 k1 L hL w1 I1.out).mono ?_
  rintro e w2 ⟨a2, k2, rfl, i2, d2⟩
  have I2 := Lib.hid i2
  have J2 := Lib.hid (I1.out.below d2 (Nat.le_refl _))
  have B2 := Lib.hid (B1.out.trans (d2.mono B1.out.size))
  clear i2 d2 I1 B1
  go_wp2_with fail
  with_reducible refine (HA.out a2 k2 w2 I2.out).mono ?_
  rintro e w3 ⟨rfl, d3⟩
  have I3 := Lib.hid (I2.out.below d3 (Nat.le_refl _))
  have J3 := Lib.hid (J2.out.below d3 (Nat.le_refl _))
  have B3 := Lib.hid (B2.out.trans (d3.mono B2.out.size))
  clear d3 I2 J2 B2 HA
  go_wp2_with fail
  with_reducible refine (HB.out a2 k2 w3 I3.out (HT.out _ B3.out).2).mono ?_
  rintro e w4 ⟨rfl, d4⟩
  have I4 := Lib.hid (I3.out.below d4 (Nat.le_refl _))
  have J4 := Lib.hid (J3.out.below d4 (Nat.le_refl _))
  have B4 := Lib.hid (B3.out.trans (d4.mono B3.out.size))
  clear d4 I3 J3 B3 HB
  go_wp2_with fail
  with_reducible refine (HC.out a2 k2 w4 I4.out).mono ?_
  rintro e w5 ⟨rfl, d5⟩
  have I5 := Lib.hid (I4.out.below d5 (Nat.le_refl _))
  have J5 := Lib.hid (J4.out.below d5 (Nat.le_refl _))
  have B5 := Lib.hid (B4.out.trans (d5.mono B4.out.size))
  clear d5 I4 J4 B4 HC
  go_upto_region 6 with fail
  have FF := Lib.hid (fd_threes w5 35 38 41 (.string (bA tv)) (.int .i64 nv) (.bool false) tb nb false tc nc fc)
  have J6 := Lib.hid (J5.out.below FF.out.2.2.2 (Nat.le_refl _))
  have B6 := Lib.hid (B5.out.trans (FF.out.2.2.2.mono B5.out.size))
  have E6 := Lib.hid FF.out.1
  have F6 := Lib.hid FF.out.2.1
  have G6 := Lib.hid FF.out.2.2.1
  clear FF I5 J5 B5
  generalize ((w5.alloc (.cells #[.string (bA tv), .bool tb, .int .i64 tc] 35)).alloc (.cells #[.int .i64 nv, .bool nb, .int .i64 nc] 38)).alloc (.cells #[.bool false, .bool false, .int .i64 fc] 41) = w6 at *
  generalize w5.heap.size = G at *
  go_wp2_with fail
  with_reducible refine (HD.out a1 k1 w6 J6.out).mono ?_
  rintro e w7 ⟨rfl, d7⟩
  have J7 := Lib.hid (J6.out.below d7 (Nat.le_refl _))
  have B7 := Lib.hid (B6.out.trans (d7.mono B6.out.size))
  have E7 := Lib.hid (E6.out.below d7)
  have F7 := Lib.hid (F6.out.below d7)
  have G7 := Lib.hid (G6.out.below d7)
  clear d7 J6 B6 E6 F6 G6 HD
  go_wp2_with fail
  with_reducible refine (HE.out a1 k1 w7 J7.out).mono ?_
  rintro e w8 ⟨rfl, d8⟩
  have J8 := Lib.hid (J7.out.below d8 (Nat.le_refl _))
  have B8 := Lib.hid (B7.out.trans (d8.mono B7.out.size))
  have E8 := Lib.hid (E7.out.below d8)
  have F8 := Lib.hid (F7.out.below d8)
  have G8 := Lib.hid (G7.out.below d8)
  clear d8 J7 B7 E7 F7 G7 HE
  go_wp2_with fail
  with_reducible refine (HP.out a1 k1 w8 J8.out).mono ?_
  rintro e w9 ⟨rfl, d9⟩
  have J9 := Lib.hid (J8.out.below d9 (Nat.le_refl _))
  have B9 := Lib.hid (B8.out.trans (d9.mono B8.out.size))
  have E9 := Lib.hid (E8.out.below d9)
  have F9 := Lib.hid (F8.out.below d9)
  have G9 := Lib.hid (G8.out.below d9)
  clear d9 J8 B8 E8 F8 G8 HP
  have e0 := E9.out.c0; have e1 := E9.out.c1; have e2 := E9.out.c2
  have f0 := F9.out.c0; have f1 := F9.out.c1; have f2 := F9.out.c2
  go_upto_region 11 with fail
  clear e0 e1 e2 f0 f1 f2 E9 F9
  have HW := Lib.hid (fun wx (hx : T14 w (G + 1 + 1) false false fc wx) => works14_any wx (HT.out _ hx.b).1 (HT.out _ hx.b).2)
  have HC0 := (show T14 w (G + 1 + 1) false false fc w9 from ⟨G9.out, B9.out⟩).cells
  refine wp_region_held_drew (S := TC w (G + 1 + 1) false false fc) (by kernel_rfl) (tc_next (drew_below _ _) HC0) (fun hS => ?_)
  clear G9 B9 J9 HC0
  refine wpAnyH_take (i := 0) (oi := ⟨some 101, _, _, _, _, _⟩) (v := ?_) rfl (by decide +kernel) (by decide +kernel) (by decide +kernel) (fun _ _ _ h => h) (Or.inl ⟨by rfl, ?_⟩) hS ?_
  rotate_left 1
  · intro wS hSw
    obtain ⟨s0, s1, s2, -⟩ := hSw
    go_simp
    try with_reducible rfl
  try simp only [Act.put, List.setIfInBounds_toArray, List.set_cons_zero, List.set_cons_succ]
  refine wpAnyH_take (i := 1) (oi := ⟨some 102, _, _, _, _, _⟩) (v := ?_) rfl (by decide +kernel) (by decide +kernel) (by decide +kernel) (fun _ _ _ h => h) (Or.inl ⟨by rfl, ?_⟩) hS ?_
  rotate_left 1
  · intro wS hSw
    obtain ⟨s0, s1, s2, -⟩ := hSw
    go_simp
    try with_reducible rfl
  try simp only [Act.put, List.setIfInBounds_toArray, List.set_cons_zero, List.set_cons_succ]
  refine wpAnyH_take (i := 2) (oi := ⟨some 103, _, _, _, _, _⟩) (v := ?_) rfl (by decide +kernel) (by decide +kernel) (by decide +kernel) (fun _ _ _ h => h) (Or.inl ⟨by rfl, ?_⟩) hS ?_
  rotate_left 1
  · intro wS hSw
    obtain ⟨s0, s1, s2, -⟩ := hSw
    go_simp
    try with_reducible rfl
  try simp only [Act.put, List.setIfInBounds_toArray, List.set_cons_zero, List.set_cons_succ]
  refine wpAnyH_take (i := 3) (oi := ⟨some 104, _, _, _, _, _⟩) (v := ?_) rfl (by decide +kernel) (by decide +kernel) (by decide +kernel) (fun _ _ _ h => h) (Or.inl ⟨by rfl, ?_⟩) hS ?_
  rotate_left 1
  · intro wS hSw
    obtain ⟨s0, s1, s2, -⟩ := hSw
    go_simp
    try with_reducible rfl
  try simp only [Act.put, List.setIfInBounds_toArray, List.set_cons_zero, List.set_cons_succ]
  refine wpAnyH_take (i := 4) (oi := ⟨some 105, _, _, _, _, _⟩) (v := ?_) rfl (by decide +kernel) (by decide +kernel) (by decide +kernel) (fun _ _ _ h => h) (Or.inl ⟨by rfl, ?_⟩) hS ?_
  rotate_left 1
  · intro wS hSw
    obtain ⟨s0, s1, s2, -⟩ := hSw
    go_simp
    try with_reducible rfl
  try simp only [Act.put, List.setIfInBounds_toArray, List.set_cons_zero, List.set_cons_succ]
  refine wpAnyH_take (i := 5) (oi := ⟨some 106, _, _, _, _, _⟩) (v := ?_) rfl (by decide +kernel) (by decide +kernel) (by decide +kernel) (fun _ _ _ h => h) (Or.inl ⟨by rfl, ?_⟩) hS ?_
  rotate_left 1
  · intro wS hSw
    obtain ⟨s0, s1, s2, -⟩ := hSw
    go_simp
    try with_reducible rfl
  try simp only [Act.put, List.setIfInBounds_toArray, List.set_cons_zero, List.set_cons_succ]
  refine wpAnyH_take (i := 6) (oi := ⟨some 107, _, _, _, _, _⟩) (v := ?_) rfl (by decide +kernel) (by decide +kernel) (by decide +kernel) (fun _ _ _ h => h) (Or.inl ⟨by rfl, ?_⟩) hS ?_
  rotate_left 1
  · intro wS hSw
    obtain ⟨s0, s1, s2, -⟩ := hSw
    go_simp
    try with_reducible rfl
  try simp only [Act.put, List.setIfInBounds_toArray, List.set_cons_zero, List.set_cons_succ]
  refine wpAnyH_take (i := 7) (oi := ⟨some 108, _, _, _, _, _⟩) (v := ?_) rfl (by decide +kernel) (by decide +kernel) (by decide +kernel) (fun _ _ _ h => h) (Or.inl ⟨by rfl, ?_⟩) hS ?_
  rotate_left 1
  · intro wS hSw
    obtain ⟨s0, s1, s2, -⟩ := hSw
    go_simp
    try with_reducible rfl
  try simp only [Act.put, List.setIfInBounds_toArray, List.set_cons_zero, List.set_cons_succ]
  refine wpAnyH_take (i := 8) (oi := ⟨some 109, _, _, _, _, _⟩) (v := ?_) rfl (by decide +kernel) (by decide +kernel) (by decide +kernel) (fun _ _ _ h => h) (Or.inl ⟨by rfl, ?_⟩) hS ?_
  rotate_left 1
  · intro wS hSw
    obtain ⟨s0, s1, s2, -⟩ := hSw
    go_simp
    try with_reducible rfl
  try simp only [Act.put, List.setIfInBounds_toArray, List.set_cons_zero, List.set_cons_succ]
  refine wpAnyH_take (i := 9) (oi := ⟨some 110, _, _, _, _, _⟩) (v := ?_) rfl (by decide +kernel) (by decide +kernel) (by decide +kernel) (fun _ _ _ h => h) (Or.inl ⟨by rfl, ?_⟩) hS ?_
  rotate_left 1
  · intro wS hSw
    obtain ⟨s0, s1, s2, -⟩ := hSw
    go_simp
    try with_reducible rfl
  try simp only [Act.put, List.setIfInBounds_toArray, List.set_cons_zero, List.set_cons_succ]
  refine wpAnyH_take (i := 10) (oi := ⟨some 111, _, _, _, _, _⟩) (v := ?_) rfl (by decide +kernel) (by decide +kernel) (by decide +kernel) (fun _ _ _ h => h) (Or.inl ⟨by rfl, ?_⟩) hS ?_
  rotate_left 1
  · intro wS hSw
    obtain ⟨s0, s1, s2, -⟩ := hSw
    go_simp
    try with_reducible rfl
  try simp only [Act.put, List.setIfInBounds_toArray, List.set_cons_zero, List.set_cons_succ]
  refine wpAnyH_take (i := 11) (oi := ⟨some 112, _, _, _, _, _⟩) (v := ?_) rfl (by decide +kernel) (by decide +kernel) (by decide +kernel) (fun _ _ _ h => h) (Or.inl ⟨by rfl, ?_⟩) hS ?_
  rotate_left 1
  · intro wS hSw
    obtain ⟨s0, s1, s2, -⟩ := hSw
    go_simp
    try with_reducible rfl
  try simp only [Act.put, List.setIfInBounds_toArray, List.set_cons_zero, List.set_cons_succ]
  refine wpAnyH_take (i := 12) (oi := ⟨some 113, _, _, _, _, _⟩) (v := ?_) rfl (by decide +kernel) (by decide +kernel) (by decide +kernel) (fun _ _ _ h => h) (Or.inl ⟨by rfl, ?_⟩) hS ?_
  rotate_left 1
  · intro wS hSw
    obtain ⟨s0, s1, s2, -⟩ := hSw
    go_simp
    try with_reducible rfl
  try simp only [Act.put, List.setIfInBounds_toArray, List.set_cons_zero, List.set_cons_succ]
  refine wpAnyH_take (i := 13) (oi := ⟨some 114, _, _, _, _, _⟩) (v := ?_) rfl (by decide +kernel) (by decide +kernel) (by decide +kernel) (fun _ _ _ h => h) (Or.inl ⟨by rfl, ?_⟩) hS ?_
  rotate_left 1
  · intro wS hSw
    obtain ⟨s0, s1, s2, -⟩ := hSw
    go_simp
    try with_reducible rfl
  try simp only [Act.put, List.setIfInBounds_toArray, List.set_cons_zero, List.set_cons_succ]
  refine wpAnyH_take (i := 14) (oi := ⟨some 115, _, _, _, _, _⟩) (v := ?_) rfl (by decide +kernel) (by decide +kernel) (by decide +kernel) (fun _ _ _ h => h) (Or.inl ⟨by rfl, ?_⟩) hS ?_
  rotate_left 1
  · intro wS hSw
    obtain ⟨s0, s1, s2, -⟩ := hSw
    go_simp
    try with_reducible rfl
  try simp only [Act.put, List.setIfInBounds_toArray, List.set_cons_zero, List.set_cons_succ]
  refine wpAnyH_take (i := 15) (oi := ⟨some 116, _, _, _, _, _⟩) (v := ?_) rfl (by decide +kernel) (by decide +kernel) (by decide +kernel) (fun _ _ _ h => h) (Or.inl ⟨by rfl, ?_⟩) hS ?_
  rotate_left 1
  · intro wS hSw
    obtain ⟨s0, s1, s2, -⟩ := hSw
    go_simp
    try with_reducible rfl
  try simp only [Act.put, List.setIfInBounds_toArray, List.set_cons_zero, List.set_cons_succ]
  refine wpAnyH_take (i := 16) (oi := ⟨some 117, _, _, _, _, _⟩) (v := ?_) rfl (by decide +kernel) (by decide +kernel) (by decide +kernel) (fun _ _ _ h => h) (Or.inl ⟨by rfl, ?_⟩) hS ?_
  rotate_left 1
  · intro wS hSw
    obtain ⟨s0, s1, s2, -⟩ := hSw
    go_simp
    try with_reducible rfl
  try simp only [Act.put, List.setIfInBounds_toArray, List.set_cons_zero, List.set_cons_succ]
  refine wpAnyH_take (i := 17) (oi := ⟨some 118, _, _, _, _, _⟩) (v := undef) rfl (by decide +kernel) (by decide +kernel) (by decide +kernel) (fun _ _ _ h => h) (Or.inr ⟨by rfl, rfl⟩) hS ?_
  try simp only [Act.put, List.setIfInBounds_toArray, List.set_cons_zero, List.set_cons_succ]
  refine wpAnyH_take (i := 18) (oi := ⟨some 119, _, _, _, _, _⟩) (v := undef) rfl (by decide +kernel) (by decide +kernel) (by decide +kernel) (fun _ _ _ h => h) (Or.inr ⟨by rfl, rfl⟩) hS ?_
  try simp only [Act.put, List.setIfInBounds_toArray, List.set_cons_zero, List.set_cons_succ]
  refine wpAnyH_take (i := 19) (oi := ⟨some 120, _, _, _, _, _⟩) (v := undef) rfl (by decide +kernel) (by decide +kernel) (by decide +kernel) (fun _ _ _ h => h) (Or.inr ⟨by rfl, rfl⟩) hS ?_
  try simp only [Act.put, List.setIfInBounds_toArray, List.set_cons_zero, List.set_cons_succ]
  refine wpAnyH_take (i := 20) (oi := ⟨some 121, _, _, _, _, _⟩) (v := undef) rfl (by decide +kernel) (by decide +kernel) (by decide +kernel) (fun _ _ _ h => h) (Or.inr ⟨by rfl, rfl⟩) hS ?_
  try simp only [Act.put, List.setIfInBounds_toArray, List.set_cons_zero, List.set_cons_succ]
  refine wpAnyH_take (i := 21) (oi := ⟨some 122, _, _, _, _, _⟩) (v := undef) rfl (by decide +kernel) (by decide +kernel) (by decide +kernel) (fun _ _ _ h => h) (Or.inr ⟨by rfl, rfl⟩) hS ?_
  try simp only [Act.put, List.setIfInBounds_toArray, List.set_cons_zero, List.set_cons_succ]
  refine wpAnyH_take (i := 22) (oi := ⟨some 123, _, _, _, _, _⟩) (v := undef) rfl (by decide +kernel) (by decide +kernel) (by decide +kernel) (fun _ _ _ h => h) (Or.inr ⟨by rfl, rfl⟩) hS ?_
  try simp only [Act.put, List.setIfInBounds_toArray, List.set_cons_zero, List.set_cons_succ]
  refine wpAnyH_take (i := 23) (oi := ⟨some 124, _, _, _, _, _⟩) (v := undef) rfl (by decide +kernel) (by decide +kernel) (by decide +kernel) (fun _ _ _ h => h) (Or.inr ⟨by rfl, rfl⟩) hS ?_
  try simp only [Act.put, List.setIfInBounds_toArray, List.set_cons_zero, List.set_cons_succ]
  refine wpAnyH_take (i := 24) (oi := ⟨some 125, _, _, _, _, _⟩) (v := ?_) rfl (by decide +kernel) (by decide +kernel) (by decide +kernel) (fun _ _ _ h => h) (Or.inl ⟨by rfl, ?_⟩) hS ?_
  rotate_left 1
  · intro wS hSw
    obtain ⟨s0, s1, s2, -⟩ := hSw
    go_simp
    try with_reducible rfl
  try simp only [Act.put, List.setIfInBounds_toArray, List.set_cons_zero, List.set_cons_succ]
  refine wpAnyH_take (i := 25) (oi := ⟨some 126, _, _, _, _, _⟩) (v := ?_) rfl (by decide +kernel) (by decide +kernel) (by decide +kernel) (fun _ _ _ h => h) (Or.inl ⟨by rfl, ?_⟩) hS ?_
  rotate_left 1
  · intro wS hSw
    obtain ⟨s0, s1, s2, -⟩ := hSw
    go_simp
    try with_reducible rfl
  try simp only [Act.put, List.setIfInBounds_toArray, List.set_cons_zero, List.set_cons_succ]
  refine wpAnyH_take (i := 26) (oi := ⟨some 127, _, _, _, _, _⟩) (v := ?_) rfl (by decide +kernel) (by decide +kernel) (by decide +kernel) (fun _ _ _ h => h) (Or.inl ⟨by rfl, ?_⟩) hS ?_
  rotate_left 1
  · intro wS hSw
    obtain ⟨s0, s1, s2, -⟩ := hSw
    go_simp
    try with_reducible rfl
  try simp only [Act.put, List.setIfInBounds_toArray, List.set_cons_zero, List.set_cons_succ]
  refine wpAnyH_take (i := 27) (oi := ⟨some 128, _, _, _, _, _⟩) (v := ?_) rfl (by decide +kernel) (by decide +kernel) (by decide +kernel) (fun _ _ _ h => h) (Or.inl ⟨by rfl, ?_⟩) hS ?_
  rotate_left 1
  · intro wS hSw
    obtain ⟨s0, s1, s2, -⟩ := hSw
    go_simp
    try with_reducible rfl
  try simp only [Act.put, List.setIfInBounds_toArray, List.set_cons_zero, List.set_cons_succ]
  refine wpAnyH_ready (rs := [28]) (by decide +kernel) (by simp) ?_
  refine AllReadyH.cons (o := ⟨some 129, _, _, _, _, _⟩) rfl (fun K hK => ?_) AllReadyH.nil
  rw [if_pos (by rfl)]
  go_simp
  with_reducible refine (HW.out _ (TC.w hS)).mono ?_
  rintro e w10 ⟨rfl, hbel⟩
  refine hK.out _ _ (tc_next hbel hS) (fun hS => ?_)
  clear hK K hbel
  try simp only [Act.put, List.setIfInBounds_toArray, List.set_cons_zero, List.set_cons_succ]
  refine wpAnyH_take (i := 29) (oi := ⟨some 130, _, _, _, _, _⟩) (v := ?_) rfl (by decide +kernel) (by decide +kernel) (by decide +kernel) (fun _ _ _ h => h) (Or.inl ⟨by rfl, ?_⟩) hS ?_
  rotate_left 1
  · intro wS hSw
    obtain ⟨s0, s1, s2, -⟩ := hSw
    go_simp
    try with_reducible rfl
  try simp only [Act.put, List.setIfInBounds_toArray, List.set_cons_zero, List.set_cons_succ]
  refine wpAnyH_take (i := 30) (oi := ⟨some 6, _, _, _, _, _⟩) (v := ?_) rfl (by decide +kernel) (by decide +kernel) (by decide +kernel) (fun _ _ _ h => h) (Or.inl ⟨by rfl, ?_⟩) hS ?_
  rotate_left 1
  · intro wS hSw
    obtain ⟨s0, s1, s2, -⟩ := hSw
    go_simp
    try with_reducible rfl
  try simp only [Act.put, List.setIfInBounds_toArray, List.set_cons_zero, List.set_cons_succ]
  refine wpAnyH_done (by kernel_rfl) ?_ _
  have HF := Lib.hid (TC.w hS).b
  clear hS
  go_wp2
  go_ret
  exact ⟨rfl, HF.out⟩
end Go.Proofs.YtmkcfilgiehjaaaGreatDoor
