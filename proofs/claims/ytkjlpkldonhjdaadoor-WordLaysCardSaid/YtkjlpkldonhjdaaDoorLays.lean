/- WordLays, walked. -/
import Derived.Test.YtkjlpkldonhjdaaDoorLaysA
import Derived.Deep.RegionHeld3
import Derived.Deep.Cut
import Derived.Deep.DrawnRows
namespace Go.Proofs.YtkjlpkldonhjdaaDoor
open Go Go.RowKit
set_option linter.unusedVariables false

/-- What memory holds while the law looks at its three lists. -/
def LS (W0 : World) (p : ByteArray) (x y z : List UInt8) (ga gb gc : Nat) (w : World) : Prop :=
  Holds w ga p x ∧ Holds w gb p y ∧ Holds w gc p z ∧ ga < w.heap.size ∧ gb < w.heap.size ∧ gc < w.heap.size ∧ Below W0.heap.size W0 w
theorem LS.drewN {W0 w : World} {p : ByteArray} {x y z : List UInt8} {ga gb gc : Nat} (h : LS W0 p x y z ga gb gc w) (n : Nat) : LS W0 p x y z ga gb gc (w.drewN n) :=
  ⟨h.1, h.2.1, h.2.2.1, h.2.2.2.1, h.2.2.2.2.1, h.2.2.2.2.2.1, Below.drewN h.2.2.2.2.2.2 n⟩
theorem LS.drew {W0 w : World} {p : ByteArray} {x y z : List UInt8} {ga gb gc : Nat} (h : LS W0 p x y z ga gb gc w) : LS W0 p x y z ga gb gc w.drew :=
  ⟨h.1, h.2.1, h.2.2.1, h.2.2.2.1, h.2.2.2.2.1, h.2.2.2.2.2.1, h.2.2.2.2.2.2.drew⟩
theorem LS.below {W0 w w' : World} {p : ByteArray} {x y z : List UInt8} {ga gb gc : Nat} (h : LS W0 p x y z ga gb gc w) (hb : Below w.heap.size w w') : LS W0 p x y z ga gb gc w' := by
  obtain ⟨h1, h2, h3, h4, h5, h6, h7⟩ := h
  have := hb.size
  exact ⟨h1.below hb h4, h2.below hb h5, h3.below hb h6, by omega, by omega, by omega, h7.trans (hb.mono h7.size)⟩
theorem ls_drew {W0 w : World} {p : ByteArray} {x y z : List UInt8} {ga gb gc : Nat} : LS W0 p x y z ga gb gc w.drew ↔ LS W0 p x y z ga gb gc w :=
  ⟨fun h => ⟨h.1, h.2.1, h.2.2.1, h.2.2.2.1, h.2.2.2.2.1, h.2.2.2.2.2.1, ⟨h.2.2.2.2.2.2.os, h.2.2.2.2.2.2.tape, h.2.2.2.2.2.2.output, h.2.2.2.2.2.2.size, h.2.2.2.2.2.2.block⟩⟩, LS.drew⟩
theorem ls_drewN {W0 w : World} {n : Nat} {p : ByteArray} {x y z : List UInt8} {ga gb gc : Nat} : LS W0 p x y z ga gb gc (w.drewN n) ↔ LS W0 p x y z ga gb gc w :=
  ⟨fun h => ⟨h.1, h.2.1, h.2.2.1, h.2.2.2.1, h.2.2.2.2.1, h.2.2.2.2.2.1, ⟨h.2.2.2.2.2.2.os, h.2.2.2.2.2.2.tape, h.2.2.2.2.2.2.output, h.2.2.2.2.2.2.size, h.2.2.2.2.2.2.block⟩⟩, fun h => h.drewN n⟩
attribute [local go_sem ↓] Go.wp_at_zero Go.wp_at_succ
attribute [local simp] ls_drew ls_drewN

/-- Behind the making of the three cursors. -/
def LCutT (t : TypeId) (W : World) (A B C : ByteArray) (q1 q2 q3 : Value) (wx : World) : Prop :=
  ∃ b1 b2 b3, q1 = .pointer (some ⟨b1, 0, none⟩) ∧ q2 = .pointer (some ⟨b2, 0, none⟩) ∧ q3 = .pointer (some ⟨b3, 0, none⟩) ∧ CurT t wx b1 (CS.new A) ∧ CurT t wx b2 (CS.new B) ∧ CurT t wx b3 (CS.new C) ∧
    b1 ≠ b2 ∧ b1 ≠ b3 ∧ b2 ≠ b3 ∧ W.heap.size ≤ b1 ∧ W.heap.size ≤ b2 ∧ W.heap.size ≤ b3 ∧ Below W.heap.size W wx
theorem LS.alloc {W0 w : World} {p : ByteArray} {x y z : List UInt8} {ga gb gc : Nat} (h : LS W0 p x y z ga gb gc w) (o : Obj) : LS W0 p x y z ga gb gc (w.alloc o) := h.below ((Below.refl _ _).alloc (Nat.le_refl _) o)

theorem lcut_mk {t : TypeId} {W w : World} {A B C : ByteArray} {a b c : Nat} (ha : A.size = a) (hb : B.size = b) (hc : C.size = c) (h : Below W.heap.size W w) :
    LCutT t W A B C (.pointer (some ⟨w.heap.size, 0, none⟩)) (.pointer (some ⟨w.heap.size + 1, 0, none⟩)) (.pointer (some ⟨w.heap.size + 1 + 1, 0, none⟩))
      (((w.alloc (.cells #[.string A, .int .i64 0, .int .i64 (a : Int), .int .i64 0] t)).alloc (.cells #[.string B, .int .i64 0, .int .i64 (b : Int), .int .i64 0] t)).alloc (.cells #[.string C, .int .i64 0, .int .i64 (c : Int), .int .i64 0] t)).drew := by
  subst ha; subst hb; subst hc
  have hz := h.size
  have h1 : CurT t (w.alloc (.cells #[.string A, .int .i64 0, .int .i64 (A.size : Int), .int .i64 0] t)) w.heap.size (CS.new A) := cur_alloc (c := CS.new A) t
  have h2 : CurT t ((w.alloc (.cells #[.string A, .int .i64 0, .int .i64 (A.size : Int), .int .i64 0] t)).alloc (.cells #[.string B, .int .i64 0, .int .i64 (B.size : Int), .int .i64 0] t)) (w.heap.size + 1) (CS.new B) := by
    have := cur_alloc (w := w.alloc (.cells #[.string A, .int .i64 0, .int .i64 (A.size : Int), .int .i64 0] t)) (c := CS.new B) t
    rw [World.size_alloc] at this; exact this
  have h3 : CurT t (((w.alloc (.cells #[.string A, .int .i64 0, .int .i64 (A.size : Int), .int .i64 0] t)).alloc (.cells #[.string B, .int .i64 0, .int .i64 (B.size : Int), .int .i64 0] t)).alloc (.cells #[.string C, .int .i64 0, .int .i64 (C.size : Int), .int .i64 0] t)) (w.heap.size + 1 + 1) (CS.new C) := by
    have := cur_alloc (w := (w.alloc (.cells #[.string A, .int .i64 0, .int .i64 (A.size : Int), .int .i64 0] t)).alloc (.cells #[.string B, .int .i64 0, .int .i64 (B.size : Int), .int .i64 0] t)) (c := CS.new C) t
    rw [World.size_alloc, World.size_alloc] at this; exact this
  refine ⟨_, _, _, rfl, rfl, rfl, (h1.allocOld _).allocOld _, h2.allocOld _, h3, by omega, by omega, by omega, by omega, by omega, by omega, ?_⟩
  exact Below.drew (((h.alloc hz _).alloc (by simp; omega) _).alloc (by simp; omega) _)

set_option maxRecDepth 100000 in
set_option maxHeartbeats 4000000 in
theorem lays_nat (p : ByteArray) (u : Nat) (w : World) (hp : p.size ≤ 140737488351232) (hu : u < 18446744073709551616) (ht : Tab w) :
    Calls Tryd.prog 4 #[.string p, .int .u64 u] w fun e w' => e = .returned (.bool true) ∧ Below w.heap.size w w' := by
  obtain ⟨v, hv⟩ : ∃ v : Nat, v = u % 4294967296 := ⟨_, rfl⟩
  have hvu : (u : Int) % 4294967296 = (v : Int) := by omega
  have hv2 : v < 4294967296 := by omega
  have hcv := Lib.hid (fun (w : World) => Lib.run_convert_string_bytes (P := Tryd.prog) w 9 28 5 p Tryd.underlying9 Tryd.underlying28 Tryd.underlying5)
  have HT := Lib.hid ht
  have hpos := ht.lt
  clear ht hv
  go_enter Tryd.func4, Tryd.ntmps4
  go_wp2_with fail
  rw [hcv.out]
  go_wp2_with fail
  refine (low32_p _ _ p v _ hp hv2 (bytes_in _ _ _) (HT.out.below (bytes_below _ _ _) hpos)).mono ?_
  rintro e w1 ⟨va, rfl, hta, hba⟩
  have hb1 : Below w.heap.size w w1 := (bytes_below _ _ _).trans (hba.mono (bytes_below _ _ _).size)
  have hg1 := (bytes_below w 5 p).size
  clear hba
  go_wp2_with fail
  rw [hcv.out]
  go_wp2_with fail
  have hz1 := hb1.size
  have hb1' : Below w.heap.size w (Lib.bytesWorld w1 5 p) := hb1.trans ((bytes_below w1 5 p).mono hz1)
  refine (low64_p _ _ p u _ hp hu (bytes_in _ _ _) (HT.out.below hb1' hpos)).mono ?_
  rintro e w2 ⟨vb, rfl, htb, hbb⟩
  have h12 : Below w1.heap.size w1 w2 := (bytes_below _ _ _).trans (hbb.mono (bytes_below _ _ _).size)
  have hg2 := (bytes_below w1 5 p).size
  have hb2 := hb1.trans (h12.mono hz1)
  clear hbb hb1'
  go_wp2_with fail
  rw [hcv.out]
  go_wp2_with fail
  have hz2 := hb2.size
  have hb2' : Below w.heap.size w (Lib.bytesWorld w2 5 p) := hb2.trans ((bytes_below w2 5 p).mono hz2)
  refine (high64_p _ _ p u _ hp hu (bytes_in _ _ _) (HT.out.below hb2' hpos)).mono ?_
  rintro e w3 ⟨vc, rfl, htc, hbc⟩
  have h23 : Below w2.heap.size w2 w3 := (bytes_below _ _ _).trans (hbc.mono (bytes_below _ _ _).size)
  have hg3 := (bytes_below w2 5 p).size
  have hb3 := hb2.trans (h23.mono hz2)
  clear hbc hb2'
  have h13 : Below w1.heap.size w1 w3 := h12.trans (h23.mono h12.size)
  have lx := lowL_length 4 v
  have ly := lowL_length 8 u
  have lz : ((lowL u 8).reverse).length = 8 := by rw [List.length_reverse, lowL_length]
  have hta3 := Bts.below hta h13 (Nat.le_refl _)
  have htb3 := Bts.below htb h23 (Nat.le_refl _)
  obtain ⟨ga, ca, rfl, ha1, ha2, ha3, ha4⟩ := bts_form lx (by decide) hta3
  obtain ⟨gb, cb, rfl, hb1', hb2', hb3', hb4'⟩ := bts_form ly (by decide) htb3
  obtain ⟨gc, cc, rfl, hc1', hc2', hc3', hc4'⟩ := bts_form lz (by decide) htc
  have HLS : LS w p (lowL v 4) (lowL u 8) (lowL u 8).reverse ga gb gc w3 := ⟨ha4, hb4', hc4', ha2, hb2', hc2', hb3⟩
  clear hta htb htc hta3 htb3 h12 h23 h13 ha1 ha2 ha4 hb1' hb2' hb4' hc1' hc2' hc4' hb1 hb2 hb3 hz1 hz2 hg1 hg2 hg3
  have KA : ∀ w', LS w p (lowL v 4) (lowL u 8) (lowL u 8).reverse ga gb gc w' → (convert 28 9 (.slice (some ⟨ga, 0, none⟩) (p.size + 4) ca)).run Tryd.prog w' = .ok (.string (p ++ bA (lowL v 4))) w' := fun w' h => h.1.all lx Tryd.underlying28 Tryd.underlying5 Tryd.underlying9
  have KB : ∀ w', LS w p (lowL v 4) (lowL u 8) (lowL u 8).reverse ga gb gc w' → (convert 28 9 (.slice (some ⟨gb, 0, none⟩) (p.size + 8) cb)).run Tryd.prog w' = .ok (.string (p ++ bA (lowL u 8))) w' := fun w' h => h.2.1.all ly Tryd.underlying28 Tryd.underlying5 Tryd.underlying9
  have KC : ∀ w', LS w p (lowL v 4) (lowL u 8) (lowL u 8).reverse ga gb gc w' → (convert 28 9 (.slice (some ⟨gc, 0, none⟩) (p.size + 8) cc)).run Tryd.prog w' = .ok (.string (p ++ bA (lowL u 8).reverse)) w' := fun w' h => h.2.2.1.all lz Tryd.underlying28 Tryd.underlying5 Tryd.underlying9
  have R1 := Lib.hid (show ∀ w, Calls Tryd.prog 15 #[.int .u64 v, .int .i64 4] w fun e w' => e = .returned (.string (bA (lowL v 4))) ∧ Below w.heap.size w w' from fun w => rlow_any v 4 w (by omega) (by omega))
  have R2 := Lib.hid (show ∀ w, Calls Tryd.prog 15 #[.int .u64 u, .int .i64 8] w fun e w' => e = .returned (.string (bA (lowL u 8))) ∧ Below w.heap.size w w' from fun w => rlow_any u 8 w hu (by omega))
  have R3 := Lib.hid (show ∀ w, Calls Tryd.prog 16 #[.int .u64 u, .int .i64 8] w fun e w' => e = .returned (.string (bA (lowL u 8).reverse)) ∧ Below w.heap.size w w' from fun w => rhigh_any u 8 w hu (by omega))
  have sx : (bA (lowL v 4)).size = 4 := by rw [bA_size, lx]
  have sy : (bA (lowL u 8)).size = 8 := by rw [bA_size, ly]
  have sz : (bA (lowL u 8).reverse).size = 8 := by rw [bA_size, lz]
  have hwv : IntKind.u64.wrap (v : Int) = v := IntWalk.u64_in _ (by omega)
  have lpx : ¬ 9223372036854775807 < p.size + 4 := by omega
  have lpy : ¬ 9223372036854775807 < p.size + 8 := by omega
  have KD : ∀ (c : Nat) w', LS w p (lowL v 4) (lowL u 8) (lowL u 8).reverse ga gb gc w' → (convert 28 9 (.slice (some ⟨ga, p.size, none⟩) 4 c)).run Tryd.prog w' = .ok (.string (bA (lowL v 4))) w' := fun c w' h => h.1.back lx Tryd.underlying28 Tryd.underlying5 Tryd.underlying9
  have KE : ∀ (c : Nat) w', LS w p (lowL v 4) (lowL u 8) (lowL u 8).reverse ga gb gc w' → (convert 28 9 (.slice (some ⟨gb, p.size, none⟩) 8 c)).run Tryd.prog w' = .ok (.string (bA (lowL u 8))) w' := fun c w' h => h.2.1.back ly Tryd.underlying28 Tryd.underlying5 Tryd.underlying9
  have KF : ∀ (c : Nat) w', LS w p (lowL v 4) (lowL u 8) (lowL u 8).reverse ga gb gc w' → (convert 28 9 (.slice (some ⟨gc, p.size, none⟩) 8 c)).run Tryd.prog w' = .ok (.string (bA (lowL u 8).reverse)) w' := fun c w' h => h.2.2.1.back lz Tryd.underlying28 Tryd.underlying5 Tryd.underlying9
  have Q1 := Lib.hid (fun (b : Nat) (w : World) h ht hg => rx32 (b := b) (w := w) v hv2 h ht hg)
  have Q2 := Lib.hid (fun (b : Nat) (w : World) h ht hg => rx64 (b := b) (w := w) u hu h ht hg)
  have Q3 := Lib.hid (fun (b : Nat) (w : World) h ht hg => rxh (b := b) (w := w) u hu h ht hg)
  have E1 := Lib.hid (fun (b : Nat) (w : World) h => endx (b := b) (w := w) lx (by decide) h)
  have E2 := Lib.hid (fun (b : Nat) (w : World) h => endx (b := b) (w := w) ly (by decide) h)
  have E3 := Lib.hid (fun (b : Nat) (w : World) h => endx (b := b) (w := w) lz (by decide) h)
  generalize bA (lowL v 4) = XA at *
  generalize bA (lowL u 8).reverse = XC at *
  generalize bA (lowL u 8) = XB at *
  generalize (lowL u 8).reverse = z at *
  generalize lowL u 8 = y at *
  generalize lowL v 4 = x at *
  go_wp2_with fail
  go_region_held3 (fun w' => LS w p x y z ga gb gc w') (first | go_keep | exact LS.below (by assumption) hbq)
    (first | (go_at_call 15; with_reducible refine (R1.out _).mono ?_; rintro e w' ⟨rfl, hbq⟩) | (go_at_call 15; with_reducible refine (R2.out _).mono ?_; rintro e w' ⟨rfl, hbq⟩) | (go_at_call 16; with_reducible refine (R3.out _).mono ?_; rintro e w' ⟨rfl, hbq⟩))
  rename_i hHeld9
  have hs4 : (p.size : Int) ≤ (p.size : Int) + 4 := by omega
  have hs8 : (p.size : Int) ≤ (p.size : Int) + 8 := by omega
  have na : ¬ ca = p.size := by omega
  have nb : ¬ cb = p.size := by omega
  have nc : ¬ cc = p.size := by omega
  go_wp2_with fail
  go_cut [9, 10, 11] from 12 (fun q1 q2 q3 wx => LCutT 56 w XA XB XC q1 q2 q3 wx)
  case first =>
    go_region_held3 (fun w' => LS w p x y z ga gb gc w') (first | assumption | exact LS.drew (by assumption) | exact LS.drew (LS.alloc (by assumption) _) | exact LS.drew (LS.alloc (ls_drew.mp (by assumption)) _) | go_keep)
      (first | (go_at_call 17; with_reducible refine (new_any _ _ (by omega)).mono ?_; rintro e w' ⟨rfl, rfl⟩))
    go_wp2_with fail
    go_meet
    case rel => exact lcut_mk (a := 4) (b := 8) (c := 8) sx sy sz hHeld9.2.2.2.2.2.2
  case rest =>
    obtain ⟨b1, b2, b3, rfl, rfl, rfl, c1, c2, c3, n12, n13, n23, g1, g2, g3, hbel⟩ := hcut
    clear KA KB KC KD KE KF R1 R2 R3 hHeld9 hcv
    have t0 := Lib.hid (HT.out.below hbel hpos)
    have z0 := hbel.size
    go_wp2_with fail
    refine (Q1.out b1 _ c1 t0.out (by omega)).mono ?_
    rintro e w4 ⟨rfl, d1, o4⟩
    have c2' := o4.cur c2 n12.symm
    have c3' := o4.cur c3 n13.symm
    have hbel4 := hbel.trans (o4.below g1 z0)
    have t4 := Lib.hid (HT.out.below hbel4 hpos)
    clear c1 c2 c3 o4 hbel
    go_wp2_with fail
    refine (Q2.out b2 _ c2' t4.out (by omega)).mono ?_
    rintro e w5 ⟨rfl, d2, o5⟩
    have d1' := o5.cur d1 n12
    have c3 := o5.cur c3' n23.symm
    have hbel5 := hbel4.trans (o5.below g2 hbel4.size)
    have t5 := Lib.hid (HT.out.below hbel5 hpos)
    clear c2' c3' o5 hbel4 d1
    go_wp2_with fail
    refine (Q3.out b3 _ c3 t5.out (by omega)).mono ?_
    rintro e w6 ⟨rfl, d3, o6⟩
    have d1 := o6.cur d1' n13
    have d2' := o6.cur d2 n23
    have hbel6 := hbel5.trans (o6.below g3 hbel5.size)
    have t6 := Lib.hid (HT.out.below hbel6 hpos)
    clear c3 o6 hbel5 d1' d2
    go_wp2_with fail
    refine (E1.out b1 _ d1).mono ?_
    rintro e w7 ⟨rfl, m1, rfl⟩
    go_wp2_with fail
    refine (E2.out b2 _ (d2'.drewN _)).mono ?_
    rintro e w8 ⟨rfl, m2, rfl⟩
    go_wp2_with fail
    refine (E3.out b3 _ (d3.drewN _)).mono ?_
    rintro e w9 ⟨rfl, m3, rfl⟩
    go_wp2_with fail
    refine (works2_any _ (show Tab (w6.drewN _) from t6.out)).mono ?_
    rintro e w10 ⟨rfl, hb10⟩
    go_wp2
    go_ret
    exact ⟨rfl, (Below.drewN hbel6 _).trans (hb10.mono hbel6.size)⟩

theorem lays_any (p : ByteArray) (u : Int) (w : World) (hp : p.size ≤ 140737488351232) (h1 : 0 ≤ u) (h2 : u ≤ 18446744073709551615) (ht : Tab w) :
    Calls Tryd.prog 4 #[.string p, .int .u64 u] w fun e w' => e = .returned (.bool true) ∧ Below w.heap.size w w' := by
  obtain ⟨m, rfl⟩ := Int.eq_ofNat_of_zero_le h1
  exact lays_nat p m w hp (by omega) ht

end Go.Proofs.YtkjlpkldonhjdaaDoor
