/- Several texts in one (JsRefC, JsRefD): each begins with its own words. -/
import Derived.Test.YtnbhhnkcfbfdcaaGreatDoorZQ
import Derived.Test.YtnbhhnkcfbfdcaaGreatDoorZJ
import Derived.Test.YtnbhhnkcfbfdcaaGreatDoorZM
/- The document's own jstring (package truchmanref10): escape, part. -/
namespace Go.Proofs.YtnbhhnkcfbfdcaaGreatDoor
open Go Go.RowKit
set_option linter.unusedVariables false

theorem jEsc_sim {b : UInt8} {t : List UInt8} (h : ¬ b.toNat = 117) (h2 : ¬ jSim b.toNat = 0) : jEsc (b :: t) = ⟨jSim b.toNat, 1, 0⟩ := by simp only [jEsc]; rw [if_neg h, if_neg h2]
theorem jEsc_bad {b : UInt8} {t : List UInt8} (h : ¬ b.toNat = 117) (h2 : jSim b.toNat = 0) : jEsc (b :: t) = ⟨0, 0, 6⟩ := by simp only [jEsc]; rw [if_neg h, if_pos h2]
theorem jEsc_num {b : UInt8} {t : List UInt8} (h : b.toNat = 117) : jEsc (b :: t) = if (jNum t).e = 0 then ⟨(jNum t).r, (jNum t).k + 1, 0⟩ else ⟨0, 0, (jNum t).e⟩ := by simp only [jEsc]; rw [if_pos h]
theorem ja_sim {a r : Nat} {X : ByteArray} (h : X = bA (uB r)) : Ending.returned (.tuple #[.string X, .int .i64 ((a : Int) + 1), .int .i64 0]) = .returned (.tuple #[.string (rTx ⟨r, 1, 0⟩), .int .i64 (rPl a ⟨r, 1, 0⟩ : Nat), .int .i64 0]) := by rw [h]; rfl
theorem ja_yes {a k r : Nat} : Ending.returned (.tuple #[.string (bA (uB r)), .int .i64 ((a + k : Nat) : Int), .int .i64 0]) = .returned (.tuple #[.string (rTx ⟨r, k, 0⟩), .int .i64 (rPl a ⟨r, k, 0⟩ : Nat), .int .i64 0]) := rfl

set_option maxRecDepth 100000 in
theorem resc_end (s : ByteArray) (a : Nat) (w : World) (hs : s.size ≤ 1125899906842000) (ha : a ≤ 1125899906842000) (h1 : s.size ≤ a) :
    Calls Tryz.prog 93 #[.string s, .int .i64 a] w fun e w' => e = .returned (.tuple #[.string (rTx (jEsc (s.data.toList.drop a))), .int .i64 (rPl a (jEsc (s.data.toList.drop a)) : Nat), .int .i64 (jEsc (s.data.toList.drop a)).e]) ∧ Below w.heap.size w w' := by
  have p1 : decide (s.size ≤ a) = true := decide_eq_true h1
  have HR := Lib.hid (show jEsc (s.data.toList.drop a) = ⟨0, 0, 1⟩ by rw [drop_none s a h1]; rfl)
  clear h1
  go_enter Tryz.func93, Tryz.ntmps93
  go_wp2
  go_ret3
  exact ⟨by rw [HR.out]; exact ja_no (by decide), Below.refl _ _⟩
set_option maxRecDepth 100000 in
theorem resc_34 (s : ByteArray) (a : Nat) (w : World) (hs : s.size ≤ 1125899906842000) (ha : a ≤ 1125899906842000) (h1 : a < s.size) (hx : s[a].toNat = 34) :
    Calls Tryz.prog 93 #[.string s, .int .i64 a] w fun e w' => e = .returned (.tuple #[.string (rTx (jEsc (s.data.toList.drop a))), .int .i64 (rPl a (jEsc (s.data.toList.drop a)) : Nat), .int .i64 (jEsc (s.data.toList.drop a)).e]) ∧ Below w.heap.size w w' := by
  have p1 : decide (s.size ≤ a) = false := decide_eq_false (by omega)
  have ik0 : (0 : Int) ≤ (a : Int) := by omega
  have ik1 : (a : Int) < (s.size : Int) := by omega
  have hd := drop_at s a h1
  have z1 : IntKind.i64.wrap ((a : Int) + 1) = (a : Int) + 1 := i64_small (by omega) (by omega)
  have HR := Lib.hid (show jEsc (s.data.toList.drop a) = ⟨34, 1, 0⟩ by
    have h2 : jSim s[a].toNat = 34 := by rw [hx]; rfl
    rw [hd, jEsc_sim (by rw [hx]; decide) (by rw [h2]; decide), h2])
  have hXi : (s[a].toNat : Int) = 34 := by rw [hx]; rfl
  have HS := Lib.hid (fun w => rsim_34 w)
  have HT := Lib.hid (show bA [34] = bA (uB 34) by decide +kernel)
  have m1 : (bA [34]).toList.isEmpty = false := by rw [isEmpty_of]; rfl
  clear hd hx
  go_enter Tryz.func93, Tryz.ntmps93
  go_wp2_with fail
  with_reducible refine (HS.out _).mono ?_
  rintro e w1 ⟨rfl, hw⟩
  rw [hw]; clear hw
  go_wp2
  go_ret3
  exact ⟨by rw [HR.out]; exact ja_sim HT.out, Below.refl _ _⟩
set_option maxRecDepth 100000 in
theorem resc_92 (s : ByteArray) (a : Nat) (w : World) (hs : s.size ≤ 1125899906842000) (ha : a ≤ 1125899906842000) (h1 : a < s.size) (hx : s[a].toNat = 92) :
    Calls Tryz.prog 93 #[.string s, .int .i64 a] w fun e w' => e = .returned (.tuple #[.string (rTx (jEsc (s.data.toList.drop a))), .int .i64 (rPl a (jEsc (s.data.toList.drop a)) : Nat), .int .i64 (jEsc (s.data.toList.drop a)).e]) ∧ Below w.heap.size w w' := by
  have p1 : decide (s.size ≤ a) = false := decide_eq_false (by omega)
  have ik0 : (0 : Int) ≤ (a : Int) := by omega
  have ik1 : (a : Int) < (s.size : Int) := by omega
  have hd := drop_at s a h1
  have z1 : IntKind.i64.wrap ((a : Int) + 1) = (a : Int) + 1 := i64_small (by omega) (by omega)
  have HR := Lib.hid (show jEsc (s.data.toList.drop a) = ⟨92, 1, 0⟩ by
    have h2 : jSim s[a].toNat = 92 := by rw [hx]; rfl
    rw [hd, jEsc_sim (by rw [hx]; decide) (by rw [h2]; decide), h2])
  have hXi : (s[a].toNat : Int) = 92 := by rw [hx]; rfl
  have HS := Lib.hid (fun w => rsim_92 w)
  have HT := Lib.hid (show bA [92] = bA (uB 92) by decide +kernel)
  have m1 : (bA [92]).toList.isEmpty = false := by rw [isEmpty_of]; rfl
  clear hd hx
  go_enter Tryz.func93, Tryz.ntmps93
  go_wp2_with fail
  with_reducible refine (HS.out _).mono ?_
  rintro e w1 ⟨rfl, hw⟩
  rw [hw]; clear hw
  go_wp2
  go_ret3
  exact ⟨by rw [HR.out]; exact ja_sim HT.out, Below.refl _ _⟩
set_option maxRecDepth 100000 in
theorem resc_47 (s : ByteArray) (a : Nat) (w : World) (hs : s.size ≤ 1125899906842000) (ha : a ≤ 1125899906842000) (h1 : a < s.size) (hx : s[a].toNat = 47) :
    Calls Tryz.prog 93 #[.string s, .int .i64 a] w fun e w' => e = .returned (.tuple #[.string (rTx (jEsc (s.data.toList.drop a))), .int .i64 (rPl a (jEsc (s.data.toList.drop a)) : Nat), .int .i64 (jEsc (s.data.toList.drop a)).e]) ∧ Below w.heap.size w w' := by
  have p1 : decide (s.size ≤ a) = false := decide_eq_false (by omega)
  have ik0 : (0 : Int) ≤ (a : Int) := by omega
  have ik1 : (a : Int) < (s.size : Int) := by omega
  have hd := drop_at s a h1
  have z1 : IntKind.i64.wrap ((a : Int) + 1) = (a : Int) + 1 := i64_small (by omega) (by omega)
  have HR := Lib.hid (show jEsc (s.data.toList.drop a) = ⟨47, 1, 0⟩ by
    have h2 : jSim s[a].toNat = 47 := by rw [hx]; rfl
    rw [hd, jEsc_sim (by rw [hx]; decide) (by rw [h2]; decide), h2])
  have hXi : (s[a].toNat : Int) = 47 := by rw [hx]; rfl
  have HS := Lib.hid (fun w => rsim_47 w)
  have HT := Lib.hid (show bA [47] = bA (uB 47) by decide +kernel)
  have m1 : (bA [47]).toList.isEmpty = false := by rw [isEmpty_of]; rfl
  clear hd hx
  go_enter Tryz.func93, Tryz.ntmps93
  go_wp2_with fail
  with_reducible refine (HS.out _).mono ?_
  rintro e w1 ⟨rfl, hw⟩
  rw [hw]; clear hw
  go_wp2
  go_ret3
  exact ⟨by rw [HR.out]; exact ja_sim HT.out, Below.refl _ _⟩
set_option maxRecDepth 100000 in
theorem resc_98 (s : ByteArray) (a : Nat) (w : World) (hs : s.size ≤ 1125899906842000) (ha : a ≤ 1125899906842000) (h1 : a < s.size) (hx : s[a].toNat = 98) :
    Calls Tryz.prog 93 #[.string s, .int .i64 a] w fun e w' => e = .returned (.tuple #[.string (rTx (jEsc (s.data.toList.drop a))), .int .i64 (rPl a (jEsc (s.data.toList.drop a)) : Nat), .int .i64 (jEsc (s.data.toList.drop a)).e]) ∧ Below w.heap.size w w' := by
  have p1 : decide (s.size ≤ a) = false := decide_eq_false (by omega)
  have ik0 : (0 : Int) ≤ (a : Int) := by omega
  have ik1 : (a : Int) < (s.size : Int) := by omega
  have hd := drop_at s a h1
  have z1 : IntKind.i64.wrap ((a : Int) + 1) = (a : Int) + 1 := i64_small (by omega) (by omega)
  have HR := Lib.hid (show jEsc (s.data.toList.drop a) = ⟨8, 1, 0⟩ by
    have h2 : jSim s[a].toNat = 8 := by rw [hx]; rfl
    rw [hd, jEsc_sim (by rw [hx]; decide) (by rw [h2]; decide), h2])
  have hXi : (s[a].toNat : Int) = 98 := by rw [hx]; rfl
  have HS := Lib.hid (fun w => rsim_98 w)
  have HT := Lib.hid (show bA [8] = bA (uB 8) by decide +kernel)
  have m1 : (bA [8]).toList.isEmpty = false := by rw [isEmpty_of]; rfl
  clear hd hx
  go_enter Tryz.func93, Tryz.ntmps93
  go_wp2_with fail
  with_reducible refine (HS.out _).mono ?_
  rintro e w1 ⟨rfl, hw⟩
  rw [hw]; clear hw
  go_wp2
  go_ret3
  exact ⟨by rw [HR.out]; exact ja_sim HT.out, Below.refl _ _⟩
set_option maxRecDepth 100000 in
theorem resc_102 (s : ByteArray) (a : Nat) (w : World) (hs : s.size ≤ 1125899906842000) (ha : a ≤ 1125899906842000) (h1 : a < s.size) (hx : s[a].toNat = 102) :
    Calls Tryz.prog 93 #[.string s, .int .i64 a] w fun e w' => e = .returned (.tuple #[.string (rTx (jEsc (s.data.toList.drop a))), .int .i64 (rPl a (jEsc (s.data.toList.drop a)) : Nat), .int .i64 (jEsc (s.data.toList.drop a)).e]) ∧ Below w.heap.size w w' := by
  have p1 : decide (s.size ≤ a) = false := decide_eq_false (by omega)
  have ik0 : (0 : Int) ≤ (a : Int) := by omega
  have ik1 : (a : Int) < (s.size : Int) := by omega
  have hd := drop_at s a h1
  have z1 : IntKind.i64.wrap ((a : Int) + 1) = (a : Int) + 1 := i64_small (by omega) (by omega)
  have HR := Lib.hid (show jEsc (s.data.toList.drop a) = ⟨12, 1, 0⟩ by
    have h2 : jSim s[a].toNat = 12 := by rw [hx]; rfl
    rw [hd, jEsc_sim (by rw [hx]; decide) (by rw [h2]; decide), h2])
  have hXi : (s[a].toNat : Int) = 102 := by rw [hx]; rfl
  have HS := Lib.hid (fun w => rsim_102 w)
  have HT := Lib.hid (show bA [12] = bA (uB 12) by decide +kernel)
  have m1 : (bA [12]).toList.isEmpty = false := by rw [isEmpty_of]; rfl
  clear hd hx
  go_enter Tryz.func93, Tryz.ntmps93
  go_wp2_with fail
  with_reducible refine (HS.out _).mono ?_
  rintro e w1 ⟨rfl, hw⟩
  rw [hw]; clear hw
  go_wp2
  go_ret3
  exact ⟨by rw [HR.out]; exact ja_sim HT.out, Below.refl _ _⟩
set_option maxRecDepth 100000 in
theorem resc_110 (s : ByteArray) (a : Nat) (w : World) (hs : s.size ≤ 1125899906842000) (ha : a ≤ 1125899906842000) (h1 : a < s.size) (hx : s[a].toNat = 110) :
    Calls Tryz.prog 93 #[.string s, .int .i64 a] w fun e w' => e = .returned (.tuple #[.string (rTx (jEsc (s.data.toList.drop a))), .int .i64 (rPl a (jEsc (s.data.toList.drop a)) : Nat), .int .i64 (jEsc (s.data.toList.drop a)).e]) ∧ Below w.heap.size w w' := by
  have p1 : decide (s.size ≤ a) = false := decide_eq_false (by omega)
  have ik0 : (0 : Int) ≤ (a : Int) := by omega
  have ik1 : (a : Int) < (s.size : Int) := by omega
  have hd := drop_at s a h1
  have z1 : IntKind.i64.wrap ((a : Int) + 1) = (a : Int) + 1 := i64_small (by omega) (by omega)
  have HR := Lib.hid (show jEsc (s.data.toList.drop a) = ⟨10, 1, 0⟩ by
    have h2 : jSim s[a].toNat = 10 := by rw [hx]; rfl
    rw [hd, jEsc_sim (by rw [hx]; decide) (by rw [h2]; decide), h2])
  have hXi : (s[a].toNat : Int) = 110 := by rw [hx]; rfl
  have HS := Lib.hid (fun w => rsim_110 w)
  have HT := Lib.hid (show bA [10] = bA (uB 10) by decide +kernel)
  have m1 : (bA [10]).toList.isEmpty = false := by rw [isEmpty_of]; rfl
  clear hd hx
  go_enter Tryz.func93, Tryz.ntmps93
  go_wp2_with fail
  with_reducible refine (HS.out _).mono ?_
  rintro e w1 ⟨rfl, hw⟩
  rw [hw]; clear hw
  go_wp2
  go_ret3
  exact ⟨by rw [HR.out]; exact ja_sim HT.out, Below.refl _ _⟩
set_option maxRecDepth 100000 in
theorem resc_114 (s : ByteArray) (a : Nat) (w : World) (hs : s.size ≤ 1125899906842000) (ha : a ≤ 1125899906842000) (h1 : a < s.size) (hx : s[a].toNat = 114) :
    Calls Tryz.prog 93 #[.string s, .int .i64 a] w fun e w' => e = .returned (.tuple #[.string (rTx (jEsc (s.data.toList.drop a))), .int .i64 (rPl a (jEsc (s.data.toList.drop a)) : Nat), .int .i64 (jEsc (s.data.toList.drop a)).e]) ∧ Below w.heap.size w w' := by
  have p1 : decide (s.size ≤ a) = false := decide_eq_false (by omega)
  have ik0 : (0 : Int) ≤ (a : Int) := by omega
  have ik1 : (a : Int) < (s.size : Int) := by omega
  have hd := drop_at s a h1
  have z1 : IntKind.i64.wrap ((a : Int) + 1) = (a : Int) + 1 := i64_small (by omega) (by omega)
  have HR := Lib.hid (show jEsc (s.data.toList.drop a) = ⟨13, 1, 0⟩ by
    have h2 : jSim s[a].toNat = 13 := by rw [hx]; rfl
    rw [hd, jEsc_sim (by rw [hx]; decide) (by rw [h2]; decide), h2])
  have hXi : (s[a].toNat : Int) = 114 := by rw [hx]; rfl
  have HS := Lib.hid (fun w => rsim_114 w)
  have HT := Lib.hid (show bA [13] = bA (uB 13) by decide +kernel)
  have m1 : (bA [13]).toList.isEmpty = false := by rw [isEmpty_of]; rfl
  clear hd hx
  go_enter Tryz.func93, Tryz.ntmps93
  go_wp2_with fail
  with_reducible refine (HS.out _).mono ?_
  rintro e w1 ⟨rfl, hw⟩
  rw [hw]; clear hw
  go_wp2
  go_ret3
  exact ⟨by rw [HR.out]; exact ja_sim HT.out, Below.refl _ _⟩
set_option maxRecDepth 100000 in
theorem resc_116 (s : ByteArray) (a : Nat) (w : World) (hs : s.size ≤ 1125899906842000) (ha : a ≤ 1125899906842000) (h1 : a < s.size) (hx : s[a].toNat = 116) :
    Calls Tryz.prog 93 #[.string s, .int .i64 a] w fun e w' => e = .returned (.tuple #[.string (rTx (jEsc (s.data.toList.drop a))), .int .i64 (rPl a (jEsc (s.data.toList.drop a)) : Nat), .int .i64 (jEsc (s.data.toList.drop a)).e]) ∧ Below w.heap.size w w' := by
  have p1 : decide (s.size ≤ a) = false := decide_eq_false (by omega)
  have ik0 : (0 : Int) ≤ (a : Int) := by omega
  have ik1 : (a : Int) < (s.size : Int) := by omega
  have hd := drop_at s a h1
  have z1 : IntKind.i64.wrap ((a : Int) + 1) = (a : Int) + 1 := i64_small (by omega) (by omega)
  have HR := Lib.hid (show jEsc (s.data.toList.drop a) = ⟨9, 1, 0⟩ by
    have h2 : jSim s[a].toNat = 9 := by rw [hx]; rfl
    rw [hd, jEsc_sim (by rw [hx]; decide) (by rw [h2]; decide), h2])
  have hXi : (s[a].toNat : Int) = 116 := by rw [hx]; rfl
  have HS := Lib.hid (fun w => rsim_116 w)
  have HT := Lib.hid (show bA [9] = bA (uB 9) by decide +kernel)
  have m1 : (bA [9]).toList.isEmpty = false := by rw [isEmpty_of]; rfl
  clear hd hx
  go_enter Tryz.func93, Tryz.ntmps93
  go_wp2_with fail
  with_reducible refine (HS.out _).mono ?_
  rintro e w1 ⟨rfl, hw⟩
  rw [hw]; clear hw
  go_wp2
  go_ret3
  exact ⟨by rw [HR.out]; exact ja_sim HT.out, Below.refl _ _⟩
set_option maxRecDepth 100000 in
theorem resc_none (s : ByteArray) (a : Nat) (w : World) (hs : s.size ≤ 1125899906842000) (ha : a ≤ 1125899906842000) (h1 : a < s.size) (hx : ¬ s[a].toNat = 117) (hx2 : jSim s[a].toNat = 0) :
    Calls Tryz.prog 93 #[.string s, .int .i64 a] w fun e w' => e = .returned (.tuple #[.string (rTx (jEsc (s.data.toList.drop a))), .int .i64 (rPl a (jEsc (s.data.toList.drop a)) : Nat), .int .i64 (jEsc (s.data.toList.drop a)).e]) ∧ Below w.heap.size w w' := by
  have p1 : decide (s.size ≤ a) = false := decide_eq_false (by omega)
  have ik0 : (0 : Int) ≤ (a : Int) := by omega
  have ik1 : (a : Int) < (s.size : Int) := by omega
  have hd := drop_at s a h1
  have z1 : IntKind.i64.wrap ((a : Int) + 1) = (a : Int) + 1 := i64_small (by omega) (by omega)
  have HR := Lib.hid (show jEsc (s.data.toList.drop a) = ⟨0, 0, 6⟩ by rw [hd, jEsc_bad hx hx2])
  obtain ⟨X, hXe⟩ : ∃ X, X = s[a].toNat := ⟨_, rfl⟩
  have hXi : (s[a].toNat : Int) = (X : Int) := by omega
  rw [← hXe] at hx hx2
  have q1 : ((X : Int) != 117) = true := bne_iff_ne.mpr (by omega)
  have HS := Lib.hid (fun w => rsim_none X w hx2)
  clear hd hx hx2 hXe
  go_enter Tryz.func93, Tryz.ntmps93
  go_wp2_with fail
  with_reducible refine (HS.out _).mono ?_
  rintro e w1 ⟨rfl, hw⟩
  rw [hw]; clear hw
  go_wp2
  go_ret3
  exact ⟨by rw [HR.out]; exact ja_no (by decide), Below.refl _ _⟩
set_option maxRecDepth 100000 in
theorem resc_bad (s : ByteArray) (a : Nat) (w : World) (hs : s.size ≤ 1125899906842000) (ha : a ≤ 1125899906842000) (h1 : a < s.size) (hx : s[a].toNat = 117) (h3 : ¬ (jDg 4 0 (s.data.toList.drop (a + 1))).2 = 0) :
    Calls Tryz.prog 93 #[.string s, .int .i64 a] w fun e w' => e = .returned (.tuple #[.string (rTx (jEsc (s.data.toList.drop a))), .int .i64 (rPl a (jEsc (s.data.toList.drop a)) : Nat), .int .i64 (jEsc (s.data.toList.drop a)).e]) ∧ Below w.heap.size w w' := by
  have p1 : decide (s.size ≤ a) = false := decide_eq_false (by omega)
  have ik0 : (0 : Int) ≤ (a : Int) := by omega
  have ik1 : (a : Int) < (s.size : Int) := by omega
  have hd := drop_at s a h1
  have z1 : IntKind.i64.wrap ((a : Int) + 1) = (a : Int) + 1 := i64_small (by omega) (by omega)
  have hXi : (s[a].toNat : Int) = 117 := by rw [hx]; rfl
  have z5 : IntKind.i64.wrap ((a : Int) + 5) = (a : Int) + 5 := i64_small (by omega) (by omega)
  have hR := jEsc_num (t := s.data.toList.drop (a + 1)) hx
  rw [← hd] at hR
  have HD := Lib.hid (fun w => show Calls Tryz.prog 108 #[.string s, .int .i64 ((a : Int) + 1)] w fun e w' => e = .returned (.tuple #[.int .i64 ((jDg 4 0 (s.data.toList.drop (a + 1))).1 : Nat), .int .i64 (jDg 4 0 (s.data.toList.drop (a + 1))).2]) ∧ w' = w from rdigits_any s (a + 1) w (by omega) (by omega))
  rw [jNum_bad h3, if_neg h3] at hR
  have HR := Lib.hid hR
  have HE := Lib.hid h3
  have q1 : ((jDg 4 0 (s.data.toList.drop (a + 1))).2 != 0) = true := bne_iff_ne.mpr h3
  generalize jDg 4 0 (s.data.toList.drop (a + 1)) = Z at *
  clear hd hx h3 hR
  go_enter Tryz.func93, Tryz.ntmps93
  go_wp2_with fail
  with_reducible refine (HD.out _).mono ?_
  rintro e w1 ⟨rfl, hw⟩
  rw [hw]; clear hw
  go_wp2
  go_ret3
  exact ⟨by rw [HR.out]; exact ja_no HE.out, Below.refl _ _⟩
set_option maxRecDepth 100000 in
theorem resc_lo (s : ByteArray) (a : Nat) (w : World) (hs : s.size ≤ 1125899906842000) (ha : a ≤ 1125899906842000) (h1 : a < s.size) (hx : s[a].toNat = 117) (h3 : (jDg 4 0 (s.data.toList.drop (a + 1))).2 = 0) (h4 : (jDg 4 0 (s.data.toList.drop (a + 1))).1 < 55296) :
    Calls Tryz.prog 93 #[.string s, .int .i64 a] w fun e w' => e = .returned (.tuple #[.string (rTx (jEsc (s.data.toList.drop a))), .int .i64 (rPl a (jEsc (s.data.toList.drop a)) : Nat), .int .i64 (jEsc (s.data.toList.drop a)).e]) ∧ Below w.heap.size w w' := by
  have p1 : decide (s.size ≤ a) = false := decide_eq_false (by omega)
  have ik0 : (0 : Int) ≤ (a : Int) := by omega
  have ik1 : (a : Int) < (s.size : Int) := by omega
  have hd := drop_at s a h1
  have z1 : IntKind.i64.wrap ((a : Int) + 1) = (a : Int) + 1 := i64_small (by omega) (by omega)
  have hXi : (s[a].toNat : Int) = 117 := by rw [hx]; rfl
  have z5 : IntKind.i64.wrap ((a : Int) + 5) = (a : Int) + 5 := i64_small (by omega) (by omega)
  have hR := jEsc_num (t := s.data.toList.drop (a + 1)) hx
  rw [← hd] at hR
  have HD := Lib.hid (fun w => show Calls Tryz.prog 108 #[.string s, .int .i64 ((a : Int) + 1)] w fun e w' => e = .returned (.tuple #[.int .i64 ((jDg 4 0 (s.data.toList.drop (a + 1))).1 : Nat), .int .i64 (jDg 4 0 (s.data.toList.drop (a + 1))).2]) ∧ w' = w from rdigits_any s (a + 1) w (by omega) (by omega))
  obtain ⟨D, hD⟩ : ∃ D, D = (jDg 4 0 (s.data.toList.drop (a + 1))).1 := ⟨_, rfl⟩
  have hm := jDg4_lt (s.data.toList.drop (a + 1))
  rw [h3, ← hD] at HD
  rw [← hD] at hm
  rw [← hD] at h4
  rw [jNum_char h3 (by rw [← hD]; exact uIs_iff.mpr (by omega)), if_pos rfl, ← hD] at hR
  have HR := Lib.hid (show jEsc (s.data.toList.drop a) = ⟨D, 5, 0⟩ from hR)
  have q0 : decide ((55296 : Int) ≤ (D : Int)) = false := decide_eq_false (by omega)
  have q1 : decide ((56320 : Int) ≤ (D : Int)) = false := decide_eq_false (by omega)
  have y6 : IntKind.i32.wrap (D : Int) = (D : Int) := IntWalk.i32_in _ (by omega)
  have HB := Lib.hid (fun w => rbytes_any D w (by omega))
  clear hd hx h3 hR h4 hD
  go_enter Tryz.func93, Tryz.ntmps93
  go_wp2_with fail
  with_reducible refine (HD.out _).mono ?_
  rintro e w1 ⟨rfl, hw⟩
  rw [hw]; clear hw
  go_wp2_with fail
  with_reducible refine (HB.out _).mono ?_
  rintro e w2 ⟨rfl, hb2⟩
  go_wp2
  go_ret3
  exact ⟨by rw [HR.out]; exact ja_yes (k := 5), hb2⟩
set_option maxRecDepth 100000 in
theorem resc_hi (s : ByteArray) (a : Nat) (w : World) (hs : s.size ≤ 1125899906842000) (ha : a ≤ 1125899906842000) (h1 : a < s.size) (hx : s[a].toNat = 117) (h3 : (jDg 4 0 (s.data.toList.drop (a + 1))).2 = 0) (h4 : 57343 < (jDg 4 0 (s.data.toList.drop (a + 1))).1) :
    Calls Tryz.prog 93 #[.string s, .int .i64 a] w fun e w' => e = .returned (.tuple #[.string (rTx (jEsc (s.data.toList.drop a))), .int .i64 (rPl a (jEsc (s.data.toList.drop a)) : Nat), .int .i64 (jEsc (s.data.toList.drop a)).e]) ∧ Below w.heap.size w w' := by
  have p1 : decide (s.size ≤ a) = false := decide_eq_false (by omega)
  have ik0 : (0 : Int) ≤ (a : Int) := by omega
  have ik1 : (a : Int) < (s.size : Int) := by omega
  have hd := drop_at s a h1
  have z1 : IntKind.i64.wrap ((a : Int) + 1) = (a : Int) + 1 := i64_small (by omega) (by omega)
  have hXi : (s[a].toNat : Int) = 117 := by rw [hx]; rfl
  have z5 : IntKind.i64.wrap ((a : Int) + 5) = (a : Int) + 5 := i64_small (by omega) (by omega)
  have hR := jEsc_num (t := s.data.toList.drop (a + 1)) hx
  rw [← hd] at hR
  have HD := Lib.hid (fun w => show Calls Tryz.prog 108 #[.string s, .int .i64 ((a : Int) + 1)] w fun e w' => e = .returned (.tuple #[.int .i64 ((jDg 4 0 (s.data.toList.drop (a + 1))).1 : Nat), .int .i64 (jDg 4 0 (s.data.toList.drop (a + 1))).2]) ∧ w' = w from rdigits_any s (a + 1) w (by omega) (by omega))
  obtain ⟨D, hD⟩ : ∃ D, D = (jDg 4 0 (s.data.toList.drop (a + 1))).1 := ⟨_, rfl⟩
  have hm := jDg4_lt (s.data.toList.drop (a + 1))
  rw [h3, ← hD] at HD
  rw [← hD] at hm
  rw [← hD] at h4
  rw [jNum_char h3 (by rw [← hD]; exact uIs_iff.mpr (by omega)), if_pos rfl, ← hD] at hR
  have HR := Lib.hid (show jEsc (s.data.toList.drop a) = ⟨D, 5, 0⟩ from hR)
  have q0 : decide ((55296 : Int) ≤ (D : Int)) = true := decide_eq_true (by omega)
  have q1 : decide ((D : Int) ≤ 56319) = false := decide_eq_false (by omega)
  have q2 : decide ((56320 : Int) ≤ (D : Int)) = true := decide_eq_true (by omega)
  have q3 : decide ((D : Int) ≤ 57343) = false := decide_eq_false (by omega)
  have y6 : IntKind.i32.wrap (D : Int) = (D : Int) := IntWalk.i32_in _ (by omega)
  have HB := Lib.hid (fun w => rbytes_any D w (by omega))
  clear hd hx h3 hR h4 hD
  go_enter Tryz.func93, Tryz.ntmps93
  go_wp2_with fail
  with_reducible refine (HD.out _).mono ?_
  rintro e w1 ⟨rfl, hw⟩
  rw [hw]; clear hw
  go_wp2_with fail
  with_reducible refine (HB.out _).mono ?_
  rintro e w2 ⟨rfl, hb2⟩
  go_wp2
  go_ret3
  exact ⟨by rw [HR.out]; exact ja_yes (k := 5), hb2⟩
set_option maxRecDepth 100000 in
theorem resc_sec (s : ByteArray) (a : Nat) (w : World) (hs : s.size ≤ 1125899906842000) (ha : a ≤ 1125899906842000) (h1 : a < s.size) (hx : s[a].toNat = 117) (h3 : (jDg 4 0 (s.data.toList.drop (a + 1))).2 = 0) (h4 : 56320 ≤ (jDg 4 0 (s.data.toList.drop (a + 1))).1) (h5 : (jDg 4 0 (s.data.toList.drop (a + 1))).1 ≤ 57343) :
    Calls Tryz.prog 93 #[.string s, .int .i64 a] w fun e w' => e = .returned (.tuple #[.string (rTx (jEsc (s.data.toList.drop a))), .int .i64 (rPl a (jEsc (s.data.toList.drop a)) : Nat), .int .i64 (jEsc (s.data.toList.drop a)).e]) ∧ Below w.heap.size w w' := by
  have p1 : decide (s.size ≤ a) = false := decide_eq_false (by omega)
  have ik0 : (0 : Int) ≤ (a : Int) := by omega
  have ik1 : (a : Int) < (s.size : Int) := by omega
  have hd := drop_at s a h1
  have z1 : IntKind.i64.wrap ((a : Int) + 1) = (a : Int) + 1 := i64_small (by omega) (by omega)
  have hXi : (s[a].toNat : Int) = 117 := by rw [hx]; rfl
  have z5 : IntKind.i64.wrap ((a : Int) + 5) = (a : Int) + 5 := i64_small (by omega) (by omega)
  have hR := jEsc_num (t := s.data.toList.drop (a + 1)) hx
  rw [← hd] at hR
  have HD := Lib.hid (fun w => show Calls Tryz.prog 108 #[.string s, .int .i64 ((a : Int) + 1)] w fun e w' => e = .returned (.tuple #[.int .i64 ((jDg 4 0 (s.data.toList.drop (a + 1))).1 : Nat), .int .i64 (jDg 4 0 (s.data.toList.drop (a + 1))).2]) ∧ w' = w from rdigits_any s (a + 1) w (by omega) (by omega))
  obtain ⟨D, hD⟩ : ∃ D, D = (jDg 4 0 (s.data.toList.drop (a + 1))).1 := ⟨_, rfl⟩
  have hm := jDg4_lt (s.data.toList.drop (a + 1))
  rw [h3, ← hD] at HD
  rw [← hD] at hm
  rw [jNum_second h3 (by rw [← hD] at h4 h5 ⊢; rw [uIs_iff]; omega) h4, if_neg (by decide)] at hR
  rw [← hD] at h4 h5
  have HR := Lib.hid hR
  have q0 : decide ((55296 : Int) ≤ (D : Int)) = true := decide_eq_true (by omega)
  have q1 : decide ((D : Int) ≤ 56319) = false := decide_eq_false (by omega)
  have q2 : decide ((56320 : Int) ≤ (D : Int)) = true := decide_eq_true (by omega)
  have q3 : decide ((D : Int) ≤ 57343) = true := decide_eq_true (by omega)
  clear hd hx h3 hR h4 h5 hD
  go_enter Tryz.func93, Tryz.ntmps93
  go_wp2_with fail
  with_reducible refine (HD.out _).mono ?_
  rintro e w1 ⟨rfl, hw⟩
  rw [hw]; clear hw
  go_wp2
  go_ret3
  exact ⟨by rw [HR.out]; exact ja_no (by decide), Below.refl _ _⟩
set_option maxRecDepth 100000 in
theorem resc_first (s : ByteArray) (a : Nat) (w : World) (hs : s.size ≤ 1125899906842000) (ha : a ≤ 1125899906842000) (h1 : a < s.size) (hx : s[a].toNat = 117) (h3 : (jDg 4 0 (s.data.toList.drop (a + 1))).2 = 0) (h4 : 55296 ≤ (jDg 4 0 (s.data.toList.drop (a + 1))).1) (h5 : (jDg 4 0 (s.data.toList.drop (a + 1))).1 ≤ 56319) :
    Calls Tryz.prog 93 #[.string s, .int .i64 a] w fun e w' => e = .returned (.tuple #[.string (rTx (jEsc (s.data.toList.drop a))), .int .i64 (rPl a (jEsc (s.data.toList.drop a)) : Nat), .int .i64 (jEsc (s.data.toList.drop a)).e]) ∧ Below w.heap.size w w' := by
  have p1 : decide (s.size ≤ a) = false := decide_eq_false (by omega)
  have ik0 : (0 : Int) ≤ (a : Int) := by omega
  have ik1 : (a : Int) < (s.size : Int) := by omega
  have hd := drop_at s a h1
  have z1 : IntKind.i64.wrap ((a : Int) + 1) = (a : Int) + 1 := i64_small (by omega) (by omega)
  have hXi : (s[a].toNat : Int) = 117 := by rw [hx]; rfl
  have z5 : IntKind.i64.wrap ((a : Int) + 5) = (a : Int) + 5 := i64_small (by omega) (by omega)
  have hR := jEsc_num (t := s.data.toList.drop (a + 1)) hx
  rw [← hd] at hR
  have HD := Lib.hid (fun w => show Calls Tryz.prog 108 #[.string s, .int .i64 ((a : Int) + 1)] w fun e w' => e = .returned (.tuple #[.int .i64 ((jDg 4 0 (s.data.toList.drop (a + 1))).1 : Nat), .int .i64 (jDg 4 0 (s.data.toList.drop (a + 1))).2]) ∧ w' = w from rdigits_any s (a + 1) w (by omega) (by omega))
  obtain ⟨D, hD⟩ : ∃ D, D = (jDg 4 0 (s.data.toList.drop (a + 1))).1 := ⟨_, rfl⟩
  have hm := jDg4_lt (s.data.toList.drop (a + 1))
  rw [h3, ← hD] at HD
  rw [← hD] at hm
  rw [jNum_pair h3 (by rw [← hD] at h4 h5 ⊢; rw [uIs_iff]; omega) (by omega), List.drop_drop, ← hD] at hR
  rw [← hD] at h4 h5
  have HP := Lib.hid (fun w => show Calls Tryz.prog 109 #[.string s, .int .i64 ((a : Int) + 5), .int .i64 D] w fun e w' => e = .returned (.tuple #[.string (rTx (jPair D (s.data.toList.drop (a + 1 + 4)))), .int .i64 (rPl (a + 5) (jPair D (s.data.toList.drop (a + 1 + 4))) : Nat), .int .i64 (jPair D (s.data.toList.drop (a + 1 + 4))).e]) ∧ Below w.heap.size w w' from rpair_any s (a + 5) D w (by omega) (by omega) h4 h5)
  generalize jPair D (s.data.toList.drop (a + 1 + 4)) = P at *
  have HR := Lib.hid (show (rTx (jEsc (s.data.toList.drop a)) = rTx P ∧ rPl a (jEsc (s.data.toList.drop a)) = rPl (a + 5) P) ∧ (jEsc (s.data.toList.drop a)).e = P.e by
    rw [hR]
    by_cases he : P.e = 0
    · simp only [he, if_true]
      unfold rTx rPl
      rw [if_pos rfl, if_pos rfl, if_pos he, if_pos he]
      exact ⟨⟨rfl, by simp only; omega⟩, by first | trivial | rfl⟩
    · simp only [he, if_false]
      unfold rTx rPl
      rw [if_neg he, if_neg he, if_neg (by simpa using he), if_neg (by simpa using he)]
      exact ⟨⟨rfl, rfl⟩, by first | trivial | rfl⟩)
  have q0 : decide ((55296 : Int) ≤ (D : Int)) = true := decide_eq_true (by omega)
  have q1 : decide ((D : Int) ≤ 56319) = true := decide_eq_true (by omega)
  clear hd hx h3 hR h4 h5 hD
  go_enter Tryz.func93, Tryz.ntmps93
  go_wp2_with fail
  with_reducible refine (HD.out _).mono ?_
  rintro e w1 ⟨rfl, hw⟩
  rw [hw]; clear hw
  go_wp2_with fail
  with_reducible refine (HP.out _).mono ?_
  rintro e w2 ⟨rfl, hb2⟩
  go_wp2
  go_ret3
  exact ⟨by rw [HR.out.1.1, HR.out.1.2, HR.out.2]; rfl, hb2⟩
set_option maxRecDepth 100000 in
theorem resc_any (s : ByteArray) (a : Nat) (w : World) (hs : s.size ≤ 1125899906842000) (ha : a ≤ 1125899906842000) :
    Calls Tryz.prog 93 #[.string s, .int .i64 a] w fun e w' => e = .returned (.tuple #[.string (rTx (jEsc (s.data.toList.drop a))), .int .i64 (rPl a (jEsc (s.data.toList.drop a)) : Nat), .int .i64 (jEsc (s.data.toList.drop a)).e]) ∧ Below w.heap.size w w' := by
  by_cases h1 : a < s.size
  · by_cases hx : s[a].toNat = 117
    · by_cases h3 : (jDg 4 0 (s.data.toList.drop (a + 1))).2 = 0
      · by_cases h4 : (jDg 4 0 (s.data.toList.drop (a + 1))).1 < 55296
        · exact resc_lo s a w hs ha h1 hx h3 h4
        · by_cases h5 : (jDg 4 0 (s.data.toList.drop (a + 1))).1 ≤ 56319
          · exact resc_first s a w hs ha h1 hx h3 (by omega) h5
          · by_cases h6 : (jDg 4 0 (s.data.toList.drop (a + 1))).1 ≤ 57343
            · exact resc_sec s a w hs ha h1 hx h3 (by omega) h6
            · exact resc_hi s a w hs ha h1 hx h3 (by omega)
      · exact resc_bad s a w hs ha h1 hx h3
    · rcases Nat.decEq (jSim s[a].toNat) 0 with hn | hy
      · have hc : s[a].toNat = 34 ∨ s[a].toNat = 92 ∨ s[a].toNat = 47 ∨ s[a].toNat = 98 ∨ s[a].toNat = 102 ∨ s[a].toNat = 110 ∨ s[a].toNat = 114 ∨ s[a].toNat = 116 := by
          unfold jSim at hn
          generalize s[a].toNat = X at *
          repeat' split at hn
          all_goals omega
        rcases hc with h | h | h | h | h | h | h | h
        · exact resc_34 s a w hs ha h1 h
        · exact resc_92 s a w hs ha h1 h
        · exact resc_47 s a w hs ha h1 h
        · exact resc_98 s a w hs ha h1 h
        · exact resc_102 s a w hs ha h1 h
        · exact resc_110 s a w hs ha h1 h
        · exact resc_114 s a w hs ha h1 h
        · exact resc_116 s a w hs ha h1 h
      · exact resc_none s a w hs ha h1 hx hy
  · exact resc_end s a w hs ha (by omega)
def pPl (a : Nat) (p : JT) : Nat := if p.e = 0 then a + p.k else 0
theorem jt_no {a : Nat} {e : Int} (he : e ≠ 0) : Ending.returned (.tuple #[.string ⟨#[]⟩, .int .i64 0, .int .i64 e]) = .returned (.tuple #[.string (bA (⟨[], 0, e⟩ : JT).t), .int .i64 (pPl a ⟨[], 0, e⟩ : Nat), .int .i64 e]) := by
  have h2 : pPl a ⟨[], 0, e⟩ = 0 := by unfold pPl; rw [if_neg he]
  rw [h2]; rfl
set_option maxRecDepth 100000 in
theorem rpart_esc (s : ByteArray) (a : Nat) (w : World) (hs : s.size ≤ 1125899906841000) (h1 : a < s.size) (hx : s[a].toNat = 92) :
    Calls Tryz.prog 81 #[.string s, .int .i64 a] w fun e w' => e = .returned (.tuple #[.string (bA (jPart (s.data.toList.drop a)).t), .int .i64 (pPl a (jPart (s.data.toList.drop a)) : Nat), .int .i64 (jPart (s.data.toList.drop a)).e]) ∧ Below w.heap.size w w' := by
  have ik0 : (0 : Int) ≤ (a : Int) := by omega
  have ik1 : (a : Int) < (s.size : Int) := by omega
  have hd := drop_at s a h1
  have z1 : IntKind.i64.wrap ((a : Int) + 1) = (a : Int) + 1 := i64_small (by omega) (by omega)
  have hXi : (s[a].toNat : Int) = 92 := by rw [hx]; rfl
  have hR : jPart (s.data.toList.drop a) = if (jEsc (s.data.toList.drop (a + 1))).e = 0 then ⟨uB (jEsc (s.data.toList.drop (a + 1))).r, (jEsc (s.data.toList.drop (a + 1))).k + 1, 0⟩ else ⟨[], 0, (jEsc (s.data.toList.drop (a + 1))).e⟩ := by rw [hd]; simp only [jPart]; rw [if_pos hx]
  have HE := Lib.hid (fun w => show Calls Tryz.prog 93 #[.string s, .int .i64 ((a : Int) + 1)] w fun e w' => e = .returned (.tuple #[.string (rTx (jEsc (s.data.toList.drop (a + 1)))), .int .i64 (rPl (a + 1) (jEsc (s.data.toList.drop (a + 1))) : Nat), .int .i64 (jEsc (s.data.toList.drop (a + 1))).e]) ∧ Below w.heap.size w w' from resc_any s (a + 1) w (by omega) (by omega))
  generalize jEsc (s.data.toList.drop (a + 1)) = P at *
  have HR := Lib.hid (show (bA (jPart (s.data.toList.drop a)).t = rTx P ∧ pPl a (jPart (s.data.toList.drop a)) = rPl (a + 1) P) ∧ (jPart (s.data.toList.drop a)).e = P.e by
    rw [hR]
    by_cases he : P.e = 0
    · simp only [he, if_true]
      unfold rTx rPl pPl
      rw [if_pos rfl, if_pos he, if_pos he]
      exact ⟨⟨rfl, by simp only; omega⟩, by first | trivial | rfl⟩
    · simp only [he, if_false]
      unfold rTx rPl pPl
      rw [if_neg he, if_neg he, if_neg (by simpa using he)]
      exact ⟨⟨rfl, rfl⟩, by first | trivial | rfl⟩)
  clear hd hx hR
  go_enter Tryz.func81, Tryz.ntmps81
  go_wp2_with fail
  with_reducible refine (HE.out _).mono ?_
  rintro e w1 ⟨rfl, hb⟩
  go_wp2
  go_ret3
  exact ⟨by rw [HR.out.1.1, HR.out.1.2, HR.out.2]; rfl, hb⟩
set_option maxRecDepth 100000 in
theorem rpart_low (s : ByteArray) (a : Nat) (w : World) (hs : s.size ≤ 1125899906841000) (h1 : a < s.size) (hx : s[a].toNat < 32) :
    Calls Tryz.prog 81 #[.string s, .int .i64 a] w fun e w' => e = .returned (.tuple #[.string (bA (jPart (s.data.toList.drop a)).t), .int .i64 (pPl a (jPart (s.data.toList.drop a)) : Nat), .int .i64 (jPart (s.data.toList.drop a)).e]) ∧ Below w.heap.size w w' := by
  have ik0 : (0 : Int) ≤ (a : Int) := by omega
  have ik1 : (a : Int) < (s.size : Int) := by omega
  have hd := drop_at s a h1
  have z1 : IntKind.i64.wrap ((a : Int) + 1) = (a : Int) + 1 := i64_small (by omega) (by omega)
  have HR := Lib.hid (show jPart (s.data.toList.drop a) = ⟨[], 0, 3⟩ by rw [hd]; simp only [jPart]; rw [if_neg (by omega), if_pos hx])
  obtain ⟨X, hXe⟩ : ∃ X, X = s[a].toNat := ⟨_, rfl⟩
  have hXi : (s[a].toNat : Int) = (X : Int) := by omega
  rw [← hXe] at hx
  have q1 : ((X : Int) == 92) = false := beq_eq_false_iff_ne.mpr (by omega)
  have q2 : decide ((X : Int) < 32) = true := decide_eq_true (by omega)
  clear hd hx hXe
  go_enter Tryz.func81, Tryz.ntmps81
  go_wp2
  go_ret3
  exact ⟨by rw [HR.out]; exact jt_no (by decide), Below.refl _ _⟩
set_option maxRecDepth 100000 in
theorem rpart_char (s : ByteArray) (a : Nat) (w : World) (hs : s.size ≤ 1125899906841000) (h1 : a < s.size) (hx : ¬ s[a].toNat = 92) (hx2 : ¬ s[a].toNat < 32) :
    Calls Tryz.prog 81 #[.string s, .int .i64 a] w fun e w' => e = .returned (.tuple #[.string (bA (jPart (s.data.toList.drop a)).t), .int .i64 (pPl a (jPart (s.data.toList.drop a)) : Nat), .int .i64 (jPart (s.data.toList.drop a)).e]) ∧ Below w.heap.size w w' := by
  have ik0 : (0 : Int) ≤ (a : Int) := by omega
  have ik1 : (a : Int) < (s.size : Int) := by omega
  have hd := drop_at s a h1
  have z1 : IntKind.i64.wrap ((a : Int) + 1) = (a : Int) + 1 := i64_small (by omega) (by omega)
  have hR : jPart (s.data.toList.drop a) = if (uDec (s.data.toList.drop a)).2 = 0 then ⟨[], 0, 5⟩ else ⟨(s.data.toList.drop a).take (uDec (s.data.toList.drop a)).2, (uDec (s.data.toList.drop a)).2, 0⟩ := by rw [hd]; simp only [jPart]; rw [if_neg hx, if_neg hx2]
  obtain ⟨X, hXe⟩ : ∃ X, X = s[a].toNat := ⟨_, rfl⟩
  have hXi : (s[a].toNat : Int) = (X : Int) := by omega
  rw [← hXe] at hx hx2
  have q1 : ((X : Int) == 92) = false := beq_eq_false_iff_ne.mpr (by omega)
  have q2 : decide ((X : Int) < 32) = false := decide_eq_false (by omega)
  have HU0 := fun w => rrune_any s a w (by omega) (by omega) (by omega)
  rw [uR_at] at HU0
  have hle := dAt_le (s := s) (e := a)
  have hUd : dAt s a = uDec (s.data.toList.drop a) := rfl
  rw [← hUd] at hR
  generalize (dAt s a).1 = R at *
  obtain ⟨z, hz⟩ : ∃ z, z = (dAt s a).2 := ⟨_, rfl⟩
  rw [← hz] at HU0 hle hR
  have HU := Lib.hid HU0
  clear hd hx hx2 hXe hUd hz HU0
  by_cases h0 : z = 0
  · have q3 : ((z : Int) == 0) = true := by rw [h0]; rfl
    rw [if_pos h0] at hR
    have HR := Lib.hid hR
    clear h0 hR hle
    go_enter Tryz.func81, Tryz.ntmps81
    go_wp2_with fail
    with_reducible refine (HU.out _).mono ?_
    rintro e w1 ⟨rfl, hb⟩
    go_wp2
    go_ret3
    exact ⟨by rw [HR.out]; exact jt_no (by decide), hb⟩
  · have q3 : ((z : Int) == 0) = false := beq_eq_false_iff_ne.mpr (by omega)
    have hle2 := hle (by omega)
    rw [if_neg h0] at hR
    have hx3 : s.extract a (a + z) = bA ((s.data.toList.drop a).take z) := (text_is s a z _).mpr rfl
    have HR := Lib.hid (show (bA (jPart (s.data.toList.drop a)).t = s.extract a (a + z) ∧ pPl a (jPart (s.data.toList.drop a)) = a + z) ∧ (jPart (s.data.toList.drop a)).e = 0 by
      rw [hR, hx3]
      exact ⟨⟨rfl, rfl⟩, rfl⟩)
    have z2 : IntKind.i64.wrap ((a : Int) + (z : Int)) = (a : Int) + (z : Int) := i64_small (by omega) (by omega)
    have jk1 : (a : Int) ≤ (a : Int) + (z : Int) := by omega
    have jk2 : (a : Int) + (z : Int) ≤ (s.size : Int) := by omega
    clear h0 hR hle hx3
    go_enter Tryz.func81, Tryz.ntmps81
    go_wp2_with fail
    with_reducible refine (HU.out _).mono ?_
    rintro e w1 ⟨rfl, hb⟩
    go_wp2
    go_ret3
    exact ⟨by rw [HR.out.1.1, HR.out.1.2, HR.out.2]; rfl, hb⟩
theorem rpart_any (s : ByteArray) (a : Nat) (w : World) (hs : s.size ≤ 1125899906841000) (h1 : a < s.size) :
    Calls Tryz.prog 81 #[.string s, .int .i64 a] w fun e w' => e = .returned (.tuple #[.string (bA (jPart (s.data.toList.drop a)).t), .int .i64 (pPl a (jPart (s.data.toList.drop a)) : Nat), .int .i64 (jPart (s.data.toList.drop a)).e]) ∧ Below w.heap.size w w' := by
  by_cases hx : s[a].toNat = 92
  · exact rpart_esc s a w hs h1 hx
  · by_cases hx2 : s[a].toNat < 32
    · exact rpart_low s a w hs h1 hx2
    · exact rpart_char s a w hs h1 hx hx2
end Go.Proofs.YtnbhhnkcfbfdcaaGreatDoor
/- The document's own jstring (package truchmanref10): Read. -/
namespace Go.Proofs.YtnbhhnkcfbfdcaaGreatDoor
open Go Go.RowKit
set_option linter.unusedVariables false

/-- Where the document's own reading leaves the cursor. -/
def CS.jTo (c : CS) : CS := if c.jRes.e = 0 then c.past c.jRes.k else c.bad c.jRes.e
theorem ret_jr {c : CS} {a : CS} {b : ByteArray} (h : c.jTo = a) (k : bA c.jRes.t = b) : Ending.returned (.tuple #[a.val, .string b]) = .returned (.tuple #[c.jTo.val, .string (bA c.jRes.t)]) := by rw [h, k]
theorem cut_size2 {c : CS} (h : c.ok) : (c.s.extract 0 c.en).size = c.en := by
  have := h.2.1
  rw [ByteArray.size_extract]; omega
theorem cut_bs (c : CS) (a : Nat) : (c.s.extract 0 c.en).data.toList.drop (c.at_ + a) = c.bs.drop a := by
  rw [cut_toList]; unfold CS.bs; rw [List.drop_drop]
theorem two_made {w : World} (c d : CS) (t : TypeId) : CurT t ((w.alloc (.cells #[.string c.s, .int .i64 c.at_, .int .i64 c.en, .int .i64 c.er] t)).alloc (.cells #[.string d.s, .int .i64 d.at_, .int .i64 d.en, .int .i64 d.er] t)) w.heap.size c ∧ CurT t ((w.alloc (.cells #[.string c.s, .int .i64 c.at_, .int .i64 c.en, .int .i64 c.er] t)).alloc (.cells #[.string d.s, .int .i64 d.at_, .int .i64 d.en, .int .i64 d.er] t)) (w.heap.size + 1) d ∧ Below w.heap.size w ((w.alloc (.cells #[.string c.s, .int .i64 c.at_, .int .i64 c.en, .int .i64 c.er] t)).alloc (.cells #[.string d.s, .int .i64 d.at_, .int .i64 d.en, .int .i64 d.er] t)) := two_laid c d t (Below.refl _ _)

set_option maxRecDepth 100000 in
set_option maxHeartbeats 2000000 in
theorem rjread_err (c : CS) (w : World) (hc : c.ok) (h0 : ¬ c.er = 0) :
    Calls Tryz.prog 63 #[.agg #[.string c.s, .int .i64 c.at_, .int .i64 c.en, .int .i64 c.er]] w fun e w' => e = .returned (.tuple #[c.jTo.val, .string (bA c.jRes.t)]) ∧ Below w.heap.size w w' := by
  obtain ⟨k1, k2, k3⟩ := hc
  have hb : (c.er != 0) = true := bne_iff_ne.mpr h0
  have HR := Lib.hid (show c.jRes = ⟨[], 0, c.er⟩ ∧ c.jTo = c from ⟨CS.jRes_err h0, by unfold CS.jTo; rw [CS.jRes_err h0, if_neg h0]; rfl⟩)
  clear h0
  go_enter Tryz.func63, Tryz.ntmps63
  go_wp2
  go_returns
  exact ⟨ret_jr (c := c) (a := c) HR.out.2 (by rw [HR.out.1]; rfl), by go_grown⟩
set_option maxRecDepth 100000 in
set_option maxHeartbeats 2000000 in
theorem rjread_end (c : CS) (w : World) (hc : c.ok) (h0 : c.er = 0) (h1 : c.at_ = c.en) :
    Calls Tryz.prog 63 #[.agg #[.string c.s, .int .i64 c.at_, .int .i64 c.en, .int .i64 c.er]] w fun e w' => e = .returned (.tuple #[c.jTo.val, .string (bA c.jRes.t)]) ∧ Below w.heap.size w w' := by
  obtain ⟨k1, k2, k3⟩ := hc
  have hb : (c.er != 0) = false := by rw [h0]; rfl
  have hn : c.bs = [] := List.eq_nil_of_length_eq_zero (by rw [CS.bs_length ⟨k1, k2, k3⟩]; omega)
  have HR := Lib.hid (show c.jRes = ⟨[], 0, 1⟩ ∧ c.jTo = c.bad 1 from ⟨CS.jRes_nil h0 hn, by unfold CS.jTo; rw [CS.jRes_nil h0 hn, if_neg (by decide)]⟩)
  have p1 : ((c.at_ : Int) == (c.en : Int)) = true := beq_iff_eq.mpr (by omega)
  have HF := Lib.hid (fun w => ref_fail0 c 1 w h0)
  clear h0 h1 hn
  go_enter Tryz.func63, Tryz.ntmps63
  go_wp2_with fail
  refine (HF.out _).mono ?_
  rintro e w1 ⟨rfl, hb1⟩
  obtain ⟨qq1, qq2, hbel⟩ := two_laid c CS.zero 76 hb1
  clear hb1
  have a0 := qq1.c0; have a1 := qq1.c1; have a2 := qq1.c2; have a3 := qq1.c3; have af := qq1.fr
  have b0 := qq2.c0; have b1 := qq2.c1; have b2 := qq2.c2; have b3 := qq2.c3; have bf := qq2.fr
  go_wp2
  refine bodyPost_ret (v := .tuple #[.agg #[.string c.s, .int .i64 c.at_, .int .i64 c.en, .int .i64 1], .string ⟨#[]⟩]) (by simp [results, Tryz.results63, go_sem, b0, b1, b2, b3]) rfl ⟨ret_jr (c := c) (a := c.bad 1) HR.out.2 (by rw [HR.out.1]; rfl), ?_⟩
  go_grown
set_option maxRecDepth 100000 in
set_option maxHeartbeats 2000000 in
theorem rjread_x (c : CS) (w : World) (hc : c.ok) (h0 : c.er = 0) (h1 : c.at_ < c.en) (hx : ¬ ((c.s.extract 0 c.en)[c.at_]'(by rw [cut_size2 hc]; exact h1)).toNat = 34) :
    Calls Tryz.prog 63 #[.agg #[.string c.s, .int .i64 c.at_, .int .i64 c.en, .int .i64 c.er]] w fun e w' => e = .returned (.tuple #[c.jTo.val, .string (bA c.jRes.t)]) ∧ Below w.heap.size w w' := by
  obtain ⟨k1, k2, k3⟩ := hc
  have hb : (c.er != 0) = false := by rw [h0]; rfl
  have hsz := cut_size2 ⟨k1, k2, k3⟩
  have hd := drop_at (c.s.extract 0 c.en) c.at_ (by rw [hsz]; exact h1)
  have hcb := cut_bs c 0
  rw [Nat.add_zero, hd, List.drop_zero] at hcb
  have p1 : ((c.at_ : Int) == (c.en : Int)) = false := beq_eq_false_iff_ne.mpr (by omega)
  have ik0 : (0 : Int) ≤ (c.at_ : Int) := by omega
  have ik1 : (c.at_ : Int) < (c.en : Int) := by omega
  have ik2 : (c.at_ : Int) < ((c.s.extract 0 c.en).size : Int) := by omega
  have HR := Lib.hid (show c.jRes = ⟨[], 0, 3⟩ ∧ c.jTo = c.bad 3 from ⟨CS.jRes_other h0 hcb.symm hx, by unfold CS.jTo; rw [CS.jRes_other h0 hcb.symm hx, if_neg (by decide)]⟩)
  have HF := Lib.hid (fun w => ref_fail0 c 3 w h0)
  obtain ⟨X, hXe⟩ : ∃ X, X = ((c.s.extract 0 c.en)[c.at_]'(by rw [hsz]; exact h1)).toNat := ⟨_, rfl⟩
  have hXi : (((c.s.extract 0 c.en)[c.at_]'(by rw [hsz]; exact h1)).toNat : Int) = (X : Int) := by omega
  rw [← hXe] at hx
  have p2 : ((X : Int) != 34) = true := bne_iff_ne.mpr (by omega)
  clear h0 hcb hd hx hXe
  go_enter Tryz.func63, Tryz.ntmps63
  go_wp2_with fail
  refine (HF.out _).mono ?_
  rintro e w1 ⟨rfl, hb1⟩
  obtain ⟨qq1, qq2, hbel⟩ := two_laid c CS.zero 76 hb1
  clear hb1
  have a0 := qq1.c0; have a1 := qq1.c1; have a2 := qq1.c2; have a3 := qq1.c3; have af := qq1.fr
  have b0 := qq2.c0; have b1 := qq2.c1; have b2 := qq2.c2; have b3 := qq2.c3; have bf := qq2.fr
  go_wp2
  refine bodyPost_ret (v := .tuple #[.agg #[.string c.s, .int .i64 c.at_, .int .i64 c.en, .int .i64 3], .string ⟨#[]⟩]) (by simp [results, Tryz.results63, go_sem, b0, b1, b2, b3]) rfl ⟨ret_jr (c := c) (a := c.bad 3) HR.out.2 (by rw [HR.out.1]; rfl), ?_⟩
  go_grown
def RJRel (c : CS) (W : World) (z o i : Value) (wr : World) : Prop :=
  ∃ (l : List UInt8) (A : Nat), z = .string ⟨#[]⟩ ∧ o = .string (bA l) ∧ i = .int .i64 (A : Nat) ∧
    Hid (∃ k, A = c.at_ + 1 + k ∧ k ≤ (c.past 1).bs.length ∧ l.length ≤ k ∧ jIn (c.past 1).bs = (⟨l, k, 0⟩ : JT).and (jIn ((c.s.extract 0 c.en).data.toList.drop A))) ∧ A ≤ c.en ∧ l.length ≤ c.en ∧
    CurT 76 wr W.heap.size c ∧ CurT 76 wr (W.heap.size + 1) CS.zero ∧ Below W.heap.size W wr
set_option maxRecDepth 100000 in
set_option maxHeartbeats 2000000 in
theorem rjread_in (c : CS) (w : World) (hc : c.ok) (h0 : c.er = 0) (h1 : c.at_ < c.en) (hs : c.s.size ≤ 140737488351232) (hx : ((c.s.extract 0 c.en)[c.at_]'(by rw [cut_size2 hc]; exact h1)).toNat = 34) :
    Calls Tryz.prog 63 #[.agg #[.string c.s, .int .i64 c.at_, .int .i64 c.en, .int .i64 c.er]] w fun e w' => e = .returned (.tuple #[c.jTo.val, .string (bA c.jRes.t)]) ∧ Below w.heap.size w w' := by
  obtain ⟨k1, k2, k3⟩ := hc
  have hb : (c.er != 0) = false := by rw [h0]; rfl
  have hsz := cut_size2 ⟨k1, k2, k3⟩
  have hd := drop_at (c.s.extract 0 c.en) c.at_ (by rw [hsz]; exact h1)
  have hcb := cut_bs c 0
  rw [Nat.add_zero, hd, List.drop_zero] at hcb
  have p1 : ((c.at_ : Int) == (c.en : Int)) = false := beq_eq_false_iff_ne.mpr (by omega)
  have ik0 : (0 : Int) ≤ (c.at_ : Int) := by omega
  have ik1 : (c.at_ : Int) < (c.en : Int) := by omega
  have ik2 : (c.at_ : Int) < ((c.s.extract 0 c.en).size : Int) := by omega
  have hok : c.ok := ⟨k1, k2, k3⟩
  have hb1 : (c.past 1).bs = (c.s.extract 0 c.en).data.toList.drop (c.at_ + 1) := by rw [CS.bs_past, ← cut_bs]
  have HJ := Lib.hid (CS.jRes_in h0 hcb.symm hx)
  rw [← hb1] at HJ
  have HTO := Lib.hid (show ∀ k, (jIn (c.past 1).bs).e = 0 → (jIn (c.past 1).bs).k = k → c.jTo = c.past (k + 1) from fun k he hk => by
    unfold CS.jTo; rw [HJ.out, if_pos he, if_pos rfl, hk])
  have HNO := Lib.hid (show ¬ (jIn (c.past 1).bs).e = 0 → c.jTo = c.bad (jIn (c.past 1).bs).e ∧ bA c.jRes.t = ⟨#[]⟩ from fun he => by
    constructor
    · unfold CS.jTo; rw [HJ.out, if_neg he, if_neg he]
    · rw [HJ.out, if_neg he]; rfl)
  have HF := Lib.hid (fun k w => ref_fail0 c k w h0)
  have hXi : (((c.s.extract 0 c.en)[c.at_]'(by rw [hsz]; exact h1)).toNat : Int) = 34 := by rw [hx]; rfl
  have za : IntKind.i64.wrap ((c.at_ : Int) + 1) = (c.at_ : Int) + 1 := i64_small (by omega) (by omega)
  have hlb : (c.past 1).bs.length = c.en - (c.at_ + 1) := by rw [hb1, List.length_drop, toList_size, hsz]
  have HE := Lib.hid (And.intro h0 hlb)
  have hst := two_made (w := w) c CS.zero 76
  have HST := Lib.hid hst
  have HB1 := Lib.hid hb1
  clear h0 hcb hd hx hb1 hlb hst hok
  go_enter Tryz.func63, Tryz.ntmps63
  go_wp2_with fail
  go_quiet (fail)
  go_wp2_with fail
  go_loopw [3, 5, 6] (fun z o i wr => RJRel c w z o i wr) (fun _ _ i _ => c.en - (intOf i).toNat)
  case atStart =>
    first
    | exact ⟨[], c.at_ + 1, rfl, rfl, by go_num, Lib.hid ⟨0, rfl, Nat.zero_le _, Nat.le_refl _, by rw [HB1.out, nil_and]⟩, by omega, Nat.zero_le _, HST.out.1, HST.out.2.1, HST.out.2.2⟩
    | exact ⟨[], c.at_ + 1, rfl, rfl, by go_num, Lib.hid ⟨0, rfl, Nat.zero_le _, Nat.le_refl _, by rw [HB1.out, nil_and]⟩, by omega, Nat.zero_le _, CurT.drewN HST.out.1 _, CurT.drewN HST.out.2.1 _, Below.drewN HST.out.2.2 _⟩
  case round =>
    obtain ⟨l, A, rfl, rfl, rfl, hk, hA, hll, qq1, qq2, hbel⟩ := hrel
    have a0 := qq1.c0; have a1 := qq1.c1; have a2 := qq1.c2; have a3 := qq1.c3; have af := qq1.fr
    have b0 := qq2.c0; have b1 := qq2.c1; have b2 := qq2.c2; have b3 := qq2.c3; have bf := qq2.fr
    by_cases hlt : A < c.en
    · have q1 : decide (A < c.en) = true := decide_eq_true hlt
      have jk0 : (0 : Int) ≤ (A : Int) := by omega
      have jk1 : (A : Int) < (c.en : Int) := by omega
      have jk2 : (A : Int) < ((c.s.extract 0 c.en).size : Int) := by omega
      have hin : A < (c.s.extract 0 c.en).size := by rw [hsz]; exact hlt
      have hd := drop_at (c.s.extract 0 c.en) A hin
      have zA : IntKind.i64.wrap ((A : Int) + 1) = (A : Int) + 1 := i64_small (by omega) (by omega)
      by_cases h34 : ((c.s.extract 0 c.en)[A]'hin).toNat = 34
      · have hYi : (((c.s.extract 0 c.en)[A]'hin).toNat : Int) = 34 := by rw [h34]; rfl
        have HR := Lib.hid (show c.jTo = ⟨c.s, A + 1, c.en, c.er⟩ ∧ bA c.jRes.t = bA l by
          obtain ⟨k, e1, e2, e3, e4⟩ := hk.out
          rw [hd, jIn_quote _ _ h34, JT.and_yes _ rfl] at e4
          have e5 : (jIn (c.past 1).bs).e = 0 := by rw [e4]
          refine ⟨?_, ?_⟩
          · rw [HTO.out (k + 1) e5 (by rw [e4])]
            unfold CS.past
            rw [e1]
            congr 1
            omega
          · rw [HJ.out, if_pos e5, e4]; simp)
        have hc1 := (qq1.setAt (A + 1)).c0
        have d0 := (qq1.setAt (A + 1)).c0; have d1 := (qq1.setAt (A + 1)).c1; have d2 := (qq1.setAt (A + 1)).c2; have d3 := (qq1.setAt (A + 1)).c3
        clear hk hd h34
        go_wp2
        refine bodyPost_ret (v := .tuple #[.agg #[.string c.s, .int .i64 ((A : Int) + 1), .int .i64 c.en, .int .i64 c.er], .string (bA l)]) (by simp [results, Tryz.results63, go_sem, b0, b1, b2, b3]) rfl ⟨ret_jr (c := c) (a := ⟨c.s, A + 1, c.en, c.er⟩) HR.out.1 HR.out.2, ?_⟩
        go_grown
      · obtain ⟨Y, hYe⟩ : ∃ Y, Y = ((c.s.extract 0 c.en)[A]'hin).toNat := ⟨_, rfl⟩
        have hYi : (((c.s.extract 0 c.en)[A]'hin).toNat : Int) = (Y : Int) := by omega
        have q2 : ((Y : Int) == 34) = false := beq_eq_false_iff_ne.mpr (by omega)
        have HP := Lib.hid (fun w => rpart_any (c.s.extract 0 c.en) A w (by omega) hin)
        have hjc := jIn_cons ((c.s.extract 0 c.en)[A]'hin) ((c.s.extract 0 c.en).data.toList.drop (A + 1))
        rw [if_neg h34, ← hd] at hjc
        by_cases hpe : (jPart ((c.s.extract 0 c.en).data.toList.drop A)).e = 0
        · rw [if_pos hpe, List.drop_drop] at hjc
          obtain ⟨_, f2, f3, f4⟩ := jPart_fine hpe
          rw [List.length_drop, toList_size, hsz] at f4
          have hpl : pPl A (jPart ((c.s.extract 0 c.en).data.toList.drop A)) = A + (jPart ((c.s.extract 0 c.en).data.toList.drop A)).k := by unfold pPl; rw [if_pos hpe]
          rw [hpl, hpe] at HP
          obtain ⟨K, hK⟩ : ∃ K, K = (jPart ((c.s.extract 0 c.en).data.toList.drop A)).k := ⟨_, rfl⟩
          obtain ⟨M, hM⟩ : ∃ M, M = (jPart ((c.s.extract 0 c.en).data.toList.drop A)).t := ⟨_, rfl⟩
          have HK := Lib.hid (show ∃ k, A + K = c.at_ + 1 + k ∧ k ≤ (c.past 1).bs.length ∧ (l ++ M).length ≤ k ∧ jIn (c.past 1).bs = (⟨l ++ M, k, 0⟩ : JT).and (jIn ((c.s.extract 0 c.en).data.toList.drop (A + K))) by
            obtain ⟨k, e1, e2, e3, e4⟩ := hk.out
            have := HE.out.2
            refine ⟨k + K, by omega, by omega, by rw [List.length_append, hM]; omega, ?_⟩
            rw [e4, hjc, ← hK, ← JT.and_and _ _ _ hpe, JT.and_yes _ hpe, ← hM, ← hK])
          rw [← hK] at HP f2 f3 f4
          rw [← hM] at HP f2
          have hl4 : (l ++ M).length ≤ c.en := by
            obtain ⟨k, e1, e2, e3, _⟩ := HK.out
            omega
          have hcat := Lib.hid (bA_append l M)
          have sl : (bA l).size = l.length := bA_size l
          have sM : (bA M).size = M.length := bA_size M
          have hls : (bA l).size + (bA M).size ≤ 140737488351232 := by rw [sl, sM, ← List.length_append]; omega
          clear hk hjc hpl hK hM hd h34 hYe hpe sl sM
          generalize bA l = TL at *
          generalize bA M = TM at *
          go_wp2_with fail
          with_reducible refine (HP.out _).mono ?_
          rintro e w1 ⟨rfl, hb2⟩
          have qq3 := Below.cur hb2 qq1 qq1.lt
          have qq4 := Below.cur hb2 qq2 qq2.lt
          have hbel2 := grown_then hbel hb2
          clear hb2 qq1 qq2 hbel a0 a1 a2 a3 b0 b1 b2 b3 af bf
          go_wp2
          go_roundw
          case rel => exact ⟨l ++ M, A + K, rfl, by rw [← hcat.out], by go_num, HK, by omega, hl4, qq3, qq4, hbel2⟩
          case measure => simp [intOf]; omega
        · rw [if_neg hpe] at hjc
          have hp0 := jPart_no hpe
          have HR := Lib.hid (show c.jTo = c.bad (jPart ((c.s.extract 0 c.en).data.toList.drop A)).e ∧ bA c.jRes.t = ⟨#[]⟩ by
            obtain ⟨k, e1, e2, e3, e4⟩ := hk.out
            have e5 : (jIn (c.past 1).bs).e = (jPart ((c.s.extract 0 c.en).data.toList.drop A)).e := by rw [e4, JT.and_e, hjc]
            have e6 := HNO.out (by rw [e5]; exact hpe)
            rw [e5] at e6; exact e6)
          have q3 : ((jPart ((c.s.extract 0 c.en).data.toList.drop A)).e != 0) = true := bne_iff_ne.mpr hpe
          have hpl : pPl A (jPart ((c.s.extract 0 c.en).data.toList.drop A)) = 0 := by unfold pPl; rw [if_neg hpe]
          have hpt : (jPart ((c.s.extract 0 c.en).data.toList.drop A)).t = [] := by rw [hp0]
          rw [hpl, hpt] at HP
          generalize (jPart ((c.s.extract 0 c.en).data.toList.drop A)).e = E at *
          clear hk hjc hpl hpt hp0 hd h34 hYe hpe
          go_wp2_with fail
          with_reducible refine (HP.out _).mono ?_
          rintro e w1 ⟨rfl, hb2⟩
          have qq3 := Below.cur hb2 qq1 qq1.lt
          have qq4 := Below.cur hb2 qq2 qq2.lt
          have hbel2 := grown_then hbel hb2
          clear hb2 qq1 qq2 hbel a0 a1 a2 a3 b0 b1 b2 b3 af bf
          have a0 := qq3.c0; have a1 := qq3.c1; have a2 := qq3.c2; have a3 := qq3.c3
          go_wp2_with fail
          refine (HF.out _ _).mono ?_
          rintro e w2 ⟨rfl, hb3⟩
          have qq5 := Below.cur hb3 qq4 qq4.lt
          have hbel3 := grown_then hbel2 hb3
          clear hb3 qq3 qq4 hbel2 a0 a1 a2 a3
          have b0 := qq5.c0; have b1 := qq5.c1; have b2 := qq5.c2; have b3 := qq5.c3; have bf := qq5.fr
          go_wp2
          refine bodyPost_ret (v := .tuple #[.agg #[.string c.s, .int .i64 c.at_, .int .i64 c.en, .int .i64 E], .string ⟨#[]⟩]) (by simp [results, Tryz.results63, go_sem, b0, b1, b2, b3]) rfl ⟨ret_jr (c := c) (a := c.bad E) HR.out.1 HR.out.2, ?_⟩
          go_grown
    · have q1 : decide (A < c.en) = false := decide_eq_false hlt
      have HR := Lib.hid (show c.jTo = c.bad 1 ∧ bA c.jRes.t = ⟨#[]⟩ by
        obtain ⟨k, e1, e2, e3, e4⟩ := hk.out
        rw [drop_none _ _ (by rw [hsz]; omega), jIn_nil] at e4
        have e5 : (jIn (c.past 1).bs).e = 1 := by rw [e4, JT.and_e]
        have e6 := HNO.out (by rw [e5]; decide)
        rw [e5] at e6; exact e6)
      clear hk
      go_wp2_with fail
      refine (HF.out _ _).mono ?_
      rintro e w2 ⟨rfl, hb3⟩
      have qq5 := Below.cur hb3 qq2 qq2.lt
      have hbel3 := grown_then hbel hb3
      clear hb3 qq1 qq2 hbel a0 a1 a2 a3 b0 b1 b2 b3 af bf
      have b0 := qq5.c0; have b1 := qq5.c1; have b2 := qq5.c2; have b3 := qq5.c3; have bf := qq5.fr
      go_wp2
      refine bodyPost_ret (v := .tuple #[.agg #[.string c.s, .int .i64 c.at_, .int .i64 c.en, .int .i64 1], .string ⟨#[]⟩]) (by simp [results, Tryz.results63, go_sem, b0, b1, b2, b3]) rfl ⟨ret_jr (c := c) (a := c.bad 1) HR.out.1 HR.out.2, ?_⟩
      go_grown
theorem rjread_any (c : CS) (w : World) (hc : c.ok) (hs : c.s.size ≤ 140737488351232) :
    Calls Tryz.prog 63 #[.agg #[.string c.s, .int .i64 c.at_, .int .i64 c.en, .int .i64 c.er]] w fun e w' => e = .returned (.tuple #[c.jTo.val, .string (bA c.jRes.t)]) ∧ Below w.heap.size w w' := by
  by_cases h0 : c.er = 0
  · rcases Nat.lt_or_ge c.at_ c.en with h1 | h1
    · by_cases hx : ((c.s.extract 0 c.en)[c.at_]'(by rw [cut_size2 hc]; exact h1)).toNat = 34
      · exact rjread_in c w hc h0 h1 hs hx
      · exact rjread_x c w hc h0 h1 hx
    · exact rjread_end c w hc h0 (by have := hc.1; omega)
  · exact rjread_err c w hc h0
end Go.Proofs.YtnbhhnkcfbfdcaaGreatDoor
