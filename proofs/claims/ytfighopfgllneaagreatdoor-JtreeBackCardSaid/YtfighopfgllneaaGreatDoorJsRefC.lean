/- The document's own jstring (package truchmanref10): escape, part. -/
import Derived.Test.YtfighopfgllneaaGreatDoorJsRefB
namespace Go.Proofs.YtfighopfgllneaaGreatDoor
open Go Go.RowKit
set_option linter.unusedVariables false

theorem jEsc_sim {b : UInt8} {t : List UInt8} (h : ¬ b.toNat = 117) (h2 : ¬ jSim b.toNat = 0) : jEsc (b :: t) = ⟨jSim b.toNat, 1, 0⟩ := by simp only [jEsc]; rw [if_neg h, if_neg h2]
theorem jEsc_bad {b : UInt8} {t : List UInt8} (h : ¬ b.toNat = 117) (h2 : jSim b.toNat = 0) : jEsc (b :: t) = ⟨0, 0, 6⟩ := by simp only [jEsc]; rw [if_neg h, if_pos h2]
theorem jEsc_num {b : UInt8} {t : List UInt8} (h : b.toNat = 117) : jEsc (b :: t) = if (jNum t).e = 0 then ⟨(jNum t).r, (jNum t).k + 1, 0⟩ else ⟨0, 0, (jNum t).e⟩ := by simp only [jEsc]; rw [if_pos h]
theorem ja_sim {a r : Nat} {X : ByteArray} (h : X = bA (uB r)) : Ending.returned (.tuple #[.string X, .int .i64 ((a : Int) + 1), .int .i64 0]) = .returned (.tuple #[.string (rTx ⟨r, 1, 0⟩), .int .i64 (rPl a ⟨r, 1, 0⟩ : Nat), .int .i64 0]) := by rw [h]; rfl
theorem ja_yes {a k r : Nat} : Ending.returned (.tuple #[.string (bA (uB r)), .int .i64 ((a + k : Nat) : Int), .int .i64 0]) = .returned (.tuple #[.string (rTx ⟨r, k, 0⟩), .int .i64 (rPl a ⟨r, k, 0⟩ : Nat), .int .i64 0]) := rfl

set_option maxRecDepth 100000 in
theorem resc_end (s : ByteArray) (a : Nat) (w : World) (hs : s.size ≤ 1125899906842000) (ha : a ≤ 1125899906842000) (h1 : s.size ≤ a) :
    Calls Tryz.prog 67 #[.string s, .int .i64 a] w fun e w' => e = .returned (.tuple #[.string (rTx (jEsc (s.data.toList.drop a))), .int .i64 (rPl a (jEsc (s.data.toList.drop a)) : Nat), .int .i64 (jEsc (s.data.toList.drop a)).e]) ∧ Below w.heap.size w w' := by
  have p1 : decide (s.size ≤ a) = true := decide_eq_true h1
  have HR := Lib.hid (show jEsc (s.data.toList.drop a) = ⟨0, 0, 1⟩ by rw [drop_none s a h1]; rfl)
  clear h1
  go_enter Tryz.func67, Tryz.ntmps67
  go_wp2
  go_ret3
  exact ⟨by rw [HR.out]; exact ja_no (by decide), Below.refl _ _⟩
set_option maxRecDepth 100000 in
theorem resc_34 (s : ByteArray) (a : Nat) (w : World) (hs : s.size ≤ 1125899906842000) (ha : a ≤ 1125899906842000) (h1 : a < s.size) (hx : s[a].toNat = 34) :
    Calls Tryz.prog 67 #[.string s, .int .i64 a] w fun e w' => e = .returned (.tuple #[.string (rTx (jEsc (s.data.toList.drop a))), .int .i64 (rPl a (jEsc (s.data.toList.drop a)) : Nat), .int .i64 (jEsc (s.data.toList.drop a)).e]) ∧ Below w.heap.size w w' := by
  have p1 : decide (s.size ≤ a) = false := decide_eq_false (by omega)
  have ik0 : (0 : Int) ≤ (a : Int) := by omega
  have ik1 : (a : Int) < (s.size : Int) := by omega
  have hd := drop_at s a h1
  have z1 : IntKind.i64.wrap ((a : Int) + 1) = (a : Int) + 1 := i64_small (by omega) (by omega)
  have HR := Lib.hid (show jEsc (s.data.toList.drop a) = ⟨34, 1, 0⟩ by
    have h2 : jSim s[a].toNat = 34 := by rw [hx]; rfl
    rw [hd, jEsc_sim (by rw [hx]; decide) (by rw [h2]; decide), h2])
  have hXi : (s[a].toNat : Int) = 34 := by rw [hx]; rfl
  have HS := Lib.hid (fun w => rsim_34 w)
  have HT := Lib.hid (show bA [34] = bA (uB 34) by decide +kernel)
  have m1 : (bA [34]).toList.isEmpty = false := by rw [isEmpty_of]; rfl
  clear hd hx
  go_enter Tryz.func67, Tryz.ntmps67
  go_wp2_with fail
  with_reducible refine (HS.out _).mono ?_
  rintro e w1 ⟨rfl, hw⟩
  rw [hw]; clear hw
  go_wp2
  go_ret3
  exact ⟨by rw [HR.out]; exact ja_sim HT.out, Below.refl _ _⟩
set_option maxRecDepth 100000 in
theorem resc_92 (s : ByteArray) (a : Nat) (w : World) (hs : s.size ≤ 1125899906842000) (ha : a ≤ 1125899906842000) (h1 : a < s.size) (hx : s[a].toNat = 92) :
    Calls Tryz.prog 67 #[.string s, .int .i64 a] w fun e w' => e = .returned (.tuple #[.string (rTx (jEsc (s.data.toList.drop a))), .int .i64 (rPl a (jEsc (s.data.toList.drop a)) : Nat), .int .i64 (jEsc (s.data.toList.drop a)).e]) ∧ Below w.heap.size w w' := by
  have p1 : decide (s.size ≤ a) = false := decide_eq_false (by omega)
  have ik0 : (0 : Int) ≤ (a : Int) := by omega
  have ik1 : (a : Int) < (s.size : Int) := by omega
  have hd := drop_at s a h1
  have z1 : IntKind.i64.wrap ((a : Int) + 1) = (a : Int) + 1 := i64_small (by omega) (by omega)
  have HR := Lib.hid (show jEsc (s.data.toList.drop a) = ⟨92, 1, 0⟩ by
    have h2 : jSim s[a].toNat = 92 := by rw [hx]; rfl
    rw [hd, jEsc_sim (by rw [hx]; decide) (by rw [h2]; decide), h2])
  have hXi : (s[a].toNat : Int) = 92 := by rw [hx]; rfl
  have HS := Lib.hid (fun w => rsim_92 w)
  have HT := Lib.hid (show bA [92] = bA (uB 92) by decide +kernel)
  have m1 : (bA [92]).toList.isEmpty = false := by rw [isEmpty_of]; rfl
  clear hd hx
  go_enter Tryz.func67, Tryz.ntmps67
  go_wp2_with fail
  with_reducible refine (HS.out _).mono ?_
  rintro e w1 ⟨rfl, hw⟩
  rw [hw]; clear hw
  go_wp2
  go_ret3
  exact ⟨by rw [HR.out]; exact ja_sim HT.out, Below.refl _ _⟩
set_option maxRecDepth 100000 in
theorem resc_47 (s : ByteArray) (a : Nat) (w : World) (hs : s.size ≤ 1125899906842000) (ha : a ≤ 1125899906842000) (h1 : a < s.size) (hx : s[a].toNat = 47) :
    Calls Tryz.prog 67 #[.string s, .int .i64 a] w fun e w' => e = .returned (.tuple #[.string (rTx (jEsc (s.data.toList.drop a))), .int .i64 (rPl a (jEsc (s.data.toList.drop a)) : Nat), .int .i64 (jEsc (s.data.toList.drop a)).e]) ∧ Below w.heap.size w w' := by
  have p1 : decide (s.size ≤ a) = false := decide_eq_false (by omega)
  have ik0 : (0 : Int) ≤ (a : Int) := by omega
  have ik1 : (a : Int) < (s.size : Int) := by omega
  have hd := drop_at s a h1
  have z1 : IntKind.i64.wrap ((a : Int) + 1) = (a : Int) + 1 := i64_small (by omega) (by omega)
  have HR := Lib.hid (show jEsc (s.data.toList.drop a) = ⟨47, 1, 0⟩ by
    have h2 : jSim s[a].toNat = 47 := by rw [hx]; rfl
    rw [hd, jEsc_sim (by rw [hx]; decide) (by rw [h2]; decide), h2])
  have hXi : (s[a].toNat : Int) = 47 := by rw [hx]; rfl
  have HS := Lib.hid (fun w => rsim_47 w)
  have HT := Lib.hid (show bA [47] = bA (uB 47) by decide +kernel)
  have m1 : (bA [47]).toList.isEmpty = false := by rw [isEmpty_of]; rfl
  clear hd hx
  go_enter Tryz.func67, Tryz.ntmps67
  go_wp2_with fail
  with_reducible refine (HS.out _).mono ?_
  rintro e w1 ⟨rfl, hw⟩
  rw [hw]; clear hw
  go_wp2
  go_ret3
  exact ⟨by rw [HR.out]; exact ja_sim HT.out, Below.refl _ _⟩
set_option maxRecDepth 100000 in
theorem resc_98 (s : ByteArray) (a : Nat) (w : World) (hs : s.size ≤ 1125899906842000) (ha : a ≤ 1125899906842000) (h1 : a < s.size) (hx : s[a].toNat = 98) :
    Calls Tryz.prog 67 #[.string s, .int .i64 a] w fun e w' => e = .returned (.tuple #[.string (rTx (jEsc (s.data.toList.drop a))), .int .i64 (rPl a (jEsc (s.data.toList.drop a)) : Nat), .int .i64 (jEsc (s.data.toList.drop a)).e]) ∧ Below w.heap.size w w' := by
  have p1 : decide (s.size ≤ a) = false := decide_eq_false (by omega)
  have ik0 : (0 : Int) ≤ (a : Int) := by omega
  have ik1 : (a : Int) < (s.size : Int) := by omega
  have hd := drop_at s a h1
  have z1 : IntKind.i64.wrap ((a : Int) + 1) = (a : Int) + 1 := i64_small (by omega) (by omega)
  have HR := Lib.hid (show jEsc (s.data.toList.drop a) = ⟨8, 1, 0⟩ by
    have h2 : jSim s[a].toNat = 8 := by rw [hx]; rfl
    rw [hd, jEsc_sim (by rw [hx]; decide) (by rw [h2]; decide), h2])
  have hXi : (s[a].toNat : Int) = 98 := by rw [hx]; rfl
  have HS := Lib.hid (fun w => rsim_98 w)
  have HT := Lib.hid (show bA [8] = bA (uB 8) by decide +kernel)
  have m1 : (bA [8]).toList.isEmpty = false := by rw [isEmpty_of]; rfl
  clear hd hx
  go_enter Tryz.func67, Tryz.ntmps67
  go_wp2_with fail
  with_reducible refine (HS.out _).mono ?_
  rintro e w1 ⟨rfl, hw⟩
  rw [hw]; clear hw
  go_wp2
  go_ret3
  exact ⟨by rw [HR.out]; exact ja_sim HT.out, Below.refl _ _⟩
set_option maxRecDepth 100000 in
theorem resc_102 (s : ByteArray) (a : Nat) (w : World) (hs : s.size ≤ 1125899906842000) (ha : a ≤ 1125899906842000) (h1 : a < s.size) (hx : s[a].toNat = 102) :
    Calls Tryz.prog 67 #[.string s, .int .i64 a] w fun e w' => e = .returned (.tuple #[.string (rTx (jEsc (s.data.toList.drop a))), .int .i64 (rPl a (jEsc (s.data.toList.drop a)) : Nat), .int .i64 (jEsc (s.data.toList.drop a)).e]) ∧ Below w.heap.size w w' := by
  have p1 : decide (s.size ≤ a) = false := decide_eq_false (by omega)
  have ik0 : (0 : Int) ≤ (a : Int) := by omega
  have ik1 : (a : Int) < (s.size : Int) := by omega
  have hd := drop_at s a h1
  have z1 : IntKind.i64.wrap ((a : Int) + 1) = (a : Int) + 1 := i64_small (by omega) (by omega)
  have HR := Lib.hid (show jEsc (s.data.toList.drop a) = ⟨12, 1, 0⟩ by
    have h2 : jSim s[a].toNat = 12 := by rw [hx]; rfl
    rw [hd, jEsc_sim (by rw [hx]; decide) (by rw [h2]; decide), h2])
  have hXi : (s[a].toNat : Int) = 102 := by rw [hx]; rfl
  have HS := Lib.hid (fun w => rsim_102 w)
  have HT := Lib.hid (show bA [12] = bA (uB 12) by decide +kernel)
  have m1 : (bA [12]).toList.isEmpty = false := by rw [isEmpty_of]; rfl
  clear hd hx
  go_enter Tryz.func67, Tryz.ntmps67
  go_wp2_with fail
  with_reducible refine (HS.out _).mono ?_
  rintro e w1 ⟨rfl, hw⟩
  rw [hw]; clear hw
  go_wp2
  go_ret3
  exact ⟨by rw [HR.out]; exact ja_sim HT.out, Below.refl _ _⟩
set_option maxRecDepth 100000 in
theorem resc_110 (s : ByteArray) (a : Nat) (w : World) (hs : s.size ≤ 1125899906842000) (ha : a ≤ 1125899906842000) (h1 : a < s.size) (hx : s[a].toNat = 110) :
    Calls Tryz.prog 67 #[.string s, .int .i64 a] w fun e w' => e = .returned (.tuple #[.string (rTx (jEsc (s.data.toList.drop a))), .int .i64 (rPl a (jEsc (s.data.toList.drop a)) : Nat), .int .i64 (jEsc (s.data.toList.drop a)).e]) ∧ Below w.heap.size w w' := by
  have p1 : decide (s.size ≤ a) = false := decide_eq_false (by omega)
  have ik0 : (0 : Int) ≤ (a : Int) := by omega
  have ik1 : (a : Int) < (s.size : Int) := by omega
  have hd := drop_at s a h1
  have z1 : IntKind.i64.wrap ((a : Int) + 1) = (a : Int) + 1 := i64_small (by omega) (by omega)
  have HR := Lib.hid (show jEsc (s.data.toList.drop a) = ⟨10, 1, 0⟩ by
    have h2 : jSim s[a].toNat = 10 := by rw [hx]; rfl
    rw [hd, jEsc_sim (by rw [hx]; decide) (by rw [h2]; decide), h2])
  have hXi : (s[a].toNat : Int) = 110 := by rw [hx]; rfl
  have HS := Lib.hid (fun w => rsim_110 w)
  have HT := Lib.hid (show bA [10] = bA (uB 10) by decide +kernel)
  have m1 : (bA [10]).toList.isEmpty = false := by rw [isEmpty_of]; rfl
  clear hd hx
  go_enter Tryz.func67, Tryz.ntmps67
  go_wp2_with fail
  with_reducible refine (HS.out _).mono ?_
  rintro e w1 ⟨rfl, hw⟩
  rw [hw]; clear hw
  go_wp2
  go_ret3
  exact ⟨by rw [HR.out]; exact ja_sim HT.out, Below.refl _ _⟩
set_option maxRecDepth 100000 in
theorem resc_114 (s : ByteArray) (a : Nat) (w : World) (hs : s.size ≤ 1125899906842000) (ha : a ≤ 1125899906842000) (h1 : a < s.size) (hx : s[a].toNat = 114) :
    Calls Tryz.prog 67 #[.string s, .int .i64 a] w fun e w' => e = .returned (.tuple #[.string (rTx (jEsc (s.data.toList.drop a))), .int .i64 (rPl a (jEsc (s.data.toList.drop a)) : Nat), .int .i64 (jEsc (s.data.toList.drop a)).e]) ∧ Below w.heap.size w w' := by
  have p1 : decide (s.size ≤ a) = false := decide_eq_false (by omega)
  have ik0 : (0 : Int) ≤ (a : Int) := by omega
  have ik1 : (a : Int) < (s.size : Int) := by omega
  have hd := drop_at s a h1
  have z1 : IntKind.i64.wrap ((a : Int) + 1) = (a : Int) + 1 := i64_small (by omega) (by omega)
  have HR := Lib.hid (show jEsc (s.data.toList.drop a) = ⟨13, 1, 0⟩ by
    have h2 : jSim s[a].toNat = 13 := by rw [hx]; rfl
    rw [hd, jEsc_sim (by rw [hx]; decide) (by rw [h2]; decide), h2])
  have hXi : (s[a].toNat : Int) = 114 := by rw [hx]; rfl
  have HS := Lib.hid (fun w => rsim_114 w)
  have HT := Lib.hid (show bA [13] = bA (uB 13) by decide +kernel)
  have m1 : (bA [13]).toList.isEmpty = false := by rw [isEmpty_of]; rfl
  clear hd hx
  go_enter Tryz.func67, Tryz.ntmps67
  go_wp2_with fail
  with_reducible refine (HS.out _).mono ?_
  rintro e w1 ⟨rfl, hw⟩
  rw [hw]; clear hw
  go_wp2
  go_ret3
  exact ⟨by rw [HR.out]; exact ja_sim HT.out, Below.refl _ _⟩
set_option maxRecDepth 100000 in
theorem resc_116 (s : ByteArray) (a : Nat) (w : World) (hs : s.size ≤ 1125899906842000) (ha : a ≤ 1125899906842000) (h1 : a < s.size) (hx : s[a].toNat = 116) :
    Calls Tryz.prog 67 #[.string s, .int .i64 a] w fun e w' => e = .returned (.tuple #[.string (rTx (jEsc (s.data.toList.drop a))), .int .i64 (rPl a (jEsc (s.data.toList.drop a)) : Nat), .int .i64 (jEsc (s.data.toList.drop a)).e]) ∧ Below w.heap.size w w' := by
  have p1 : decide (s.size ≤ a) = false := decide_eq_false (by omega)
  have ik0 : (0 : Int) ≤ (a : Int) := by omega
  have ik1 : (a : Int) < (s.size : Int) := by omega
  have hd := drop_at s a h1
  have z1 : IntKind.i64.wrap ((a : Int) + 1) = (a : Int) + 1 := i64_small (by omega) (by omega)
  have HR := Lib.hid (show jEsc (s.data.toList.drop a) = ⟨9, 1, 0⟩ by
    have h2 : jSim s[a].toNat = 9 := by rw [hx]; rfl
    rw [hd, jEsc_sim (by rw [hx]; decide) (by rw [h2]; decide), h2])
  have hXi : (s[a].toNat : Int) = 116 := by rw [hx]; rfl
  have HS := Lib.hid (fun w => rsim_116 w)
  have HT := Lib.hid (show bA [9] = bA (uB 9) by decide +kernel)
  have m1 : (bA [9]).toList.isEmpty = false := by rw [isEmpty_of]; rfl
  clear hd hx
  go_enter Tryz.func67, Tryz.ntmps67
  go_wp2_with fail
  with_reducible refine (HS.out _).mono ?_
  rintro e w1 ⟨rfl, hw⟩
  rw [hw]; clear hw
  go_wp2
  go_ret3
  exact ⟨by rw [HR.out]; exact ja_sim HT.out, Below.refl _ _⟩
set_option maxRecDepth 100000 in
theorem resc_none (s : ByteArray) (a : Nat) (w : World) (hs : s.size ≤ 1125899906842000) (ha : a ≤ 1125899906842000) (h1 : a < s.size) (hx : ¬ s[a].toNat = 117) (hx2 : jSim s[a].toNat = 0) :
    Calls Tryz.prog 67 #[.string s, .int .i64 a] w fun e w' => e = .returned (.tuple #[.string (rTx (jEsc (s.data.toList.drop a))), .int .i64 (rPl a (jEsc (s.data.toList.drop a)) : Nat), .int .i64 (jEsc (s.data.toList.drop a)).e]) ∧ Below w.heap.size w w' := by
  have p1 : decide (s.size ≤ a) = false := decide_eq_false (by omega)
  have ik0 : (0 : Int) ≤ (a : Int) := by omega
  have ik1 : (a : Int) < (s.size : Int) := by omega
  have hd := drop_at s a h1
  have z1 : IntKind.i64.wrap ((a : Int) + 1) = (a : Int) + 1 := i64_small (by omega) (by omega)
  have HR := Lib.hid (show jEsc (s.data.toList.drop a) = ⟨0, 0, 6⟩ by rw [hd, jEsc_bad hx hx2])
  obtain ⟨X, hXe⟩ : ∃ X, X = s[a].toNat := ⟨_, rfl⟩
  have hXi : (s[a].toNat : Int) = (X : Int) := by omega
  rw [← hXe] at hx hx2
  have q1 : ((X : Int) != 117) = true := bne_iff_ne.mpr (by omega)
  have HS := Lib.hid (fun w => rsim_none X w hx2)
  clear hd hx hx2 hXe
  go_enter Tryz.func67, Tryz.ntmps67
  go_wp2_with fail
  with_reducible refine (HS.out _).mono ?_
  rintro e w1 ⟨rfl, hw⟩
  rw [hw]; clear hw
  go_wp2
  go_ret3
  exact ⟨by rw [HR.out]; exact ja_no (by decide), Below.refl _ _⟩
set_option maxRecDepth 100000 in
theorem resc_bad (s : ByteArray) (a : Nat) (w : World) (hs : s.size ≤ 1125899906842000) (ha : a ≤ 1125899906842000) (h1 : a < s.size) (hx : s[a].toNat = 117) (h3 : ¬ (jDg 4 0 (s.data.toList.drop (a + 1))).2 = 0) :
    Calls Tryz.prog 67 #[.string s, .int .i64 a] w fun e w' => e = .returned (.tuple #[.string (rTx (jEsc (s.data.toList.drop a))), .int .i64 (rPl a (jEsc (s.data.toList.drop a)) : Nat), .int .i64 (jEsc (s.data.toList.drop a)).e]) ∧ Below w.heap.size w w' := by
  have p1 : decide (s.size ≤ a) = false := decide_eq_false (by omega)
  have ik0 : (0 : Int) ≤ (a : Int) := by omega
  have ik1 : (a : Int) < (s.size : Int) := by omega
  have hd := drop_at s a h1
  have z1 : IntKind.i64.wrap ((a : Int) + 1) = (a : Int) + 1 := i64_small (by omega) (by omega)
  have hXi : (s[a].toNat : Int) = 117 := by rw [hx]; rfl
  have z5 : IntKind.i64.wrap ((a : Int) + 5) = (a : Int) + 5 := i64_small (by omega) (by omega)
  have hR := jEsc_num (t := s.data.toList.drop (a + 1)) hx
  rw [← hd] at hR
  have HD := Lib.hid (fun w => show Calls Tryz.prog 79 #[.string s, .int .i64 ((a : Int) + 1)] w fun e w' => e = .returned (.tuple #[.int .i64 ((jDg 4 0 (s.data.toList.drop (a + 1))).1 : Nat), .int .i64 (jDg 4 0 (s.data.toList.drop (a + 1))).2]) ∧ w' = w from rdigits_any s (a + 1) w (by omega) (by omega))
  rw [jNum_bad h3, if_neg h3] at hR
  have HR := Lib.hid hR
  have HE := Lib.hid h3
  have q1 : ((jDg 4 0 (s.data.toList.drop (a + 1))).2 != 0) = true := bne_iff_ne.mpr h3
  generalize jDg 4 0 (s.data.toList.drop (a + 1)) = Z at *
  clear hd hx h3 hR
  go_enter Tryz.func67, Tryz.ntmps67
  go_wp2_with fail
  with_reducible refine (HD.out _).mono ?_
  rintro e w1 ⟨rfl, hw⟩
  rw [hw]; clear hw
  go_wp2
  go_ret3
  exact ⟨by rw [HR.out]; exact ja_no HE.out, Below.refl _ _⟩
set_option maxRecDepth 100000 in
theorem resc_lo (s : ByteArray) (a : Nat) (w : World) (hs : s.size ≤ 1125899906842000) (ha : a ≤ 1125899906842000) (h1 : a < s.size) (hx : s[a].toNat = 117) (h3 : (jDg 4 0 (s.data.toList.drop (a + 1))).2 = 0) (h4 : (jDg 4 0 (s.data.toList.drop (a + 1))).1 < 55296) :
    Calls Tryz.prog 67 #[.string s, .int .i64 a] w fun e w' => e = .returned (.tuple #[.string (rTx (jEsc (s.data.toList.drop a))), .int .i64 (rPl a (jEsc (s.data.toList.drop a)) : Nat), .int .i64 (jEsc (s.data.toList.drop a)).e]) ∧ Below w.heap.size w w' := by
  have p1 : decide (s.size ≤ a) = false := decide_eq_false (by omega)
  have ik0 : (0 : Int) ≤ (a : Int) := by omega
  have ik1 : (a : Int) < (s.size : Int) := by omega
  have hd := drop_at s a h1
  have z1 : IntKind.i64.wrap ((a : Int) + 1) = (a : Int) + 1 := i64_small (by omega) (by omega)
  have hXi : (s[a].toNat : Int) = 117 := by rw [hx]; rfl
  have z5 : IntKind.i64.wrap ((a : Int) + 5) = (a : Int) + 5 := i64_small (by omega) (by omega)
  have hR := jEsc_num (t := s.data.toList.drop (a + 1)) hx
  rw [← hd] at hR
  have HD := Lib.hid (fun w => show Calls Tryz.prog 79 #[.string s, .int .i64 ((a : Int) + 1)] w fun e w' => e = .returned (.tuple #[.int .i64 ((jDg 4 0 (s.data.toList.drop (a + 1))).1 : Nat), .int .i64 (jDg 4 0 (s.data.toList.drop (a + 1))).2]) ∧ w' = w from rdigits_any s (a + 1) w (by omega) (by omega))
  obtain ⟨D, hD⟩ : ∃ D, D = (jDg 4 0 (s.data.toList.drop (a + 1))).1 := ⟨_, rfl⟩
  have hm := jDg4_lt (s.data.toList.drop (a + 1))
  rw [h3, ← hD] at HD
  rw [← hD] at hm
  rw [← hD] at h4
  rw [jNum_char h3 (by rw [← hD]; exact uIs_iff.mpr (by omega)), if_pos rfl, ← hD] at hR
  have HR := Lib.hid (show jEsc (s.data.toList.drop a) = ⟨D, 5, 0⟩ from hR)
  have q0 : decide ((55296 : Int) ≤ (D : Int)) = false := decide_eq_false (by omega)
  have q1 : decide ((56320 : Int) ≤ (D : Int)) = false := decide_eq_false (by omega)
  have y6 : IntKind.i32.wrap (D : Int) = (D : Int) := IntWalk.i32_in _ (by omega)
  have HB := Lib.hid (fun w => rbytes_any D w (by omega))
  clear hd hx h3 hR h4 hD
  go_enter Tryz.func67, Tryz.ntmps67
  go_wp2_with fail
  with_reducible refine (HD.out _).mono ?_
  rintro e w1 ⟨rfl, hw⟩
  rw [hw]; clear hw
  go_wp2_with fail
  with_reducible refine (HB.out _).mono ?_
  rintro e w2 ⟨rfl, hb2⟩
  go_wp2
  go_ret3
  exact ⟨by rw [HR.out]; exact ja_yes (k := 5), hb2⟩
set_option maxRecDepth 100000 in
theorem resc_hi (s : ByteArray) (a : Nat) (w : World) (hs : s.size ≤ 1125899906842000) (ha : a ≤ 1125899906842000) (h1 : a < s.size) (hx : s[a].toNat = 117) (h3 : (jDg 4 0 (s.data.toList.drop (a + 1))).2 = 0) (h4 : 57343 < (jDg 4 0 (s.data.toList.drop (a + 1))).1) :
    Calls Tryz.prog 67 #[.string s, .int .i64 a] w fun e w' => e = .returned (.tuple #[.string (rTx (jEsc (s.data.toList.drop a))), .int .i64 (rPl a (jEsc (s.data.toList.drop a)) : Nat), .int .i64 (jEsc (s.data.toList.drop a)).e]) ∧ Below w.heap.size w w' := by
  have p1 : decide (s.size ≤ a) = false := decide_eq_false (by omega)
  have ik0 : (0 : Int) ≤ (a : Int) := by omega
  have ik1 : (a : Int) < (s.size : Int) := by omega
  have hd := drop_at s a h1
  have z1 : IntKind.i64.wrap ((a : Int) + 1) = (a : Int) + 1 := i64_small (by omega) (by omega)
  have hXi : (s[a].toNat : Int) = 117 := by rw [hx]; rfl
  have z5 : IntKind.i64.wrap ((a : Int) + 5) = (a : Int) + 5 := i64_small (by omega) (by omega)
  have hR := jEsc_num (t := s.data.toList.drop (a + 1)) hx
  rw [← hd] at hR
  have HD := Lib.hid (fun w => show Calls Tryz.prog 79 #[.string s, .int .i64 ((a : Int) + 1)] w fun e w' => e = .returned (.tuple #[.int .i64 ((jDg 4 0 (s.data.toList.drop (a + 1))).1 : Nat), .int .i64 (jDg 4 0 (s.data.toList.drop (a + 1))).2]) ∧ w' = w from rdigits_any s (a + 1) w (by omega) (by omega))
  obtain ⟨D, hD⟩ : ∃ D, D = (jDg 4 0 (s.data.toList.drop (a + 1))).1 := ⟨_, rfl⟩
  have hm := jDg4_lt (s.data.toList.drop (a + 1))
  rw [h3, ← hD] at HD
  rw [← hD] at hm
  rw [← hD] at h4
  rw [jNum_char h3 (by rw [← hD]; exact uIs_iff.mpr (by omega)), if_pos rfl, ← hD] at hR
  have HR := Lib.hid (show jEsc (s.data.toList.drop a) = ⟨D, 5, 0⟩ from hR)
  have q0 : decide ((55296 : Int) ≤ (D : Int)) = true := decide_eq_true (by omega)
  have q1 : decide ((D : Int) ≤ 56319) = false := decide_eq_false (by omega)
  have q2 : decide ((56320 : Int) ≤ (D : Int)) = true := decide_eq_true (by omega)
  have q3 : decide ((D : Int) ≤ 57343) = false := decide_eq_false (by omega)
  have y6 : IntKind.i32.wrap (D : Int) = (D : Int) := IntWalk.i32_in _ (by omega)
  have HB := Lib.hid (fun w => rbytes_any D w (by omega))
  clear hd hx h3 hR h4 hD
  go_enter Tryz.func67, Tryz.ntmps67
  go_wp2_with fail
  with_reducible refine (HD.out _).mono ?_
  rintro e w1 ⟨rfl, hw⟩
  rw [hw]; clear hw
  go_wp2_with fail
  with_reducible refine (HB.out _).mono ?_
  rintro e w2 ⟨rfl, hb2⟩
  go_wp2
  go_ret3
  exact ⟨by rw [HR.out]; exact ja_yes (k := 5), hb2⟩
set_option maxRecDepth 100000 in
theorem resc_sec (s : ByteArray) (a : Nat) (w : World) (hs : s.size ≤ 1125899906842000) (ha : a ≤ 1125899906842000) (h1 : a < s.size) (hx : s[a].toNat = 117) (h3 : (jDg 4 0 (s.data.toList.drop (a + 1))).2 = 0) (h4 : 56320 ≤ (jDg 4 0 (s.data.toList.drop (a + 1))).1) (h5 : (jDg 4 0 (s.data.toList.drop (a + 1))).1 ≤ 57343) :
    Calls Tryz.prog 67 #[.string s, .int .i64 a] w fun e w' => e = .returned (.tuple #[.string (rTx (jEsc (s.data.toList.drop a))), .int .i64 (rPl a (jEsc (s.data.toList.drop a)) : Nat), .int .i64 (jEsc (s.data.toList.drop a)).e]) ∧ Below w.heap.size w w' := by
  have p1 : decide (s.size ≤ a) = false := decide_eq_false (by omega)
  have ik0 : (0 : Int) ≤ (a : Int) := by omega
  have ik1 : (a : Int) < (s.size : Int) := by omega
  have hd := drop_at s a h1
  have z1 : IntKind.i64.wrap ((a : Int) + 1) = (a : Int) + 1 := i64_small (by omega) (by omega)
  have hXi : (s[a].toNat : Int) = 117 := by rw [hx]; rfl
  have z5 : IntKind.i64.wrap ((a : Int) + 5) = (a : Int) + 5 := i64_small (by omega) (by omega)
  have hR := jEsc_num (t := s.data.toList.drop (a + 1)) hx
  rw [← hd] at hR
  have HD := Lib.hid (fun w => show Calls Tryz.prog 79 #[.string s, .int .i64 ((a : Int) + 1)] w fun e w' => e = .returned (.tuple #[.int .i64 ((jDg 4 0 (s.data.toList.drop (a + 1))).1 : Nat), .int .i64 (jDg 4 0 (s.data.toList.drop (a + 1))).2]) ∧ w' = w from rdigits_any s (a + 1) w (by omega) (by omega))
  obtain ⟨D, hD⟩ : ∃ D, D = (jDg 4 0 (s.data.toList.drop (a + 1))).1 := ⟨_, rfl⟩
  have hm := jDg4_lt (s.data.toList.drop (a + 1))
  rw [h3, ← hD] at HD
  rw [← hD] at hm
  rw [jNum_second h3 (by rw [← hD] at h4 h5 ⊢; rw [uIs_iff]; omega) h4, if_neg (by decide)] at hR
  rw [← hD] at h4 h5
  have HR := Lib.hid hR
  have q0 : decide ((55296 : Int) ≤ (D : Int)) = true := decide_eq_true (by omega)
  have q1 : decide ((D : Int) ≤ 56319) = false := decide_eq_false (by omega)
  have q2 : decide ((56320 : Int) ≤ (D : Int)) = true := decide_eq_true (by omega)
  have q3 : decide ((D : Int) ≤ 57343) = true := decide_eq_true (by omega)
  clear hd hx h3 hR h4 h5 hD
  go_enter Tryz.func67, Tryz.ntmps67
  go_wp2_with fail
  with_reducible refine (HD.out _).mono ?_
  rintro e w1 ⟨rfl, hw⟩
  rw [hw]; clear hw
  go_wp2
  go_ret3
  exact ⟨by rw [HR.out]; exact ja_no (by decide), Below.refl _ _⟩
set_option maxRecDepth 100000 in
theorem resc_first (s : ByteArray) (a : Nat) (w : World) (hs : s.size ≤ 1125899906842000) (ha : a ≤ 1125899906842000) (h1 : a < s.size) (hx : s[a].toNat = 117) (h3 : (jDg 4 0 (s.data.toList.drop (a + 1))).2 = 0) (h4 : 55296 ≤ (jDg 4 0 (s.data.toList.drop (a + 1))).1) (h5 : (jDg 4 0 (s.data.toList.drop (a + 1))).1 ≤ 56319) :
    Calls Tryz.prog 67 #[.string s, .int .i64 a] w fun e w' => e = .returned (.tuple #[.string (rTx (jEsc (s.data.toList.drop a))), .int .i64 (rPl a (jEsc (s.data.toList.drop a)) : Nat), .int .i64 (jEsc (s.data.toList.drop a)).e]) ∧ Below w.heap.size w w' := by
  have p1 : decide (s.size ≤ a) = false := decide_eq_false (by omega)
  have ik0 : (0 : Int) ≤ (a : Int) := by omega
  have ik1 : (a : Int) < (s.size : Int) := by omega
  have hd := drop_at s a h1
  have z1 : IntKind.i64.wrap ((a : Int) + 1) = (a : Int) + 1 := i64_small (by omega) (by omega)
  have hXi : (s[a].toNat : Int) = 117 := by rw [hx]; rfl
  have z5 : IntKind.i64.wrap ((a : Int) + 5) = (a : Int) + 5 := i64_small (by omega) (by omega)
  have hR := jEsc_num (t := s.data.toList.drop (a + 1)) hx
  rw [← hd] at hR
  have HD := Lib.hid (fun w => show Calls Tryz.prog 79 #[.string s, .int .i64 ((a : Int) + 1)] w fun e w' => e = .returned (.tuple #[.int .i64 ((jDg 4 0 (s.data.toList.drop (a + 1))).1 : Nat), .int .i64 (jDg 4 0 (s.data.toList.drop (a + 1))).2]) ∧ w' = w from rdigits_any s (a + 1) w (by omega) (by omega))
  obtain ⟨D, hD⟩ : ∃ D, D = (jDg 4 0 (s.data.toList.drop (a + 1))).1 := ⟨_, rfl⟩
  have hm := jDg4_lt (s.data.toList.drop (a + 1))
  rw [h3, ← hD] at HD
  rw [← hD] at hm
  rw [jNum_pair h3 (by rw [← hD] at h4 h5 ⊢; rw [uIs_iff]; omega) (by omega), List.drop_drop, ← hD] at hR
  rw [← hD] at h4 h5
  have HP := Lib.hid (fun w => show Calls Tryz.prog 80 #[.string s, .int .i64 ((a : Int) + 5), .int .i64 D] w fun e w' => e = .returned (.tuple #[.string (rTx (jPair D (s.data.toList.drop (a + 1 + 4)))), .int .i64 (rPl (a + 5) (jPair D (s.data.toList.drop (a + 1 + 4))) : Nat), .int .i64 (jPair D (s.data.toList.drop (a + 1 + 4))).e]) ∧ Below w.heap.size w w' from rpair_any s (a + 5) D w (by omega) (by omega) h4 h5)
  generalize jPair D (s.data.toList.drop (a + 1 + 4)) = P at *
  have HR := Lib.hid (show (rTx (jEsc (s.data.toList.drop a)) = rTx P ∧ rPl a (jEsc (s.data.toList.drop a)) = rPl (a + 5) P) ∧ (jEsc (s.data.toList.drop a)).e = P.e by
    rw [hR]
    by_cases he : P.e = 0
    · simp only [he, if_true]
      unfold rTx rPl
      rw [if_pos rfl, if_pos rfl, if_pos he, if_pos he]
      exact ⟨⟨rfl, by simp only; omega⟩, by first | trivial | rfl⟩
    · simp only [he, if_false]
      unfold rTx rPl
      rw [if_neg he, if_neg he, if_neg (by simpa using he), if_neg (by simpa using he)]
      exact ⟨⟨rfl, rfl⟩, by first | trivial | rfl⟩)
  have q0 : decide ((55296 : Int) ≤ (D : Int)) = true := decide_eq_true (by omega)
  have q1 : decide ((D : Int) ≤ 56319) = true := decide_eq_true (by omega)
  clear hd hx h3 hR h4 h5 hD
  go_enter Tryz.func67, Tryz.ntmps67
  go_wp2_with fail
  with_reducible refine (HD.out _).mono ?_
  rintro e w1 ⟨rfl, hw⟩
  rw [hw]; clear hw
  go_wp2_with fail
  with_reducible refine (HP.out _).mono ?_
  rintro e w2 ⟨rfl, hb2⟩
  go_wp2
  go_ret3
  exact ⟨by rw [HR.out.1.1, HR.out.1.2, HR.out.2]; rfl, hb2⟩
set_option maxRecDepth 100000 in
theorem resc_any (s : ByteArray) (a : Nat) (w : World) (hs : s.size ≤ 1125899906842000) (ha : a ≤ 1125899906842000) :
    Calls Tryz.prog 67 #[.string s, .int .i64 a] w fun e w' => e = .returned (.tuple #[.string (rTx (jEsc (s.data.toList.drop a))), .int .i64 (rPl a (jEsc (s.data.toList.drop a)) : Nat), .int .i64 (jEsc (s.data.toList.drop a)).e]) ∧ Below w.heap.size w w' := by
  by_cases h1 : a < s.size
  · by_cases hx : s[a].toNat = 117
    · by_cases h3 : (jDg 4 0 (s.data.toList.drop (a + 1))).2 = 0
      · by_cases h4 : (jDg 4 0 (s.data.toList.drop (a + 1))).1 < 55296
        · exact resc_lo s a w hs ha h1 hx h3 h4
        · by_cases h5 : (jDg 4 0 (s.data.toList.drop (a + 1))).1 ≤ 56319
          · exact resc_first s a w hs ha h1 hx h3 (by omega) h5
          · by_cases h6 : (jDg 4 0 (s.data.toList.drop (a + 1))).1 ≤ 57343
            · exact resc_sec s a w hs ha h1 hx h3 (by omega) h6
            · exact resc_hi s a w hs ha h1 hx h3 (by omega)
      · exact resc_bad s a w hs ha h1 hx h3
    · rcases Nat.decEq (jSim s[a].toNat) 0 with hn | hy
      · have hc : s[a].toNat = 34 ∨ s[a].toNat = 92 ∨ s[a].toNat = 47 ∨ s[a].toNat = 98 ∨ s[a].toNat = 102 ∨ s[a].toNat = 110 ∨ s[a].toNat = 114 ∨ s[a].toNat = 116 := by
          unfold jSim at hn
          generalize s[a].toNat = X at *
          repeat' split at hn
          all_goals omega
        rcases hc with h | h | h | h | h | h | h | h
        · exact resc_34 s a w hs ha h1 h
        · exact resc_92 s a w hs ha h1 h
        · exact resc_47 s a w hs ha h1 h
        · exact resc_98 s a w hs ha h1 h
        · exact resc_102 s a w hs ha h1 h
        · exact resc_110 s a w hs ha h1 h
        · exact resc_114 s a w hs ha h1 h
        · exact resc_116 s a w hs ha h1 h
      · exact resc_none s a w hs ha h1 hx hy
  · exact resc_end s a w hs ha (by omega)
def pPl (a : Nat) (p : JT) : Nat := if p.e = 0 then a + p.k else 0
theorem jt_no {a : Nat} {e : Int} (he : e ≠ 0) : Ending.returned (.tuple #[.string ⟨#[]⟩, .int .i64 0, .int .i64 e]) = .returned (.tuple #[.string (bA (⟨[], 0, e⟩ : JT).t), .int .i64 (pPl a ⟨[], 0, e⟩ : Nat), .int .i64 e]) := by
  have h2 : pPl a ⟨[], 0, e⟩ = 0 := by unfold pPl; rw [if_neg he]
  rw [h2]; rfl
set_option maxRecDepth 100000 in
theorem rpart_esc (s : ByteArray) (a : Nat) (w : World) (hs : s.size ≤ 1125899906841000) (h1 : a < s.size) (hx : s[a].toNat = 92) :
    Calls Tryz.prog 55 #[.string s, .int .i64 a] w fun e w' => e = .returned (.tuple #[.string (bA (jPart (s.data.toList.drop a)).t), .int .i64 (pPl a (jPart (s.data.toList.drop a)) : Nat), .int .i64 (jPart (s.data.toList.drop a)).e]) ∧ Below w.heap.size w w' := by
  have ik0 : (0 : Int) ≤ (a : Int) := by omega
  have ik1 : (a : Int) < (s.size : Int) := by omega
  have hd := drop_at s a h1
  have z1 : IntKind.i64.wrap ((a : Int) + 1) = (a : Int) + 1 := i64_small (by omega) (by omega)
  have hXi : (s[a].toNat : Int) = 92 := by rw [hx]; rfl
  have hR : jPart (s.data.toList.drop a) = if (jEsc (s.data.toList.drop (a + 1))).e = 0 then ⟨uB (jEsc (s.data.toList.drop (a + 1))).r, (jEsc (s.data.toList.drop (a + 1))).k + 1, 0⟩ else ⟨[], 0, (jEsc (s.data.toList.drop (a + 1))).e⟩ := by rw [hd]; simp only [jPart]; rw [if_pos hx]
  have HE := Lib.hid (fun w => show Calls Tryz.prog 67 #[.string s, .int .i64 ((a : Int) + 1)] w fun e w' => e = .returned (.tuple #[.string (rTx (jEsc (s.data.toList.drop (a + 1)))), .int .i64 (rPl (a + 1) (jEsc (s.data.toList.drop (a + 1))) : Nat), .int .i64 (jEsc (s.data.toList.drop (a + 1))).e]) ∧ Below w.heap.size w w' from resc_any s (a + 1) w (by omega) (by omega))
  generalize jEsc (s.data.toList.drop (a + 1)) = P at *
  have HR := Lib.hid (show (bA (jPart (s.data.toList.drop a)).t = rTx P ∧ pPl a (jPart (s.data.toList.drop a)) = rPl (a + 1) P) ∧ (jPart (s.data.toList.drop a)).e = P.e by
    rw [hR]
    by_cases he : P.e = 0
    · simp only [he, if_true]
      unfold rTx rPl pPl
      rw [if_pos rfl, if_pos he, if_pos he]
      exact ⟨⟨rfl, by simp only; omega⟩, by first | trivial | rfl⟩
    · simp only [he, if_false]
      unfold rTx rPl pPl
      rw [if_neg he, if_neg he, if_neg (by simpa using he)]
      exact ⟨⟨rfl, rfl⟩, by first | trivial | rfl⟩)
  clear hd hx hR
  go_enter Tryz.func55, Tryz.ntmps55
  go_wp2_with fail
  with_reducible refine (HE.out _).mono ?_
  rintro e w1 ⟨rfl, hb⟩
  go_wp2
  go_ret3
  exact ⟨by rw [HR.out.1.1, HR.out.1.2, HR.out.2]; rfl, hb⟩
set_option maxRecDepth 100000 in
theorem rpart_low (s : ByteArray) (a : Nat) (w : World) (hs : s.size ≤ 1125899906841000) (h1 : a < s.size) (hx : s[a].toNat < 32) :
    Calls Tryz.prog 55 #[.string s, .int .i64 a] w fun e w' => e = .returned (.tuple #[.string (bA (jPart (s.data.toList.drop a)).t), .int .i64 (pPl a (jPart (s.data.toList.drop a)) : Nat), .int .i64 (jPart (s.data.toList.drop a)).e]) ∧ Below w.heap.size w w' := by
  have ik0 : (0 : Int) ≤ (a : Int) := by omega
  have ik1 : (a : Int) < (s.size : Int) := by omega
  have hd := drop_at s a h1
  have z1 : IntKind.i64.wrap ((a : Int) + 1) = (a : Int) + 1 := i64_small (by omega) (by omega)
  have HR := Lib.hid (show jPart (s.data.toList.drop a) = ⟨[], 0, 3⟩ by rw [hd]; simp only [jPart]; rw [if_neg (by omega), if_pos hx])
  obtain ⟨X, hXe⟩ : ∃ X, X = s[a].toNat := ⟨_, rfl⟩
  have hXi : (s[a].toNat : Int) = (X : Int) := by omega
  rw [← hXe] at hx
  have q1 : ((X : Int) == 92) = false := beq_eq_false_iff_ne.mpr (by omega)
  have q2 : decide ((X : Int) < 32) = true := decide_eq_true (by omega)
  clear hd hx hXe
  go_enter Tryz.func55, Tryz.ntmps55
  go_wp2
  go_ret3
  exact ⟨by rw [HR.out]; exact jt_no (by decide), Below.refl _ _⟩
set_option maxRecDepth 100000 in
theorem rpart_char (s : ByteArray) (a : Nat) (w : World) (hs : s.size ≤ 1125899906841000) (h1 : a < s.size) (hx : ¬ s[a].toNat = 92) (hx2 : ¬ s[a].toNat < 32) :
    Calls Tryz.prog 55 #[.string s, .int .i64 a] w fun e w' => e = .returned (.tuple #[.string (bA (jPart (s.data.toList.drop a)).t), .int .i64 (pPl a (jPart (s.data.toList.drop a)) : Nat), .int .i64 (jPart (s.data.toList.drop a)).e]) ∧ Below w.heap.size w w' := by
  have ik0 : (0 : Int) ≤ (a : Int) := by omega
  have ik1 : (a : Int) < (s.size : Int) := by omega
  have hd := drop_at s a h1
  have z1 : IntKind.i64.wrap ((a : Int) + 1) = (a : Int) + 1 := i64_small (by omega) (by omega)
  have hR : jPart (s.data.toList.drop a) = if (uDec (s.data.toList.drop a)).2 = 0 then ⟨[], 0, 5⟩ else ⟨(s.data.toList.drop a).take (uDec (s.data.toList.drop a)).2, (uDec (s.data.toList.drop a)).2, 0⟩ := by rw [hd]; simp only [jPart]; rw [if_neg hx, if_neg hx2]
  obtain ⟨X, hXe⟩ : ∃ X, X = s[a].toNat := ⟨_, rfl⟩
  have hXi : (s[a].toNat : Int) = (X : Int) := by omega
  rw [← hXe] at hx hx2
  have q1 : ((X : Int) == 92) = false := beq_eq_false_iff_ne.mpr (by omega)
  have q2 : decide ((X : Int) < 32) = false := decide_eq_false (by omega)
  have HU0 := fun w => rrune_any s a w (by omega) (by omega) (by omega)
  rw [uR_at] at HU0
  have hle := dAt_le (s := s) (e := a)
  have hUd : dAt s a = uDec (s.data.toList.drop a) := rfl
  rw [← hUd] at hR
  generalize (dAt s a).1 = R at *
  obtain ⟨z, hz⟩ : ∃ z, z = (dAt s a).2 := ⟨_, rfl⟩
  rw [← hz] at HU0 hle hR
  have HU := Lib.hid HU0
  clear hd hx hx2 hXe hUd hz HU0
  by_cases h0 : z = 0
  · have q3 : ((z : Int) == 0) = true := by rw [h0]; rfl
    rw [if_pos h0] at hR
    have HR := Lib.hid hR
    clear h0 hR hle
    go_enter Tryz.func55, Tryz.ntmps55
    go_wp2_with fail
    with_reducible refine (HU.out _).mono ?_
    rintro e w1 ⟨rfl, hb⟩
    go_wp2
    go_ret3
    exact ⟨by rw [HR.out]; exact jt_no (by decide), hb⟩
  · have q3 : ((z : Int) == 0) = false := beq_eq_false_iff_ne.mpr (by omega)
    have hle2 := hle (by omega)
    rw [if_neg h0] at hR
    have hx3 : s.extract a (a + z) = bA ((s.data.toList.drop a).take z) := (text_is s a z _).mpr rfl
    have HR := Lib.hid (show (bA (jPart (s.data.toList.drop a)).t = s.extract a (a + z) ∧ pPl a (jPart (s.data.toList.drop a)) = a + z) ∧ (jPart (s.data.toList.drop a)).e = 0 by
      rw [hR, hx3]
      exact ⟨⟨rfl, rfl⟩, rfl⟩)
    have z2 : IntKind.i64.wrap ((a : Int) + (z : Int)) = (a : Int) + (z : Int) := i64_small (by omega) (by omega)
    have jk1 : (a : Int) ≤ (a : Int) + (z : Int) := by omega
    have jk2 : (a : Int) + (z : Int) ≤ (s.size : Int) := by omega
    clear h0 hR hle hx3
    go_enter Tryz.func55, Tryz.ntmps55
    go_wp2_with fail
    with_reducible refine (HU.out _).mono ?_
    rintro e w1 ⟨rfl, hb⟩
    go_wp2
    go_ret3
    exact ⟨by rw [HR.out.1.1, HR.out.1.2, HR.out.2]; rfl, hb⟩
theorem rpart_any (s : ByteArray) (a : Nat) (w : World) (hs : s.size ≤ 1125899906841000) (h1 : a < s.size) :
    Calls Tryz.prog 55 #[.string s, .int .i64 a] w fun e w' => e = .returned (.tuple #[.string (bA (jPart (s.data.toList.drop a)).t), .int .i64 (pPl a (jPart (s.data.toList.drop a)) : Nat), .int .i64 (jPart (s.data.toList.drop a)).e]) ∧ Below w.heap.size w w' := by
  by_cases hx : s[a].toNat = 92
  · exact rpart_esc s a w hs h1 hx
  · by_cases hx2 : s[a].toNat < 32
    · exact rpart_low s a w hs h1 hx2
    · exact rpart_char s a w hs h1 hx hx2
end Go.Proofs.YtfighopfgllneaaGreatDoor
