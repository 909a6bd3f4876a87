/- The document's own jstring (package truchmanref10): pair. -/
import Derived.Test.YtfighopfgllneaaGreatDoorJsRefA
import Derived.Test.YtfighopfgllneaaGreatDoorZE
namespace Go.Proofs.YtfighopfgllneaaGreatDoor
open Go Go.RowKit
set_option linter.unusedVariables false

def rTx (p : JA) : ByteArray := if p.e = 0 then bA (uB p.r) else ⟨#[]⟩
def rPl (a : Nat) (p : JA) : Nat := if p.e = 0 then a + p.k else 0
theorem ret_ja {p q : JA} {a : Nat} (h : q = p) : Ending.returned (.tuple #[.string (rTx p), .int .i64 (rPl a p : Nat), .int .i64 p.e]) = .returned (.tuple #[.string (rTx q), .int .i64 (rPl a q : Nat), .int .i64 q.e]) := by rw [h]
theorem drop_none (s : ByteArray) (a : Nat) (h : s.size ≤ a) : s.data.toList.drop a = [] := List.drop_eq_nil_of_le (by rw [toList_size]; exact h)
theorem ja_no {a : Nat} {e : Int} (he : e ≠ 0) : Ending.returned (.tuple #[.string ⟨#[]⟩, .int .i64 0, .int .i64 e]) = .returned (.tuple #[.string (rTx ⟨0, 0, e⟩), .int .i64 (rPl a ⟨0, 0, e⟩ : Nat), .int .i64 e]) := by
  have h1 : rTx ⟨0, 0, e⟩ = ⟨#[]⟩ := by unfold rTx; rw [if_neg he]
  have h2 : rPl a ⟨0, 0, e⟩ = 0 := by unfold rPl; rw [if_neg he]
  rw [h1, h2]; rfl

set_option maxRecDepth 100000 in
theorem rpair_end (s : ByteArray) (a n : Nat) (w : World) (hs : s.size ≤ 1125899906842624) (ha : a ≤ 1125899906842624) (hn : 55296 ≤ n) (hn2 : n ≤ 56319) (h1 : s.size ≤ a) :
    Calls Tryz.prog 80 #[.string s, .int .i64 a, .int .i64 n] w fun e w' => e = .returned (.tuple #[.string (rTx (jPair n (s.data.toList.drop a))), .int .i64 (rPl a (jPair n (s.data.toList.drop a)) : Nat), .int .i64 (jPair n (s.data.toList.drop a)).e]) ∧ Below w.heap.size w w' := by
  have z0 : IntKind.i64.wrap ((a : Int) + 0) = (a : Int) := i64_small (by omega) (by omega)
  have z1 : IntKind.i64.wrap ((a : Int) + 1) = (a : Int) + 1 := i64_small (by omega) (by omega)
  have p1 : decide (s.size ≤ a) = true := decide_eq_true h1
  have HR := Lib.hid (show jPair n (s.data.toList.drop a) = ⟨0, 0, 1⟩ by rw [drop_none s a h1]; rfl)
  clear h1
  go_enter Tryz.func80, Tryz.ntmps80
  go_wp2_with fail
  refine wp_loop_rounds 1 ?_
  rw [rounds_succ]
  go_wp2
  go_ret3
  exact ⟨by rw [HR.out]; exact ja_no (by decide), by first | exact drew_below _ _ | exact Below.drewN (drew_below _ _) _ | go_grown⟩
set_option maxRecDepth 100000 in
theorem rpair_x (s : ByteArray) (a n : Nat) (w : World) (hs : s.size ≤ 1125899906842624) (ha : a ≤ 1125899906842624) (hn : 55296 ≤ n) (hn2 : n ≤ 56319) (h1 : a < s.size) (hx : ¬ s[a].toNat = 92) :
    Calls Tryz.prog 80 #[.string s, .int .i64 a, .int .i64 n] w fun e w' => e = .returned (.tuple #[.string (rTx (jPair n (s.data.toList.drop a))), .int .i64 (rPl a (jPair n (s.data.toList.drop a)) : Nat), .int .i64 (jPair n (s.data.toList.drop a)).e]) ∧ Below w.heap.size w w' := by
  have z0 : IntKind.i64.wrap ((a : Int) + 0) = (a : Int) := i64_small (by omega) (by omega)
  have z1 : IntKind.i64.wrap ((a : Int) + 1) = (a : Int) + 1 := i64_small (by omega) (by omega)
  have p1 : decide (s.size ≤ a) = false := decide_eq_false (by omega)
  have ik0 : (0 : Int) ≤ (a : Int) := by omega
  have ik1 : (a : Int) < (s.size : Int) := by omega
  have hd := drop_at s a h1
  have HR := Lib.hid (show jPair n (s.data.toList.drop a) = ⟨0, 0, 6⟩ by rw [hd, jPair_x hx])
  have hX := s[a].toNat_lt
  obtain ⟨X, hXe⟩ : ∃ X, X = s[a].toNat := ⟨_, rfl⟩
  have hXi : (s[a].toNat : Int) = (X : Int) := by omega
  rw [← hXe] at hx
  have q1 : ((X : Int) != (((ByteArray.mk #[92, 117])[0]'(by decide)).toNat : Int)) = true := bne_iff_ne.mpr (by show (X : Int) ≠ ((92 : Nat) : Int); omega)
  clear hx hXe hd hX
  go_enter Tryz.func80, Tryz.ntmps80
  go_wp2_with fail
  refine wp_loop_rounds 1 ?_
  rw [rounds_succ]
  go_wp2
  go_quiet (fail)
  go_wp2
  go_ret3
  exact ⟨by rw [HR.out]; exact ja_no (by decide), by first | exact drew_below _ _ | exact Below.drewN (drew_below _ _) _ | go_grown⟩
set_option maxRecDepth 100000 in
theorem rpair_end2 (s : ByteArray) (a n : Nat) (w : World) (hs : s.size ≤ 1125899906842624) (ha : a ≤ 1125899906842624) (hn : 55296 ≤ n) (hn2 : n ≤ 56319) (h1 : a < s.size) (hx : s[a].toNat = 92) (h2 : s.size = a + 1) :
    Calls Tryz.prog 80 #[.string s, .int .i64 a, .int .i64 n] w fun e w' => e = .returned (.tuple #[.string (rTx (jPair n (s.data.toList.drop a))), .int .i64 (rPl a (jPair n (s.data.toList.drop a)) : Nat), .int .i64 (jPair n (s.data.toList.drop a)).e]) ∧ Below w.heap.size w w' := by
  have z0 : IntKind.i64.wrap ((a : Int) + 0) = (a : Int) := i64_small (by omega) (by omega)
  have z1 : IntKind.i64.wrap ((a : Int) + 1) = (a : Int) + 1 := i64_small (by omega) (by omega)
  have p1 : decide (s.size ≤ a) = false := decide_eq_false (by omega)
  have ik0 : (0 : Int) ≤ (a : Int) := by omega
  have ik1 : (a : Int) < (s.size : Int) := by omega
  have hd := drop_at s a h1
  have hXi : (s[a].toNat : Int) = 92 := by rw [hx]; rfl
  have c1 : ((92 : Int) != (((ByteArray.mk #[92, 117])[0]'(by decide)).toNat : Int)) = false := by decide +kernel
  have j0 : (0 : Int) ≤ (a : Int) + 1 := by omega
  have HR := Lib.hid (show jPair n (s.data.toList.drop a) = ⟨0, 0, 1⟩ by rw [hd, drop_none s (a + 1) (by omega), jPair_1 hx])
  have p2 : decide ((s.size : Int) ≤ (a : Int) + 1) = true := decide_eq_true (by omega)
  clear hd h2 hx
  go_enter Tryz.func80, Tryz.ntmps80
  go_wp2_with fail
  refine wp_loop_rounds 2 ?_
  rw [rounds_succ]
  go_wp2
  go_quiet (fail)
  go_wp2
  rw [rounds_succ]
  go_wp2
  go_ret3
  exact ⟨by rw [HR.out]; exact ja_no (by decide), by first | exact drew_below _ _ | exact Below.drewN (drew_below _ _) _ | go_grown⟩
set_option maxRecDepth 100000 in
theorem rpair_y (s : ByteArray) (a n : Nat) (w : World) (hs : s.size ≤ 1125899906842624) (ha : a ≤ 1125899906842624) (hn : 55296 ≤ n) (hn2 : n ≤ 56319) (h1 : a < s.size) (hx : s[a].toNat = 92) (h2 : a + 1 < s.size) (hy : ¬ s[a + 1].toNat = 117) :
    Calls Tryz.prog 80 #[.string s, .int .i64 a, .int .i64 n] w fun e w' => e = .returned (.tuple #[.string (rTx (jPair n (s.data.toList.drop a))), .int .i64 (rPl a (jPair n (s.data.toList.drop a)) : Nat), .int .i64 (jPair n (s.data.toList.drop a)).e]) ∧ Below w.heap.size w w' := by
  have z0 : IntKind.i64.wrap ((a : Int) + 0) = (a : Int) := i64_small (by omega) (by omega)
  have z1 : IntKind.i64.wrap ((a : Int) + 1) = (a : Int) + 1 := i64_small (by omega) (by omega)
  have p1 : decide (s.size ≤ a) = false := decide_eq_false (by omega)
  have ik0 : (0 : Int) ≤ (a : Int) := by omega
  have ik1 : (a : Int) < (s.size : Int) := by omega
  have hd := drop_at s a h1
  have hXi : (s[a].toNat : Int) = 92 := by rw [hx]; rfl
  have c1 : ((92 : Int) != (((ByteArray.mk #[92, 117])[0]'(by decide)).toNat : Int)) = false := by decide +kernel
  have j0 : (0 : Int) ≤ (a : Int) + 1 := by omega
  have p2 : decide ((s.size : Int) ≤ (a : Int) + 1) = false := decide_eq_false (by omega)
  have j1 : (a : Int) + 1 < (s.size : Int) := by omega
  have hd2 := drop_at s (a + 1) h2
  have HR := Lib.hid (show jPair n (s.data.toList.drop a) = ⟨0, 0, 6⟩ by rw [hd, hd2, jPair_y hx hy])
  have hY := s[a + 1].toNat_lt
  obtain ⟨Y, hYe⟩ : ∃ Y, Y = s[a + 1].toNat := ⟨_, rfl⟩
  have hYi : (s[a + 1].toNat : Int) = (Y : Int) := by omega
  rw [← hYe] at hy
  have q1 : ((Y : Int) != (((ByteArray.mk #[92, 117])[1]'(by decide)).toNat : Int)) = true := bne_iff_ne.mpr (by show (Y : Int) ≠ ((117 : Nat) : Int); omega)
  clear hd hd2 hx hy hY hYe
  go_enter Tryz.func80, Tryz.ntmps80
  go_wp2_with fail
  refine wp_loop_rounds 2 ?_
  rw [rounds_succ]
  go_wp2
  go_quiet (fail)
  go_wp2
  rw [rounds_succ]
  go_wp2
  go_quiet (fail)
  go_wp2
  go_ret3
  exact ⟨by rw [HR.out]; exact ja_no (by decide), by first | exact drew_below _ _ | exact Below.drewN (drew_below _ _) _ | go_grown⟩
set_option maxRecDepth 100000 in
theorem rpair_bad (s : ByteArray) (a n : Nat) (w : World) (hs : s.size ≤ 1125899906842624) (ha : a ≤ 1125899906842624) (hn : 55296 ≤ n) (hn2 : n ≤ 56319) (h1 : a < s.size) (hx : s[a].toNat = 92) (h2 : a + 1 < s.size) (hy : s[a + 1].toNat = 117) (h3 : ¬ (jDg 4 0 (s.data.toList.drop (a + 2))).2 = 0) :
    Calls Tryz.prog 80 #[.string s, .int .i64 a, .int .i64 n] w fun e w' => e = .returned (.tuple #[.string (rTx (jPair n (s.data.toList.drop a))), .int .i64 (rPl a (jPair n (s.data.toList.drop a)) : Nat), .int .i64 (jPair n (s.data.toList.drop a)).e]) ∧ Below w.heap.size w w' := by
  have z0 : IntKind.i64.wrap ((a : Int) + 0) = (a : Int) := i64_small (by omega) (by omega)
  have z1 : IntKind.i64.wrap ((a : Int) + 1) = (a : Int) + 1 := i64_small (by omega) (by omega)
  have p1 : decide (s.size ≤ a) = false := decide_eq_false (by omega)
  have ik0 : (0 : Int) ≤ (a : Int) := by omega
  have ik1 : (a : Int) < (s.size : Int) := by omega
  have hd := drop_at s a h1
  have hXi : (s[a].toNat : Int) = 92 := by rw [hx]; rfl
  have c1 : ((92 : Int) != (((ByteArray.mk #[92, 117])[0]'(by decide)).toNat : Int)) = false := by decide +kernel
  have j0 : (0 : Int) ≤ (a : Int) + 1 := by omega
  have p2 : decide ((s.size : Int) ≤ (a : Int) + 1) = false := decide_eq_false (by omega)
  have j1 : (a : Int) + 1 < (s.size : Int) := by omega
  have hd2 := drop_at s (a + 1) h2
  have hYi : (s[a + 1].toNat : Int) = 117 := by rw [hy]; rfl
  have c2 : ((117 : Int) != (((ByteArray.mk #[92, 117])[1]'(by decide)).toNat : Int)) = false := by decide +kernel
  have z2 : IntKind.i64.wrap ((a : Int) + 2) = (a : Int) + 2 := i64_small (by omega) (by omega)
  have hda : s.data.toList.drop (a + 1 + 1) = s.data.toList.drop (a + 2) := rfl
  have HD := Lib.hid (fun w => show Calls Tryz.prog 79 #[.string s, .int .i64 ((a : Int) + 2)] w fun e w' => e = .returned (.tuple #[.int .i64 ((jDg 4 0 (s.data.toList.drop (a + 2))).1 : Nat), .int .i64 (jDg 4 0 (s.data.toList.drop (a + 2))).2]) ∧ w' = w from rdigits_any s (a + 2) w hs (by omega))
  have HR := Lib.hid (show jPair n (s.data.toList.drop a) = ⟨0, 0, (jDg 4 0 (s.data.toList.drop (a + 2))).2⟩ by rw [hd, hd2, jPair_bad hx hy (by rw [hda]; exact h3)])
  have HE := Lib.hid h3
  have q1 : ((jDg 4 0 (s.data.toList.drop (a + 2))).2 != 0) = true := bne_iff_ne.mpr h3
  generalize jDg 4 0 (s.data.toList.drop (a + 2)) = Z at *
  clear hd hd2 hx hy h3 hda
  go_enter Tryz.func80, Tryz.ntmps80
  go_wp2_with fail
  refine wp_loop_rounds 3 ?_
  rw [rounds_succ]
  go_wp2
  go_quiet (fail)
  go_wp2
  rw [rounds_succ]
  go_wp2
  go_quiet (fail)
  go_wp2
  rw [rounds_succ]
  go_wp2_with fail
  with_reducible refine (HD.out _).mono ?_
  rintro e w1 ⟨rfl, hw⟩
  rw [hw]; clear hw
  go_wp2
  go_ret3
  exact ⟨by rw [HR.out]; exact ja_no HE.out, by first | exact drew_below _ _ | exact Below.drewN (drew_below _ _) _ | go_grown⟩
set_option maxRecDepth 100000 in
theorem rpair_least (s : ByteArray) (a n : Nat) (w : World) (hs : s.size ≤ 1125899906842624) (ha : a ≤ 1125899906842624) (hn : 55296 ≤ n) (hn2 : n ≤ 56319) (h1 : a < s.size) (hx : s[a].toNat = 92) (h2 : a + 1 < s.size) (hy : s[a + 1].toNat = 117) (h3 : (jDg 4 0 (s.data.toList.drop (a + 2))).2 = 0) (h4 : (jDg 4 0 (s.data.toList.drop (a + 2))).1 < 56320) :
    Calls Tryz.prog 80 #[.string s, .int .i64 a, .int .i64 n] w fun e w' => e = .returned (.tuple #[.string (rTx (jPair n (s.data.toList.drop a))), .int .i64 (rPl a (jPair n (s.data.toList.drop a)) : Nat), .int .i64 (jPair n (s.data.toList.drop a)).e]) ∧ Below w.heap.size w w' := by
  have z0 : IntKind.i64.wrap ((a : Int) + 0) = (a : Int) := i64_small (by omega) (by omega)
  have z1 : IntKind.i64.wrap ((a : Int) + 1) = (a : Int) + 1 := i64_small (by omega) (by omega)
  have p1 : decide (s.size ≤ a) = false := decide_eq_false (by omega)
  have ik0 : (0 : Int) ≤ (a : Int) := by omega
  have ik1 : (a : Int) < (s.size : Int) := by omega
  have hd := drop_at s a h1
  have hXi : (s[a].toNat : Int) = 92 := by rw [hx]; rfl
  have c1 : ((92 : Int) != (((ByteArray.mk #[92, 117])[0]'(by decide)).toNat : Int)) = false := by decide +kernel
  have j0 : (0 : Int) ≤ (a : Int) + 1 := by omega
  have p2 : decide ((s.size : Int) ≤ (a : Int) + 1) = false := decide_eq_false (by omega)
  have j1 : (a : Int) + 1 < (s.size : Int) := by omega
  have hd2 := drop_at s (a + 1) h2
  have hYi : (s[a + 1].toNat : Int) = 117 := by rw [hy]; rfl
  have c2 : ((117 : Int) != (((ByteArray.mk #[92, 117])[1]'(by decide)).toNat : Int)) = false := by decide +kernel
  have z2 : IntKind.i64.wrap ((a : Int) + 2) = (a : Int) + 2 := i64_small (by omega) (by omega)
  have hda : s.data.toList.drop (a + 1 + 1) = s.data.toList.drop (a + 2) := rfl
  have HD := Lib.hid (fun w => show Calls Tryz.prog 79 #[.string s, .int .i64 ((a : Int) + 2)] w fun e w' => e = .returned (.tuple #[.int .i64 ((jDg 4 0 (s.data.toList.drop (a + 2))).1 : Nat), .int .i64 (jDg 4 0 (s.data.toList.drop (a + 2))).2]) ∧ w' = w from rdigits_any s (a + 2) w hs (by omega))
  obtain ⟨M, hM⟩ : ∃ M, M = (jDg 4 0 (s.data.toList.drop (a + 2))).1 := ⟨_, rfl⟩
  have hm := jDg4_lt (s.data.toList.drop (a + 2))
  rw [h3, ← hM] at HD
  rw [← hM] at hm
  have HR := Lib.hid (show jPair n (s.data.toList.drop a) = ⟨0, 0, 6⟩ by rw [hd, hd2, jPair_out hx hy (by rw [hda]; exact h3) (.inl (by rw [hda]; exact h4))])
  rw [← hM] at h4
  have q2 : decide ((M : Int) < 56320) = true := decide_eq_true (by omega)
  clear hd hd2 hx hy h3 hda h4 hM
  go_enter Tryz.func80, Tryz.ntmps80
  go_wp2_with fail
  refine wp_loop_rounds 3 ?_
  rw [rounds_succ]
  go_wp2
  go_quiet (fail)
  go_wp2
  rw [rounds_succ]
  go_wp2
  go_quiet (fail)
  go_wp2
  rw [rounds_succ]
  go_wp2_with fail
  with_reducible refine (HD.out _).mono ?_
  rintro e w1 ⟨rfl, hw⟩
  rw [hw]; clear hw
  go_wp2
  go_ret3
  exact ⟨by rw [HR.out]; exact ja_no (by decide), by first | exact drew_below _ _ | exact Below.drewN (drew_below _ _) _ | go_grown⟩
set_option maxRecDepth 100000 in
theorem rpair_great (s : ByteArray) (a n : Nat) (w : World) (hs : s.size ≤ 1125899906842624) (ha : a ≤ 1125899906842624) (hn : 55296 ≤ n) (hn2 : n ≤ 56319) (h1 : a < s.size) (hx : s[a].toNat = 92) (h2 : a + 1 < s.size) (hy : s[a + 1].toNat = 117) (h3 : (jDg 4 0 (s.data.toList.drop (a + 2))).2 = 0) (h4 : 57343 < (jDg 4 0 (s.data.toList.drop (a + 2))).1) :
    Calls Tryz.prog 80 #[.string s, .int .i64 a, .int .i64 n] w fun e w' => e = .returned (.tuple #[.string (rTx (jPair n (s.data.toList.drop a))), .int .i64 (rPl a (jPair n (s.data.toList.drop a)) : Nat), .int .i64 (jPair n (s.data.toList.drop a)).e]) ∧ Below w.heap.size w w' := by
  have z0 : IntKind.i64.wrap ((a : Int) + 0) = (a : Int) := i64_small (by omega) (by omega)
  have z1 : IntKind.i64.wrap ((a : Int) + 1) = (a : Int) + 1 := i64_small (by omega) (by omega)
  have p1 : decide (s.size ≤ a) = false := decide_eq_false (by omega)
  have ik0 : (0 : Int) ≤ (a : Int) := by omega
  have ik1 : (a : Int) < (s.size : Int) := by omega
  have hd := drop_at s a h1
  have hXi : (s[a].toNat : Int) = 92 := by rw [hx]; rfl
  have c1 : ((92 : Int) != (((ByteArray.mk #[92, 117])[0]'(by decide)).toNat : Int)) = false := by decide +kernel
  have j0 : (0 : Int) ≤ (a : Int) + 1 := by omega
  have p2 : decide ((s.size : Int) ≤ (a : Int) + 1) = false := decide_eq_false (by omega)
  have j1 : (a : Int) + 1 < (s.size : Int) := by omega
  have hd2 := drop_at s (a + 1) h2
  have hYi : (s[a + 1].toNat : Int) = 117 := by rw [hy]; rfl
  have c2 : ((117 : Int) != (((ByteArray.mk #[92, 117])[1]'(by decide)).toNat : Int)) = false := by decide +kernel
  have z2 : IntKind.i64.wrap ((a : Int) + 2) = (a : Int) + 2 := i64_small (by omega) (by omega)
  have hda : s.data.toList.drop (a + 1 + 1) = s.data.toList.drop (a + 2) := rfl
  have HD := Lib.hid (fun w => show Calls Tryz.prog 79 #[.string s, .int .i64 ((a : Int) + 2)] w fun e w' => e = .returned (.tuple #[.int .i64 ((jDg 4 0 (s.data.toList.drop (a + 2))).1 : Nat), .int .i64 (jDg 4 0 (s.data.toList.drop (a + 2))).2]) ∧ w' = w from rdigits_any s (a + 2) w hs (by omega))
  obtain ⟨M, hM⟩ : ∃ M, M = (jDg 4 0 (s.data.toList.drop (a + 2))).1 := ⟨_, rfl⟩
  have hm := jDg4_lt (s.data.toList.drop (a + 2))
  rw [h3, ← hM] at HD
  rw [← hM] at hm
  have HR := Lib.hid (show jPair n (s.data.toList.drop a) = ⟨0, 0, 6⟩ by rw [hd, hd2, jPair_out hx hy (by rw [hda]; exact h3) (.inr (by rw [hda]; exact h4))])
  rw [← hM] at h4
  have q2 : decide ((M : Int) < 56320) = false := decide_eq_false (by omega)
  have q3 : decide ((57343 : Int) < (M : Int)) = true := decide_eq_true (by omega)
  clear hd hd2 hx hy h3 hda h4 hM
  go_enter Tryz.func80, Tryz.ntmps80
  go_wp2_with fail
  refine wp_loop_rounds 3 ?_
  rw [rounds_succ]
  go_wp2
  go_quiet (fail)
  go_wp2
  rw [rounds_succ]
  go_wp2
  go_quiet (fail)
  go_wp2
  rw [rounds_succ]
  go_wp2_with fail
  with_reducible refine (HD.out _).mono ?_
  rintro e w1 ⟨rfl, hw⟩
  rw [hw]; clear hw
  go_wp2
  go_ret3
  exact ⟨by rw [HR.out]; exact ja_no (by decide), by first | exact drew_below _ _ | exact Below.drewN (drew_below _ _) _ | go_grown⟩
set_option maxRecDepth 100000 in
theorem rpair_good (s : ByteArray) (a n : Nat) (w : World) (hs : s.size ≤ 1125899906842624) (ha : a ≤ 1125899906842624) (hn : 55296 ≤ n) (hn2 : n ≤ 56319) (h1 : a < s.size) (hx : s[a].toNat = 92) (h2 : a + 1 < s.size) (hy : s[a + 1].toNat = 117) (h3 : (jDg 4 0 (s.data.toList.drop (a + 2))).2 = 0) (h4 : ¬ (jDg 4 0 (s.data.toList.drop (a + 2))).1 < 56320) (h5 : ¬ 57343 < (jDg 4 0 (s.data.toList.drop (a + 2))).1) :
    Calls Tryz.prog 80 #[.string s, .int .i64 a, .int .i64 n] w fun e w' => e = .returned (.tuple #[.string (rTx (jPair n (s.data.toList.drop a))), .int .i64 (rPl a (jPair n (s.data.toList.drop a)) : Nat), .int .i64 (jPair n (s.data.toList.drop a)).e]) ∧ Below w.heap.size w w' := by
  have z0 : IntKind.i64.wrap ((a : Int) + 0) = (a : Int) := i64_small (by omega) (by omega)
  have z1 : IntKind.i64.wrap ((a : Int) + 1) = (a : Int) + 1 := i64_small (by omega) (by omega)
  have p1 : decide (s.size ≤ a) = false := decide_eq_false (by omega)
  have ik0 : (0 : Int) ≤ (a : Int) := by omega
  have ik1 : (a : Int) < (s.size : Int) := by omega
  have hd := drop_at s a h1
  have hXi : (s[a].toNat : Int) = 92 := by rw [hx]; rfl
  have c1 : ((92 : Int) != (((ByteArray.mk #[92, 117])[0]'(by decide)).toNat : Int)) = false := by decide +kernel
  have j0 : (0 : Int) ≤ (a : Int) + 1 := by omega
  have p2 : decide ((s.size : Int) ≤ (a : Int) + 1) = false := decide_eq_false (by omega)
  have j1 : (a : Int) + 1 < (s.size : Int) := by omega
  have hd2 := drop_at s (a + 1) h2
  have hYi : (s[a + 1].toNat : Int) = 117 := by rw [hy]; rfl
  have c2 : ((117 : Int) != (((ByteArray.mk #[92, 117])[1]'(by decide)).toNat : Int)) = false := by decide +kernel
  have z2 : IntKind.i64.wrap ((a : Int) + 2) = (a : Int) + 2 := i64_small (by omega) (by omega)
  have hda : s.data.toList.drop (a + 1 + 1) = s.data.toList.drop (a + 2) := rfl
  have HD := Lib.hid (fun w => show Calls Tryz.prog 79 #[.string s, .int .i64 ((a : Int) + 2)] w fun e w' => e = .returned (.tuple #[.int .i64 ((jDg 4 0 (s.data.toList.drop (a + 2))).1 : Nat), .int .i64 (jDg 4 0 (s.data.toList.drop (a + 2))).2]) ∧ w' = w from rdigits_any s (a + 2) w hs (by omega))
  obtain ⟨M, hM⟩ : ∃ M, M = (jDg 4 0 (s.data.toList.drop (a + 2))).1 := ⟨_, rfl⟩
  have hm := jDg4_lt (s.data.toList.drop (a + 2))
  rw [h3, ← hM] at HD
  rw [← hM] at hm
  have hR := jPair_in (n := n) (t := s.data.toList.drop (a + 1 + 1)) hx hy (by rw [hda]; exact h3) (by rw [hda]; exact h4) (by rw [hda]; exact h5)
  rw [← hd2, ← hd, hda, ← hM] at hR
  rw [← hM] at h4 h5
  obtain ⟨d, hdd⟩ : ∃ d, d = n - 55296 := ⟨_, rfl⟩
  obtain ⟨V, hV⟩ : ∃ V, V = 65536 + 1024 * d + (M - 56320) := ⟨_, rfl⟩
  rw [← hdd, ← hV] at hR
  have HR := Lib.hid hR
  have q2 : decide ((M : Int) < 56320) = false := decide_eq_false (by omega)
  have q3 : decide ((57343 : Int) < (M : Int)) = false := decide_eq_false (by omega)
  have y1 : IntKind.i64.wrap ((n : Int) - 55296) = (d : Int) := by rw [i64_small (by omega) (by omega)]; omega
  have y2 : IntKind.i64.wrap (1024 * (d : Int)) = 1024 * (d : Int) := i64_small (by omega) (by omega)
  have y3 : IntKind.i64.wrap (65536 + 1024 * (d : Int)) = 65536 + 1024 * (d : Int) := i64_small (by omega) (by omega)
  have y4 : IntKind.i64.wrap (65536 + 1024 * (d : Int) + (M : Int)) = 65536 + 1024 * (d : Int) + (M : Int) := i64_small (by omega) (by omega)
  have y5 : IntKind.i64.wrap (65536 + 1024 * (d : Int) + (M : Int) - 56320) = (V : Int) := by rw [i64_small (by omega) (by omega)]; omega
  have y6 : IntKind.i32.wrap (V : Int) = (V : Int) := IntWalk.i32_in _ (by omega)
  have z6 : IntKind.i64.wrap ((a : Int) + 6) = (a : Int) + 6 := i64_small (by omega) (by omega)
  have HB := Lib.hid (fun w => rbytes_any V w (by omega))
  have HT := Lib.hid (show ((bA (uB V) : ByteArray), (a : Int) + 6) = (rTx ⟨V, 6, 0⟩, ((rPl a ⟨V, 6, 0⟩ : Nat) : Int)) from rfl)
  generalize bA (uB V) = X at *
  clear hd hd2 hx hy h3 hda h4 hM h5 hdd hV hR
  go_enter Tryz.func80, Tryz.ntmps80
  go_wp2_with fail
  refine wp_loop_rounds 3 ?_
  rw [rounds_succ]
  go_wp2
  go_quiet (fail)
  go_wp2
  rw [rounds_succ]
  go_wp2
  go_quiet (fail)
  go_wp2
  rw [rounds_succ]
  go_wp2_with fail
  with_reducible refine (HD.out _).mono ?_
  rintro e w1 ⟨rfl, hw⟩
  rw [hw]; clear hw
  go_wp2_with fail
  with_reducible refine (HB.out _).mono ?_
  rintro e w2 ⟨rfl, hb2⟩
  go_wp2
  go_ret3
  rw [HR.out]
  have e1 := congrArg Prod.fst HT.out
  have e2 := congrArg Prod.snd HT.out
  simp only at e1 e2
  refine ⟨?_, by first | exact grown_then (drew_below _ _) hb2 | exact grown_then (Below.drewN (drew_below _ _) _) hb2 | exact hb2⟩
  rw [← e1, ← e2]; rfl
set_option maxRecDepth 100000 in
theorem rpair_any (s : ByteArray) (a n : Nat) (w : World) (hs : s.size ≤ 1125899906842624) (ha : a ≤ 1125899906842624) (hn : 55296 ≤ n) (hn2 : n ≤ 56319) :
    Calls Tryz.prog 80 #[.string s, .int .i64 a, .int .i64 n] w fun e w' => e = .returned (.tuple #[.string (rTx (jPair n (s.data.toList.drop a))), .int .i64 (rPl a (jPair n (s.data.toList.drop a)) : Nat), .int .i64 (jPair n (s.data.toList.drop a)).e]) ∧ Below w.heap.size w w' := by
  by_cases h1 : a < s.size
  · by_cases hx : s[a].toNat = 92
    · by_cases h2 : a + 1 < s.size
      · by_cases hy : s[a + 1].toNat = 117
        · by_cases h3 : (jDg 4 0 (s.data.toList.drop (a + 2))).2 = 0
          · by_cases h4 : (jDg 4 0 (s.data.toList.drop (a + 2))).1 < 56320
            · exact rpair_least s a n w hs ha hn hn2 h1 hx h2 hy h3 h4
            · by_cases h5 : 57343 < (jDg 4 0 (s.data.toList.drop (a + 2))).1
              · exact rpair_great s a n w hs ha hn hn2 h1 hx h2 hy h3 h5
              · exact rpair_good s a n w hs ha hn hn2 h1 hx h2 hy h3 h4 h5
          · exact rpair_bad s a n w hs ha hn hn2 h1 hx h2 hy h3
        · exact rpair_y s a n w hs ha hn hn2 h1 hx h2 hy
      · exact rpair_end2 s a n w hs ha hn hn2 h1 hx (by omega)
    · exact rpair_x s a n w hs ha hn hn2 h1 hx
  · exact rpair_end s a n w hs ha hn hn2 (by omega)
end Go.Proofs.YtfighopfgllneaaGreatDoor
