/- Several texts in one (JpRf, JrA): each begins with its own words. -/
import Derived.Test.YtmkcfilgiehjaaaGreatDoorZP
import Derived.Test.YtmkcfilgiehjaaaGreatDoorZR
import Derived.Test.YtmkcfilgiehjaaaGreatDoorZK
import Derived.Defers
import Derived.Recover
import Derived.WalkLawsBesides
/- The document's Pick, Whole, Text (package truchmanref14). -/
namespace Go.Proofs.YtmkcfilgiehjaaaGreatDoor
open Go Go.RowKit
set_option linter.unusedVariables false

theorem rfind_at {a : Option Addr} {cap : Nat} {l : List ND} {x : Int} {key : List UInt8} {r : Option Nat} {v : Int} (w : World) (hl : l.length ≤ 1099511627776) (hin : NIn w a l) (hsz : SzOk l) (h0 : -9223372036854775808 ≤ x) (h1 : x ≤ 9223372036854775807) (hf : fdL l x key = r) (hv : fdV r = v) :
    Calls Tryz.prog 10 #[.slice a l.length cap, .int .i64 x, .string (bA key)] w fun e w' => e = .returned (.int .i64 v) ∧ Below w.heap.size w w' := by
  have := rfind_any a cap l x key w hl hin hsz h0 h1
  rw [hf, hv] at this; exact this

set_option maxRecDepth 20000 in
set_option maxHeartbeats 2000000 in
theorem rpick_none (a : Option Addr) (cap : Nat) (l : List ND) (x : Int) (key : List UInt8) (c d : UInt8) (w : World) (hl : l.length ≤ 1099511627776) (hin : NIn w a l) (hsz : SzOk l) (h0 : -9223372036854775808 ≤ x) (h1 : x ≤ 9223372036854775807) (hf : fdL l x key = none) :
    Calls Tryz.prog 16 #[.slice a l.length cap, .int .i64 x, .string (bA key), .int .u8 (c.toNat : Int), .int .u8 (d.toNat : Int)] w fun e w' => e = .returned (.tuple #[.int .i64 (-1), .int .i64 0]) ∧ Below w.heap.size w w' := by
  have HN := Lib.hid (rfind_at (cap := cap) (v := -1) w hl hin hsz h0 h1 hf rfl)
  clear hin hsz hf h0 h1 hl
  go_enter Tryz.func16, Tryz.ntmps16
  go_wp2_with fail
  with_reducible refine HN.out.mono ?_
  rintro e w1 ⟨rfl, b1⟩
  have B1 := Lib.hid b1
  clear b1 HN
  go_wp2
  go_ret2
  exact ⟨rfl, B1.out⟩
set_option maxRecDepth 20000 in
set_option maxHeartbeats 2000000 in
theorem rpick_null (a : Option Addr) (cap : Nat) (l : List ND) (x : Int) (key : List UInt8) (c d : UInt8) (w : World) (hl : l.length ≤ 1099511627776) (hin : NIn w a l) (hsz : SzOk l) (h0 : -9223372036854775808 ≤ x) (h1 : x ≤ 9223372036854775807) (k : Nat) (hf : fdL l x key = some k) (hz : knL l k = 122) :
    Calls Tryz.prog 16 #[.slice a l.length cap, .int .i64 x, .string (bA key), .int .u8 (c.toNat : Int), .int .u8 (d.toNat : Int)] w fun e w' => e = .returned (.tuple #[.int .i64 (-1), .int .i64 0]) ∧ Below w.heap.size w w' := by
  have HN := Lib.hid (rfind_at (cap := cap) (v := ((k : Nat) : Int)) w hl hin hsz h0 h1 hf rfl)
  obtain ⟨hk, -⟩ := fdL_at hsz hf
  obtain ⟨g, rfl, hg, c0, -⟩ := hin k hk
  rw [← kn_at hk] at c0
  have q1 : (k : Int) < (l.length : Int) := by omega
  have q2 : (0 : Int) ≤ (k : Int) := by omega
  have q0 : decide ((k : Int) < 0) = false := decide_eq_false (by omega)
  have r1 : (((knL l k).toNat : Int) == 122) = true := by rw [hz]; rfl
  generalize knL l k = y at *
  clear hin hsz hf h0 h1 hz hk
  go_enter Tryz.func16, Tryz.ntmps16
  go_wp2_with fail
  with_reducible refine HN.out.mono ?_
  rintro e w1 ⟨rfl, b1⟩
  have B1 := Lib.hid b1
  have c1 := (b1.cell (p := ⟨g, k * 4, none⟩) hg).trans c0
  clear c0
  clear b1 HN
  go_wp2
  go_ret2
  exact ⟨rfl, B1.out⟩
set_option maxRecDepth 20000 in
set_option maxHeartbeats 2000000 in
theorem rpick_first (a : Option Addr) (cap : Nat) (l : List ND) (x : Int) (key : List UInt8) (c d : UInt8) (w : World) (hl : l.length ≤ 1099511627776) (hin : NIn w a l) (hsz : SzOk l) (h0 : -9223372036854775808 ≤ x) (h1 : x ≤ 9223372036854775807) (k : Nat) (hf : fdL l x key = some k) (hz : ¬ knL l k = 122) (hc : knL l k = c) :
    Calls Tryz.prog 16 #[.slice a l.length cap, .int .i64 x, .string (bA key), .int .u8 (c.toNat : Int), .int .u8 (d.toNat : Int)] w fun e w' => e = .returned (.tuple #[.int .i64 (k : Nat), .int .i64 0]) ∧ Below w.heap.size w w' := by
  have HN := Lib.hid (rfind_at (cap := cap) (v := ((k : Nat) : Int)) w hl hin hsz h0 h1 hf rfl)
  obtain ⟨hk, -⟩ := fdL_at hsz hf
  obtain ⟨g, rfl, hg, c0, -⟩ := hin k hk
  rw [← kn_at hk] at c0
  have q1 : (k : Int) < (l.length : Int) := by omega
  have q2 : (0 : Int) ≤ (k : Int) := by omega
  have q0 : decide ((k : Int) < 0) = false := decide_eq_false (by omega)
  have r1 : (((knL l k).toNat : Int) == 122) = false := (eq8 (knL l k) 122).trans (decide_eq_false hz)
  have r2 : (((knL l k).toNat : Int) == (c.toNat : Int)) = true := (eq8 (knL l k) c).trans (decide_eq_true hc)
  clear hc
  generalize knL l k = y at *
  clear hin hsz hf h0 h1 hz hk
  go_enter Tryz.func16, Tryz.ntmps16
  go_wp2_with fail
  with_reducible refine HN.out.mono ?_
  rintro e w1 ⟨rfl, b1⟩
  have B1 := Lib.hid b1
  have c1 := (b1.cell (p := ⟨g, k * 4, none⟩) hg).trans c0
  clear c0
  clear b1 HN
  go_wp2
  go_ret2
  exact ⟨rfl, B1.out⟩
set_option maxRecDepth 20000 in
set_option maxHeartbeats 2000000 in
theorem rpick_second (a : Option Addr) (cap : Nat) (l : List ND) (x : Int) (key : List UInt8) (c d : UInt8) (w : World) (hl : l.length ≤ 1099511627776) (hin : NIn w a l) (hsz : SzOk l) (h0 : -9223372036854775808 ≤ x) (h1 : x ≤ 9223372036854775807) (k : Nat) (hf : fdL l x key = some k) (hz : ¬ knL l k = 122) (hc : ¬ knL l k = c) (hd : knL l k = d) :
    Calls Tryz.prog 16 #[.slice a l.length cap, .int .i64 x, .string (bA key), .int .u8 (c.toNat : Int), .int .u8 (d.toNat : Int)] w fun e w' => e = .returned (.tuple #[.int .i64 (k : Nat), .int .i64 0]) ∧ Below w.heap.size w w' := by
  have HN := Lib.hid (rfind_at (cap := cap) (v := ((k : Nat) : Int)) w hl hin hsz h0 h1 hf rfl)
  obtain ⟨hk, -⟩ := fdL_at hsz hf
  obtain ⟨g, rfl, hg, c0, -⟩ := hin k hk
  rw [← kn_at hk] at c0
  have q1 : (k : Int) < (l.length : Int) := by omega
  have q2 : (0 : Int) ≤ (k : Int) := by omega
  have q0 : decide ((k : Int) < 0) = false := decide_eq_false (by omega)
  have r1 : (((knL l k).toNat : Int) == 122) = false := (eq8 (knL l k) 122).trans (decide_eq_false hz)
  have r2 : (((knL l k).toNat : Int) == (c.toNat : Int)) = false := (eq8 (knL l k) c).trans (decide_eq_false hc)
  have r3 : (((knL l k).toNat : Int) == (d.toNat : Int)) = true := (eq8 (knL l k) d).trans (decide_eq_true hd)
  clear hc hd
  generalize knL l k = y at *
  clear hin hsz hf h0 h1 hz hk
  go_enter Tryz.func16, Tryz.ntmps16
  go_wp2_with fail
  with_reducible refine HN.out.mono ?_
  rintro e w1 ⟨rfl, b1⟩
  have B1 := Lib.hid b1
  have c1 := (b1.cell (p := ⟨g, k * 4, none⟩) hg).trans c0
  clear c0
  clear b1 HN
  go_wp2
  go_ret2
  exact ⟨rfl, B1.out⟩
set_option maxRecDepth 20000 in
set_option maxHeartbeats 2000000 in
theorem rpick_other (a : Option Addr) (cap : Nat) (l : List ND) (x : Int) (key : List UInt8) (c d : UInt8) (w : World) (hl : l.length ≤ 1099511627776) (hin : NIn w a l) (hsz : SzOk l) (h0 : -9223372036854775808 ≤ x) (h1 : x ≤ 9223372036854775807) (k : Nat) (hf : fdL l x key = some k) (hz : ¬ knL l k = 122) (hc : ¬ knL l k = c) (hd : ¬ knL l k = d) :
    Calls Tryz.prog 16 #[.slice a l.length cap, .int .i64 x, .string (bA key), .int .u8 (c.toNat : Int), .int .u8 (d.toNat : Int)] w fun e w' => e = .returned (.tuple #[.int .i64 (-1), .int .i64 7]) ∧ Below w.heap.size w w' := by
  have HN := Lib.hid (rfind_at (cap := cap) (v := ((k : Nat) : Int)) w hl hin hsz h0 h1 hf rfl)
  obtain ⟨hk, -⟩ := fdL_at hsz hf
  obtain ⟨g, rfl, hg, c0, -⟩ := hin k hk
  rw [← kn_at hk] at c0
  have q1 : (k : Int) < (l.length : Int) := by omega
  have q2 : (0 : Int) ≤ (k : Int) := by omega
  have q0 : decide ((k : Int) < 0) = false := decide_eq_false (by omega)
  have r1 : (((knL l k).toNat : Int) == 122) = false := (eq8 (knL l k) 122).trans (decide_eq_false hz)
  have r2 : (((knL l k).toNat : Int) == (c.toNat : Int)) = false := (eq8 (knL l k) c).trans (decide_eq_false hc)
  have r3 : (((knL l k).toNat : Int) == (d.toNat : Int)) = false := (eq8 (knL l k) d).trans (decide_eq_false hd)
  clear hc hd
  generalize knL l k = y at *
  clear hin hsz hf h0 h1 hz hk
  go_enter Tryz.func16, Tryz.ntmps16
  go_wp2_with fail
  with_reducible refine HN.out.mono ?_
  rintro e w1 ⟨rfl, b1⟩
  have B1 := Lib.hid b1
  have c1 := (b1.cell (p := ⟨g, k * 4, none⟩) hg).trans c0
  clear c0
  clear b1 HN
  go_wp2
  go_ret2
  exact ⟨rfl, B1.out⟩
theorem rpick_any (a : Option Addr) (cap : Nat) (l : List ND) (x : Int) (key : List UInt8) (c d : UInt8) (w : World) (hl : l.length ≤ 1099511627776) (hin : NIn w a l) (hsz : SzOk l) (h0 : -9223372036854775808 ≤ x) (h1 : x ≤ 9223372036854775807) :
    Calls Tryz.prog 16 #[.slice a l.length cap, .int .i64 x, .string (bA key), .int .u8 (c.toNat : Int), .int .u8 (d.toNat : Int)] w fun e w' => e = .returned (.tuple #[.int .i64 (fdV (pkL l x key c d).1), .int .i64 (pkL l x key c d).2]) ∧ Below w.heap.size w w' := by
  cases hf : fdL l x key with
  | none => rw [pk_none hf]; exact rpick_none a cap l x key c d w hl hin hsz h0 h1 hf
  | some k =>
    by_cases hz : knL l k = 122
    · rw [pk_null hf hz]; exact rpick_null a cap l x key c d w hl hin hsz h0 h1 k hf hz
    · by_cases hc : knL l k = c
      · rw [pk_some hf hz (.inl hc)]; exact rpick_first a cap l x key c d w hl hin hsz h0 h1 k hf hz hc
      · by_cases hd : knL l k = d
        · rw [pk_some hf hz (.inr hd)]; exact rpick_second a cap l x key c d w hl hin hsz h0 h1 k hf hz hc hd
        · rw [pk_other hf hz (not_or.mpr ⟨hc, hd⟩)]; exact rpick_other a cap l x key c d w hl hin hsz h0 h1 k hf hz hc hd
theorem rpick_at {a : Option Addr} {cap : Nat} {l : List ND} {x : Int} {key : List UInt8} {c d : UInt8} {r : Option Nat} {v e : Int} (w : World) (hl : l.length ≤ 1099511627776) (hin : NIn w a l) (hsz : SzOk l) (h0 : -9223372036854775808 ≤ x) (h1 : x ≤ 9223372036854775807) (hp : pkL l x key c d = (r, e)) (hv : fdV r = v) (i j : Int) (hi : (c.toNat : Int) = i) (hj : (d.toNat : Int) = j) :
    Calls Tryz.prog 16 #[.slice a l.length cap, .int .i64 x, .string (bA key), .int .u8 i, .int .u8 j] w fun o w' => o = .returned (.tuple #[.int .i64 v, .int .i64 e]) ∧ Below w.heap.size w w' := by
  have := rpick_any a cap l x key c d w hl hin hsz h0 h1
  rw [hp] at this
  rw [hv, hi, hj] at this; exact this
set_option maxRecDepth 20000 in
set_option maxHeartbeats 2000000 in
theorem rwholeP_no (a : Option Addr) (cap : Nat) (l : List ND) (x : Int) (key : List UInt8) (w : World) (hl : l.length ≤ 1099511627776) (hin : NIn w a l) (hsz : SzOk l) (h0 : -9223372036854775808 ≤ x) (h1 : x ≤ 9223372036854775807) (e : Int) (hp : pkL l x key 110 110 = (none, e)) :
    Calls Tryz.prog 15 #[.slice a l.length cap, .int .i64 x, .string (bA key)] w fun o w' => o = .returned (.tuple #[.int .i64 0, .bool false, .int .i64 e]) ∧ Below w.heap.size w w' := by
  have HN := Lib.hid (rpick_at (cap := cap) (v := -1) w hl hin hsz h0 h1 hp rfl 110 110 rfl rfl)
  clear hin hsz h0 h1 hl hp
  go_enter Tryz.func15, Tryz.ntmps15
  go_wp2_with fail
  with_reducible refine HN.out.mono ?_
  rintro e w1 ⟨rfl, b1⟩
  go_wp2
  go_ret3
  exact ⟨rfl, b1⟩
set_option maxRecDepth 20000 in
set_option maxHeartbeats 2000000 in
theorem rwholeP_yes (a : Option Addr) (cap : Nat) (l : List ND) (x : Int) (key : List UInt8) (w : World) (hl : l.length ≤ 1099511627776) (hin : NIn w a l) (hsz : SzOk l) (h0 : -9223372036854775808 ≤ x) (h1 : x ≤ 9223372036854775807) (k : Nat) (e : Int) (hp : pkL l x key 110 110 = (some k, e)) (ht : (txL l k).length ≤ 1048576) :
    Calls Tryz.prog 15 #[.slice a l.length cap, .int .i64 x, .string (bA key)] w fun o w' => o = .returned (.tuple #[.int .i64 (wEnd (txL l k)).1, .bool (decide ((wEnd (txL l k)).2 = 0)), .int .i64 (wEnd (txL l k)).2]) ∧ Below w.heap.size w w' := by
  have HN := Lib.hid (rpick_at (cap := cap) (v := ((k : Nat) : Int)) w hl hin hsz h0 h1 hp rfl 110 110 rfl rfl)
  obtain ⟨hk, -⟩ := pkL_at hsz (k := k) (by rw [hp])
  obtain ⟨g, rfl, hg, -, -, c0, -⟩ := hin k hk
  rw [← tx_at hk] at c0
  have q1 : (k : Int) < (l.length : Int) := by omega
  have q2 : (0 : Int) ≤ (k : Int) := by omega
  have q0 : decide ((k : Int) < 0) = false := decide_eq_false (by omega)
  have HW := Lib.hid (fun w => rwhole_any (bA (txL l k)) w (by rw [bA_size]; exact ht))
  rw [bA_back] at HW
  have d1 : ((wEnd (txL l k)).2 == 0) = decide ((wEnd (txL l k)).2 = 0) := by
    by_cases e : (wEnd (txL l k)).2 = 0
    · rw [e]; rfl
    · rw [decide_eq_false e]; exact beq_eq_false_iff_ne.mpr e
  generalize txL l k = z at *
  generalize (wEnd z).1 = u at *
  generalize (wEnd z).2 = v at *
  generalize decide (v = 0) = b at *
  clear ht
  clear hin hsz h0 h1 hk hp
  go_enter Tryz.func15, Tryz.ntmps15
  go_wp2_with fail
  with_reducible refine HN.out.mono ?_
  rintro e w1 ⟨rfl, b1⟩
  have c1 := (b1.cell (p := ⟨g, k * 4 + 2, none⟩) hg).trans c0
  clear c0 HN
  go_wp2_with fail
  with_reducible refine (HW.out _).mono ?_
  rintro e w2 ⟨rfl, b2⟩
  have B2 := Lib.hid (b1.trans (b2.mono b1.size))
  clear b1 b2 c1 HW
  go_wp2
  go_ret3
  exact ⟨rfl, B2.out⟩
theorem rwholeP_any (a : Option Addr) (cap : Nat) (l : List ND) (x : Int) (key : List UInt8) (w : World) (hl : l.length ≤ 1099511627776) (hin : NIn w a l) (hsz : SzOk l) (h0 : -9223372036854775808 ≤ x) (h1 : x ≤ 9223372036854775807) (ht : ∀ k, k < l.length → (txL l k).length ≤ 1048576) :
    Calls Tryz.prog 15 #[.slice a l.length cap, .int .i64 x, .string (bA key)] w fun o w' => o = .returned (.tuple #[.int .i64 (fwA l x key).1, .bool (fwA l x key).2.1, .int .i64 (fwA l x key).2.2]) ∧ Below w.heap.size w w' := by
  cases hp : pkL l x key 110 110 with
  | mk r e =>
    cases r with
    | none => rw [show fwA l x key = (0, false, e) from by unfold fwA; rw [hp]]; exact rwholeP_no a cap l x key w hl hin hsz h0 h1 e hp
    | some k => rw [show fwA l x key = ((wEnd (txL l k)).1, decide ((wEnd (txL l k)).2 = 0), (wEnd (txL l k)).2) from by unfold fwA; rw [hp]]; exact rwholeP_yes a cap l x key w hl hin hsz h0 h1 k e hp (ht k (pkL_at hsz (k := k) (by rw [hp])).1)
set_option maxRecDepth 20000 in
set_option maxHeartbeats 2000000 in
theorem rtextP_no (a : Option Addr) (cap : Nat) (l : List ND) (x : Int) (key : List UInt8) (w : World) (hl : l.length ≤ 1099511627776) (hin : NIn w a l) (hsz : SzOk l) (h0 : -9223372036854775808 ≤ x) (h1 : x ≤ 9223372036854775807) (e : Int) (hp : pkL l x key 115 115 = (none, e)) :
    Calls Tryz.prog 14 #[.slice a l.length cap, .int .i64 x, .string (bA key)] w fun o w' => o = .returned (.tuple #[.string ⟨#[]⟩, .bool false, .int .i64 e]) ∧ Below w.heap.size w w' := by
  have HN := Lib.hid (rpick_at (cap := cap) (v := -1) w hl hin hsz h0 h1 hp rfl 115 115 rfl rfl)
  clear hin hsz h0 h1 hl hp
  go_enter Tryz.func14, Tryz.ntmps14
  go_wp2_with fail
  with_reducible refine HN.out.mono ?_
  rintro e w1 ⟨rfl, b1⟩
  go_wp2
  go_ret3
  exact ⟨rfl, b1⟩
set_option maxRecDepth 20000 in
set_option maxHeartbeats 2000000 in
theorem rtextP_yes (a : Option Addr) (cap : Nat) (l : List ND) (x : Int) (key : List UInt8) (w : World) (hl : l.length ≤ 1099511627776) (hin : NIn w a l) (hsz : SzOk l) (h0 : -9223372036854775808 ≤ x) (h1 : x ≤ 9223372036854775807) (k : Nat) (e : Int) (hp : pkL l x key 115 115 = (some k, e)) :
    Calls Tryz.prog 14 #[.slice a l.length cap, .int .i64 x, .string (bA key)] w fun o w' => o = .returned (.tuple #[.string (bA (txL l k)), .bool true, .int .i64 0]) ∧ Below w.heap.size w w' := by
  have HN := Lib.hid (rpick_at (cap := cap) (v := ((k : Nat) : Int)) w hl hin hsz h0 h1 hp rfl 115 115 rfl rfl)
  obtain ⟨hk, -⟩ := pkL_at hsz (k := k) (by rw [hp])
  obtain ⟨g, rfl, hg, -, -, c0, -⟩ := hin k hk
  rw [← tx_at hk] at c0
  have q1 : (k : Int) < (l.length : Int) := by omega
  have q2 : (0 : Int) ≤ (k : Int) := by omega
  have q0 : decide ((k : Int) < 0) = false := decide_eq_false (by omega)
  generalize txL l k = z at *
  clear hin hsz h0 h1 hk hp
  go_enter Tryz.func14, Tryz.ntmps14
  go_wp2_with fail
  with_reducible refine HN.out.mono ?_
  rintro e w1 ⟨rfl, b1⟩
  have c1 := (b1.cell (p := ⟨g, k * 4 + 2, none⟩) hg).trans c0
  clear c0 HN
  go_wp2
  go_ret3
  exact ⟨rfl, b1⟩
theorem rtextP_any (a : Option Addr) (cap : Nat) (l : List ND) (x : Int) (key : List UInt8) (w : World) (hl : l.length ≤ 1099511627776) (hin : NIn w a l) (hsz : SzOk l) (h0 : -9223372036854775808 ≤ x) (h1 : x ≤ 9223372036854775807) :
    Calls Tryz.prog 14 #[.slice a l.length cap, .int .i64 x, .string (bA key)] w fun o w' => o = .returned (.tuple #[.string (bA (ftA l x key).1), .bool (ftA l x key).2.1, .int .i64 (ftA l x key).2.2]) ∧ Below w.heap.size w w' := by
  cases hp : pkL l x key 115 115 with
  | mk r e =>
    cases r with
    | none => rw [show ftA l x key = ([], false, e) from by unfold ftA; rw [hp]]; exact rtextP_no a cap l x key w hl hin hsz h0 h1 e hp
    | some k => rw [show ftA l x key = (txL l k, true, 0) from by unfold ftA; rw [hp]]; exact rtextP_yes a cap l x key w hl hin hsz h0 h1 k e hp
end Go.Proofs.YtmkcfilgiehjaaaGreatDoor
/- Package jtree: the next token, token, end, must. -/
namespace Go.Proofs.YtmkcfilgiehjaaaGreatDoor
open Go Go.RowKit
set_option linter.unusedVariables false

/-- Given up with a code. -/
def pan (k : Int) : Ending := .panicked [{ v := .iface 24 (.int .i64 k), recovered := false }]
theorem RdS.belowN {cb rb B N : Nat} {w w' : World} {v : Value} {L : List ND} {ts : List TK} {la : Option Int} (h : RdS w cb rb B v L ts la) (hb : Below N w w') (hv : ∀ g, v.ownBlock = some g → g < N) (hN : B ≤ N) : RdS w' cb rb B v L ts la where
  cur := by
    obtain ⟨c, h1, h2⟩ := h.cur
    exact ⟨c, (hb.block cb (Nat.lt_of_lt_of_le h.lc hN)).trans h1, h2⟩
  rd := (hb.block rb (Nat.lt_of_lt_of_le h.lr hN)).trans h.rd
  row := h.row.keep fun g hg => hb.block g (hv g hg)
  lc := h.lc
  lr := h.lr
  ne := h.ne
  hB := Nat.le_trans h.hB hb.size
  hd := h.hd.below hb (Nat.lt_of_lt_of_le h.hg.1 hN)
  hg := h.hg
theorem nx_some {cb rb B : Nat} {w : World} {v : Value} {L : List ND} {t : TK} {ts : List TK} {la : Option Int} (h : RdS w cb rb B v L (t :: ts) la) :
    Calls Tryz.prog 59 #[.pointer (some ⟨cb, 0, none⟩)] w fun e w' => e = .returned (tkV t) ∧ RdS w' cb rb B v L ts la ∧ Only cb w w' := by
  obtain ⟨c, hq, hok, h0, hs, hsf⟩ := h.cur
  have hres : c.tRes = tNx c.bs := by unfold CS.tRes; rw [if_pos h0]
  obtain ⟨⟨s1, s2, s3⟩, s4⟩ := hsf
  refine (tnext_any hq hok hs h.hd h.hg.2.1).mono ?_
  rintro e w' ⟨he, ⟨c', hq', hA⟩, ho⟩
  rw [hres] at he hA
  refine ⟨by rw [he, s2], h.step ho ⟨c', hq', hA.1, by rw [hA.2.2.2.1]; exact s1, by rw [hA.2.1]; exact hs, ?_⟩, ho⟩
  rw [hA.2.2.2.2 s1, CS.bs_past]; exact s4
theorem nx_none {cb rb B : Nat} {w : World} {v : Value} {L : List ND} {x : Int} (h : RdS w cb rb B v L [] (some x)) :
    Calls Tryz.prog 59 #[.pointer (some ⟨cb, 0, none⟩)] w fun e w' => ∃ (y : TK) (c' : CS), e = .returned (tkV y) ∧ y.1 = 0 ∧ CurT 110 w' cb c' ∧ c'.er = x ∧ w'.cell? ⟨rb, 0, none⟩ = some (.pointer (some ⟨cb, 0, none⟩)) ∧ Only cb w w' := by
  obtain ⟨c, hq, hok, h0, hs, hsf⟩ := h.cur
  have hres : c.tRes = tNx c.bs := by unfold CS.tRes; rw [if_pos h0]
  obtain ⟨s1, s2⟩ : (tNx c.bs).tok.1 = 0 ∧ some x = some (tNx c.bs).e := by
    rcases hsf with e | e
    · cases e
    · exact e
  refine (tnext_any hq hok hs h.hd h.hg.2.1).mono ?_
  rintro e w' ⟨he, ⟨c', hq', hA⟩, ho⟩
  rw [hres] at he hA
  have hrd := (ho.block rb (Nat.lt_of_lt_of_le h.lr h.hB) h.ne.symm).trans h.rd
  exact ⟨_, c', he, s1, hq', by rw [hA.2.2.2.1]; exact (Option.some.inj s2).symm, by rw [cell_of_row w' rb 0 _ _ _ hrd]; rfl, ho⟩
theorem RdS.tok {cb rb B : Nat} {w : World} {v : Value} {L : List ND} {t : TK} {ts : List TK} {la : Option Int} (h : RdS w cb rb B v L (t :: ts) la) : t.1 ≠ 0 := by
  obtain ⟨c, _, _, _, _, hsf⟩ := h.cur
  exact hsf.1.2.2
theorem only_tk {cb N : Nat} {w w1 : World} (h : Only cb w w1) (hN : w.heap.size = N) (y : TK) : Only cb w ((w1.setCell ⟨N, 0, none⟩ (.int .u8 (y.1.toNat : Int))).setCell ⟨N, 1, none⟩ (.string (bA y.2))) := by
  subst hN
  exact only_then h ((Only.setTk w1 w.heap.size y).below (Nat.le_refl _) h.size) (Nat.le_refl _)

set_option maxRecDepth 20000 in
set_option maxHeartbeats 1000000 in
theorem token_some {cb rb B : Nat} {w : World} {v : Value} {L : List ND} {t : TK} {ts : List TK} {la : Option Int} (h : RdS w cb rb B v L (t :: ts) la) :
    Calls Tryz.prog 38 #[.pointer (some ⟨rb, 0, none⟩)] w fun e w' => e = .returned (tkV t) ∧ RdS w' cb rb B v L ts la ∧ Only cb w w' := by
  have p1 : ((t.1.toNat : Int) == 0) = false := (eq8 t.1 0).trans (decide_eq_false h.tok)
  have HN := Lib.hid (fun w (h : RdS w cb rb B v L (t :: ts) la) => nx_some h)
  have hne : w.heap.size ≠ cb := by have := h.lc; have := h.hB; omega
  have HO := Lib.hid (show ∀ g, v.ownBlock = some g → g < w.heap.size from fun g hg => (h.row.own hg).2.1)
  have hBN := h.hB
  have s0 := h.alloc (.cells #[.int .u8 0, .string ⟨#[]⟩] 80)
  have r0 : TkT 80 (w.alloc (.cells #[.int .u8 0, .string ⟨#[]⟩] 80)) w.heap.size (0, []) := tk_alloc (w := w) ((0, []) : TK) 80
  have o0 := (Only.refl cb w).alloc (.cells #[.int .u8 0, .string ⟨#[]⟩] 80)
  have c0 := s0.c0
  clear h
  go_enter Tryz.func38, Tryz.ntmps38
  go_wp2_with fail
  generalize w.alloc (.cells #[.int .u8 0, .string ⟨#[]⟩] 80) = w0 at *
  with_reducible refine (HN.out _ s0).mono ?_
  rintro e w1 ⟨rfl, s1, ho1⟩
  have r1 := r0.only ho1 hne
  have o1 := o0.trans ho1
  have g2 := tk_laid (w := w1) t 80
  have s2 := s1.alloc (.cells #[.int .u8 (t.1.toNat : Int), .string (bA t.2)] 80)
  have r2 := r1.alloc (.cells #[.int .u8 (t.1.toNat : Int), .string (bA t.2)] 80)
  have o2 := o1.alloc (.cells #[.int .u8 (t.1.toNat : Int), .string (bA t.2)] 80)
  have hn2 : w1.heap.size ≠ w.heap.size := by have := r1.lt; omega
  clear s0 r0 o0 c0 s1 r1 o1 ho1
  unfold tkV
  generalize hw2 : w1.alloc (.cells #[.int .u8 (t.1.toNat : Int), .string (bA t.2)] 80) = w2 at *
  go_upto_region 2 with fail
  (try rw [hw2])
  clear hw2
  generalize w1.heap.size = G at *
  have a0 := g2.c0; have a1 := g2.c1
  have b0 := r2.c0; have b1 := r2.c1; have bf := r2.fr
  have HX := Lib.hid (r2.setAll t)
  have HS := Lib.hid (s2.belowN ((Only.setTk w2 w.heap.size t).below (Nat.le_refl _) o2.size) HO.out hBN)
  have HO2 := Lib.hid (only_tk o2 rfl t)
  clear s2 o2 g2 r2
  go_wp2
  refine bodyPost_ret (tok_result Tryz.results38 HX.out rfl) rfl ?_
  exact ⟨rfl, HS.out, HO2.out⟩
set_option maxRecDepth 20000 in
set_option maxHeartbeats 1000000 in
theorem token_none {cb rb B : Nat} {w : World} {v : Value} {L : List ND} {x : Int} (h : RdS w cb rb B v L [] (some x)) :
    Calls Tryz.prog 38 #[.pointer (some ⟨rb, 0, none⟩)] w fun e w' => e = pan (eE (some x)) ∧ Only cb w w' := by
  have HN := Lib.hid (fun w (h : RdS w cb rb B v L [] (some x)) => nx_none h)
  have hne : w.heap.size ≠ cb := by have := h.lc; have := h.hB; omega
  have hrl : rb < w.heap.size := Nat.lt_of_lt_of_le h.lr h.hB
  have hrne : rb ≠ cb := h.ne.symm
  have s0 := h.alloc (.cells #[.int .u8 0, .string ⟨#[]⟩] 80)
  have o0 := (Only.refl cb w).alloc (.cells #[.int .u8 0, .string ⟨#[]⟩] 80)
  have c0 := s0.c0
  clear h
  go_enter Tryz.func38, Tryz.ntmps38
  go_wp2_with fail
  generalize w.alloc (.cells #[.int .u8 0, .string ⟨#[]⟩] 80) = w0 at *
  with_reducible refine (HN.out _ s0).mono ?_
  rintro e w1 ⟨y, c1, rfl, hy, q1, he1, d1, ho1⟩
  have o1 := o0.trans ho1
  have g2 := tk_laid (w := w1) y 80
  have q2 := q1.allocOld (.cells #[.int .u8 (y.1.toNat : Int), .string (bA y.2)] 80)
  have o2 := o1.alloc (.cells #[.int .u8 (y.1.toNat : Int), .string (bA y.2)] 80)
  have d2 : (w1.alloc (.cells #[.int .u8 (y.1.toNat : Int), .string (bA y.2)] 80)).cell? ⟨rb, 0, none⟩ = some (.pointer (some ⟨cb, 0, none⟩)) := by
    rw [World.cell?_alloc_some _ _ _ (by rw [d1]; rfl)]; exact d1
  have p1 : ((y.1.toNat : Int) == 0) = true := by rw [hy]; rfl
  have hrl2 : rb < (w1.alloc (.cells #[.int .u8 (y.1.toNat : Int), .string (bA y.2)] 80)).heap.size := Nat.lt_of_lt_of_le hrl o2.size
  have HE := Lib.hid (show (c1.fail 1).er = eE (some x) by
    unfold eE
    by_cases h : x = 0
    · simp only [if_pos h]
      rw [CS.fail_good (by rw [he1]; exact h)]; rfl
    · simp only [if_neg h]
      rw [CS.fail_bad (by rw [he1]; exact h)]; exact he1)
  clear s0 o0 c0 o1 ho1 q1 d1 hy
  unfold tkV
  generalize hw2 : w1.alloc (.cells #[.int .u8 (y.1.toNat : Int), .string (bA y.2)] 80) = w2 at *
  go_upto_region 2 with fail
  (try rw [hw2])
  clear hw2
  generalize w1.heap.size = G at *
  have a0 := g2.c0
  have HF := Lib.hid (fail_any q2 1)
  have HD := Lib.hid d2
  clear g2 he1
  go_wp2_with fail
  with_reducible refine HF.out.mono ?_
  rintro e w3 ⟨rfl, q3, ho3⟩
  have o3 := o2.trans ho3
  have d3 : w3.cell? ⟨rb, 0, none⟩ = some (.pointer (some ⟨cb, 0, none⟩)) := (World.cell?_of_block (ho3.block rb hrl2 hrne)).trans HD.out
  have HR := Lib.hid (err_any q3)
  rw [HE.out] at HR
  clear a0 d2 q2 o2 ho3 q3
  go_wp2_with fail
  with_reducible refine HR.out.mono ?_
  rintro e w4 ⟨rfl, hw4⟩
  rw [hw4]
  clear hw4
  go_wp2
  exact ⟨rfl, rfl, o3⟩
theorem must_ok (x : TK) (k : UInt8) (w : World) (h : x.1 = k) :
    Calls Tryz.prog 93 #[tkV x, .int .u8 (k.toNat : Int)] w fun e w' => e = .returned (.tuple #[]) ∧ Below w.heap.size w w' := by
  have p1 : ((x.1.toNat : Int) != (k.toNat : Int)) = false := by rw [h]; simp
  have a0 := (tk_laid (w := w) x 80).c0
  have hb := alloc_below w (.cells #[.int .u8 (x.1.toNat : Int), .string (bA x.2)] 80)
  clear h
  unfold tkV
  go_enter Tryz.func93, Tryz.ntmps93
  go_wp2
  go_end0
  exact ⟨rfl, hb⟩
theorem must_no (x : TK) (k : UInt8) (w : World) (h : ¬ x.1 = k) :
    Calls Tryz.prog 93 #[tkV x, .int .u8 (k.toNat : Int)] w fun e w' => e = pan 3 ∧ Below w.heap.size w w' := by
  have p1 : ((x.1.toNat : Int) != (k.toNat : Int)) = true := by
    have := eq8 x.1 k
    rw [decide_eq_false h] at this
    simp only [bne, this, Bool.not_false]
  have a0 := (tk_laid (w := w) x 80).c0
  have hb := alloc_below w (.cells #[.int .u8 (x.1.toNat : Int), .string (bA x.2)] 80)
  clear h
  unfold tkV
  go_enter Tryz.func93, Tryz.ntmps93
  go_wp2
  exact ⟨rfl, rfl, hb⟩
end Go.Proofs.YtmkcfilgiehjaaaGreatDoor
