/- Package jpick's pick, for values of four types, over a function that tells the value at a place. -/
import Derived.Test.YtmkcfilgiehjaaaGreatDoorZL
import Derived.Test.YtmkcfilgiehjaaaGreatDoorZN
namespace Go.Proofs.YtmkcfilgiehjaaaGreatDoor
open Go Go.RowKit
set_option linter.unusedVariables false

theorem jfind_at {a : Option Addr} {cap : Nat} {l : List ND} {x : Int} {key : List UInt8} {r : Option Nat} {v : Int} (w : World) (hl : l.length ≤ 1099511627776) (hin : NIn w a l) (hsz : SzOk l) (h0 : -9223372036854775808 ≤ x) (h1 : x ≤ 9223372036854775807) (hf : fdL l x key = r) (hv : fdV r = v) :
    ∀ wx, Below w.heap.size w wx → Calls Tryz.prog 9 #[.slice a l.length cap, .int .i64 x, .string (bA key)] wx fun e w' => e = .returned (.int .i64 v) ∧ Below wx.heap.size wx w' := fun wx hb => by
  have := jfind_any a cap l x key wx hl (hin.below hb (Nat.le_refl _)) hsz h0 h1
  rw [hf, hv] at this; exact this
theorem BIn.later {w w' : World} {a : Option Addr} {l : List UInt8} (h : BIn w a l) (hb : Below w.heap.size w w') : BIn w' a l := h.below hb
theorem irow_set {w : World} {B g : Nat} {v : Value} {l : List Nat} (h : IRow w B v l) (hg : g < B) (x y z : Value) : IRow (((w.setCell ⟨g, 0, none⟩ x).setCell ⟨g, 1, none⟩ y).setCell ⟨g, 2, none⟩ z) B v l := by
  obtain ⟨hl, h⟩ := h
  refine ⟨hl, ?_⟩
  rcases h with h | ⟨g', cap, cur, h1, h2, h3, h4⟩
  · exact .inl h
  · exact .inr ⟨g', cap, cur, h1, h2, (set3_lt w g x y z g' (by omega)).trans h3, h4⟩
theorem IRow.base {w : World} {B N : Nat} {v : Value} {l : List Nat} (h : IRow w N v l) (hB : B ≤ N) : IRow w B v l := by
  obtain ⟨hl, h⟩ := h
  refine ⟨hl, ?_⟩
  rcases h with h | ⟨g, cap, cur, h1, h2, h3, h4⟩
  · exact .inl h
  · exact .inr ⟨g, cap, cur, h1, by omega, h3, h4⟩

set_option maxRecDepth 20000 in
set_option maxHeartbeats 2000000 in
theorem pickS_none (a : Option Addr) (cap : Nat) (l : List ND) (x : Int) (key : List UInt8) (F : FuncId) (cp : Array Value) (ka : Option Addr) (kc : Nat) (kl : List UInt8) (w : World) (hl : l.length ≤ 1099511627776) (hin : NIn w a l) (hsz : SzOk l) (h0 : -9223372036854775808 ≤ x) (h1 : x ≤ 9223372036854775807) (hf : fdL l x key = none) :
    Calls Tryz.prog 24 #[.slice a l.length cap, .int .i64 x, .string (bA key), .func (.func F) #[] cp, .slice ka kl.length kc] w fun e w' => e = .returned (.agg #[.string ⟨#[]⟩, .bool false, .int .i64 0]) ∧ Below w.heap.size w w' := by
  have HN := Lib.hid (jfind_at (cap := cap) (v := -1) w hl hin hsz h0 h1 hf rfl)
  have B0 := Lib.hid (alloc_below w (.cells #[.string ⟨#[]⟩, .bool false, .int .i64 0] 35))
  have F0 := Lib.hid (FdT.new w 35 (.string ⟨#[]⟩) false 0)
  clear hin hsz hf h0 h1 hl
  go_enter Tryz.func24, Tryz.ntmps24
  go_wp2_with fail
  generalize w.alloc (.cells #[.string ⟨#[]⟩, .bool false, .int .i64 0] 35) = w0 at *
  with_reducible refine (HN.out w0 B0.out).mono ?_
  rintro e w1 ⟨rfl, b1⟩
  have B1 := Lib.hid (B0.out.trans (b1.mono B0.out.size))
  have f1 := F0.out.below b1
  clear b1 HN
  have HX := Lib.hid (f1.setAll (.string ⟨#[]⟩) false 0)
  have HB := Lib.hid (set3_below B1.out (Nat.le_refl _) (.string ⟨#[]⟩) (.bool false) (.int .i64 0))
  have a0 := f1.c0; have a1 := f1.c1; have a2 := f1.c2; have af := f1.fr
  clear f1
  go_wp2
  refine bodyPost_ret (fd_resultS Tryz.results24 HX.out rfl) rfl ?_
  exact ⟨rfl, HB.out⟩
set_option maxRecDepth 20000 in
set_option maxHeartbeats 2000000 in
theorem pickS_null (a : Option Addr) (cap : Nat) (l : List ND) (x : Int) (key : List UInt8) (F : FuncId) (cp : Array Value) (ka : Option Addr) (kc : Nat) (kl : List UInt8) (w : World) (hl : l.length ≤ 1099511627776) (hin : NIn w a l) (hsz : SzOk l) (h0 : -9223372036854775808 ≤ x) (h1 : x ≤ 9223372036854775807) (k : Nat) (hf : fdL l x key = some k) (hz : knL l k = 122) :
    Calls Tryz.prog 24 #[.slice a l.length cap, .int .i64 x, .string (bA key), .func (.func F) #[] cp, .slice ka kl.length kc] w fun e w' => e = .returned (.agg #[.string ⟨#[]⟩, .bool false, .int .i64 0]) ∧ Below w.heap.size w w' := by
  have HN := Lib.hid (jfind_at (cap := cap) (v := ((k : Nat) : Int)) w hl hin hsz h0 h1 hf rfl)
  have B0 := Lib.hid (alloc_below w (.cells #[.string ⟨#[]⟩, .bool false, .int .i64 0] 35))
  have F0 := Lib.hid (FdT.new w 35 (.string ⟨#[]⟩) false 0)
  obtain ⟨hk, -⟩ := fdL_at hsz hf
  obtain ⟨g, rfl, hg, c0, -⟩ := hin k hk
  rw [← kn_at hk] at c0
  have q1 : (k : Int) < (l.length : Int) := by omega
  have q2 : (0 : Int) ≤ (k : Int) := by omega
  have q0 : decide ((k : Int) < 0) = false := decide_eq_false (by omega)
  have r1 : (((knL l k).toNat : Int) == 122) = true := by rw [hz]; rfl
  generalize knL l k = y at *
  clear hin hsz hf h0 h1 hz hk
  go_enter Tryz.func24, Tryz.ntmps24
  go_wp2_with fail
  generalize w.alloc (.cells #[.string ⟨#[]⟩, .bool false, .int .i64 0] 35) = w0 at *
  with_reducible refine (HN.out w0 B0.out).mono ?_
  rintro e w1 ⟨rfl, b1⟩
  have B1 := Lib.hid (B0.out.trans (b1.mono B0.out.size))
  have f1 := F0.out.below b1
  clear b1 HN
  have c1 := (B1.out.cell (p := ⟨g, k * 4, none⟩) hg).trans c0
  clear c0
  have HX := Lib.hid (f1.setAll (.string ⟨#[]⟩) false 0)
  have HB := Lib.hid (set3_below B1.out (Nat.le_refl _) (.string ⟨#[]⟩) (.bool false) (.int .i64 0))
  have a0 := f1.c0; have a1 := f1.c1; have a2 := f1.c2; have af := f1.fr
  clear f1
  go_wp2
  refine bodyPost_ret (fd_resultS Tryz.results24 HX.out rfl) rfl ?_
  exact ⟨rfl, HB.out⟩
set_option maxRecDepth 20000 in
set_option maxHeartbeats 2000000 in
theorem pickS_other (a : Option Addr) (cap : Nat) (l : List ND) (x : Int) (key : List UInt8) (F : FuncId) (cp : Array Value) (ka : Option Addr) (kc : Nat) (kl : List UInt8) (w : World) (hl : l.length ≤ 1099511627776) (hin : NIn w a l) (hsz : SzOk l) (h0 : -9223372036854775808 ≤ x) (h1 : x ≤ 9223372036854775807) (k : Nat) (hf : fdL l x key = some k) (hz : ¬ knL l k = 122) (hkl : kl.length ≤ 1000) (hki : BIn w ka kl) (hc : kl.contains (knL l k) = false) :
    Calls Tryz.prog 24 #[.slice a l.length cap, .int .i64 x, .string (bA key), .func (.func F) #[] cp, .slice ka kl.length kc] w fun e w' => e = .returned (.agg #[.string ⟨#[]⟩, .bool false, .int .i64 7]) ∧ Below w.heap.size w w' := by
  have HN := Lib.hid (jfind_at (cap := cap) (v := ((k : Nat) : Int)) w hl hin hsz h0 h1 hf rfl)
  have B0 := Lib.hid (alloc_below w (.cells #[.string ⟨#[]⟩, .bool false, .int .i64 0] 35))
  have F0 := Lib.hid (FdT.new w 35 (.string ⟨#[]⟩) false 0)
  obtain ⟨hk, -⟩ := fdL_at hsz hf
  obtain ⟨g, rfl, hg, c0, -⟩ := hin k hk
  rw [← kn_at hk] at c0
  have q1 : (k : Int) < (l.length : Int) := by omega
  have q2 : (0 : Int) ≤ (k : Int) := by omega
  have q0 : decide ((k : Int) < 0) = false := decide_eq_false (by omega)
  have HC := Lib.hid (show ∀ wx, Below w.heap.size w wx → Calls Tryz.prog 46 #[.slice ka kl.length kc, .int .u8 ((knL l k).toNat : Int)] wx fun e w' => e = .returned (.bool false) ∧ w' = wx from fun wx hb => scont_any (knL l k) ka kc kl false wx hkl (hki.later hb) hc)
  have r1 : (((knL l k).toNat : Int) == 122) = false := (eq8 (knL l k) 122).trans (decide_eq_false hz)
  generalize knL l k = y at *
  clear hin hsz hf h0 h1 hz hk hki hc
  go_enter Tryz.func24, Tryz.ntmps24
  go_wp2_with fail
  generalize w.alloc (.cells #[.string ⟨#[]⟩, .bool false, .int .i64 0] 35) = w0 at *
  with_reducible refine (HN.out w0 B0.out).mono ?_
  rintro e w1 ⟨rfl, b1⟩
  have B1 := Lib.hid (B0.out.trans (b1.mono B0.out.size))
  have f1 := F0.out.below b1
  clear b1 HN
  have c1 := (B1.out.cell (p := ⟨g, k * 4, none⟩) hg).trans c0
  go_wp2_with fail
  with_reducible refine (HC.out w1 B1.out).mono ?_
  rintro e w2 ⟨rfl, rfl⟩
  have HX := Lib.hid (f1.setAll (.string ⟨#[]⟩) false 7)
  have HB := Lib.hid (set3_below B1.out (Nat.le_refl _) (.string ⟨#[]⟩) (.bool false) (.int .i64 7))
  have a0 := f1.c0; have a1 := f1.c1; have a2 := f1.c2; have af := f1.fr
  clear f1
  go_wp2
  refine bodyPost_ret (fd_resultS Tryz.results24 HX.out rfl) rfl ?_
  exact ⟨rfl, HB.out⟩
set_option maxRecDepth 20000 in
set_option maxHeartbeats 2000000 in
theorem pickS_told (a : Option Addr) (cap : Nat) (l : List ND) (x : Int) (key : List UInt8) (p : Nat) (ka : Option Addr) (kc : Nat) (kl : List UInt8) (w : World) (hl : l.length ≤ 1099511627776) (hin : NIn w a l) (hsz : SzOk l) (h0 : -9223372036854775808 ≤ x) (h1 : x ≤ 9223372036854775807) (k : Nat) (hf : fdL l x key = some k) (hz : ¬ knL l k = 122) (hkl : kl.length ≤ 1000) (hki : BIn w ka kl) (hc : kl.contains (knL l k) = true) (v : ByteArray) (hF : ∀ wx, Below w.heap.size w wx → Calls Tryz.prog 25 #[.int .i64 (k : Nat), .pointer (some ⟨p, 0, none⟩)] wx fun e w' => e = .returned (.tuple #[.string v, .int .i64 0]) ∧ Below wx.heap.size wx w') :
    Calls Tryz.prog 24 #[.slice a l.length cap, .int .i64 x, .string (bA key), .func (.func 25) #[] #[.pointer (some ⟨p, 0, none⟩)], .slice ka kl.length kc] w fun e w' => e = .returned (.agg #[.string v, .bool true, .int .i64 0]) ∧ Below w.heap.size w w' := by
  have HN := Lib.hid (jfind_at (cap := cap) (v := ((k : Nat) : Int)) w hl hin hsz h0 h1 hf rfl)
  have B0 := Lib.hid (alloc_below w (.cells #[.string ⟨#[]⟩, .bool false, .int .i64 0] 35))
  have F0 := Lib.hid (FdT.new w 35 (.string ⟨#[]⟩) false 0)
  obtain ⟨hk, -⟩ := fdL_at hsz hf
  obtain ⟨g, rfl, hg, c0, -⟩ := hin k hk
  rw [← kn_at hk] at c0
  have q1 : (k : Int) < (l.length : Int) := by omega
  have q2 : (0 : Int) ≤ (k : Int) := by omega
  have q0 : decide ((k : Int) < 0) = false := decide_eq_false (by omega)
  have HC := Lib.hid (show ∀ wx, Below w.heap.size w wx → Calls Tryz.prog 46 #[.slice ka kl.length kc, .int .u8 ((knL l k).toNat : Int)] wx fun e w' => e = .returned (.bool true) ∧ w' = wx from fun wx hb => scont_any (knL l k) ka kc kl true wx hkl (hki.later hb) hc)
  have r1 : (((knL l k).toNat : Int) == 122) = false := (eq8 (knL l k) 122).trans (decide_eq_false hz)
  generalize knL l k = y at *
  have HF := Lib.hid hF
  clear hin hsz hf h0 h1 hz hk hki hc hF
  go_enter Tryz.func24, Tryz.ntmps24
  go_wp2_with fail
  generalize w.alloc (.cells #[.string ⟨#[]⟩, .bool false, .int .i64 0] 35) = w0 at *
  with_reducible refine (HN.out w0 B0.out).mono ?_
  rintro e w1 ⟨rfl, b1⟩
  have B1 := Lib.hid (B0.out.trans (b1.mono B0.out.size))
  have f1 := F0.out.below b1
  clear b1 HN
  have c1 := (B1.out.cell (p := ⟨g, k * 4, none⟩) hg).trans c0
  go_wp2_with fail
  with_reducible refine (HC.out w1 B1.out).mono ?_
  rintro e w2 ⟨rfl, rfl⟩
  go_wp2_with fail
  with_reducible refine (HF.out w2 B1.out).mono ?_
  rintro e w3 ⟨rfl, b3⟩
  have B3 := Lib.hid (B1.out.trans (b3.mono B1.out.size))
  have f3 := f1.below b3
  clear b3 f1 c1
  have HX := Lib.hid (f3.setAll (.string v) true 0)
  have HB := Lib.hid (set3_below B3.out (Nat.le_refl _) (.string v) (.bool true) (.int .i64 0))
  have a0 := f3.c0; have a1 := f3.c1; have a2 := f3.c2; have af := f3.fr
  clear f3
  go_wp2
  refine bodyPost_ret (fd_resultS Tryz.results24 HX.out rfl) rfl ?_
  exact ⟨rfl, HB.out⟩
set_option maxRecDepth 20000 in
set_option maxHeartbeats 2000000 in
theorem pickI_none (a : Option Addr) (cap : Nat) (l : List ND) (x : Int) (key : List UInt8) (F : FuncId) (cp : Array Value) (ka : Option Addr) (kc : Nat) (kl : List UInt8) (w : World) (hl : l.length ≤ 1099511627776) (hin : NIn w a l) (hsz : SzOk l) (h0 : -9223372036854775808 ≤ x) (h1 : x ≤ 9223372036854775807) (hf : fdL l x key = none) :
    Calls Tryz.prog 26 #[.slice a l.length cap, .int .i64 x, .string (bA key), .func (.func F) #[] cp, .slice ka kl.length kc] w fun e w' => e = .returned (.agg #[.int .i64 0, .bool false, .int .i64 0]) ∧ Below w.heap.size w w' := by
  have HN := Lib.hid (jfind_at (cap := cap) (v := -1) w hl hin hsz h0 h1 hf rfl)
  have B0 := Lib.hid (alloc_below w (.cells #[.int .i64 0, .bool false, .int .i64 0] 38))
  have F0 := Lib.hid (FdT.new w 38 (.int .i64 0) false 0)
  clear hin hsz hf h0 h1 hl
  go_enter Tryz.func26, Tryz.ntmps26
  go_wp2_with fail
  generalize w.alloc (.cells #[.int .i64 0, .bool false, .int .i64 0] 38) = w0 at *
  with_reducible refine (HN.out w0 B0.out).mono ?_
  rintro e w1 ⟨rfl, b1⟩
  have B1 := Lib.hid (B0.out.trans (b1.mono B0.out.size))
  have f1 := F0.out.below b1
  clear b1 HN
  have HX := Lib.hid (f1.setAll (.int .i64 0) false 0)
  have HB := Lib.hid (set3_below B1.out (Nat.le_refl _) (.int .i64 0) (.bool false) (.int .i64 0))
  have a0 := f1.c0; have a1 := f1.c1; have a2 := f1.c2; have af := f1.fr
  clear f1
  go_wp2
  refine bodyPost_ret (fd_resultI Tryz.results26 HX.out rfl) rfl ?_
  exact ⟨rfl, HB.out⟩
set_option maxRecDepth 20000 in
set_option maxHeartbeats 2000000 in
theorem pickI_null (a : Option Addr) (cap : Nat) (l : List ND) (x : Int) (key : List UInt8) (F : FuncId) (cp : Array Value) (ka : Option Addr) (kc : Nat) (kl : List UInt8) (w : World) (hl : l.length ≤ 1099511627776) (hin : NIn w a l) (hsz : SzOk l) (h0 : -9223372036854775808 ≤ x) (h1 : x ≤ 9223372036854775807) (k : Nat) (hf : fdL l x key = some k) (hz : knL l k = 122) :
    Calls Tryz.prog 26 #[.slice a l.length cap, .int .i64 x, .string (bA key), .func (.func F) #[] cp, .slice ka kl.length kc] w fun e w' => e = .returned (.agg #[.int .i64 0, .bool false, .int .i64 0]) ∧ Below w.heap.size w w' := by
  have HN := Lib.hid (jfind_at (cap := cap) (v := ((k : Nat) : Int)) w hl hin hsz h0 h1 hf rfl)
  have B0 := Lib.hid (alloc_below w (.cells #[.int .i64 0, .bool false, .int .i64 0] 38))
  have F0 := Lib.hid (FdT.new w 38 (.int .i64 0) false 0)
  obtain ⟨hk, -⟩ := fdL_at hsz hf
  obtain ⟨g, rfl, hg, c0, -⟩ := hin k hk
  rw [← kn_at hk] at c0
  have q1 : (k : Int) < (l.length : Int) := by omega
  have q2 : (0 : Int) ≤ (k : Int) := by omega
  have q0 : decide ((k : Int) < 0) = false := decide_eq_false (by omega)
  have r1 : (((knL l k).toNat : Int) == 122) = true := by rw [hz]; rfl
  generalize knL l k = y at *
  clear hin hsz hf h0 h1 hz hk
  go_enter Tryz.func26, Tryz.ntmps26
  go_wp2_with fail
  generalize w.alloc (.cells #[.int .i64 0, .bool false, .int .i64 0] 38) = w0 at *
  with_reducible refine (HN.out w0 B0.out).mono ?_
  rintro e w1 ⟨rfl, b1⟩
  have B1 := Lib.hid (B0.out.trans (b1.mono B0.out.size))
  have f1 := F0.out.below b1
  clear b1 HN
  have c1 := (B1.out.cell (p := ⟨g, k * 4, none⟩) hg).trans c0
  clear c0
  have HX := Lib.hid (f1.setAll (.int .i64 0) false 0)
  have HB := Lib.hid (set3_below B1.out (Nat.le_refl _) (.int .i64 0) (.bool false) (.int .i64 0))
  have a0 := f1.c0; have a1 := f1.c1; have a2 := f1.c2; have af := f1.fr
  clear f1
  go_wp2
  refine bodyPost_ret (fd_resultI Tryz.results26 HX.out rfl) rfl ?_
  exact ⟨rfl, HB.out⟩
set_option maxRecDepth 20000 in
set_option maxHeartbeats 2000000 in
theorem pickI_other (a : Option Addr) (cap : Nat) (l : List ND) (x : Int) (key : List UInt8) (F : FuncId) (cp : Array Value) (ka : Option Addr) (kc : Nat) (kl : List UInt8) (w : World) (hl : l.length ≤ 1099511627776) (hin : NIn w a l) (hsz : SzOk l) (h0 : -9223372036854775808 ≤ x) (h1 : x ≤ 9223372036854775807) (k : Nat) (hf : fdL l x key = some k) (hz : ¬ knL l k = 122) (hkl : kl.length ≤ 1000) (hki : BIn w ka kl) (hc : kl.contains (knL l k) = false) :
    Calls Tryz.prog 26 #[.slice a l.length cap, .int .i64 x, .string (bA key), .func (.func F) #[] cp, .slice ka kl.length kc] w fun e w' => e = .returned (.agg #[.int .i64 0, .bool false, .int .i64 7]) ∧ Below w.heap.size w w' := by
  have HN := Lib.hid (jfind_at (cap := cap) (v := ((k : Nat) : Int)) w hl hin hsz h0 h1 hf rfl)
  have B0 := Lib.hid (alloc_below w (.cells #[.int .i64 0, .bool false, .int .i64 0] 38))
  have F0 := Lib.hid (FdT.new w 38 (.int .i64 0) false 0)
  obtain ⟨hk, -⟩ := fdL_at hsz hf
  obtain ⟨g, rfl, hg, c0, -⟩ := hin k hk
  rw [← kn_at hk] at c0
  have q1 : (k : Int) < (l.length : Int) := by omega
  have q2 : (0 : Int) ≤ (k : Int) := by omega
  have q0 : decide ((k : Int) < 0) = false := decide_eq_false (by omega)
  have HC := Lib.hid (show ∀ wx, Below w.heap.size w wx → Calls Tryz.prog 46 #[.slice ka kl.length kc, .int .u8 ((knL l k).toNat : Int)] wx fun e w' => e = .returned (.bool false) ∧ w' = wx from fun wx hb => scont_any (knL l k) ka kc kl false wx hkl (hki.later hb) hc)
  have r1 : (((knL l k).toNat : Int) == 122) = false := (eq8 (knL l k) 122).trans (decide_eq_false hz)
  generalize knL l k = y at *
  clear hin hsz hf h0 h1 hz hk hki hc
  go_enter Tryz.func26, Tryz.ntmps26
  go_wp2_with fail
  generalize w.alloc (.cells #[.int .i64 0, .bool false, .int .i64 0] 38) = w0 at *
  with_reducible refine (HN.out w0 B0.out).mono ?_
  rintro e w1 ⟨rfl, b1⟩
  have B1 := Lib.hid (B0.out.trans (b1.mono B0.out.size))
  have f1 := F0.out.below b1
  clear b1 HN
  have c1 := (B1.out.cell (p := ⟨g, k * 4, none⟩) hg).trans c0
  go_wp2_with fail
  with_reducible refine (HC.out w1 B1.out).mono ?_
  rintro e w2 ⟨rfl, rfl⟩
  have HX := Lib.hid (f1.setAll (.int .i64 0) false 7)
  have HB := Lib.hid (set3_below B1.out (Nat.le_refl _) (.int .i64 0) (.bool false) (.int .i64 7))
  have a0 := f1.c0; have a1 := f1.c1; have a2 := f1.c2; have af := f1.fr
  clear f1
  go_wp2
  refine bodyPost_ret (fd_resultI Tryz.results26 HX.out rfl) rfl ?_
  exact ⟨rfl, HB.out⟩
set_option maxRecDepth 20000 in
set_option maxHeartbeats 2000000 in
theorem pickI_bad (a : Option Addr) (cap : Nat) (l : List ND) (x : Int) (key : List UInt8) (p : Nat) (ka : Option Addr) (kc : Nat) (kl : List UInt8) (w : World) (hl : l.length ≤ 1099511627776) (hin : NIn w a l) (hsz : SzOk l) (h0 : -9223372036854775808 ≤ x) (h1 : x ≤ 9223372036854775807) (k : Nat) (hf : fdL l x key = some k) (hz : ¬ knL l k = 122) (hkl : kl.length ≤ 1000) (hki : BIn w ka kl) (hc : kl.contains (knL l k) = true) (n c : Int) (hF : ∀ wx, Below w.heap.size w wx → Calls Tryz.prog 27 #[.int .i64 (k : Nat), .pointer (some ⟨p, 0, none⟩)] wx fun e w' => e = .returned (.tuple #[.int .i64 n, .int .i64 c]) ∧ Below wx.heap.size wx w') (he : ¬ c = 0) :
    Calls Tryz.prog 26 #[.slice a l.length cap, .int .i64 x, .string (bA key), .func (.func 27) #[] #[.pointer (some ⟨p, 0, none⟩)], .slice ka kl.length kc] w fun e w' => e = .returned (.agg #[.int .i64 0, .bool false, .int .i64 c]) ∧ Below w.heap.size w w' := by
  have t1 : (c != 0) = true := bne_iff_ne.mpr he
  have HN := Lib.hid (jfind_at (cap := cap) (v := ((k : Nat) : Int)) w hl hin hsz h0 h1 hf rfl)
  have B0 := Lib.hid (alloc_below w (.cells #[.int .i64 0, .bool false, .int .i64 0] 38))
  have F0 := Lib.hid (FdT.new w 38 (.int .i64 0) false 0)
  obtain ⟨hk, -⟩ := fdL_at hsz hf
  obtain ⟨g, rfl, hg, c0, -⟩ := hin k hk
  rw [← kn_at hk] at c0
  have q1 : (k : Int) < (l.length : Int) := by omega
  have q2 : (0 : Int) ≤ (k : Int) := by omega
  have q0 : decide ((k : Int) < 0) = false := decide_eq_false (by omega)
  have HC := Lib.hid (show ∀ wx, Below w.heap.size w wx → Calls Tryz.prog 46 #[.slice ka kl.length kc, .int .u8 ((knL l k).toNat : Int)] wx fun e w' => e = .returned (.bool true) ∧ w' = wx from fun wx hb => scont_any (knL l k) ka kc kl true wx hkl (hki.later hb) hc)
  have r1 : (((knL l k).toNat : Int) == 122) = false := (eq8 (knL l k) 122).trans (decide_eq_false hz)
  generalize knL l k = y at *
  have HF := Lib.hid hF
  clear hin hsz hf h0 h1 hz hk hki hc hF he
  go_enter Tryz.func26, Tryz.ntmps26
  go_wp2_with fail
  generalize w.alloc (.cells #[.int .i64 0, .bool false, .int .i64 0] 38) = w0 at *
  with_reducible refine (HN.out w0 B0.out).mono ?_
  rintro e w1 ⟨rfl, b1⟩
  have B1 := Lib.hid (B0.out.trans (b1.mono B0.out.size))
  have f1 := F0.out.below b1
  clear b1 HN
  have c1 := (B1.out.cell (p := ⟨g, k * 4, none⟩) hg).trans c0
  go_wp2_with fail
  with_reducible refine (HC.out w1 B1.out).mono ?_
  rintro e w2 ⟨rfl, rfl⟩
  go_wp2_with fail
  with_reducible refine (HF.out w2 B1.out).mono ?_
  rintro e w3 ⟨rfl, b3⟩
  have B3 := Lib.hid (B1.out.trans (b3.mono B1.out.size))
  have f3 := f1.below b3
  clear b3 f1 c1
  have HX := Lib.hid (f3.setAll (.int .i64 0) false c)
  have HB := Lib.hid (set3_below B3.out (Nat.le_refl _) (.int .i64 0) (.bool false) (.int .i64 c))
  have a0 := f3.c0; have a1 := f3.c1; have a2 := f3.c2; have af := f3.fr
  clear f3
  go_wp2
  refine bodyPost_ret (fd_resultI Tryz.results26 HX.out rfl) rfl ?_
  exact ⟨rfl, HB.out⟩
set_option maxRecDepth 20000 in
set_option maxHeartbeats 2000000 in
theorem pickI_whole (a : Option Addr) (cap : Nat) (l : List ND) (x : Int) (key : List UInt8) (p : Nat) (ka : Option Addr) (kc : Nat) (kl : List UInt8) (w : World) (hl : l.length ≤ 1099511627776) (hin : NIn w a l) (hsz : SzOk l) (h0 : -9223372036854775808 ≤ x) (h1 : x ≤ 9223372036854775807) (k : Nat) (hf : fdL l x key = some k) (hz : ¬ knL l k = 122) (hkl : kl.length ≤ 1000) (hki : BIn w ka kl) (hc : kl.contains (knL l k) = true) (n c : Int) (hF : ∀ wx, Below w.heap.size w wx → Calls Tryz.prog 27 #[.int .i64 (k : Nat), .pointer (some ⟨p, 0, none⟩)] wx fun e w' => e = .returned (.tuple #[.int .i64 n, .int .i64 c]) ∧ Below wx.heap.size wx w') (he : c = 0) :
    Calls Tryz.prog 26 #[.slice a l.length cap, .int .i64 x, .string (bA key), .func (.func 27) #[] #[.pointer (some ⟨p, 0, none⟩)], .slice ka kl.length kc] w fun e w' => e = .returned (.agg #[.int .i64 n, .bool true, .int .i64 0]) ∧ Below w.heap.size w w' := by
  subst he
  have HN := Lib.hid (jfind_at (cap := cap) (v := ((k : Nat) : Int)) w hl hin hsz h0 h1 hf rfl)
  have B0 := Lib.hid (alloc_below w (.cells #[.int .i64 0, .bool false, .int .i64 0] 38))
  have F0 := Lib.hid (FdT.new w 38 (.int .i64 0) false 0)
  obtain ⟨hk, -⟩ := fdL_at hsz hf
  obtain ⟨g, rfl, hg, c0, -⟩ := hin k hk
  rw [← kn_at hk] at c0
  have q1 : (k : Int) < (l.length : Int) := by omega
  have q2 : (0 : Int) ≤ (k : Int) := by omega
  have q0 : decide ((k : Int) < 0) = false := decide_eq_false (by omega)
  have HC := Lib.hid (show ∀ wx, Below w.heap.size w wx → Calls Tryz.prog 46 #[.slice ka kl.length kc, .int .u8 ((knL l k).toNat : Int)] wx fun e w' => e = .returned (.bool true) ∧ w' = wx from fun wx hb => scont_any (knL l k) ka kc kl true wx hkl (hki.later hb) hc)
  have r1 : (((knL l k).toNat : Int) == 122) = false := (eq8 (knL l k) 122).trans (decide_eq_false hz)
  generalize knL l k = y at *
  have HF := Lib.hid hF
  clear hin hsz hf h0 h1 hz hk hki hc hF
  go_enter Tryz.func26, Tryz.ntmps26
  go_wp2_with fail
  generalize w.alloc (.cells #[.int .i64 0, .bool false, .int .i64 0] 38) = w0 at *
  with_reducible refine (HN.out w0 B0.out).mono ?_
  rintro e w1 ⟨rfl, b1⟩
  have B1 := Lib.hid (B0.out.trans (b1.mono B0.out.size))
  have f1 := F0.out.below b1
  clear b1 HN
  have c1 := (B1.out.cell (p := ⟨g, k * 4, none⟩) hg).trans c0
  go_wp2_with fail
  with_reducible refine (HC.out w1 B1.out).mono ?_
  rintro e w2 ⟨rfl, rfl⟩
  go_wp2_with fail
  with_reducible refine (HF.out w2 B1.out).mono ?_
  rintro e w3 ⟨rfl, b3⟩
  have B3 := Lib.hid (B1.out.trans (b3.mono B1.out.size))
  have f3 := f1.below b3
  clear b3 f1 c1
  have HX := Lib.hid (f3.setAll (.int .i64 n) true 0)
  have HB := Lib.hid (set3_below B3.out (Nat.le_refl _) (.int .i64 n) (.bool true) (.int .i64 0))
  have a0 := f3.c0; have a1 := f3.c1; have a2 := f3.c2; have af := f3.fr
  clear f3
  go_wp2
  refine bodyPost_ret (fd_resultI Tryz.results26 HX.out rfl) rfl ?_
  exact ⟨rfl, HB.out⟩
set_option maxRecDepth 20000 in
set_option maxHeartbeats 2000000 in
theorem pickI_object (a : Option Addr) (cap : Nat) (l : List ND) (x : Int) (key : List UInt8) (ka : Option Addr) (kc : Nat) (kl : List UInt8) (w : World) (hl : l.length ≤ 1099511627776) (hin : NIn w a l) (hsz : SzOk l) (h0 : -9223372036854775808 ≤ x) (h1 : x ≤ 9223372036854775807) (k : Nat) (hf : fdL l x key = some k) (hz : ¬ knL l k = 122) (hkl : kl.length ≤ 1000) (hki : BIn w ka kl) (hc : kl.contains (knL l k) = true) (n c : Int) (hF : ∀ wx, Below w.heap.size w wx → Calls Tryz.prog 32 #[.int .i64 (k : Nat)] wx fun e w' => e = .returned (.tuple #[.int .i64 n, .int .i64 c]) ∧ Below wx.heap.size wx w') (he : c = 0) :
    Calls Tryz.prog 26 #[.slice a l.length cap, .int .i64 x, .string (bA key), .func (.func 32) #[] #[], .slice ka kl.length kc] w fun e w' => e = .returned (.agg #[.int .i64 n, .bool true, .int .i64 0]) ∧ Below w.heap.size w w' := by
  subst he
  have HN := Lib.hid (jfind_at (cap := cap) (v := ((k : Nat) : Int)) w hl hin hsz h0 h1 hf rfl)
  have B0 := Lib.hid (alloc_below w (.cells #[.int .i64 0, .bool false, .int .i64 0] 38))
  have F0 := Lib.hid (FdT.new w 38 (.int .i64 0) false 0)
  obtain ⟨hk, -⟩ := fdL_at hsz hf
  obtain ⟨g, rfl, hg, c0, -⟩ := hin k hk
  rw [← kn_at hk] at c0
  have q1 : (k : Int) < (l.length : Int) := by omega
  have q2 : (0 : Int) ≤ (k : Int) := by omega
  have q0 : decide ((k : Int) < 0) = false := decide_eq_false (by omega)
  have HC := Lib.hid (show ∀ wx, Below w.heap.size w wx → Calls Tryz.prog 46 #[.slice ka kl.length kc, .int .u8 ((knL l k).toNat : Int)] wx fun e w' => e = .returned (.bool true) ∧ w' = wx from fun wx hb => scont_any (knL l k) ka kc kl true wx hkl (hki.later hb) hc)
  have r1 : (((knL l k).toNat : Int) == 122) = false := (eq8 (knL l k) 122).trans (decide_eq_false hz)
  generalize knL l k = y at *
  have HF := Lib.hid hF
  clear hin hsz hf h0 h1 hz hk hki hc hF
  go_enter Tryz.func26, Tryz.ntmps26
  go_wp2_with fail
  generalize w.alloc (.cells #[.int .i64 0, .bool false, .int .i64 0] 38) = w0 at *
  with_reducible refine (HN.out w0 B0.out).mono ?_
  rintro e w1 ⟨rfl, b1⟩
  have B1 := Lib.hid (B0.out.trans (b1.mono B0.out.size))
  have f1 := F0.out.below b1
  clear b1 HN
  have c1 := (B1.out.cell (p := ⟨g, k * 4, none⟩) hg).trans c0
  go_wp2_with fail
  with_reducible refine (HC.out w1 B1.out).mono ?_
  rintro e w2 ⟨rfl, rfl⟩
  go_wp2_with fail
  with_reducible refine (HF.out w2 B1.out).mono ?_
  rintro e w3 ⟨rfl, b3⟩
  have B3 := Lib.hid (B1.out.trans (b3.mono B1.out.size))
  have f3 := f1.below b3
  clear b3 f1 c1
  have HX := Lib.hid (f3.setAll (.int .i64 n) true 0)
  have HB := Lib.hid (set3_below B3.out (Nat.le_refl _) (.int .i64 n) (.bool true) (.int .i64 0))
  have a0 := f3.c0; have a1 := f3.c1; have a2 := f3.c2; have af := f3.fr
  clear f3
  go_wp2
  refine bodyPost_ret (fd_resultI Tryz.results26 HX.out rfl) rfl ?_
  exact ⟨rfl, HB.out⟩
set_option maxRecDepth 20000 in
set_option maxHeartbeats 2000000 in
theorem pickB_none (a : Option Addr) (cap : Nat) (l : List ND) (x : Int) (key : List UInt8) (F : FuncId) (cp : Array Value) (ka : Option Addr) (kc : Nat) (kl : List UInt8) (w : World) (hl : l.length ≤ 1099511627776) (hin : NIn w a l) (hsz : SzOk l) (h0 : -9223372036854775808 ≤ x) (h1 : x ≤ 9223372036854775807) (hf : fdL l x key = none) :
    Calls Tryz.prog 29 #[.slice a l.length cap, .int .i64 x, .string (bA key), .func (.func F) #[] cp, .slice ka kl.length kc] w fun e w' => e = .returned (.agg #[.bool false, .bool false, .int .i64 0]) ∧ Below w.heap.size w w' := by
  have HN := Lib.hid (jfind_at (cap := cap) (v := -1) w hl hin hsz h0 h1 hf rfl)
  have B0 := Lib.hid (alloc_below w (.cells #[.bool false, .bool false, .int .i64 0] 41))
  have F0 := Lib.hid (FdT.new w 41 (.bool false) false 0)
  clear hin hsz hf h0 h1 hl
  go_enter Tryz.func29, Tryz.ntmps29
  go_wp2_with fail
  generalize w.alloc (.cells #[.bool false, .bool false, .int .i64 0] 41) = w0 at *
  with_reducible refine (HN.out w0 B0.out).mono ?_
  rintro e w1 ⟨rfl, b1⟩
  have B1 := Lib.hid (B0.out.trans (b1.mono B0.out.size))
  have f1 := F0.out.below b1
  clear b1 HN
  have HX := Lib.hid (f1.setAll (.bool false) false 0)
  have HB := Lib.hid (set3_below B1.out (Nat.le_refl _) (.bool false) (.bool false) (.int .i64 0))
  have a0 := f1.c0; have a1 := f1.c1; have a2 := f1.c2; have af := f1.fr
  clear f1
  go_wp2
  refine bodyPost_ret (fd_resultB Tryz.results29 HX.out rfl) rfl ?_
  exact ⟨rfl, HB.out⟩
set_option maxRecDepth 20000 in
set_option maxHeartbeats 2000000 in
theorem pickB_null (a : Option Addr) (cap : Nat) (l : List ND) (x : Int) (key : List UInt8) (F : FuncId) (cp : Array Value) (ka : Option Addr) (kc : Nat) (kl : List UInt8) (w : World) (hl : l.length ≤ 1099511627776) (hin : NIn w a l) (hsz : SzOk l) (h0 : -9223372036854775808 ≤ x) (h1 : x ≤ 9223372036854775807) (k : Nat) (hf : fdL l x key = some k) (hz : knL l k = 122) :
    Calls Tryz.prog 29 #[.slice a l.length cap, .int .i64 x, .string (bA key), .func (.func F) #[] cp, .slice ka kl.length kc] w fun e w' => e = .returned (.agg #[.bool false, .bool false, .int .i64 0]) ∧ Below w.heap.size w w' := by
  have HN := Lib.hid (jfind_at (cap := cap) (v := ((k : Nat) : Int)) w hl hin hsz h0 h1 hf rfl)
  have B0 := Lib.hid (alloc_below w (.cells #[.bool false, .bool false, .int .i64 0] 41))
  have F0 := Lib.hid (FdT.new w 41 (.bool false) false 0)
  obtain ⟨hk, -⟩ := fdL_at hsz hf
  obtain ⟨g, rfl, hg, c0, -⟩ := hin k hk
  rw [← kn_at hk] at c0
  have q1 : (k : Int) < (l.length : Int) := by omega
  have q2 : (0 : Int) ≤ (k : Int) := by omega
  have q0 : decide ((k : Int) < 0) = false := decide_eq_false (by omega)
  have r1 : (((knL l k).toNat : Int) == 122) = true := by rw [hz]; rfl
  generalize knL l k = y at *
  clear hin hsz hf h0 h1 hz hk
  go_enter Tryz.func29, Tryz.ntmps29
  go_wp2_with fail
  generalize w.alloc (.cells #[.bool false, .bool false, .int .i64 0] 41) = w0 at *
  with_reducible refine (HN.out w0 B0.out).mono ?_
  rintro e w1 ⟨rfl, b1⟩
  have B1 := Lib.hid (B0.out.trans (b1.mono B0.out.size))
  have f1 := F0.out.below b1
  clear b1 HN
  have c1 := (B1.out.cell (p := ⟨g, k * 4, none⟩) hg).trans c0
  clear c0
  have HX := Lib.hid (f1.setAll (.bool false) false 0)
  have HB := Lib.hid (set3_below B1.out (Nat.le_refl _) (.bool false) (.bool false) (.int .i64 0))
  have a0 := f1.c0; have a1 := f1.c1; have a2 := f1.c2; have af := f1.fr
  clear f1
  go_wp2
  refine bodyPost_ret (fd_resultB Tryz.results29 HX.out rfl) rfl ?_
  exact ⟨rfl, HB.out⟩
set_option maxRecDepth 20000 in
set_option maxHeartbeats 2000000 in
theorem pickB_other (a : Option Addr) (cap : Nat) (l : List ND) (x : Int) (key : List UInt8) (F : FuncId) (cp : Array Value) (ka : Option Addr) (kc : Nat) (kl : List UInt8) (w : World) (hl : l.length ≤ 1099511627776) (hin : NIn w a l) (hsz : SzOk l) (h0 : -9223372036854775808 ≤ x) (h1 : x ≤ 9223372036854775807) (k : Nat) (hf : fdL l x key = some k) (hz : ¬ knL l k = 122) (hkl : kl.length ≤ 1000) (hki : BIn w ka kl) (hc : kl.contains (knL l k) = false) :
    Calls Tryz.prog 29 #[.slice a l.length cap, .int .i64 x, .string (bA key), .func (.func F) #[] cp, .slice ka kl.length kc] w fun e w' => e = .returned (.agg #[.bool false, .bool false, .int .i64 7]) ∧ Below w.heap.size w w' := by
  have HN := Lib.hid (jfind_at (cap := cap) (v := ((k : Nat) : Int)) w hl hin hsz h0 h1 hf rfl)
  have B0 := Lib.hid (alloc_below w (.cells #[.bool false, .bool false, .int .i64 0] 41))
  have F0 := Lib.hid (FdT.new w 41 (.bool false) false 0)
  obtain ⟨hk, -⟩ := fdL_at hsz hf
  obtain ⟨g, rfl, hg, c0, -⟩ := hin k hk
  rw [← kn_at hk] at c0
  have q1 : (k : Int) < (l.length : Int) := by omega
  have q2 : (0 : Int) ≤ (k : Int) := by omega
  have q0 : decide ((k : Int) < 0) = false := decide_eq_false (by omega)
  have HC := Lib.hid (show ∀ wx, Below w.heap.size w wx → Calls Tryz.prog 46 #[.slice ka kl.length kc, .int .u8 ((knL l k).toNat : Int)] wx fun e w' => e = .returned (.bool false) ∧ w' = wx from fun wx hb => scont_any (knL l k) ka kc kl false wx hkl (hki.later hb) hc)
  have r1 : (((knL l k).toNat : Int) == 122) = false := (eq8 (knL l k) 122).trans (decide_eq_false hz)
  generalize knL l k = y at *
  clear hin hsz hf h0 h1 hz hk hki hc
  go_enter Tryz.func29, Tryz.ntmps29
  go_wp2_with fail
  generalize w.alloc (.cells #[.bool false, .bool false, .int .i64 0] 41) = w0 at *
  with_reducible refine (HN.out w0 B0.out).mono ?_
  rintro e w1 ⟨rfl, b1⟩
  have B1 := Lib.hid (B0.out.trans (b1.mono B0.out.size))
  have f1 := F0.out.below b1
  clear b1 HN
  have c1 := (B1.out.cell (p := ⟨g, k * 4, none⟩) hg).trans c0
  go_wp2_with fail
  with_reducible refine (HC.out w1 B1.out).mono ?_
  rintro e w2 ⟨rfl, rfl⟩
  have HX := Lib.hid (f1.setAll (.bool false) false 7)
  have HB := Lib.hid (set3_below B1.out (Nat.le_refl _) (.bool false) (.bool false) (.int .i64 7))
  have a0 := f1.c0; have a1 := f1.c1; have a2 := f1.c2; have af := f1.fr
  clear f1
  go_wp2
  refine bodyPost_ret (fd_resultB Tryz.results29 HX.out rfl) rfl ?_
  exact ⟨rfl, HB.out⟩
set_option maxRecDepth 20000 in
set_option maxHeartbeats 2000000 in
theorem pickB_told (a : Option Addr) (cap : Nat) (l : List ND) (x : Int) (key : List UInt8) (p : Nat) (ka : Option Addr) (kc : Nat) (kl : List UInt8) (w : World) (hl : l.length ≤ 1099511627776) (hin : NIn w a l) (hsz : SzOk l) (h0 : -9223372036854775808 ≤ x) (h1 : x ≤ 9223372036854775807) (k : Nat) (hf : fdL l x key = some k) (hz : ¬ knL l k = 122) (hkl : kl.length ≤ 1000) (hki : BIn w ka kl) (hc : kl.contains (knL l k) = true) (v : Bool) (hF : ∀ wx, Below w.heap.size w wx → Calls Tryz.prog 30 #[.int .i64 (k : Nat), .pointer (some ⟨p, 0, none⟩)] wx fun e w' => e = .returned (.tuple #[.bool v, .int .i64 0]) ∧ Below wx.heap.size wx w') :
    Calls Tryz.prog 29 #[.slice a l.length cap, .int .i64 x, .string (bA key), .func (.func 30) #[] #[.pointer (some ⟨p, 0, none⟩)], .slice ka kl.length kc] w fun e w' => e = .returned (.agg #[.bool v, .bool true, .int .i64 0]) ∧ Below w.heap.size w w' := by
  have HN := Lib.hid (jfind_at (cap := cap) (v := ((k : Nat) : Int)) w hl hin hsz h0 h1 hf rfl)
  have B0 := Lib.hid (alloc_below w (.cells #[.bool false, .bool false, .int .i64 0] 41))
  have F0 := Lib.hid (FdT.new w 41 (.bool false) false 0)
  obtain ⟨hk, -⟩ := fdL_at hsz hf
  obtain ⟨g, rfl, hg, c0, -⟩ := hin k hk
  rw [← kn_at hk] at c0
  have q1 : (k : Int) < (l.length : Int) := by omega
  have q2 : (0 : Int) ≤ (k : Int) := by omega
  have q0 : decide ((k : Int) < 0) = false := decide_eq_false (by omega)
  have HC := Lib.hid (show ∀ wx, Below w.heap.size w wx → Calls Tryz.prog 46 #[.slice ka kl.length kc, .int .u8 ((knL l k).toNat : Int)] wx fun e w' => e = .returned (.bool true) ∧ w' = wx from fun wx hb => scont_any (knL l k) ka kc kl true wx hkl (hki.later hb) hc)
  have r1 : (((knL l k).toNat : Int) == 122) = false := (eq8 (knL l k) 122).trans (decide_eq_false hz)
  generalize knL l k = y at *
  have HF := Lib.hid hF
  clear hin hsz hf h0 h1 hz hk hki hc hF
  go_enter Tryz.func29, Tryz.ntmps29
  go_wp2_with fail
  generalize w.alloc (.cells #[.bool false, .bool false, .int .i64 0] 41) = w0 at *
  with_reducible refine (HN.out w0 B0.out).mono ?_
  rintro e w1 ⟨rfl, b1⟩
  have B1 := Lib.hid (B0.out.trans (b1.mono B0.out.size))
  have f1 := F0.out.below b1
  clear b1 HN
  have c1 := (B1.out.cell (p := ⟨g, k * 4, none⟩) hg).trans c0
  go_wp2_with fail
  with_reducible refine (HC.out w1 B1.out).mono ?_
  rintro e w2 ⟨rfl, rfl⟩
  go_wp2_with fail
  with_reducible refine (HF.out w2 B1.out).mono ?_
  rintro e w3 ⟨rfl, b3⟩
  have B3 := Lib.hid (B1.out.trans (b3.mono B1.out.size))
  have f3 := f1.below b3
  clear b3 f1 c1
  have HX := Lib.hid (f3.setAll (.bool v) true 0)
  have HB := Lib.hid (set3_below B3.out (Nat.le_refl _) (.bool v) (.bool true) (.int .i64 0))
  have a0 := f3.c0; have a1 := f3.c1; have a2 := f3.c2; have af := f3.fr
  clear f3
  go_wp2
  refine bodyPost_ret (fd_resultB Tryz.results29 HX.out rfl) rfl ?_
  exact ⟨rfl, HB.out⟩
set_option maxRecDepth 20000 in
set_option maxHeartbeats 2000000 in
theorem pickL_none (a : Option Addr) (cap : Nat) (l : List ND) (x : Int) (key : List UInt8) (F : FuncId) (cp : Array Value) (ka : Option Addr) (kc : Nat) (kl : List UInt8) (w : World) (hl : l.length ≤ 1099511627776) (hin : NIn w a l) (hsz : SzOk l) (h0 : -9223372036854775808 ≤ x) (h1 : x ≤ 9223372036854775807) (hf : fdL l x key = none) :
    Calls Tryz.prog 33 #[.slice a l.length cap, .int .i64 x, .string (bA key), .func (.func F) #[] cp, .slice ka kl.length kc] w fun e w' => e = .returned (.agg #[.slice none 0 0, .bool false, .int .i64 0]) ∧ Below w.heap.size w w' := by
  have HN := Lib.hid (jfind_at (cap := cap) (v := -1) w hl hin hsz h0 h1 hf rfl)
  have B0 := Lib.hid (alloc_below w (.cells #[.slice none 0 0, .bool false, .int .i64 0] 51))
  have F0 := Lib.hid (FdT.new w 51 (.slice none 0 0) false 0)
  clear hin hsz hf h0 h1 hl
  go_enter Tryz.func33, Tryz.ntmps33
  go_wp2_with fail
  generalize w.alloc (.cells #[.slice none 0 0, .bool false, .int .i64 0] 51) = w0 at *
  with_reducible refine (HN.out w0 B0.out).mono ?_
  rintro e w1 ⟨rfl, b1⟩
  have B1 := Lib.hid (B0.out.trans (b1.mono B0.out.size))
  have f1 := F0.out.below b1
  clear b1 HN
  have HX := Lib.hid (f1.setAll (.slice none 0 0) false 0)
  have HB := Lib.hid (set3_below B1.out (Nat.le_refl _) (.slice none 0 0) (.bool false) (.int .i64 0))
  have a0 := f1.c0; have a1 := f1.c1; have a2 := f1.c2; have af := f1.fr
  clear f1
  go_wp2
  refine bodyPost_ret (fd_resultL Tryz.results33 HX.out rfl) rfl ?_
  exact ⟨rfl, HB.out⟩
set_option maxRecDepth 20000 in
set_option maxHeartbeats 2000000 in
theorem pickL_null (a : Option Addr) (cap : Nat) (l : List ND) (x : Int) (key : List UInt8) (F : FuncId) (cp : Array Value) (ka : Option Addr) (kc : Nat) (kl : List UInt8) (w : World) (hl : l.length ≤ 1099511627776) (hin : NIn w a l) (hsz : SzOk l) (h0 : -9223372036854775808 ≤ x) (h1 : x ≤ 9223372036854775807) (k : Nat) (hf : fdL l x key = some k) (hz : knL l k = 122) :
    Calls Tryz.prog 33 #[.slice a l.length cap, .int .i64 x, .string (bA key), .func (.func F) #[] cp, .slice ka kl.length kc] w fun e w' => e = .returned (.agg #[.slice none 0 0, .bool false, .int .i64 0]) ∧ Below w.heap.size w w' := by
  have HN := Lib.hid (jfind_at (cap := cap) (v := ((k : Nat) : Int)) w hl hin hsz h0 h1 hf rfl)
  have B0 := Lib.hid (alloc_below w (.cells #[.slice none 0 0, .bool false, .int .i64 0] 51))
  have F0 := Lib.hid (FdT.new w 51 (.slice none 0 0) false 0)
  obtain ⟨hk, -⟩ := fdL_at hsz hf
  obtain ⟨g, rfl, hg, c0, -⟩ := hin k hk
  rw [← kn_at hk] at c0
  have q1 : (k : Int) < (l.length : Int) := by omega
  have q2 : (0 : Int) ≤ (k : Int) := by omega
  have q0 : decide ((k : Int) < 0) = false := decide_eq_false (by omega)
  have r1 : (((knL l k).toNat : Int) == 122) = true := by rw [hz]; rfl
  generalize knL l k = y at *
  clear hin hsz hf h0 h1 hz hk
  go_enter Tryz.func33, Tryz.ntmps33
  go_wp2_with fail
  generalize w.alloc (.cells #[.slice none 0 0, .bool false, .int .i64 0] 51) = w0 at *
  with_reducible refine (HN.out w0 B0.out).mono ?_
  rintro e w1 ⟨rfl, b1⟩
  have B1 := Lib.hid (B0.out.trans (b1.mono B0.out.size))
  have f1 := F0.out.below b1
  clear b1 HN
  have c1 := (B1.out.cell (p := ⟨g, k * 4, none⟩) hg).trans c0
  clear c0
  have HX := Lib.hid (f1.setAll (.slice none 0 0) false 0)
  have HB := Lib.hid (set3_below B1.out (Nat.le_refl _) (.slice none 0 0) (.bool false) (.int .i64 0))
  have a0 := f1.c0; have a1 := f1.c1; have a2 := f1.c2; have af := f1.fr
  clear f1
  go_wp2
  refine bodyPost_ret (fd_resultL Tryz.results33 HX.out rfl) rfl ?_
  exact ⟨rfl, HB.out⟩
set_option maxRecDepth 20000 in
set_option maxHeartbeats 2000000 in
theorem pickL_other (a : Option Addr) (cap : Nat) (l : List ND) (x : Int) (key : List UInt8) (F : FuncId) (cp : Array Value) (ka : Option Addr) (kc : Nat) (kl : List UInt8) (w : World) (hl : l.length ≤ 1099511627776) (hin : NIn w a l) (hsz : SzOk l) (h0 : -9223372036854775808 ≤ x) (h1 : x ≤ 9223372036854775807) (k : Nat) (hf : fdL l x key = some k) (hz : ¬ knL l k = 122) (hkl : kl.length ≤ 1000) (hki : BIn w ka kl) (hc : kl.contains (knL l k) = false) :
    Calls Tryz.prog 33 #[.slice a l.length cap, .int .i64 x, .string (bA key), .func (.func F) #[] cp, .slice ka kl.length kc] w fun e w' => e = .returned (.agg #[.slice none 0 0, .bool false, .int .i64 7]) ∧ Below w.heap.size w w' := by
  have HN := Lib.hid (jfind_at (cap := cap) (v := ((k : Nat) : Int)) w hl hin hsz h0 h1 hf rfl)
  have B0 := Lib.hid (alloc_below w (.cells #[.slice none 0 0, .bool false, .int .i64 0] 51))
  have F0 := Lib.hid (FdT.new w 51 (.slice none 0 0) false 0)
  obtain ⟨hk, -⟩ := fdL_at hsz hf
  obtain ⟨g, rfl, hg, c0, -⟩ := hin k hk
  rw [← kn_at hk] at c0
  have q1 : (k : Int) < (l.length : Int) := by omega
  have q2 : (0 : Int) ≤ (k : Int) := by omega
  have q0 : decide ((k : Int) < 0) = false := decide_eq_false (by omega)
  have HC := Lib.hid (show ∀ wx, Below w.heap.size w wx → Calls Tryz.prog 46 #[.slice ka kl.length kc, .int .u8 ((knL l k).toNat : Int)] wx fun e w' => e = .returned (.bool false) ∧ w' = wx from fun wx hb => scont_any (knL l k) ka kc kl false wx hkl (hki.later hb) hc)
  have r1 : (((knL l k).toNat : Int) == 122) = false := (eq8 (knL l k) 122).trans (decide_eq_false hz)
  generalize knL l k = y at *
  clear hin hsz hf h0 h1 hz hk hki hc
  go_enter Tryz.func33, Tryz.ntmps33
  go_wp2_with fail
  generalize w.alloc (.cells #[.slice none 0 0, .bool false, .int .i64 0] 51) = w0 at *
  with_reducible refine (HN.out w0 B0.out).mono ?_
  rintro e w1 ⟨rfl, b1⟩
  have B1 := Lib.hid (B0.out.trans (b1.mono B0.out.size))
  have f1 := F0.out.below b1
  clear b1 HN
  have c1 := (B1.out.cell (p := ⟨g, k * 4, none⟩) hg).trans c0
  go_wp2_with fail
  with_reducible refine (HC.out w1 B1.out).mono ?_
  rintro e w2 ⟨rfl, rfl⟩
  have HX := Lib.hid (f1.setAll (.slice none 0 0) false 7)
  have HB := Lib.hid (set3_below B1.out (Nat.le_refl _) (.slice none 0 0) (.bool false) (.int .i64 7))
  have a0 := f1.c0; have a1 := f1.c1; have a2 := f1.c2; have af := f1.fr
  clear f1
  go_wp2
  refine bodyPost_ret (fd_resultL Tryz.results33 HX.out rfl) rfl ?_
  exact ⟨rfl, HB.out⟩
set_option maxRecDepth 20000 in
set_option maxHeartbeats 2000000 in
theorem pickL_told (a : Option Addr) (cap : Nat) (l : List ND) (x : Int) (key : List UInt8) (p : Nat) (ka : Option Addr) (kc : Nat) (kl : List UInt8) (w : World) (hl : l.length ≤ 1099511627776) (hin : NIn w a l) (hsz : SzOk l) (h0 : -9223372036854775808 ≤ x) (h1 : x ≤ 9223372036854775807) (k : Nat) (hf : fdL l x key = some k) (hz : ¬ knL l k = 122) (hkl : kl.length ≤ 1000) (hki : BIn w ka kl) (hc : kl.contains (knL l k) = true) (L : List Nat) (hF : ∀ wx, Below w.heap.size w wx → Calls Tryz.prog 34 #[.int .i64 (k : Nat), .pointer (some ⟨p, 0, none⟩)] wx fun e w' => ∃ v, e = .returned (.tuple #[v, .int .i64 0]) ∧ IRow w' wx.heap.size v L ∧ Below wx.heap.size wx w') :
    Calls Tryz.prog 33 #[.slice a l.length cap, .int .i64 x, .string (bA key), .func (.func 34) #[] #[.pointer (some ⟨p, 0, none⟩)], .slice ka kl.length kc] w fun e w' => ∃ v, e = .returned (.agg #[v, .bool true, .int .i64 0]) ∧ IRow w' w.heap.size v L ∧ Below w.heap.size w w' := by
  have HN := Lib.hid (jfind_at (cap := cap) (v := ((k : Nat) : Int)) w hl hin hsz h0 h1 hf rfl)
  have B0 := Lib.hid (alloc_below w (.cells #[.slice none 0 0, .bool false, .int .i64 0] 51))
  have F0 := Lib.hid (FdT.new w 51 (.slice none 0 0) false 0)
  obtain ⟨hk, -⟩ := fdL_at hsz hf
  obtain ⟨g, rfl, hg, c0, -⟩ := hin k hk
  rw [← kn_at hk] at c0
  have q1 : (k : Int) < (l.length : Int) := by omega
  have q2 : (0 : Int) ≤ (k : Int) := by omega
  have q0 : decide ((k : Int) < 0) = false := decide_eq_false (by omega)
  have HC := Lib.hid (show ∀ wx, Below w.heap.size w wx → Calls Tryz.prog 46 #[.slice ka kl.length kc, .int .u8 ((knL l k).toNat : Int)] wx fun e w' => e = .returned (.bool true) ∧ w' = wx from fun wx hb => scont_any (knL l k) ka kc kl true wx hkl (hki.later hb) hc)
  have r1 : (((knL l k).toNat : Int) == 122) = false := (eq8 (knL l k) 122).trans (decide_eq_false hz)
  generalize knL l k = y at *
  have HF := Lib.hid hF
  clear hin hsz hf h0 h1 hz hk hki hc hF
  go_enter Tryz.func33, Tryz.ntmps33
  go_wp2_with fail
  generalize w.alloc (.cells #[.slice none 0 0, .bool false, .int .i64 0] 51) = w0 at *
  with_reducible refine (HN.out w0 B0.out).mono ?_
  rintro e w1 ⟨rfl, b1⟩
  have B1 := Lib.hid (B0.out.trans (b1.mono B0.out.size))
  have f1 := F0.out.below b1
  clear b1 HN
  have c1 := (B1.out.cell (p := ⟨g, k * 4, none⟩) hg).trans c0
  go_wp2_with fail
  with_reducible refine (HC.out w1 B1.out).mono ?_
  rintro e w2 ⟨rfl, rfl⟩
  go_wp2_with fail
  with_reducible refine (HF.out w2 B1.out).mono ?_
  rintro e w3 ⟨v, rfl, hv, b3⟩
  have B3 := Lib.hid (B1.out.trans (b3.mono B1.out.size))
  have f3 := f1.below b3
  have HV := Lib.hid ((irow_set hv (lt_of_block f1) v (.bool true) (.int .i64 0)).base B1.out.size)
  obtain ⟨va, vc, rfl, -⟩ := hv.inn
  clear b3 f1 c1 hv
  have HX := Lib.hid (f3.setAll (.slice va L.length vc) true 0)
  have HB := Lib.hid (set3_below B3.out (Nat.le_refl _) (.slice va L.length vc) (.bool true) (.int .i64 0))
  have a0 := f3.c0; have a1 := f3.c1; have a2 := f3.c2; have af := f3.fr
  clear f3
  go_wp2
  refine bodyPost_ret (fd_resultL Tryz.results33 HX.out rfl) rfl ?_
  exact ⟨_, rfl, HV.out, HB.out⟩
end Go.Proofs.YtmkcfilgiehjaaaGreatDoor
