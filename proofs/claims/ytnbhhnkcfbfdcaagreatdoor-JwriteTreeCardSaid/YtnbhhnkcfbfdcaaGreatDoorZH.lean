/- Several texts in one (DLib, DPut): each begins with its own words. -/
import Derived.Test.YtnbhhnkcfbfdcaaGreatDoorShelf
import Derived.Test.YtnbhhnkcfbfdcaaGreatDoorZC
import Derived.Test.YtnbhhnkcfbfdcaaGreatDoorZA
import Derived.Lib.AppendIntMem
import Derived.Sort.Grow
import Derived.Test.YtnbhhnkcfbfdcaaGreatDoorApp
/- What package deci calls of the library: a number's digits (Itoa, FormatUint at base 10), CutPrefix. -/
namespace Go.Proofs.YtnbhhnkcfbfdcaaGreatDoor
open Go Go.RowKit Go.Sort
set_option linter.unusedVariables false

/-- The library's table of the powers of 10 stands as its text lays it. -/
def P10 (w : World) : Prop := Lib.TabIs Tryz.prog w "internal/strconv.uint64pow10" .u64 Lib.pow10Tab
theorem P10.below {w w' : World} (h : P10 w) (hb : Below w.heap.size w w') : P10 w' := Lib.tabBelow_of_tabIs h w' hb
theorem itoa_any (n : Int) (h0 : -9223372036854775808 ≤ n) (h1 : n ≤ 9223372036854775807) (w : World) (ht : P10 w) :
    Calls Tryz.prog 62 #[.int .i64 n] w fun e w' => e = .returned (.string (bA (Lib.itoa n))) ∧ Below w.heap.size w w' := by
  refine (Any.strconv_Itoa itoaL n h0 h1 w ht).mono ?_
  rintro e w' ⟨rfl, k, os, rfl⟩
  exact ⟨rfl, Lib.below_grow _ w (Nat.le_refl _) k os⟩

/-- The new block's bytes from its head on are a row of zeros. -/
theorem holds_zero0 (w : World) (T : TypeId) (nd : Nat) (hs : nd ≤ 24) : Go.Sort.Holds (fun (b : UInt8) => Value.int .u8 (b.toNat : Int)) (w.alloc (.cells Lib.zeros24 T)) w.heap.size 0 (Array.replicate nd (0 : UInt8)) := fun j hj => by
  have hj' : j < nd := by simpa using hj
  refine ⟨?_, World.frozen?_alloc_new _ _ _ _⟩
  rw [World.cell?_alloc_new, Lib.zeros24_at _ (by omega), getElem!_pos _ j hj]
  simp
theorem fin_pos0 (w : World) (o : Obj) (dk : Array UInt8) (k : Nat) : ∃ os, (putRow (fun (b : UInt8) => Value.int .u8 (b.toNat : Int)) (w.alloc o) w.heap.size 0 dk).drewN k = grow (w.drewN k) os := by
  rw [alloc_eq_grow]
  obtain ⟨os', _, e⟩ := putRow_grow_new (fun (b : UInt8) => Value.int .u8 (b.toNat : Int)) w #[o] w.heap.size 0 dk (Nat.le_refl _)
  exact ⟨os', by rw [e]; rfl⟩
end Go.Proofs.YtnbhhnkcfbfdcaaGreatDoor
/- Package deci's behind, PutU, Put. -/
namespace Go.Proofs.YtnbhhnkcfbfdcaaGreatDoor
open Go Go.RowKit
set_option linter.unusedVariables false

set_option maxRecDepth 20000 in
theorem dbehind (a : Option Addr) (cap : Nat) (l m : List UInt8) (w : World) (hl : l.length + m.length ≤ 140737488355000) (hin : BIn w a l) :
    Calls Tryz.prog 61 #[.slice a l.length cap, .string (bA m)] w fun e w' => ∃ v, e = .returned v ∧ Bts 5 w' w.heap.size v (l ++ m) ∧ Below w.heap.size w w' := by
  obtain ⟨i0, hi, hz0, hz1, hz2⟩ := info_parts info8
  obtain ⟨n, hn⟩ : ∃ n, n = m.length := ⟨_, rfl⟩
  have hsz : (bA m).size = n := by rw [bA_size, hn]
  have hmk := Lib.hid (fun w => make_bytes l.length n w (by omega))
  obtain ⟨w2, hcp0, hbt, hbel⟩ := copy_fact Tryz.prog 43 5 3 i0 Tryz.underlying43 size8 w a cap n l hin (by unfold maxLen; omega)
  have hcp := Lib.hid hcp0
  have hw : IntKind.i64.wrap ((l.length : Int) + (n : Int)) = (l.length : Int) + (n : Int) := IntWalk.i64_in _ (by omega)
  have hM := Lib.hid (And.intro hn hsz)
  have hbt2 := Lib.hid hbt
  have hbel2 := Lib.hid hbel
  have hdt : (bA m).data.toList = m := by simp [bA]
  have hdt2 := Lib.hid hdt
  generalize bA m = s at *
  clear hin hcp0 hn hbt hbel hdt
  go_enter Tryz.func61, Tryz.ntmps61
  go_wp2_with fail
  rw [hmk.out]
  go_wp2_with fail
  rw [hcp.out]
  go_wp2_with (at_builtin; go_loud (refine wpList_append_text rfl (.tmp 17) (.tmp 18) 43 9 rfl 5 i0 Tryz.underlying43 Tryz.underlying9 hi hz0 hz1 hz2 _ w _ w.heap.size l s hbt2.out hbel2.out hbel2.out.size rfl rfl (by rw [hM.out.2]; have := hM.out.1; omega) ?_; intro v' w' hb' hbel'))
  go_ret
  refine ⟨_, rfl, ?_, hbel'⟩
  rw [hdt2.out] at hb'
  exact hb'
set_option maxRecDepth 20000 in
theorem dput_any (a : Option Addr) (cap : Nat) (l : List UInt8) (n : Int) (w : World) (h0 : -9223372036854775808 ≤ n) (h1 : n ≤ 9223372036854775807) (hl : l.length ≤ 140737488354000) (hin : BIn w a l) (ht : P10 w) :
    Calls Tryz.prog 40 #[.slice a l.length cap, .int .i64 n] w fun e w' => ∃ v, e = .returned v ∧ Bts 5 w' w.heap.size v (l ++ Lib.itoa n) ∧ Below w.heap.size w w' := by
  have HF := Lib.hid (itoa_any n h0 h1 w ht)
  have hlen := itoa_len n h0 h1
  have HB := Lib.hid (fun w' (hb : Below w.heap.size w w') => dbehind a cap l (Lib.itoa n) w' (by omega) (hin.below hb))
  clear hin hlen
  go_enter Tryz.func40, Tryz.ntmps40
  go_wp2_with (first
    | (go_at_call 62; refine HF.out.mono ?_; rintro e w1 ⟨rfl, hb1⟩)
    | (go_at_call 61; refine (HB.out _ hb1).mono ?_; rintro e w2 ⟨v, rfl, hv, hb2⟩))
  go_ret
  exact ⟨_, rfl, hv.base hb1.size, below_on hb1 hb2 hb1.size⟩
end Go.Proofs.YtnbhhnkcfbfdcaaGreatDoor
