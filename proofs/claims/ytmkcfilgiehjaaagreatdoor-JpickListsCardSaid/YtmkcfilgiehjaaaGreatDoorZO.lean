/- Several texts in one (DLib, DPut, DWorth, DRead): each begins with its own words. -/
import Derived.Test.YtmkcfilgiehjaaaGreatDoorShelf
import Derived.Test.YtmkcfilgiehjaaaGreatDoorZC
import Derived.Test.YtmkcfilgiehjaaaGreatDoorZA
import Derived.Lib.AppendIntMem
import Derived.Sort.Grow
import Derived.Test.YtmkcfilgiehjaaaGreatDoorZI
/- What package deci calls of the library: a number's digits (Itoa, FormatUint at base 10), CutPrefix. -/
namespace Go.Proofs.YtmkcfilgiehjaaaGreatDoor
open Go Go.RowKit Go.Sort
set_option linter.unusedVariables false

/-- The library's table of the powers of 10 stands as its text lays it. -/
def P10 (w : World) : Prop := Lib.TabIs Tryz.prog w "internal/strconv.uint64pow10" .u64 Lib.pow10Tab
theorem P10.below {w w' : World} (h : P10 w) (hb : Below w.heap.size w w') : P10 w' := Lib.tabBelow_of_tabIs h w' hb
theorem cut_prefix (s p : ByteArray) (w : World) : Calls Tryz.prog 49 #[.string s, .string p] w fun e w' => e = .returned (.tuple #[.string (bA (Lib.trimPrefix s.data.toList p.data.toList)), .bool (Lib.hasPrefix s.data.toList p.data.toList)]) ∧ w' = w :=
  Any.strings_CutPrefix cutPrefixL s p w

/-- The new block's bytes from its head on are a row of zeros. -/
theorem holds_zero0 (w : World) (T : TypeId) (nd : Nat) (hs : nd ≤ 24) : Go.Sort.Holds (fun (b : UInt8) => Value.int .u8 (b.toNat : Int)) (w.alloc (.cells Lib.zeros24 T)) w.heap.size 0 (Array.replicate nd (0 : UInt8)) := fun j hj => by
  have hj' : j < nd := by simpa using hj
  refine ⟨?_, World.frozen?_alloc_new _ _ _ _⟩
  rw [World.cell?_alloc_new, Lib.zeros24_at _ (by omega), getElem!_pos _ j hj]
  simp
theorem fin_pos0 (w : World) (o : Obj) (dk : Array UInt8) (k : Nat) : ∃ os, (putRow (fun (b : UInt8) => Value.int .u8 (b.toNat : Int)) (w.alloc o) w.heap.size 0 dk).drewN k = grow (w.drewN k) os := by
  rw [alloc_eq_grow]
  obtain ⟨os', _, e⟩ := putRow_grow_new (fun (b : UInt8) => Value.int .u8 (b.toNat : Int)) w #[o] w.heap.size 0 dk (Nat.le_refl _)
  exact ⟨os', by rw [e]; rfl⟩
end Go.Proofs.YtmkcfilgiehjaaaGreatDoor
/- Package deci's behind, PutU, Put. -/
namespace Go.Proofs.YtmkcfilgiehjaaaGreatDoor
open Go Go.RowKit
set_option linter.unusedVariables false

end Go.Proofs.YtmkcfilgiehjaaaGreatDoor
/- Package deci's plain, worth, read, ReadU, Read. -/
namespace Go.Proofs.YtmkcfilgiehjaaaGreatDoor
open Go Go.RowKit
set_option linter.unusedVariables false

theorem dok_not0 {s : ByteArray} (h : s.size = 0) : decide (DOK s.data.toList) = false := decide_eq_false fun hd => hd.1 (List.eq_nil_of_length_eq_zero (by rw [toList_size]; exact h))
theorem dok_zero {s : ByteArray} (h : 0 < s.size) (h48 : s[0].toNat = 48) (h1 : 1 < s.size) : decide (DOK s.data.toList) = false := decide_eq_false fun hd => by
  have h' : 0 < s.data.toList.length := by rw [toList_size]; exact h
  have e : s.data.toList.head? = some 48 := by
    rw [List.head?_eq_getElem?, List.getElem?_eq_getElem h', byte_at s 0 h h']
    exact congrArg some (UInt8.toNat_inj.mp (by rw [h48]; rfl))
  have := hd.2.2 e
  rw [toList_size] at this; omega
theorem dok_all {s : ByteArray} (h : 0 < s.size) (hn : ¬ (s[0].toNat = 48 ∧ 1 < s.size)) : decide (DOK s.data.toList) = s.data.toList.all dIs := by
  have h' : 0 < s.data.toList.length := by rw [toList_size]; exact h
  rw [Bool.eq_iff_iff, decide_eq_true_iff]
  refine ⟨fun hd => hd.2.1, fun ha => ⟨fun e => by rw [e] at h'; exact absurd h' (Nat.lt_irrefl 0), ha, fun e => ?_⟩⟩
  rw [List.head?_eq_getElem?, List.getElem?_eq_getElem h', byte_at s 0 h h'] at e
  have e2 : s[0].toNat = 48 := by rw [Option.some.inj e]; rfl
  rw [toList_size]
  rcases Nat.lt_or_ge 1 s.size with h1 | h1
  · exact absurd ⟨e2, h1⟩ hn
  · omega
theorem all_take {s : ByteArray} {k : Nat} (h : k < s.size) (hk : (s.data.toList.take k).all dIs = true) (hd : 48 ≤ s[k].toNat ∧ s[k].toNat ≤ 57) : (s.data.toList.take (k + 1)).all dIs = true := by
  have h' : k < s.data.toList.length := by rw [toList_size]; exact h
  rw [List.take_succ_eq_append_getElem h', List.all_append, hk, byte_at s k h h', List.all_cons, List.all_nil, Bool.and_true, Bool.true_and]
  exact dIs_iff.mpr hd
theorem all_not {s : ByteArray} {k : Nat} (h : k < s.size) (hd : ¬ (48 ≤ s[k].toNat ∧ s[k].toNat ≤ 57)) : s.data.toList.all dIs = false := by
  have h' : k < s.data.toList.length := by rw [toList_size]; exact h
  rw [Bool.eq_false_iff]
  intro ha
  have := List.all_eq_true.mp ha _ (List.getElem_mem h')
  rw [byte_at s k h h'] at this
  exact hd (dIs_iff.mp this)
theorem take_all (s : ByteArray) : s.data.toList.take s.size = s.data.toList := List.take_of_length_le (by rw [toList_size]; exact Nat.le_refl _)
def DPlainRel (s : ByteArray) (w : World) (x i : Value) (wr : World) : Prop := ∃ k : Nat, x = .bool false ∧ i = .int .i64 k ∧ k ≤ s.size ∧ wr = w ∧ Hid ((s.data.toList.take k).all dIs = true)
set_option maxRecDepth 20000 in
theorem dplain (s : ByteArray) (w : World) (hs : s.size ≤ 1125899906842624) :
    Calls Tryz.prog 119 #[.string s] w fun e w' => e = .returned (.bool (decide (DOK s.data.toList))) ∧ w' = w := by
  by_cases h0 : s.size = 0
  · have pE : s.toList.isEmpty = true := by rw [isEmpty_of]; exact decide_eq_true h0
    have HD := Lib.hid (dok_not0 h0)
    clear h0
    go_enter Tryz.func119, Tryz.ntmps119
    go_wp2
    go_ret
    exact ⟨by rw [HD.out]; rfl, rfl⟩
  · have pE : s.toList.isEmpty = false := by rw [isEmpty_of]; exact decide_eq_false h0
    have iz : (0 : Int) < (s.size : Int) := by omega
    have hj : 0 < s.size := by omega
    have HZ := Lib.hid (fun h48 h1 => dok_zero hj h48 h1)
    have HA := Lib.hid (fun hn => dok_all hj hn)
    obtain ⟨D, hD⟩ : ∃ D, D = s[0].toNat := ⟨_, rfl⟩
    have hDi : (s[0].toNat : Int) = (D : Int) := by omega
    rw [← hD] at HZ HA
    clear hD
    go_enter Tryz.func119, Tryz.ntmps119
    go_wp2_with fail
    · go_ret
      exact ⟨by rw [HZ.out (by omega) (by omega)]; rfl, rfl⟩
    all_goals (
      have HA2 := Lib.hid (HA.out (by omega))
      clear HA HZ
      go_loopw [2, 18] (fun x i wr => DPlainRel s w x i wr) (fun _ i _ => s.size + 1 - (intOf i).toNat)
      case atStart => exact ⟨0, rfl, rfl, Nat.zero_le _, rfl, Lib.hid rfl⟩
      case round =>
        obtain ⟨k, rfl, rfl, hk, hww, hal⟩ := hrel
        rw [hww]
        clear hww
        by_cases hlt : k < s.size
        · have p1 : decide ((k : Int) < (s.size : Int)) = true := decide_eq_true (by omega)
          have hk0 : (0 : Int) ≤ (k : Int) := by omega
          have hk1 : (k : Int) < (s.size : Int) := by omega
          have y4 : IntKind.i64.wrap ((k : Int) + 1) = (k : Int) + 1 := i64_small (by omega) (by omega)
          by_cases hd : 48 ≤ s[k].toNat ∧ s[k].toNat ≤ 57
          · have HT := Lib.hid (all_take hlt hal.out hd)
            obtain ⟨B, hB⟩ : ∃ B, B = s[k].toNat := ⟨_, rfl⟩
            have hBi : (s[k].toNat : Int) = (B : Int) := by omega
            rw [← hB] at hd
            have q1 : decide ((B : Int) < 48) = false := decide_eq_false (by omega)
            have q2 : decide (57 < (B : Int)) = false := decide_eq_false (by omega)
            clear hB hal
            go_wp2
            go_roundw
            case rel => exact ⟨k + 1, rfl, by go_num, by omega, rfl, HT⟩
            case measure => simp [intOf]; omega
          · have HT := Lib.hid (all_not hlt hd)
            obtain ⟨B, hB⟩ : ∃ B, B = s[k].toNat := ⟨_, rfl⟩
            have hBi : (s[k].toNat : Int) = (B : Int) := by omega
            rw [← hB] at hd
            by_cases hlo : B < 48
            · have q1 : decide ((B : Int) < 48) = true := decide_eq_true (by omega)
              clear hB hal
              go_wp2
              go_ret
              exact ⟨by rw [HA2.out, HT.out]; rfl, rfl⟩
            · have q1 : decide ((B : Int) < 48) = false := decide_eq_false (by omega)
              have q2 : decide (57 < (B : Int)) = true := decide_eq_true (by omega)
              clear hB hal
              go_wp2
              go_ret
              exact ⟨by rw [HA2.out, HT.out]; rfl, rfl⟩
        · have p1 : decide ((k : Int) < (s.size : Int)) = false := decide_eq_false (by omega)
          have hks : k = s.size := by omega
          have HT := Lib.hid (show s.data.toList.all dIs = true by have := hal.out; rwa [hks, take_all] at this)
          clear hal
          go_wp2
          go_ret
          exact ⟨by rw [HA2.out, HT.out]; rfl, rfl⟩)

/-- What a step of a number of 64 bits makes, and whether it went round. -/
theorem dstep_u (V d : Nat) (hV : V < 18446744073709551616) (hd : d < 10) : ∃ T X Q : Nat, IntKind.u64.wrap (10 * (V : Int)) = (T : Int) ∧ IntKind.u64.wrap ((T : Int) + (d : Int)) = (X : Int) ∧ (X : Int) / 10 = (Q : Int) ∧ (X : Int).tdiv 10 = (Q : Int) ∧ IntKind.u64.wrap (Q : Int) = (Q : Int) ∧
    (10 * V + d < 18446744073709551616 → X = 10 * V + d ∧ Q = V) ∧ (18446744073709551616 ≤ 10 * V + d → Q ≠ V) := by
  refine ⟨10 * V % 18446744073709551616, (10 * V + d) % 18446744073709551616, (10 * V + d) % 18446744073709551616 / 10, ?_, ?_, ?_, ?_, ?_, ?_, ?_⟩
  · rw [IntKind.wrap_u64]; omega
  · rw [IntKind.wrap_u64]; omega
  · omega
  · rw [Int.tdiv_eq_ediv_of_nonneg (by omega)]; omega
  · exact IntWalk.u64_in _ (by omega)
  · intro h; rw [Nat.mod_eq_of_lt h]; omega
  · intro h e
    have h1 : (10 * V + d) % 18446744073709551616 < 10 * V := by
      obtain ⟨g, hg⟩ : ∃ g, g = (10 * V + d) / 18446744073709551616 := ⟨_, rfl⟩
      have h2 : 1 ≤ g := by omega
      have h3 := Nat.div_add_mod (10 * V + d) 18446744073709551616
      rw [← hg] at h3
      omega
    omega
theorem dV_next {s : ByteArray} {k : Nat} (h : k < s.size) : dV (s.data.toList.take (k + 1)) = 10 * dV (s.data.toList.take k) + (s[k].toNat - 48) := by
  have h' : k < s.data.toList.length := by rw [toList_size]; exact h
  rw [dV_take _ k h', byte_at s k h h']
theorem dig_at {s : ByteArray} {k : Nat} (h : k < s.size) (ha : s.data.toList.all dIs = true) : 48 ≤ s[k].toNat ∧ s[k].toNat ≤ 57 := by
  have h' : k < s.data.toList.length := by rw [toList_size]; exact h
  have := List.all_eq_true.mp ha _ (List.getElem_mem h')
  rw [byte_at s k h h'] at this
  exact dIs_iff.mp this
/-- What digits are worth as a number of 64 bits, and whether they go so far. -/
def uWorth (l : List UInt8) : Nat := if dV l < 18446744073709551616 then dV l else 0
def uFits (l : List UInt8) : Bool := decide (dV l < 18446744073709551616)
def DWuRel (s : ByteArray) (w : World) (x y n i : Value) (wr : World) : Prop := ∃ k V : Nat, x = .int .u64 0 ∧ y = .bool false ∧ n = .int .u64 V ∧ i = .int .i64 k ∧ k ≤ s.size ∧ wr = w ∧ V < 18446744073709551616 ∧ Hid (V = dV (s.data.toList.take k))

theorem tdiv10 (X : Int) : X.tdiv 10 = if 0 ≤ X then X / 10 else -(-X / 10) := by
  split
  · rename_i h; exact Int.tdiv_eq_ediv_of_nonneg h
  · rename_i h
    have e : X = -(-X) := by omega
    rw [e, Int.neg_tdiv, Int.tdiv_eq_ediv_of_nonneg (by omega)]
    omega
/-- Of a whole number the same, upwards and downwards. -/
theorem dstep_i (N P : Int) (hN : -9223372036854775808 ≤ N ∧ N ≤ 9223372036854775807) (hP : (0 ≤ N ∧ 0 ≤ P ∧ P < 10) ∨ (N ≤ 0 ∧ -10 < P ∧ P ≤ 0)) :
    ∃ T X Q : Int, IntKind.i64.wrap (10 * N) = T ∧ IntKind.i64.wrap (T + P) = X ∧ X.tdiv 10 = Q ∧ IntKind.i64.wrap Q = Q ∧
    (-9223372036854775808 ≤ 10 * N + P ∧ 10 * N + P ≤ 9223372036854775807 → X = 10 * N + P ∧ Q = N) ∧ (¬ (-9223372036854775808 ≤ 10 * N + P ∧ 10 * N + P ≤ 9223372036854775807) → Q ≠ N) := by
  obtain ⟨X, hX⟩ : ∃ X, X = IntKind.i64.wrap (10 * N + P) := ⟨_, rfl⟩
  have hX2 : X = (10 * N + P + 9223372036854775808) % 18446744073709551616 - 9223372036854775808 := by rw [hX, IntKind.wrap_i64]
  have hXr : -9223372036854775808 ≤ X ∧ X ≤ 9223372036854775807 := by omega
  refine ⟨_, X, X.tdiv 10, rfl, ?_, rfl, ?_, ?_, ?_⟩
  · rw [hX2, IntKind.wrap_i64, IntKind.wrap_i64]; omega
  · rw [tdiv10]; split
    · exact i64_small (by omega) (by omega)
    · exact i64_small (by omega) (by omega)
  · intro h
    have e : X = 10 * N + P := by omega
    refine ⟨e, ?_⟩
    rw [tdiv10]; split <;> omega
  · intro h
    have hg : ∃ g : Int, X = 10 * N + P - 18446744073709551616 * g ∧ g ≠ 0 := ⟨(10 * N + P + 9223372036854775808) / 18446744073709551616, by omega, by omega⟩
    obtain ⟨g, hg, hg0⟩ := hg
    have hgg : g ≤ -1 ∨ 1 ≤ g := by omega
    rw [tdiv10]
    clear hX hX2
    split
    · intro e; have h1 : 10 * N ≤ X ∧ X ≤ 10 * N + 9 := by omega
      omega
    · intro e; have h1 : 10 * N - 9 ≤ X ∧ X ≤ 10 * N := by omega
      omega
/-- What digits are worth as a whole number, each o, and whether they go so far. -/
def iGo (o : Int) (l : List UInt8) : Prop := -9223372036854775808 ≤ o * (dV l : Int) ∧ o * (dV l : Int) ≤ 9223372036854775807
instance (o : Int) (l : List UInt8) : Decidable (iGo o l) := by unfold iGo; infer_instance
def iWorth (o : Int) (l : List UInt8) : Int := if iGo o l then o * (dV l : Int) else 0
theorem iGo_of {o : Int} {l : List UInt8} {v : Nat} (ho : o = 1 ∨ o = -1) (h : ¬ (-9223372036854775808 ≤ o * (v : Int) ∧ o * (v : Int) ≤ 9223372036854775807)) (hv : v ≤ dV l) : ¬ iGo o l := by
  unfold iGo
  rcases ho with rfl | rfl <;> omega
def DWiRel (s : ByteArray) (o : Int) (w : World) (x y n i : Value) (wr : World) : Prop := ∃ (k : Nat) (N : Int), x = .int .i64 0 ∧ y = .bool false ∧ n = .int .i64 N ∧ i = .int .i64 k ∧ k ≤ s.size ∧ wr = w ∧ (-9223372036854775808 ≤ N ∧ N ≤ 9223372036854775807) ∧ Hid (N = o * (dV (s.data.toList.take k) : Int))
set_option maxRecDepth 20000 in
theorem dworthI (s : ByteArray) (o : Int) (ho : o = 1 ∨ o = -1) (w : World) (hs : s.size ≤ 1125899906842624) (ha : s.data.toList.all dIs = true) :
    Calls Tryz.prog 120 #[.string s, .int .i64 o] w fun e w' => e = .returned (.tuple #[.int .i64 (iWorth o s.data.toList), .bool (decide (iGo o s.data.toList))]) ∧ w' = w := by
  have HA := Lib.hid ha
  have HO := Lib.hid ho
  clear ha ho
  go_enter Tryz.func120, Tryz.ntmps120
  go_wp2_with fail
  go_loopw [4, 5, 6, 11] (fun x y n i wr => DWiRel s o w x y n i wr) (fun _ _ _ i _ => s.size + 1 - (intOf i).toNat)
  case atStart => exact ⟨0, 0, rfl, rfl, rfl, rfl, Nat.zero_le _, rfl, by omega, Lib.hid (by simp [dV])⟩
  case round =>
    obtain ⟨k, N, rfl, rfl, rfl, rfl, hk, hww, hV, hn⟩ := hrel
    rw [hww]
    clear hww
    by_cases hlt : k < s.size
    · have p1 : decide ((k : Int) < (s.size : Int)) = true := decide_eq_true (by omega)
      have hk0 : (0 : Int) ≤ (k : Int) := by omega
      have hk1 : (k : Int) < (s.size : Int) := by omega
      have y4 : IntKind.i64.wrap ((k : Int) + 1) = (k : Int) + 1 := i64_small (by omega) (by omega)
      have hdg := dig_at hlt HA.out
      have hnx := dV_next hlt
      have hmo := dV_take_le s.data.toList (k + 1)
      obtain ⟨B, hB⟩ : ∃ B, B = s[k].toNat := ⟨_, rfl⟩
      have hBi : (s[k].toNat : Int) = (B : Int) := by omega
      rw [← hB] at hdg hnx
      obtain ⟨d, hd⟩ : ∃ d, d = B - 48 := ⟨_, rfl⟩
      have m1 : IntKind.u8.wrap ((B : Int) - 48) = (d : Int) := by rw [IntWalk.u8_in _ (by omega)]; omega
      have m2 : IntKind.i64.wrap (d : Int) = (d : Int) := i64_small (by omega) (by omega)
      rw [← hd] at hnx
      obtain ⟨P, hP⟩ : ∃ P, P = o * (d : Int) := ⟨_, rfl⟩
      have hNP : (0 ≤ N ∧ 0 ≤ P ∧ P < 10) ∨ (N ≤ 0 ∧ -10 < P ∧ P ≤ 0) := by
        have h1 := hn.out
        rcases HO.out with rfl | rfl
        · left; omega
        · right; omega
      have hNx : o * (dV (s.data.toList.take (k + 1)) : Int) = 10 * N + P := by
        have h1 := hn.out
        rcases HO.out with rfl | rfl <;> omega
      have m0 : IntKind.i64.wrap (o * (d : Int)) = P := by rw [← hP]; exact i64_small (by omega) (by omega)
      obtain ⟨T, X, Q, m3, m4, m6, m9, m7, m8⟩ := dstep_i N P hV hNP
      have H7 := Lib.hid m7
      have H8 := Lib.hid m8
      have HN := Lib.hid (And.intro hNx hmo)
      have HD := Lib.hid hd
      clear hn hnx hmo hdg hB m7 m8 hd hP hNP hNx
      by_cases hov : -9223372036854775808 ≤ 10 * N + P ∧ 10 * N + P ≤ 9223372036854775807
      · have q1 : (Q != N) = false := by have := (H7.out hov).2; rw [this]; simp
        go_wp2
        go_roundw
        case rel => exact ⟨k + 1, X, rfl, rfl, rfl, by go_num, by omega, rfl, by have := (H7.out hov).1; omega, Lib.hid (by rw [HN.out.1]; exact (H7.out hov).1)⟩
        case measure => simp [intOf]; omega
      · have q1 : (Q != N) = true := bne_iff_ne.mpr (fun h => H8.out hov h)
        have HF := Lib.hid (show ¬ iGo o s.data.toList from iGo_of HO.out (by rw [HN.out.1]; exact hov) HN.out.2)
        go_wp2
        go_ret2
        exact ⟨by unfold iWorth; rw [if_neg HF.out, decide_eq_false HF.out]; rfl, rfl⟩
    · have p1 : decide ((k : Int) < (s.size : Int)) = false := decide_eq_false (by omega)
      have hks : k = s.size := by omega
      have HT := Lib.hid (show N = o * (dV s.data.toList : Int) by have := hn.out; rwa [hks, take_all] at this)
      clear hn
      go_wp2
      go_ret2
      have hF : iGo o s.data.toList := by unfold iGo; rw [← HT.out]; exact hV
      exact ⟨by unfold iWorth; rw [if_pos hF, decide_eq_true hF, HT.out]; rfl, rfl⟩
end Go.Proofs.YtmkcfilgiehjaaaGreatDoor
/- Package deci's read, ReadU, Read. -/
namespace Go.Proofs.YtmkcfilgiehjaaaGreatDoor
open Go Go.RowKit
set_option linter.unusedVariables false

/-- Read upwards (1) or downwards (-1). -/
def oEnd (o : Int) (l : List UInt8) : Int × Int := if DOK l then (if iGo o l then (o * (dV l : Int), 0) else (0, 4)) else (0, 3)
theorem oEnd_up (l : List UInt8) : oEnd 1 l = iEnd l := by
  unfold oEnd iEnd
  split
  · by_cases h : dV l ≤ 9223372036854775807
    · rw [if_pos h, if_pos (show iGo 1 l by unfold iGo; omega), Int.one_mul]
    · rw [if_neg h, if_neg (show ¬ iGo 1 l by unfold iGo; omega)]
  · rfl
theorem oEnd_down (l : List UInt8) : oEnd (-1) l = nEnd l := by
  unfold oEnd nEnd
  split
  · by_cases h : dV l ≤ 9223372036854775808
    · rw [if_pos h, if_pos (show iGo (-1) l by unfold iGo; omega), show -1 * (dV l : Int) = -(dV l : Int) by omega]
    · rw [if_neg h, if_neg (show ¬ iGo (-1) l by unfold iGo; omega)]
  · rfl
set_option maxRecDepth 20000 in
theorem dreadI (s : ByteArray) (o : Int) (ho : o = 1 ∨ o = -1) (w : World) (hs : s.size ≤ 1125899906842624) :
    Calls Tryz.prog 84 #[.string s, .int .i64 o] w fun e w' => e = .returned (.tuple #[.int .i64 (oEnd o s.data.toList).1, .int .i64 (oEnd o s.data.toList).2]) ∧ w' = w := by
  have HP := Lib.hid (dplain s w hs)
  by_cases hd : DOK s.data.toList
  · rw [decide_eq_true hd] at HP
    have HW := Lib.hid (dworthI s o ho w hs hd.2.1)
    clear ho
    by_cases hf : iGo o s.data.toList
    · have HU := Lib.hid (show iWorth o s.data.toList = o * (dV s.data.toList : Int) ∧ decide (iGo o s.data.toList) = true from ⟨if_pos hf, decide_eq_true hf⟩)
      have HE := Lib.hid (show oEnd o s.data.toList = (o * (dV s.data.toList : Int), 0) by unfold oEnd; rw [if_pos hd, if_pos hf])
      rw [HU.out.1, HU.out.2] at HW
      clear hd hf
      go_enter Tryz.func84, Tryz.ntmps84
      go_wp2_with (first
        | (go_at_call 119; refine HP.out.mono ?_; rintro e w1 ⟨rfl, hw⟩; rw [hw]; clear hw)
        | (go_at_call 120; refine HW.out.mono ?_; rintro e w1 ⟨rfl, hw⟩; rw [hw]; clear hw))
      go_ret2
      exact ⟨by rw [HE.out]; rfl, rfl⟩
    · have HU := Lib.hid (show iWorth o s.data.toList = 0 ∧ decide (iGo o s.data.toList) = false from ⟨if_neg hf, decide_eq_false hf⟩)
      have HE := Lib.hid (show oEnd o s.data.toList = (0, 4) by unfold oEnd; rw [if_pos hd, if_neg hf])
      rw [HU.out.1, HU.out.2] at HW
      clear hd hf
      go_enter Tryz.func84, Tryz.ntmps84
      go_wp2_with (first
        | (go_at_call 119; refine HP.out.mono ?_; rintro e w1 ⟨rfl, hw⟩; rw [hw]; clear hw)
        | (go_at_call 120; refine HW.out.mono ?_; rintro e w1 ⟨rfl, hw⟩; rw [hw]; clear hw))
      go_ret2
      exact ⟨by rw [HE.out]; rfl, rfl⟩
  · rw [decide_eq_false hd] at HP
    have HE := Lib.hid (show oEnd o s.data.toList = (0, 3) by unfold oEnd; rw [if_neg hd])
    clear hd ho
    go_enter Tryz.func84, Tryz.ntmps84
    go_wp2_with (go_at_call 119; refine HP.out.mono ?_; rintro e w1 ⟨rfl, hw⟩; rw [hw]; clear hw)
    go_ret2
    exact ⟨by rw [HE.out]; rfl, rfl⟩
/-- A text of a sign ahead, and what is behind it. -/
theorem sign_cut (l : List UInt8) : Lib.hasPrefix l [45] = decide (l.head? = some 45) ∧ (l.head? = some 45 → Lib.trimPrefix l [45] = l.drop 1) := by
  have h1 : Lib.hasPrefix l [45] = decide (l.head? = some 45) := by
    unfold Lib.hasPrefix
    cases l with
    | nil => rfl
    | cons a r =>
      rw [Bool.eq_iff_iff, decide_eq_true_iff]
      simp [List.isPrefixOf]
      exact eq_comm
  refine ⟨h1, fun h => ?_⟩
  unfold Lib.trimPrefix
  rw [h1, decide_eq_true h]
  rfl
set_option maxRecDepth 20000 in
theorem dRead (s : ByteArray) (w : World) (hs : s.size ≤ 1125899906842624) :
    Calls Tryz.prog 52 #[.string s] w fun e w' => e = .returned (.tuple #[.int .i64 (sEnd s.data.toList).1, .int .i64 (sEnd s.data.toList).2]) ∧ w' = w := by
  have HC := Lib.hid (cut_prefix s ⟨#[45]⟩ w)
  obtain ⟨c1, c2⟩ := sign_cut s.data.toList
  rw [show (⟨#[45]⟩ : ByteArray).data.toList = [45] from rfl, c1] at HC
  by_cases h45 : s.data.toList.head? = some 45
  · rw [c2 h45, decide_eq_true h45] at HC
    have hsz : (bA (s.data.toList.drop 1)).size ≤ 1125899906842624 := by rw [bA_size, List.length_drop, toList_size]; omega
    have hL : (bA (s.data.toList.drop 1)).data.toList = s.data.toList.drop 1 := by simp [bA]
    have HR := Lib.hid (dreadI (bA (s.data.toList.drop 1)) (-1) (.inr rfl) w hsz)
    rw [hL, oEnd_down] at HR
    have hE := bA_is (s.data.toList.drop 1) [48]
    by_cases hz : s.data.toList.drop 1 = [48]
    · have HE := Lib.hid (show sEnd s.data.toList = (0, 3) by unfold sEnd; rw [if_pos h45, if_pos hz])
      rw [decide_eq_true hz] at hE
      clear hsz hL h45 c1 c2 hz HR
      generalize bA (s.data.toList.drop 1) = T at *
      go_enter Tryz.func52, Tryz.ntmps52
      go_wp2_with (go_at_call 49; refine HC.out.mono ?_; rintro e w1 ⟨rfl, hw⟩; rw [hw]; clear hw)
      go_ret2
      exact ⟨by rw [HE.out]; rfl, rfl⟩
    · have HE := Lib.hid (show sEnd s.data.toList = nEnd (s.data.toList.drop 1) by unfold sEnd; rw [if_pos h45, if_neg hz])
      rw [decide_eq_false hz] at hE
      clear hsz hL h45 c1 c2 hz
      generalize bA (s.data.toList.drop 1) = T at *
      generalize nEnd (s.data.toList.drop 1) = E at *
      go_enter Tryz.func52, Tryz.ntmps52
      go_wp2_with (first
        | (go_at_call 49; refine HC.out.mono ?_; rintro e w1 ⟨rfl, hw⟩; rw [hw]; clear hw)
        | (go_at_call 84; refine HR.out.mono ?_; rintro e w1 ⟨rfl, hw⟩; rw [hw]; clear hw))
      go_ret2
      exact ⟨by rw [HE.out]; rfl, rfl⟩
  · rw [decide_eq_false h45] at HC
    have HR := Lib.hid (dreadI s 1 (.inl rfl) w hs)
    rw [oEnd_up] at HR
    have HE := Lib.hid (show sEnd s.data.toList = iEnd s.data.toList by unfold sEnd; rw [if_neg h45])
    clear h45 c1 c2
    generalize bA (Lib.trimPrefix s.data.toList [45]) = T at *
    go_enter Tryz.func52, Tryz.ntmps52
    go_wp2_with (first
      | (go_at_call 49; refine HC.out.mono ?_; rintro e w1 ⟨rfl, hw⟩; rw [hw]; clear hw)
      | (go_at_call 84; refine HR.out.mono ?_; rintro e w1 ⟨rfl, hw⟩; rw [hw]; clear hw))
    go_ret2
    exact ⟨by rw [HE.out]; rfl, rfl⟩
end Go.Proofs.YtmkcfilgiehjaaaGreatDoor
