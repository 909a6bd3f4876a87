/- Package varint's Size, over math/bits.Len64. -/
import Derived.Test.YtmcklfndnjagiaaDoorCur4
import Derived.Test.YtmcklfndnjagiaaDoorVarNum
import Derived.Lib.Strings
import Derived.Lib.Slices
import Derived.Lib.Small
import Derived.Lib.Walk
import Derived.Lib.BitFns
import Derived.Deep.Light
namespace Go.Proofs.YtmcklfndnjagiaaDoor
open Go Go.RowKit
set_option linter.unusedVariables false

theorem lib_len_aux : ∀ (f x : Nat), x < 2 ^ f → Lib.bitLenAux f x = bitLen x
  | 0, x, h => by
    obtain rfl : x = 0 := by simpa using h
    rfl
  | f + 1, x, h => by
    rw [Lib.bitLenAux]
    split
    · subst_vars; rfl
    · rename_i h0
      rw [lib_len_aux f (x / 2) (by rw [Nat.pow_succ] at h; omega)]
      by_cases h1 : x / 2 = 0
      · obtain rfl : x = 1 := by omega
        rfl
      · have := bitLen_shift x 1 (by show x / 2 ≠ 0; exact h1)
        rw [this]
theorem tab_get (i : Nat) (hi : i < 256) (h : i < Lib.len8tab.size) : (Lib.len8tab[i]'h).toNat = bitLen i := by
  have e1 := Lib.len8_eq ⟨i, hi⟩
  have e2 : Lib.bitLen i = bitLen i := lib_len_aux 64 i (Nat.lt_trans hi (by decide))
  have e3 : Lib.len8 (i : Int) = ((Lib.len8tab[i]'h).toNat : Int) := by
    unfold Lib.len8
    rw [Int.toNat_natCast, getElem?_pos Lib.len8tab i h]
    rfl
  simp only [e3, e2] at e1
  omega
theorem wadd (k a b : Nat) (hk : k ≤ 56) (ha : a ≤ 8) (hb : b = k + a) : wrap64 ((k : Int) + wrap64 (a : Int)) = (b : Int) := by
  unfold wrap64; omega
theorem to_lt {y : Int} (h256 : y < 256) (hn : 0 < y) : y.toNat < 256 := by omega
theorem pos_div {y : Int} {n : Nat} (hn : 0 < y) (e : y.toNat = n) : n ≠ 0 := by omega
/-- One way through Len64: what is left of x behind k bits is looked up. -/
theorem len_way (x y D : Int) (k : Nat) (h0 : 0 ≤ x) (hD : D = 2 ^ k) (hy : y = x / D) (hk : k ≤ 56) (h256 : y < 256) (hn : 0 < y) (h : y.toNat < Lib.len8tab.size) :
    wrap64 ((k : Int) + wrap64 ((Lib.len8tab[y.toNat]'h).toNat : Int)) = (bitLen x.toNat : Int) := by
  have e1 : (Lib.len8tab[y.toNat]'h).toNat = bitLen y.toNat := tab_get y.toNat (to_lt h256 hn) h
  have e2 : y.toNat = x.toNat / 2 ^ k := by
    obtain ⟨n, rfl⟩ := Int.eq_ofNat_of_zero_le h0
    have : ((n : Int) / 2 ^ k) = ((n / 2 ^ k : Nat) : Int) := by rw [Int.natCast_ediv, Int.natCast_pow]; rfl
    rw [hy, hD, this, Int.toNat_natCast]; rfl
  have e3 := bitLen_shift x.toNat k (pos_div hn e2)
  have e4 := bitLen_le8 y.toNat (to_lt h256 hn)
  rw [← e2] at e3
  rw [e1]
  exact wadd _ _ _ hk e4 e3
theorem len_way0 (x : Int) (h0 : 0 ≤ x) (h256 : x < 256) (h : x.toNat < Lib.len8tab.size) :
    wrap64 (wrap64 ((Lib.len8tab[x.toNat]'h).toNat : Int)) = (bitLen x.toNat : Int) := by
  have hx : x.toNat < 256 := by clear h; omega
  have e1 : (Lib.len8tab[x.toNat]'h).toNat = bitLen x.toNat := tab_get x.toNat hx h
  have e4 := bitLen_le8 x.toNat hx
  rw [e1]
  have := wadd 0 _ _ (by decide) e4 (Nat.zero_add _).symm
  have e : wrap64 (bitLen x.toNat : Int) = (bitLen x.toNat : Int) := by clear e1 h this; unfold wrap64; omega
  rw [e, e]

set_option maxRecDepth 100000 in
theorem len_tab : (Lib.len8tab.size : Int) = 256 := by
  have : Lib.len8tab.size = 256 := by decide
  omega

set_option maxRecDepth 1000000 in
set_option maxHeartbeats 4000000 in
theorem len64_int (x : Int) (w : World) (h0 : 0 ≤ x) (h1 : x ≤ 18446744073709551615) :
    Calls Tryd.prog 87 #[.int .u64 x] w fun e w' => e = .returned (.int .i64 (bitLen x.toNat)) ∧ w' = w := by
  have ht := Lib.hid len_tab
  go_enter Tryd.func87, Tryd.ntmps87
  go_wp2
  all_goals first
    | (go_ret; refine ⟨congrArg Ending.returned (congrArg (Value.int IntKind.i64) ?_), rfl⟩; go_light)
    | (exfalso; go_light; have := ht.out; omega)
  all_goals clear ht
  all_goals first
    | (refine len_way x _ 72057594037927936 56 h0 (by decide) ?_ (by decide) ?_ ?_ _ <;> omega)
    | (refine len_way x _ 281474976710656 48 h0 (by decide) ?_ (by decide) ?_ ?_ _ <;> omega)
    | (refine len_way x _ 1099511627776 40 h0 (by decide) ?_ (by decide) ?_ ?_ _ <;> omega)
    | (refine len_way x _ 4294967296 32 h0 (by decide) ?_ (by decide) ?_ ?_ _ <;> omega)
    | (refine len_way x _ 16777216 24 h0 (by decide) ?_ (by decide) ?_ ?_ _ <;> omega)
    | (refine len_way x _ 65536 16 h0 (by decide) ?_ (by decide) ?_ ?_ _ <;> omega)
    | (refine len_way x _ 256 8 h0 (by decide) ?_ (by decide) ?_ ?_ _ <;> omega)
    | exact len_way0 x h0 (by omega) _

theorem len64_any (u : Nat) (w : World) (hu : u < 18446744073709551616) :
    Calls Tryd.prog 87 #[.int .u64 u] w fun e w' => e = .returned (.int .i64 (bitLen u)) ∧ w' = w := by
  have := len64_int u w (by omega) (by omega)
  rw [Int.toNat_natCast] at this
  exact this

/-- Size. -/
theorem vsize_any (u : Nat) (w : World) (hu : u < 18446744073709551616) :
    Calls Tryd.prog 72 #[.int .u64 u] w fun e w' => e = .returned (.int .i64 (vB u).length) ∧ w' = w := by
  have HL := Lib.hid (fun w => len64_any u w hu)
  have HS := Lib.hid (vB_size u)
  have hb := bitLen_le (n := 64) hu
  generalize bitLen u = n at *
  go_enter Tryd.func72, Tryd.ntmps72
  go_wp2_with ((with_reducible refine (HL.out _).mono ?_); rintro e w' ⟨rfl, rfl⟩)
  go_ret
  refine ⟨congrArg Ending.returned (congrArg (Value.int IntKind.i64) ?_), rfl⟩
  rw [HS.out]
  go_light
  omega

end Go.Proofs.YtmcklfndnjagiaaDoor
