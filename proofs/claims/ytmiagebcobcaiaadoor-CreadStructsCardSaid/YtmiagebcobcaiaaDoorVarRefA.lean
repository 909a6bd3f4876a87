/- The document's own varint (package truchmanref03): Put, power, Len; and truchmanref01's New, End. -/
import Derived.Test.YtmiagebcobcaiaaDoorVarPut
import Derived.Test.YtmiagebcobcaiaaDoorRefN
import Derived.Deep.RegionWith
namespace Go.Proofs.YtmiagebcobcaiaaDoor
open Go Go.RowKit
set_option linter.unusedVariables false

theorem ref_end (c : CS) (w : World) :
    Calls Tryd.prog 30 #[.agg #[.string c.s, .int .i64 c.at_, .int .i64 c.en, .int .i64 c.er]] w fun e w' => e = .returned (.int .i64 c.endC) ∧ Below w.heap.size w w' := by
  by_cases h0 : c.er = 0
  · have hb : (c.er == 0) = true := by simp [h0]
    by_cases h1 : c.at_ < c.en
    · have hd : decide (c.at_ < c.en) = true := decide_eq_true h1
      have HR := Lib.hid (show c.endC = 2 from by unfold CS.endC; rw [if_pos ⟨h0, h1⟩])
      clear h0 h1
      go_enter Tryd.func30, Tryd.ntmps30
      go_wp2
      go_ret
      exact ⟨ret_int HR.out.symm, by go_grown⟩
    · have hd : decide (c.at_ < c.en) = false := decide_eq_false h1
      have HR := Lib.hid (show c.endC = c.er from by unfold CS.endC; rw [if_neg (fun x => h1 x.2)])
      clear h0 h1
      go_enter Tryd.func30, Tryd.ntmps30
      go_wp2
      go_ret
      exact ⟨ret_int HR.out.symm, by go_grown⟩
  · have hb : (c.er == 0) = false := by simp [h0]
    have HR := Lib.hid (show c.endC = c.er from by unfold CS.endC; rw [if_neg (fun x => h0 x.1)])
    clear h0
    go_enter Tryd.func30, Tryd.ntmps30
    go_wp2
    go_ret
    exact ⟨ret_int HR.out.symm, by go_grown⟩

def PowRel (n : Nat) (W : World) (u i : Value) (wr : World) : Prop :=
  ∃ k, k ≤ n ∧ i = .int .i64 (k : Nat) ∧ u = .int .u64 ((128 ^ k : Nat) : Int) ∧ wr = W
theorem power_any (n : Nat) (w : World) (hn : n ≤ 9) :
    Calls Tryd.prog 75 #[.int .i64 n] w fun e w' => e = .returned (.int .u64 ((128 ^ n : Nat) : Int)) ∧ w' = w := by
  go_enter Tryd.func75, Tryd.ntmps75
  go_wp2_with fail
  go_loopw [3, 4] (fun u i wr => PowRel n w u i wr) (fun _ i _ => n - (intOf i).toNat)
  case atStart => exact ⟨0, Nat.zero_le _, rfl, rfl, rfl⟩
  case round =>
    obtain ⟨k, hk, rfl, rfl, rfl⟩ := hrel
    by_cases hlt : k < n
    · have p1 : decide ((k : Int) < n) = true := decide_eq_true (by omega)
      have hp := Lib.hid (Nat.pow_succ 128 k)
      have hm : 128 ^ k ≤ 128 ^ 8 := Nat.pow_le_pow_right (by decide) (by omega)
      have h8 : (128 : Nat) ^ 8 = 72057594037927936 := by decide
      rw [h8] at hm
      generalize (128 : Nat) ^ k = V at *
      go_wp2
      go_roundw
      case rel => exact ⟨k + 1, by omega, by go_num, by rw [hp.out]; go_num, rfl⟩
      case measure => simp [intOf]; omega
    · have p1 : decide ((k : Int) < n) = false := decide_eq_false (by omega)
      obtain rfl : k = n := by omega
      go_wp2
      go_ret
      exact ⟨rfl, rfl⟩

/-- Len: how many bytes from a place on are one number's; 0: none of these is. -/
def lenN (l : List UInt8) : Nat := if vlead l < l.length ∧ vlead l ≤ 9 then vlead l + 1 else 0

def LenRel (s : ByteArray) (p : Nat) (W : World) (i : Value) (wr : World) : Prop :=
  ∃ k, k ≤ 10 ∧ k ≤ vlead (s.data.toList.drop p) ∧ i = .int .i64 (k : Nat) ∧ wr = W
set_option maxRecDepth 20000 in
theorem len_any (s : ByteArray) (p : Nat) (w : World) (hs : s.size ≤ 9223372036854775000) (hp : p ≤ s.size) :
    Calls Tryd.prog 74 #[.string s, .int .i64 p] w fun e w' => e = .returned (.int .i64 (lenN (s.data.toList.drop p) : Nat)) ∧ w' = w := by
  have hlen : (s.data.toList.drop p).length = s.size - p := by rw [List.length_drop, toList_size]
  have hle := vlead_le (s.data.toList.drop p)
  go_enter Tryd.func74, Tryd.ntmps74
  go_wp2_with fail
  go_loopw [5] (fun i wr => LenRel s p w i wr) (fun i _ => 10 - (intOf i).toNat)
  case atStart => exact ⟨0, by omega, Nat.zero_le _, rfl, rfl⟩
  case round =>
    obtain ⟨k, hk, hkl, rfl, rfl⟩ := hrel
    by_cases h10 : k < 10
    · have p1 : decide ((k : Int) < 10) = true := decide_eq_true (by omega)
      by_cases hlt : p + k < s.size
      · have p2 : decide (p + k < s.size) = true := decide_eq_true hlt
        have p2' : decide ((p : Int) + (k : Int) < (s.size : Int)) = true := decide_eq_true (by omega)
        have hj : k < (s.data.toList.drop p).length := by omega
        have hg : (s.data.toList.drop p)[k] = s[p + k] := by
          rw [List.getElem_drop]; exact byte_at _ _ hlt _
        by_cases hb : s[p + k].toNat < 128
        · have p3 : decide ((s[p + k].toNat : Int) < 128) = true := decide_eq_true (by omega)
          have HR := Lib.hid (show lenN (s.data.toList.drop p) = k + 1 by
            have e := vlead_here hj hkl (by rw [hg]; exact hb)
            unfold lenN; rw [e, if_pos ⟨hj, by omega⟩])
          clear hkl hle hlen hj hg
          go_wp2
          go_ret
          exact ⟨ret_int (by rw [HR.out]; go_num), rfl⟩
        · have p3 : decide ((s[p + k].toNat : Int) < 128) = false := decide_eq_false (by omega)
          have hmo := vlead_more hj hkl (by rw [hg]; omega)
          clear hkl hle hlen hj hg
          go_wp2
          go_roundw
          case rel => exact ⟨k + 1, by omega, hmo, by go_num, rfl⟩
          case measure => simp [intOf]; omega
      · have p2 : decide (p + k < s.size) = false := decide_eq_false hlt
        have p2' : decide ((p : Int) + (k : Int) < (s.size : Int)) = false := decide_eq_false (by omega)
        have HR := Lib.hid (show lenN (s.data.toList.drop p) = 0 by unfold lenN; rw [if_neg (by omega)])
        go_wp2
        go_ret
        exact ⟨ret_int (by rw [HR.out]; rfl), rfl⟩
    · have p1 : decide ((k : Int) < 10) = false := decide_eq_false (by omega)
      have HR := Lib.hid (show lenN (s.data.toList.drop p) = 0 by unfold lenN; rw [if_neg (by omega)])
      go_wp2
      go_ret
      exact ⟨ret_int (by rw [HR.out]; rfl), rfl⟩

/-- 'string' of a list of one byte, wherever that lies. -/
theorem text_cell {P : Program} {t e d : TypeId} {g : Nat} {z : Int} {b : UInt8} (w : World) (ht : P.underlying t = some (.slice e)) (he : P.underlying e = some (.int .u8)) (hd : P.underlying d = some .string) (hz : z = (b.toNat : Int)) (h : w.cell? ⟨g, 0, none⟩ = some (.int .u8 z)) :
    (convert t d (.slice (some ⟨g, 0, none⟩) 1 1)).run P w = .ok (.string (bA [b])) w := by
  subst hz
  refine run_convert_bytes_back _ t d e ⟨g, 0, none⟩ 1 [b] ht he hd fun j hj => ?_
  have h0 : j = 0 := by simpa using hj
  subst h0
  exact h


end Go.Proofs.YtmiagebcobcaiaaDoor
