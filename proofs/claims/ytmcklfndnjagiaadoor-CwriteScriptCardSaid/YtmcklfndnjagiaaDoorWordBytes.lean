/- Plain facts, of no program: a number's bytes, the lowest first ('lowL'), and the number of bytes ('valL'). -/
import Derived.WalkKit
import Derived.PlainAid
import Derived.Laws.BitsAllLaws
namespace Go.Proofs.YtmcklfndnjagiaaDoor
open Go Go.RowKit
set_option linter.unusedVariables false

/-- The n lowest bytes of u, the lowest first. -/
def lowL : Nat → Nat → List UInt8
  | _, 0 => []
  | u, n + 1 => UInt8.ofNat (u % 256) :: lowL (u / 256) n
/-- The number of bytes, the lowest first. -/
def valL : List UInt8 → Nat
  | [] => 0
  | b :: r => b.toNat + 256 * valL r

theorem lowL_length : ∀ (n u : Nat), (lowL u n).length = n
  | 0, _ => rfl
  | n + 1, u => by simp [lowL, lowL_length n]
theorem lowL_get : ∀ (n u k : Nat), k < n → (lowL u n)[k]? = some (UInt8.ofNat (u / 256 ^ k % 256))
  | 0, _, _, h => by omega
  | n + 1, u, 0, _ => by simp [lowL]
  | n + 1, u, k + 1, h => by
    rw [lowL, List.getElem?_cons_succ, lowL_get n (u / 256) k (by omega), Nat.div_div_eq_div_mul, Nat.pow_succ, Nat.mul_comm 256]
theorem valL_lowL : ∀ (n u : Nat), valL (lowL u n) = u % 256 ^ n
  | 0, u => by simp [lowL, valL, Nat.mod_one]
  | n + 1, u => by
    rw [lowL, valL, valL_lowL n, Nat.pow_succ, Nat.mul_comm (256 ^ n), Nat.mod_mul]
    simp
theorem valL_lt : ∀ (l : List UInt8), valL l < 256 ^ l.length
  | [] => by simp [valL]
  | b :: r => by
    have h1 := valL_lt r
    have h2 := b.toNat_lt
    rw [valL, List.length_cons, Nat.pow_succ]
    omega
theorem valL_snoc : ∀ (l : List UInt8) (b : UInt8), valL (l ++ [b]) = valL l + b.toNat * 256 ^ l.length
  | [], b => by simp [valL]
  | a :: r, b => by
    have h : 256 * (b.toNat * 256 ^ r.length) = b.toNat * (256 ^ r.length * 256) := by rw [Nat.mul_left_comm, Nat.mul_comm 256]
    rw [List.cons_append, valL, valL_snoc r b, valL, List.length_cons, Nat.pow_succ, Nat.mul_add, h, Nat.add_assoc]
theorem lowL_snoc (n u : Nat) : lowL u (n + 1) = lowL u n ++ [UInt8.ofNat (u / 256 ^ n % 256)] := by
  apply List.ext_getElem?
  intro k
  rcases Nat.lt_trichotomy k n with h | h | h
  · rw [lowL_get _ _ _ (by omega), List.getElem?_append_left (by rw [lowL_length]; exact h), lowL_get _ _ _ h]
  · subst h
    rw [lowL_get _ _ _ (by omega), List.getElem?_append_right (by rw [lowL_length]; exact Nat.le_refl _), lowL_length]; simp
  · rw [List.getElem?_eq_none (by rw [lowL_length]; omega), List.getElem?_eq_none (by rw [List.length_append, lowL_length]; simp; omega)]
theorem lowL_take (n u k : Nat) (h : k ≤ n) : (lowL u n).take k = lowL u k := by
  apply List.ext_getElem?
  intro j
  rw [List.getElem?_take]
  split
  · rw [lowL_get _ _ _ (by omega), lowL_get _ _ _ (by omega)]
  · rw [List.getElem?_eq_none (by rw [lowL_length]; omega)]

/-- A shift by whole bytes, and its lowest byte. -/
theorem shr_byte (u k : Nat) : (u : Int) / 2 ^ (8 * k) = ((u / 256 ^ k : Nat) : Int) := by
  rw [Int.natCast_ediv, Int.natCast_pow, Int.pow_mul]; rfl
/-- Two numbers side by side. -/
theorem or_shift (a b k : Nat) (h : a < 2 ^ k) : a ||| b * 2 ^ k = a + b * 2 ^ k := by
  rw [Nat.or_comm, Nat.mul_comm b, ← Nat.two_pow_add_eq_or_of_lt h, Nat.add_comm]


theorem valL_drop (l : List UInt8) (j : Nat) (h : j < l.length) : valL (l.drop j) = l[j].toNat + 256 * valL (l.drop (j + 1)) := by
  rw [List.drop_eq_getElem_cons h]; rfl
theorem valL_take (l : List UInt8) (k : Nat) (h : k < l.length) : valL (l.take (k + 1)) = valL (l.take k) + l[k].toNat * 256 ^ k := by
  rw [List.take_succ_eq_append_getElem h, valL_snoc, List.length_take, Nat.min_eq_left (Nat.le_of_lt h)]
theorem byte_at (s : ByteArray) (j : Nat) (h : j < s.size) (h' : j < s.data.toList.length) : s.data.toList[j] = s[j] := by
  rw [Array.getElem_toList]; rfl
theorem toList_size (s : ByteArray) : s.data.toList.length = s.size := Array.length_toList
theorem p256 {a b : Nat} (h : a ≤ b) : 256 ^ a ≤ 256 ^ b := Nat.pow_le_pow_right (by decide) h

/-- A byte that is shifted and laid beside those below it. -/
theorem or_byte (V b k : Nat) (hV : V < 256 ^ k) (hb : b < 256) (hk : k < 8) :
    bits .or .u64 (V : Int) (IntKind.u64.wrap ((b : Int) * 2 ^ (8 * k))) = ((V + b * 256 ^ k : Nat) : Int) := by
  have h1 : (256 : Nat) ^ k = 2 ^ (8 * k) := by rw [Nat.pow_mul]
  have h2 : b * 256 ^ k < 18446744073709551616 := by
    have h3 : 256 ^ k ≤ 256 ^ 7 := p256 (by omega)
    have h4 : b * 256 ^ k ≤ 255 * 256 ^ 7 := Nat.mul_le_mul (by omega) h3
    have h5 : 255 * 256 ^ 7 < 18446744073709551616 := by decide
    omega
  have h6 : ((b : Int) * 2 ^ (8 * k)) = ((b * 256 ^ k : Nat) : Int) := by rw [h1, Int.natCast_mul, Int.natCast_pow]; rfl
  have h7 : V < 18446744073709551616 := by
    have h3 : 256 ^ k ≤ 256 ^ 7 := p256 (by omega)
    have h5 : 256 ^ 7 < 18446744073709551616 := by decide
    omega
  rw [h6, IntWalk.u64_in _ (by omega), u64_or_nat _ _ h7 h2, h1, or_shift _ _ _ (by rw [← h1]; exact hV)]

end Go.Proofs.YtmcklfndnjagiaaDoor
