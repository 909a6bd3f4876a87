/- WordLays: what its walk leans on: three lists that hold the text and a number's bytes, and what cursors over the bytes read. -/
import Derived.Test.YtkjlpkldonhjdaaDoorWorkB
import Derived.Test.YtkjlpkldonhjdaaDoorReadB
import Derived.Lib.ConvBytes
namespace Go.Proofs.YtkjlpkldonhjdaaDoor
open Go Go.RowKit
set_option linter.unusedVariables false

theorem bA_of (p : ByteArray) : bA p.data.toList = p := by
  apply ByteArray.ext; simp [bA]
theorem bA_front (p : ByteArray) (l : List UInt8) : bA (p.data.toList ++ l) = p ++ bA l := by
  rw [← bA_append, bA_of]

/-- '[]byte(p)' of a text: the bytes lie there. -/
theorem bytes_in (w : World) (e : TypeId) (p : ByteArray) : BIn (Lib.bytesWorld w e p) (some ⟨w.heap.size, 0, none⟩) p.data.toList := by
  intro j hj
  have hs : j < p.size := by rw [toList_size] at hj; exact hj
  refine ⟨_, _, rfl, by rw [Lib.bytesWorld_size]; omega, ?_⟩
  rw [Nat.zero_add, Lib.bytesWorld_cell w e p j hs, List.getD_eq_getElem?_getD, List.getElem?_eq_getElem hj]; rfl
theorem bytes_below (w : World) (e : TypeId) (p : ByteArray) : Below w.heap.size w (Lib.bytesWorld w e p) :=
  ⟨by simp [Lib.bytesWorld, World.freeze, World.alloc, World.drew, -World.alloc_eq, -World.drew_eq], by simp [Lib.bytesWorld, World.freeze, World.alloc, World.drew, -World.alloc_eq, -World.drew_eq], by simp [Lib.bytesWorld, World.freeze, World.alloc, World.drew, -World.alloc_eq, -World.drew_eq], by rw [Lib.bytesWorld_size]; omega, fun k hk => Lib.bytesWorld_at_old w e p k hk⟩

theorem low32_p (a : Option Addr) (cap : Nat) (p : ByteArray) (u : Nat) (w : World) (hp : p.size ≤ 140737488351232) (hu : u < 4294967296) (hin : BIn w a p.data.toList) (ht : Tab w) :
    Calls Tryd.prog 12 #[.slice a p.size cap, .int .u32 u] w fun e w' => ∃ v, e = .returned v ∧ Bts 5 w' w.heap.size v (p.data.toList ++ lowL u 4) ∧ Below w.heap.size w w' := by
  have := low32_any a cap p.data.toList u w (by rw [toList_size]; exact hp) hu hin ht
  rw [toList_size] at this; exact this
theorem low64_p (a : Option Addr) (cap : Nat) (p : ByteArray) (u : Nat) (w : World) (hp : p.size ≤ 140737488351232) (hu : u < 18446744073709551616) (hin : BIn w a p.data.toList) (ht : Tab w) :
    Calls Tryd.prog 13 #[.slice a p.size cap, .int .u64 u] w fun e w' => ∃ v, e = .returned v ∧ Bts 5 w' w.heap.size v (p.data.toList ++ lowL u 8) ∧ Below w.heap.size w w' := by
  have := low64_any a cap p.data.toList u w (by rw [toList_size]; exact hp) hu hin ht
  rw [toList_size] at this; exact this
theorem high64_p (a : Option Addr) (cap : Nat) (p : ByteArray) (u : Nat) (w : World) (hp : p.size ≤ 140737488351232) (hu : u < 18446744073709551616) (hin : BIn w a p.data.toList) (ht : Tab w) :
    Calls Tryd.prog 14 #[.slice a p.size cap, .int .u64 u] w fun e w' => ∃ v, e = .returned v ∧ Bts 5 w' w.heap.size v (p.data.toList ++ (lowL u 8).reverse) ∧ Below w.heap.size w w' := by
  have := high64_any a cap p.data.toList u w (by rw [toList_size]; exact hp) hu hin ht
  rw [toList_size, highL_all] at this; exact this

/-- A list that the call made, of the text p and the bytes l behind it: its form. -/
theorem bts_form {t : TypeId} {w : World} {B n : Nat} {v : Value} {p : ByteArray} {l : List UInt8} (hl : l.length = n) (hn0 : 0 < n) (h : Bts t w B v (p.data.toList ++ l)) :
    ∃ g cap, v = .slice (some ⟨g, 0, none⟩) (p.size + n) cap ∧ B ≤ g ∧ g < w.heap.size ∧ p.size + n ≤ cap ∧ (∀ j (hj : j < (p.data.toList ++ l).length), w.cell? ⟨g, j, none⟩ = some (.int .u8 ((p.data.toList ++ l)[j].toNat : Int))) := by
  subst hl
  rcases h.2 with ⟨_, hn⟩ | ⟨g, cap, cur, rfl, hB, hg, hnc, _⟩
  · rw [List.length_append] at hn; omega
  · refine ⟨g, cap, by rw [List.length_append, toList_size], hB, lt_of_block hg, by rw [List.length_append, toList_size] at hnc; exact hnc, fun j hj => ?_⟩
    rw [World.ownsRow.cellAt h j (by omega), bV_get _ j hj]

/-- Block g holds the text p and behind it the bytes l, from its head on. -/
def Holds (w : World) (g : Nat) (p : ByteArray) (l : List UInt8) : Prop := ∀ j (hj : j < (p.data.toList ++ l).length), w.cell? ⟨g, j, none⟩ = some (.int .u8 ((p.data.toList ++ l)[j].toNat : Int))
theorem Holds.below {w w' : World} {g : Nat} {p : ByteArray} {l : List UInt8} {N : Nat} (h : Holds w g p l) (hb : Below N w w') (hg : g < N) : Holds w' g p l :=
  fun j hj => (hb.cell (p := ⟨g, j, none⟩) hg).trans (h j hj)
theorem Holds.drewN {w : World} {g : Nat} {p : ByteArray} {l : List UInt8} (h : Holds w g p l) (n : Nat) : Holds (w.drewN n) g p l := h
theorem Holds.all {P : Program} {t e d : TypeId} {w : World} {g cap n : Nat} {p : ByteArray} {l : List UInt8} (hl : l.length = n) (h : Holds w g p l) (ht : P.underlying t = some (.slice e)) (he : P.underlying e = some (.int .u8)) (hd : P.underlying d = some .string) :
    (convert t d (.slice (some ⟨g, 0, none⟩) (p.size + n) cap)).run P w = .ok (.string (p ++ bA l)) w := by
  subst hl
  have := run_convert_bytes_back (P := P) w t d e ⟨g, 0, none⟩ cap (p.data.toList ++ l) ht he hd fun j hj => by
    have e1 : (Addr.mk g 0 none).add j = ⟨g, j, none⟩ := by unfold Addr.add; split <;> simp_all
    rw [e1, h j hj]
  rw [List.length_append, toList_size] at this
  rw [this, ← bA_front]; rfl
theorem Holds.back {P : Program} {t e d : TypeId} {w : World} {g cap n : Nat} {p : ByteArray} {l : List UInt8} (hl : l.length = n) (h : Holds w g p l) (ht : P.underlying t = some (.slice e)) (he : P.underlying e = some (.int .u8)) (hd : P.underlying d = some .string) :
    (convert t d (.slice (some ⟨g, p.size, none⟩) n cap)).run P w = .ok (.string (bA l)) w := by
  subst hl
  refine run_convert_bytes_back (P := P) w t d e ⟨g, p.size, none⟩ cap l ht he hd fun j hj => ?_
  have e1 : (Addr.mk g p.size none).add j = ⟨g, p.size + j, none⟩ := by unfold Addr.add; split <;> simp_all
  have h2 := h (p.size + j) (by rw [List.length_append, toList_size]; omega)
  rw [e1, h2, List.getElem_append_right (by rw [toList_size]; omega)]
  simp [toList_size]

/-- What a cursor over just so many bytes reads of them. -/
theorem take_all (l : List UInt8) (n : Nat) (hl : l.length = n) : CS.takeS (CS.new (bA l)) n = bA l ∧ CS.take (CS.new (bA l)) n = ⟨bA l, n, n, 0⟩ := by
  have hy : (CS.new (bA l)).why n = 0 := CS.why_mk rfl (by omega) (by show (n : Int) ≤ ((bA l).size : Int) - 0; rw [bA_size]; omega)
  have hs : (bA l).size = n := by rw [bA_size, hl]
  constructor
  · rw [takeS_yes hy, Int.toNat_natCast]
    show (bA l).extract 0 (0 + n) = bA l
    rw [Nat.zero_add, ← hs]; simp
  · rw [take_yes hy, Int.toNat_natCast]
    show (⟨bA l, 0 + n, (bA l).size, 0⟩ : CS) = _
    rw [hs, Nat.zero_add]
theorem new_ok' (l : List UInt8) (hl : l.length ≤ 8) : (CS.new (bA l)).ok := CS.new_ok (by rw [bA_size]; omega)

theorem rx32 {b : Nat} {w : World} (u : Nat) (hu : u < 4294967296) (h : CurT 56 w b (CS.new (bA (lowL u 4)))) (ht : Tab w) (hg : 0 ≠ b) :
    Calls Tryd.prog 18 #[.pointer (some ⟨b, 0, none⟩)] w fun e w' => e = .returned (.int .u32 u) ∧ CurT 56 w' b ⟨bA (lowL u 4), 4, 4, 0⟩ ∧ Only b w w' := by
  have := readLow32_any h (new_ok' _ (by rw [lowL_length]; omega)) ht hg
  rw [(take_all _ 4 (lowL_length 4 u)).1, (take_all _ 4 (lowL_length 4 u)).2, show (bA (lowL u 4)).data.toList = lowL u 4 from by simp [bA], valL_lowL, Nat.mod_eq_of_lt (show u < 256 ^ 4 from hu)] at this
  exact this
theorem rx64 {b : Nat} {w : World} (u : Nat) (hu : u < 18446744073709551616) (h : CurT 56 w b (CS.new (bA (lowL u 8)))) (ht : Tab w) (hg : 0 ≠ b) :
    Calls Tryd.prog 19 #[.pointer (some ⟨b, 0, none⟩)] w fun e w' => e = .returned (.int .u64 u) ∧ CurT 56 w' b ⟨bA (lowL u 8), 8, 8, 0⟩ ∧ Only b w w' := by
  have := readLow64_any h (new_ok' _ (by rw [lowL_length]; omega)) ht hg
  rw [(take_all _ 8 (lowL_length 8 u)).1, (take_all _ 8 (lowL_length 8 u)).2, show (bA (lowL u 8)).data.toList = lowL u 8 from by simp [bA], valL_lowL, Nat.mod_eq_of_lt (show u < 256 ^ 8 from hu)] at this
  exact this
theorem rxh {b : Nat} {w : World} (u : Nat) (hu : u < 18446744073709551616) (h : CurT 56 w b (CS.new (bA (lowL u 8).reverse))) (ht : Tab w) (hg : 0 ≠ b) :
    Calls Tryd.prog 20 #[.pointer (some ⟨b, 0, none⟩)] w fun e w' => e = .returned (.int .u64 u) ∧ CurT 56 w' b ⟨bA (lowL u 8).reverse, 8, 8, 0⟩ ∧ Only b w w' := by
  have hl : ((lowL u 8).reverse).length = 8 := by rw [List.length_reverse, lowL_length]
  have := readHigh64_any h (new_ok' _ (by omega)) ht hg
  rw [(take_all _ 8 hl).1, (take_all _ 8 hl).2, show (bA (lowL u 8).reverse).data.toList.reverse = lowL u 8 from by simp [bA], valL_lowL, Nat.mod_eq_of_lt (show u < 256 ^ 8 from hu)] at this
  exact this
theorem endx {b n : Nat} {w : World} {l : List UInt8} (hl : l.length = n) (hn : n ≤ 8) (h : CurT 56 w b ⟨bA l, n, n, 0⟩) :
    Calls Tryd.prog 21 #[.pointer (some ⟨b, 0, none⟩)] w fun e w' => e = .returned (.int .i64 0) ∧ ∃ n, w' = w.drewN n := by
  have := end_any h ⟨Nat.le_refl _, by show n ≤ (bA l).size; rw [bA_size]; omega, by show (bA l).size ≤ 9223372036854775807; rw [bA_size]; omega⟩
  rw [show CS.endC ⟨bA l, n, n, 0⟩ = 0 from by unfold CS.endC; rw [if_neg (by simp)]] at this
  exact this

end Go.Proofs.YtkjlpkldonhjdaaDoor
