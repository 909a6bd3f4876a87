/- Several texts in one (Plain, WordBytes, Bts, App, AnyL, Cells): each begins with its own words. -/
import Derived.WalkKit
import Derived.ProofKit
import Derived.OpenShut
import Derived.OneCell
import Derived.Deep.Draws
import Derived.Lib.Hide
import Derived.PlainAid
import Derived.Laws.BitsAllLaws
import Derived.Test.YtjpppnfkpnfhoaaDoorRows
import Derived.Deep.QuietTactic
import Derived.BigQuiet
import Derived.Handy
import Derived.WalkSpells
import Derived.WalkLawsBesides
import Derived.OwnWalk
import Derived.Laws.OwnMore
import Derived.Laws.IdiomCopy
import Derived.Lib.ConvBytes
import Derived.Lib.AppendStr
import Derived.LaidMore
import Derived.Stop.Joined
import Derived.Lib.LaidTab
/- Plain facts, of no program: a cursor as a datum, what each of its calls makes of it; blocks of memory that hold a cursor; 'Only b': nothing turns but block b and what is new. -/
namespace Go.Proofs.YtjpppnfkpnfhoaaDoor
open Go Go.RowKit
set_option linter.unusedVariables false

/-- A cursor as a datum: its text, where it stands, where its bytes end, its error. -/
structure CS where
  s : ByteArray
  at_ : Nat
  en : Nat
  er : Int

def CS.ok (c : CS) : Prop := c.at_ ≤ c.en ∧ c.en ≤ c.s.size ∧ c.s.size ≤ 9223372036854775807

def CS.val (c : CS) : Value := .agg #[.string c.s, .int .i64 c.at_, .int .i64 c.en, .int .i64 c.er]
def CS.new (s : ByteArray) : CS := ⟨s, 0, s.size, 0⟩
def CS.zero : CS := ⟨⟨#[]⟩, 0, 0, 0⟩

/-- What is wrong with reading n bytes. -/
def CS.why (c : CS) (n : Int) : Int := if c.er ≠ 0 then c.er else if n < 0 then 13 else if (c.en : Int) - c.at_ < n then 1 else 0
def CS.take (c : CS) (n : Int) : CS := if c.why n = 0 then { c with at_ := c.at_ + n.toNat } else { c with er := c.why n }
def CS.takeS (c : CS) (n : Int) : ByteArray := if c.why n = 0 then c.s.extract c.at_ (c.at_ + n.toNat) else ⟨#[]⟩
def CS.sub (c : CS) (n : Int) : CS := if c.why n = 0 then { c with en := c.at_ + n.toNat } else CS.zero
def CS.subIs (c : CS) (n : Int) : Bool := decide (c.why n = 0)
def CS.fail (c : CS) (k : Int) : CS := if c.er = 0 then { c with er := k } else c
def CS.endC (c : CS) : Int := if c.er = 0 ∧ c.at_ < c.en then 2 else c.er
def CS.peekIs (c : CS) : Bool := decide (c.er = 0 ∧ c.at_ < c.en)
def CS.peekB (c : CS) : Int := if c.peekIs then ((c.s.data[c.at_]?).getD 0).toNat else 0

theorem CS.why_zero {c : CS} {n : Int} (h : c.why n = 0) : c.er = 0 ∧ 0 ≤ n ∧ n ≤ (c.en : Int) - c.at_ := by
  unfold CS.why at h
  by_cases h1 : c.er = 0
  · by_cases h2 : n < 0
    · rw [if_neg (by simp [h1]), if_pos h2] at h; omega
    · by_cases h3 : (c.en : Int) - c.at_ < n
      · rw [if_neg (by simp [h1]), if_neg h2, if_pos h3] at h; omega
      · exact ⟨h1, by omega, by omega⟩
  · rw [if_pos h1] at h; exact ⟨h, absurd h h1⟩
theorem CS.why_mk {c : CS} {n : Int} (h1 : c.er = 0) (h2 : 0 ≤ n) (h3 : n ≤ (c.en : Int) - c.at_) : c.why n = 0 := by
  unfold CS.why; rw [if_neg (by simp [h1]), if_neg (by omega), if_neg (by omega)]
theorem CS.take_ok {c : CS} (h : c.ok) (n : Int) : (c.take n).ok := by
  obtain ⟨h1, h2, h3⟩ := h
  by_cases hw : c.why n = 0
  · obtain ⟨k1, k2, k3⟩ := CS.why_zero hw
    unfold CS.take; rw [if_pos hw]; exact ⟨by simp only; omega, h2, h3⟩
  · unfold CS.take; rw [if_neg hw]; exact ⟨h1, h2, h3⟩
theorem CS.sub_ok {c : CS} (h : c.ok) (n : Int) : (c.sub n).ok := by
  obtain ⟨h1, h2, h3⟩ := h
  by_cases hw : c.why n = 0
  · obtain ⟨k1, k2, k3⟩ := CS.why_zero hw
    unfold CS.sub; rw [if_pos hw]; exact ⟨by simp only; omega, by simp only; omega, h3⟩
  · unfold CS.sub; rw [if_neg hw]; exact ⟨Nat.le_refl _, Nat.le_refl _, by simp [CS.zero, ByteArray.size]⟩
theorem CS.fail_ok {c : CS} (h : c.ok) (n : Int) : (c.fail n).ok := by
  unfold CS.fail; split <;> exact h
theorem CS.new_ok {s : ByteArray} (h : s.size ≤ 9223372036854775807) : (CS.new s).ok := ⟨Nat.zero_le _, Nat.le_refl _, h⟩

/-- Block b holds the cursor c (t: the type of its cells). -/
def CurT (t : TypeId) (w : World) (b : Nat) (c : CS) : Prop := w.heap[b]? = some (.cells #[.string c.s, .int .i64 c.at_, .int .i64 c.en, .int .i64 c.er] t (0, 0))

theorem CurT.lt {t : TypeId} {w : World} {b : Nat} {c : CS} (h : CurT t w b c) : b < w.heap.size := lt_of_block h
theorem CurT.c0 {t : TypeId} {w : World} {b : Nat} {c : CS} (h : CurT t w b c) : w.cell? ⟨b, 0, none⟩ = some (.string c.s) := by unfold CurT at h; simp [World.cell?, h]
theorem CurT.c1 {t : TypeId} {w : World} {b : Nat} {c : CS} (h : CurT t w b c) : w.cell? ⟨b, 1, none⟩ = some (.int .i64 c.at_) := by unfold CurT at h; simp [World.cell?, h]
theorem CurT.c2 {t : TypeId} {w : World} {b : Nat} {c : CS} (h : CurT t w b c) : w.cell? ⟨b, 2, none⟩ = some (.int .i64 c.en) := by unfold CurT at h; simp [World.cell?, h]
theorem CurT.c3 {t : TypeId} {w : World} {b : Nat} {c : CS} (h : CurT t w b c) : w.cell? ⟨b, 3, none⟩ = some (.int .i64 c.er) := by unfold CurT at h; simp [World.cell?, h]
theorem CurT.fr {t : TypeId} {w : World} {b : Nat} {c : CS} (h : CurT t w b c) (o : Nat) : w.frozen? ⟨b, o, none⟩ = false := by unfold CurT at h; simp [World.frozen?, h]
theorem CurT.drewN {t : TypeId} {w : World} {b : Nat} {c : CS} (h : CurT t w b c) (n : Nat) : CurT t (w.drewN n) b c := h

theorem heap_setCell_block {w : World} {b o : Nat} {cs : Array Value} {t : TypeId} {fr : Nat × Nat} (h : w.heap[b]? = some (.cells cs t fr)) (u : Value) : (w.setCell ⟨b, o, none⟩ u).heap[b]? = some (.cells (cs.setIfInBounds o u) t fr) := by
  have hlt := lt_of_block h
  have h' : w.heap[b] = .cells cs t fr := by simpa [Array.getElem?_eq_getElem hlt] using h
  show (w.heap.modify b _)[b]? = _
  rw [Array.getElem?_eq_getElem (by simpa using hlt), Array.getElem_modify_self, h']
  rfl
theorem CurT.setAt {t : TypeId} {w : World} {b : Nat} {c : CS} (h : CurT t w b c) (a : Nat) : CurT t (w.setCell ⟨b, 1, none⟩ (.int .i64 a)) b { c with at_ := a } := heap_setCell_block h _
theorem CurT.setEr {t : TypeId} {w : World} {b : Nat} {c : CS} (h : CurT t w b c) (a : Int) : CurT t (w.setCell ⟨b, 3, none⟩ (.int .i64 a)) b { c with er := a } := heap_setCell_block h _

/-- Nothing turns but block b, and what is new. -/
structure Only (b : Nat) (w w' : World) : Prop where
  os : w'.os = w.os
  tape : w'.tape = w.tape
  output : w'.output = w.output
  size : w.heap.size ≤ w'.heap.size
  block : ∀ k, k < w.heap.size → k ≠ b → w'.heap[k]? = w.heap[k]?

theorem Only.refl (b : Nat) (w : World) : Only b w w := ⟨rfl, rfl, rfl, Nat.le_refl _, fun _ _ _ => rfl⟩
theorem Only.trans {b : Nat} {u v w : World} (h : Only b u v) (k : Only b v w) : Only b u w :=
  ⟨k.os.trans h.os, k.tape.trans h.tape, k.output.trans h.output, Nat.le_trans h.size k.size, fun i hi hb => (k.block i (Nat.lt_of_lt_of_le hi h.size) hb).trans (h.block i hi hb)⟩
theorem Only.drewN {b : Nat} {u v : World} (h : Only b u v) (n : Nat) : Only b u (v.drewN n) := ⟨h.os, h.tape, h.output, h.size, h.block⟩
theorem Only.drew {b : Nat} {u v : World} (h : Only b u v) : Only b u v.drew := ⟨h.os, h.tape, h.output, h.size, h.block⟩
theorem Only.setCell {b : Nat} {u v : World} (h : Only b u v) (o : Nat) (x : Value) : Only b u (v.setCell ⟨b, o, none⟩ x) :=
  h.trans ⟨rfl, rfl, rfl, by simp [World.setCell], fun k _ hk => Below.heap_setCell _ _ _ _ hk⟩
theorem Only.alloc {b : Nat} {u v : World} (h : Only b u v) (o : Obj) : Only b u (v.alloc o) :=
  h.trans ⟨rfl, rfl, rfl, by simp, fun k hk _ => Below.heap_alloc _ _ _ hk⟩
theorem Only.below {b N : Nat} {w w' : World} (h : Only b w w') (hb : N ≤ b) (hN : N ≤ w.heap.size) : Below N w w' :=
  ⟨h.os, h.tape, h.output, h.size, fun k hk => h.block k (Nat.lt_of_lt_of_le hk hN) (by omega)⟩
theorem Only.of_below {b : Nat} {w w' : World} (h : Below w.heap.size w w') : Only b w w' := ⟨h.os, h.tape, h.output, h.size, fun k hk _ => h.block k hk⟩
theorem Only.cur {b k : Nat} {t : TypeId} {c : CS} {w w' : World} (h : Only b w w') (hc : CurT t w k c) (hk : k ≠ b) : CurT t w' k c := (h.block k hc.lt hk).trans hc
theorem Below.cur {N k : Nat} {t : TypeId} {c : CS} {w w' : World} (h : Below N w w') (hc : CurT t w k c) (hk : k < N) : CurT t w' k c := (h.block k hk).trans hc
theorem Below.drewN {B : Nat} {a w : World} (h : Below B a w) (n : Nat) : Below B a (w.drewN n) := ⟨h.os, h.tape, h.output, h.size, h.block⟩
theorem cur_alloc {w : World} {c : CS} (t : TypeId) : CurT t (w.alloc (.cells #[.string c.s, .int .i64 c.at_, .int .i64 c.en, .int .i64 c.er] t (0, 0))) w.heap.size c := by
  show (w.heap.push _)[w.heap.size]? = _
  simp

end Go.Proofs.YtjpppnfkpnfhoaaDoor
/- Plain facts, of no program: a number's bytes, the lowest first ('lowL'), and the number of bytes ('valL'). -/
namespace Go.Proofs.YtjpppnfkpnfhoaaDoor
open Go Go.RowKit
set_option linter.unusedVariables false

/-- The n lowest bytes of u, the lowest first. -/
def lowL : Nat → Nat → List UInt8
  | _, 0 => []
  | u, n + 1 => UInt8.ofNat (u % 256) :: lowL (u / 256) n
/-- The number of bytes, the lowest first. -/
def valL : List UInt8 → Nat
  | [] => 0
  | b :: r => b.toNat + 256 * valL r

theorem lowL_length : ∀ (n u : Nat), (lowL u n).length = n
  | 0, _ => rfl
  | n + 1, u => by simp [lowL, lowL_length n]
theorem lowL_get : ∀ (n u k : Nat), k < n → (lowL u n)[k]? = some (UInt8.ofNat (u / 256 ^ k % 256))
  | 0, _, _, h => by omega
  | n + 1, u, 0, _ => by simp [lowL]
  | n + 1, u, k + 1, h => by
    rw [lowL, List.getElem?_cons_succ, lowL_get n (u / 256) k (by omega), Nat.div_div_eq_div_mul, Nat.pow_succ, Nat.mul_comm 256]
theorem valL_lowL : ∀ (n u : Nat), valL (lowL u n) = u % 256 ^ n
  | 0, u => by simp [lowL, valL, Nat.mod_one]
  | n + 1, u => by
    rw [lowL, valL, valL_lowL n, Nat.pow_succ, Nat.mul_comm (256 ^ n), Nat.mod_mul]
    simp
theorem valL_lt : ∀ (l : List UInt8), valL l < 256 ^ l.length
  | [] => by simp [valL]
  | b :: r => by
    have h1 := valL_lt r
    have h2 := b.toNat_lt
    rw [valL, List.length_cons, Nat.pow_succ]
    omega
theorem valL_snoc : ∀ (l : List UInt8) (b : UInt8), valL (l ++ [b]) = valL l + b.toNat * 256 ^ l.length
  | [], b => by simp [valL]
  | a :: r, b => by
    have h : 256 * (b.toNat * 256 ^ r.length) = b.toNat * (256 ^ r.length * 256) := by rw [Nat.mul_left_comm, Nat.mul_comm 256]
    rw [List.cons_append, valL, valL_snoc r b, valL, List.length_cons, Nat.pow_succ, Nat.mul_add, h, Nat.add_assoc]
theorem lowL_snoc (n u : Nat) : lowL u (n + 1) = lowL u n ++ [UInt8.ofNat (u / 256 ^ n % 256)] := by
  apply List.ext_getElem?
  intro k
  rcases Nat.lt_trichotomy k n with h | h | h
  · rw [lowL_get _ _ _ (by omega), List.getElem?_append_left (by rw [lowL_length]; exact h), lowL_get _ _ _ h]
  · subst h
    rw [lowL_get _ _ _ (by omega), List.getElem?_append_right (by rw [lowL_length]; exact Nat.le_refl _), lowL_length]; simp
  · rw [List.getElem?_eq_none (by rw [lowL_length]; omega), List.getElem?_eq_none (by rw [List.length_append, lowL_length]; simp; omega)]
theorem lowL_take (n u k : Nat) (h : k ≤ n) : (lowL u n).take k = lowL u k := by
  apply List.ext_getElem?
  intro j
  rw [List.getElem?_take]
  split
  · rw [lowL_get _ _ _ (by omega), lowL_get _ _ _ (by omega)]
  · rw [List.getElem?_eq_none (by rw [lowL_length]; omega)]

/-- A shift by whole bytes, and its lowest byte. -/
theorem shr_byte (u k : Nat) : (u : Int) / 2 ^ (8 * k) = ((u / 256 ^ k : Nat) : Int) := by
  rw [Int.natCast_ediv, Int.natCast_pow, Int.pow_mul]; rfl
/-- Two numbers side by side. -/
theorem or_shift (a b k : Nat) (h : a < 2 ^ k) : a ||| b * 2 ^ k = a + b * 2 ^ k := by
  rw [Nat.or_comm, Nat.mul_comm b, ← Nat.two_pow_add_eq_or_of_lt h, Nat.add_comm]


theorem valL_drop (l : List UInt8) (j : Nat) (h : j < l.length) : valL (l.drop j) = l[j].toNat + 256 * valL (l.drop (j + 1)) := by
  rw [List.drop_eq_getElem_cons h]; rfl
theorem valL_take (l : List UInt8) (k : Nat) (h : k < l.length) : valL (l.take (k + 1)) = valL (l.take k) + l[k].toNat * 256 ^ k := by
  rw [List.take_succ_eq_append_getElem h, valL_snoc, List.length_take, Nat.min_eq_left (Nat.le_of_lt h)]
theorem byte_at (s : ByteArray) (j : Nat) (h : j < s.size) (h' : j < s.data.toList.length) : s.data.toList[j] = s[j] := by
  rw [Array.getElem_toList]; rfl
theorem toList_size (s : ByteArray) : s.data.toList.length = s.size := Array.length_toList
theorem p256 {a b : Nat} (h : a ≤ b) : 256 ^ a ≤ 256 ^ b := Nat.pow_le_pow_right (by decide) h

/-- A byte that is shifted and laid beside those below it. -/
theorem or_byte (V b k : Nat) (hV : V < 256 ^ k) (hb : b < 256) (hk : k < 8) :
    bits .or .u64 (V : Int) (IntKind.u64.wrap ((b : Int) * 2 ^ (8 * k))) = ((V + b * 256 ^ k : Nat) : Int) := by
  have h1 : (256 : Nat) ^ k = 2 ^ (8 * k) := by rw [Nat.pow_mul]
  have h2 : b * 256 ^ k < 18446744073709551616 := by
    have h3 : 256 ^ k ≤ 256 ^ 7 := p256 (by omega)
    have h4 : b * 256 ^ k ≤ 255 * 256 ^ 7 := Nat.mul_le_mul (by omega) h3
    have h5 : 255 * 256 ^ 7 < 18446744073709551616 := by decide
    omega
  have h6 : ((b : Int) * 2 ^ (8 * k)) = ((b * 256 ^ k : Nat) : Int) := by rw [h1, Int.natCast_mul, Int.natCast_pow]; rfl
  have h7 : V < 18446744073709551616 := by
    have h3 : 256 ^ k ≤ 256 ^ 7 := p256 (by omega)
    have h5 : 256 ^ 7 < 18446744073709551616 := by decide
    omega
  rw [h6, IntWalk.u64_in _ (by omega), u64_or_nat _ _ h7 h2, h1, or_shift _ _ _ (by rw [← h1]; exact hV)]

end Go.Proofs.YtjpppnfkpnfhoaaDoor
/- Lists of bytes in memory, of no package: a list that the call itself made ('Bts'), one that was there ('BIn'), what 'copy', 'append' of one byte, 'string(b)' and '[]byte(s)' make of them. -/
namespace Go.Proofs.YtjpppnfkpnfhoaaDoor
open Go Go.RowKit
set_option linter.unusedVariables false

/-- Bytes as values. -/
def bV (l : List UInt8) : List Value := l.map fun b => .int .u8 (b.toNat : Int)
theorem bV_length (l : List UInt8) : (bV l).length = l.length := List.length_map _
theorem bV_append (l m : List UInt8) : bV (l ++ m) = bV l ++ bV m := List.map_append
theorem bV_one (l : List UInt8) : ∀ v ∈ bV l, v.oneCell' = true := by
  intro v hv
  obtain ⟨b, _, rfl⟩ := List.mem_map.mp hv
  rfl
theorem bV_get (l : List UInt8) (k : Nat) (h : k < l.length) : (bV l)[k]? = some (.int .u8 (l[k].toNat : Int)) := by
  simp [bV, List.getElem?_eq_getElem h]
/-- The slice v, that the call itself made, holds the bytes l. -/
def Bts (t : TypeId) (w : World) (B : Nat) (v : Value) (l : List UInt8) : Prop := w.ownsRow B t 1 v l.length (bV l)
/-- The slice at a, of so many bytes, that was there, holds the bytes l. -/
def BIn (w : World) (a : Option Addr) (l : List UInt8) : Prop :=
  ∀ j (h : j < l.length), ∃ b off, a = some ⟨b, off, none⟩ ∧ b < w.heap.size ∧ w.cell? ⟨b, off + j, none⟩ = some (.int .u8 (l[j].toNat : Int))
theorem Bts.below {t : TypeId} {w w' : World} {B N : Nat} {v : Value} {l : List UInt8} (h : Bts t w B v l) (hb : Below N w w') (hN : w.heap.size ≤ N) : Bts t w' B v l := by
  refine World.ownsRow.kept (row := none) h ⟨hb.os, hb.tape, hb.output, hb.size, fun k hk _ => hb.block k (by omega)⟩ ?_
  cases v.ownBlock <;> simp
theorem info8 : (Tryd.prog.info? 5).map (fun i => (i.zero, i.size, i.bytes)) = some (some (.int .u8 0), 1, 1) := by kernel_rfl
theorem size8 : (Tryd.prog.info? 5).map (·.size) = some 1 := by kernel_rfl
/-- What 'copy' of what came in makes of a list that has just been made. -/
theorem copy_fact (P : Program) (t e ty : TypeId) (i : TypeInfo) (ht : P.underlying t = some (.slice e)) (hi : (P.info? e).map (·.size) = some 1)
    (W : World) (a : Option Addr) (cap more : Nat) (l : List UInt8) (hin : BIn W a l) (hmax : l.length + more ≤ maxLen) :
    ∃ w2, (Builtin.copy_ #[t, t] ty #[.slice (some ⟨W.heap.size, 0, none⟩) l.length (l.length + more), .slice a l.length cap]).run P (W.alloc (.cells (Array.replicate (l.length + more) (.int .u8 0)) e)) = .ok (goInt l.length) w2 ∧
      Bts e w2 W.heap.size (.slice (some ⟨W.heap.size, 0, none⟩) l.length (l.length + more)) l ∧ Below W.heap.size W w2 := by
  have hnew : (W.alloc (.cells (Array.replicate (l.length + more) (.int .u8 0)) e)).heap[W.heap.size]? = some (.cells (Array.replicate (l.length + more) (.int .u8 0)) e (0, 0)) := heap_alloc_new W _
  have hb1 : Below W.heap.size W (W.alloc (.cells (Array.replicate (l.length + more) (.int .u8 0)) e)) := (Below.refl _ _).alloc (Nat.le_refl _) _
  by_cases h0 : l.length = 0
  · obtain rfl := List.eq_nil_of_length_eq_zero h0
    refine ⟨_, run_copy_none (P := P) _ t t ty e _ a 0 _ 0 cap ht hi rfl, ⟨rfl, .inr ⟨_, _, _, rfl, Nat.le_refl _, hnew, Nat.zero_le _, hmax, by simp, by simp [bV]⟩⟩, hb1⟩
  · obtain ⟨b, off, rfl, hbl, _⟩ := hin 0 (by omega)
    have hr := run_copy_row (P := P) (W.alloc (.cells (Array.replicate (l.length + more) (.int .u8 0)) e)) t t ty e W.heap.size 0 l.length (l.length + more) ⟨b, off, none⟩ l.length cap _ e (bV l) ht hi hnew
      (by rw [bV_length]; exact (Nat.min_self _).symm) (fun j v hj => by
        have hjl : j < l.length := by
          have := (List.getElem?_eq_some_iff.1 hj).1
          rwa [bV_length] at this
        obtain ⟨b', off', he, hb', hc⟩ := hin j hjl
        obtain ⟨rfl, rfl⟩ : b = b' ∧ off = off' := by simpa using he
        rw [bV_get l j hjl] at hj
        have e1 : (Addr.mk b off none).add j = ⟨b, off + j, none⟩ := by unfold Addr.add; split <;> simp_all
        rw [e1, World.cell?_of_block (w := W) (hb1.block b hb'), hc]
        exact hj) (by simp [bV_length]) (bV_one l)
    rw [bV_length] at hr
    refine ⟨_, hr, ⟨by rw [bV_length]; omega, .inr ⟨_, _, _, rfl, Nat.le_refl _, setRow_heap _ _ _ _ _ _ hnew, Nat.le_add_right _ _, hmax, ?_, ?_⟩⟩, hb1.trans ⟨rfl, rfl, rfl, by simp, fun k hk => setRow_other _ _ _ _ (by omega)⟩⟩
    · simp [bV_length]
    · rw [Nat.mul_one]
      simp [bV_length]
/-- 'append(list, b)' on a list that the call itself made: one byte more. -/
theorem wpList_append_byte {P : Program} {ops : Array Oper} {rest : List Oper} {o : Oper} {a : Act} {Q : Exit → Act → World → Prop} (hgd : o.guard = none) (s x : Operand) (t : TypeId)
    (ho : o.op = .call { callee := .builtin .append, args := #[s, x], argTypes := #[t, t] })
    (e : TypeId) (i : TypeInfo) (ht : P.underlying t = some (.slice e)) (hi : P.info? e = some i) (hz : i.zero = some (.int .u8 0)) (hsize : i.size = 1) (hby : i.bytes = 1)
    (v : Value) (W wr : World) (B : Nat) (l : List UInt8) (hb : Bts e wr B v l) (hbel : Below B W wr) (hB : B ≤ wr.heap.size) (hs : a.eval s = v)
    (z : Int) (b : UInt8) (hzb : z = (b.toNat : Int)) (hx : a.eval x = .slice (some ⟨wr.heap.size, 0, none⟩) 1 1) (hlen : l.length + 1 ≤ 140737488355328)
    (h : ∀ v' w', Bts e w' B v' (l ++ [b]) → Below B W w' → wpList P ops Q rest (a.put o.dst v') w') :
    wpList P ops Q (o :: rest) a (wr.alloc (.cells #[.int .u8 z] e)) := by
  subst hzb
  refine wpList_append_own _ hgd s x t ho B e i (.int .u8 0) 1 1 ht hi hz hsize hby rfl (by decide) v l.length (bV l) hs (World.ownsRow.alloc hb _) ⟨wr.heap.size, 0, none⟩ 1 1 [.int .u8 (b.toNat : Int)] hx rfl ?_ ?_ (by unfold maxLen; omega) (by omega) (by simp; omega) ?_
  · intro j u hj
    match j, hj with
    | 0, hj =>
      simp at hj
      subst hj
      have h1 := heap_alloc_new wr (.cells #[.int .u8 (b.toNat : Int)] e)
      show World.cell? _ ⟨wr.heap.size, 0 + 0, none⟩ = _
      simp only [World.cell?]
      rw [h1]; rfl
  · intro u hu; simp at hu; subst hu; rfl
  · intro v' w' hown hgr _
    refine h v' w' ?_ ?_
    · unfold Bts
      rw [bV_append, List.length_append]
      exact hown
    · refine hbel.trans ⟨hgr.os, hgr.tape, hgr.output, by have := hgr.size; simp at this; omega, fun k hk => ?_⟩
      have hne : some k ≠ v.ownBlock := fun hk' => by
        have := (World.ownsRow.lt hb k hk'.symm).1
        omega
      rw [hgr.block k (by simp; omega) hne]
      exact Below.heap_alloc _ _ _ (by omega)
/-- A text of bytes. -/
def bA (l : List UInt8) : ByteArray := ⟨l.toArray⟩
theorem bA_size (l : List UInt8) : (bA l).size = l.length := by simp [bA, ByteArray.size]
theorem bA_append (l m : List UInt8) : bA l ++ bA m = bA (l ++ m) := by
  apply ByteArray.ext
  simp [bA]
/-- 'string(b)' of a list that the call itself made. -/
theorem Bts.text {P : Program} {t e d : TypeId} {w : World} {B : Nat} {v : Value} {l : List UInt8} (h : Bts e w B v l) (ht : P.underlying t = some (.slice e)) (he : P.underlying e = some (.int .u8)) (hd : P.underlying d = some .string) :
    (convert t d v).run P w = .ok (.string (bA l)) w := by
  rcases h.2 with ⟨rfl, hn⟩ | ⟨g, cap, cur, rfl, _, hg, _⟩
  · obtain rfl := List.eq_nil_of_length_eq_zero hn
    exact run_convert_bytes_nil w t e ht he 0 0 d hd
  · refine run_convert_bytes_back w t d e ⟨g, 0, none⟩ cap l ht he hd fun j hj => ?_
    have e1 : (Addr.mk g 0 none).add j = ⟨g, j, none⟩ := by unfold Addr.add; split <;> simp_all
    rw [e1, World.ownsRow.cellAt h j (by omega), bV_get l j hj]
/-- Of one byte, just laid. -/
theorem text_one (P : Program) (t e d : TypeId) (w : World) (z : Int) (b : UInt8) (hz : z = (b.toNat : Int)) (ht : P.underlying t = some (.slice e)) (he : P.underlying e = some (.int .u8)) (hd : P.underlying d = some .string) :
    (convert t d (.slice (some ⟨w.heap.size, 0, none⟩) 1 1)).run P (w.alloc (.cells #[.int .u8 z] e)) = .ok (.string (bA [b])) (w.alloc (.cells #[.int .u8 z] e)) := by
  subst hz
  refine run_convert_bytes_back _ t d e ⟨w.heap.size, 0, none⟩ 1 [b] ht he hd fun j hj => ?_
  have h0 : j = 0 := by simpa using hj
  subst h0
  have h1 := heap_alloc_new w (.cells #[.int .u8 (b.toNat : Int)] e)
  show World.cell? _ ⟨w.heap.size, 0 + 0, none⟩ = _
  simp only [World.cell?]
  rw [h1]; rfl
theorem mod_byte (u : Nat) : (u : Int) % 256 = ((UInt8.ofNat (u % 256)).toNat : Int) := by
  have : (UInt8.ofNat (u % 256)).toNat = u % 256 := by rw [UInt8.toNat_ofNat']; omega
  rw [this]; omega
theorem bA_of (p : ByteArray) : bA p.data.toList = p := by
  apply ByteArray.ext; simp [bA]
theorem bA_front (p : ByteArray) (l : List UInt8) : bA (p.data.toList ++ l) = p ++ bA l := by
  rw [← bA_append, bA_of]
/-- '[]byte(p)' of a text: the bytes lie there. -/
theorem bytes_in (w : World) (e : TypeId) (p : ByteArray) : BIn (Lib.bytesWorld w e p) (some ⟨w.heap.size, 0, none⟩) p.data.toList := by
  intro j hj
  have hs : j < p.size := by rw [toList_size] at hj; exact hj
  refine ⟨_, _, rfl, by rw [Lib.bytesWorld_size]; omega, ?_⟩
  rw [Nat.zero_add, Lib.bytesWorld_cell w e p j hs, List.getD_eq_getElem?_getD, List.getElem?_eq_getElem hj]; rfl
theorem bytes_below (w : World) (e : TypeId) (p : ByteArray) : Below w.heap.size w (Lib.bytesWorld w e p) :=
  ⟨by simp [Lib.bytesWorld, World.freeze, World.alloc, World.drew, -World.alloc_eq, -World.drew_eq], by simp [Lib.bytesWorld, World.freeze, World.alloc, World.drew, -World.alloc_eq, -World.drew_eq], by simp [Lib.bytesWorld, World.freeze, World.alloc, World.drew, -World.alloc_eq, -World.drew_eq], by rw [Lib.bytesWorld_size]; omega, fun k hk => Lib.bytesWorld_at_old w e p k hk⟩
/-- A list that the call made, of the text p and the bytes l behind it: its form. -/
theorem bts_form {t : TypeId} {w : World} {B n : Nat} {v : Value} {p : ByteArray} {l : List UInt8} (hl : l.length = n) (hn0 : 0 < n) (h : Bts t w B v (p.data.toList ++ l)) :
    ∃ g cap, v = .slice (some ⟨g, 0, none⟩) (p.size + n) cap ∧ B ≤ g ∧ g < w.heap.size ∧ p.size + n ≤ cap ∧ (∀ j (hj : j < (p.data.toList ++ l).length), w.cell? ⟨g, j, none⟩ = some (.int .u8 ((p.data.toList ++ l)[j].toNat : Int))) := by
  subst hl
  rcases h.2 with ⟨_, hn⟩ | ⟨g, cap, cur, rfl, hB, hg, hnc, _⟩
  · rw [List.length_append] at hn; omega
  · refine ⟨g, cap, by rw [List.length_append, toList_size], hB, lt_of_block hg, by rw [List.length_append, toList_size] at hnc; exact hnc, fun j hj => ?_⟩
    rw [World.ownsRow.cellAt h j (by omega), bV_get _ j hj]
/-- Block g holds the text p and behind it the bytes l, from its head on. -/
def Holds (w : World) (g : Nat) (p : ByteArray) (l : List UInt8) : Prop := ∀ j (hj : j < (p.data.toList ++ l).length), w.cell? ⟨g, j, none⟩ = some (.int .u8 ((p.data.toList ++ l)[j].toNat : Int))
theorem Holds.below {w w' : World} {g : Nat} {p : ByteArray} {l : List UInt8} {N : Nat} (h : Holds w g p l) (hb : Below N w w') (hg : g < N) : Holds w' g p l :=
  fun j hj => (hb.cell (p := ⟨g, j, none⟩) hg).trans (h j hj)
theorem Holds.drewN {w : World} {g : Nat} {p : ByteArray} {l : List UInt8} (h : Holds w g p l) (n : Nat) : Holds (w.drewN n) g p l := h
theorem Holds.all {P : Program} {t e d : TypeId} {w : World} {g cap n : Nat} {p : ByteArray} {l : List UInt8} (hl : l.length = n) (h : Holds w g p l) (ht : P.underlying t = some (.slice e)) (he : P.underlying e = some (.int .u8)) (hd : P.underlying d = some .string) :
    (convert t d (.slice (some ⟨g, 0, none⟩) (p.size + n) cap)).run P w = .ok (.string (p ++ bA l)) w := by
  subst hl
  have := run_convert_bytes_back (P := P) w t d e ⟨g, 0, none⟩ cap (p.data.toList ++ l) ht he hd fun j hj => by
    have e1 : (Addr.mk g 0 none).add j = ⟨g, j, none⟩ := by unfold Addr.add; split <;> simp_all
    rw [e1, h j hj]
  rw [List.length_append, toList_size] at this
  rw [this, ← bA_front]; rfl
theorem Holds.back {P : Program} {t e d : TypeId} {w : World} {g cap n : Nat} {p : ByteArray} {l : List UInt8} (hl : l.length = n) (h : Holds w g p l) (ht : P.underlying t = some (.slice e)) (he : P.underlying e = some (.int .u8)) (hd : P.underlying d = some .string) :
    (convert t d (.slice (some ⟨g, p.size, none⟩) n cap)).run P w = .ok (.string (bA l)) w := by
  subst hl
  refine run_convert_bytes_back (P := P) w t d e ⟨g, p.size, none⟩ cap l ht he hd fun j hj => ?_
  have e1 : (Addr.mk g p.size none).add j = ⟨g, p.size + j, none⟩ := by unfold Addr.add; split <;> simp_all
  have h2 := h (p.size + j) (by rw [List.length_append, toList_size]; omega)
  rw [e1, h2, List.getElem_append_right (by rw [toList_size]; omega)]
  simp

theorem i64_small {x : Int} (h : -9223372036854775808 ≤ x) (h2 : x ≤ 9223372036854775807) : IntKind.i64.wrap x = x := IntWalk.i64_in _ ⟨h, h2⟩
theorem wrap64_in {x : Int} (h : 0 ≤ x) (h2 : x < 256) : wrap64 x = x := by unfold wrap64; omega
/-- Two texts compared. -/
theorem text_eq (a b : ByteArray) : (a.toList == b.toList) = decide (a = b) := by
  rw [ByteArray.toList_eq, ByteArray.toList_eq]
  by_cases h : a = b
  · subst h; simp
  · rw [decide_eq_false h]
    exact beq_eq_false_iff_ne.mpr (fun e => h (ByteArray.ext (Array.toList_inj.mp e)))

theorem ret_b {a b : Bool} (h : a = b) : Ending.returned (.bool a) = .returned (.bool b) := by rw [h]
theorem ret_i {k : IntKind} {a b : Int} (h : a = b) : Ending.returned (.int k a) = .returned (.int k b) := by rw [h]
theorem ret_ii {a c b d : Int} (h : a = c) (k : b = d) : Ending.returned (.tuple #[.int .i64 a, .int .i64 b]) = .returned (.tuple #[.int .i64 c, .int .i64 d]) := by rw [h, k]
theorem grown_then {w w1 w' : World} (h : Below w.heap.size w w1) (hbq : Below w1.heap.size w1 w') : Below w.heap.size w w' := h.trans (hbq.mono h.size)
theorem ext_toList (s : ByteArray) (a b : Nat) : (s.extract a b).data.toList = (s.data.toList.drop a).take (b - a) := by
  rw [ByteArray.data_extract, Array.toList_extract, List.extract_eq_take_drop]
theorem back_toList (s : ByteArray) (k : Nat) : (s.extract k s.size).data.toList = s.data.toList.drop k := by
  rw [ext_toList, List.take_of_length_le]
  rw [List.length_drop, toList_size]; exact Nat.le_refl _
theorem text_ne (a b : ByteArray) : (a.toList != b.toList) = decide (¬ a = b) := by
  show (!(a.toList == b.toList)) = _
  rw [text_eq]; simp
theorem cut_none (s : ByteArray) : s.extract 0 0 = ⟨#[]⟩ := by
  apply ByteArray.ext; simp
theorem toList_append (s t : ByteArray) : (s ++ t).data.toList = s.data.toList ++ t.data.toList := by simp
theorem drew_below (w : World) (m : Nat) : Below w.heap.size w (w.drewN m) := Below.drewN (Below.refl _ _) m
theorem BIn.below {w w' : World} {a : Option Addr} {l : List UInt8} (h : BIn w a l) (hb : Below w.heap.size w w') : BIn w' a l := fun j hj => by
  obtain ⟨b, off, e, hlt, hc⟩ := h j hj
  exact ⟨b, off, e, Nat.lt_of_lt_of_le hlt hb.size, (hb.cell (p := ⟨b, off + j, none⟩) hlt).trans hc⟩
theorem Bts.base {t : TypeId} {w : World} {B N : Nat} {v : Value} {l : List UInt8} (h : Bts t w N v l) (hB : B ≤ N) : Bts t w B v l := by
  refine ⟨h.1, ?_⟩
  rcases h.2 with e | ⟨g, cap, cur, e, hg, h2⟩
  · exact .inl e
  · exact .inr ⟨g, cap, cur, e, Nat.le_trans hB hg, h2⟩
theorem below_on {B N : Nat} {a b c : World} (h : Below B a b) (h2 : Below N b c) (hN : B ≤ N) : Below B a c :=
  h.trans ⟨h2.os, h2.tape, h2.output, h2.size, fun k hk => h2.block k (by omega)⟩

theorem isEmpty_of (s : ByteArray) : s.toList.isEmpty = decide (s.size = 0) := by
  rw [ByteArray.toList_eq, Bool.eq_iff_iff, List.isEmpty_iff_length_eq_zero, toList_size, decide_eq_true_iff]
theorem bA_is (l m : List UInt8) : ((bA l).toList == m) = decide (l = m) := by
  rw [ByteArray.toList_eq, show (bA l).data.toList = l by simp [bA], Bool.eq_iff_iff, beq_iff_eq, decide_eq_true_iff]
theorem lit_is (s : ByteArray) (m : List UInt8) : (s.toList == m) = decide (s.data.toList = m) := by
  rw [ByteArray.toList_eq, Bool.eq_iff_iff, beq_iff_eq, decide_eq_true_iff]
theorem head_at (s : ByteArray) (h : 0 < s.size) : s.data.toList.head? = some s[0] := by
  have h' : 0 < s.data.toList.length := by rw [toList_size]; exact h
  rw [List.head?_eq_getElem?, List.getElem?_eq_getElem h', byte_at s 0 h h']
theorem tail_text (s : ByteArray) : (s.extract 1 s.size).data.toList = s.data.toList.drop 1 := by
  rw [ByteArray.data_extract, Array.toList_extract, List.extract_eq_take_drop]
  exact List.take_of_length_le (by rw [List.length_drop, toList_size]; exact Nat.le_refl _)
/-- 'make([]byte, n, n+more)'. -/
theorem make_bytes (n more : Nat) (w : World) (hl : n + more ≤ 140737488355000) :
    (Instr.makeSlice 35 (.int .i64 (n : Int)) (.int .i64 ((n : Int) + more))).run Tryd.prog w = .ok (.slice (some ⟨w.heap.size, 0, none⟩) n (n + more)) (w.alloc (.cells (Array.replicate (n + more) (.int .u8 0)) 5)) := by
  obtain ⟨i0, hi, hz0, hz1, hz2⟩ := info_parts info8
  have := run_make (P := Tryd.prog) w 35 5 i0 (.int .u8 0) Tryd.underlying35 hi hz0 .i64 .i64 (n : Int) ((n : Int) + more) (by omega) (by omega) (by rw [hz2]; omega) (by omega)
  have hn : ((n : Int) + more).toNat = n + more := by omega
  have hma : madeCells (Value.int .u8 0).cells (n + more) = Array.replicate (n + more) (.int .u8 0) := by
    apply Array.toList_inj.mp
    show (madeCells #[.int .u8 0] _).toList = _
    rw [toList_madeCells_one, Array.toList_replicate]
  rw [this, hn, hz1, Nat.mul_one, hma]
  rfl

end Go.Proofs.YtjpppnfkpnfhoaaDoor
/- 'append' of a text, or of a list, to a list that the call itself made. Of no package. -/
namespace Go.Proofs.YtjpppnfkpnfhoaaDoor
open Go Go.RowKit
set_option linter.unusedVariables false

/-- 'append(list, s...)' of a text, on a list that the call itself made. -/
theorem wpList_append_text {P : Program} {ops : Array Oper} {rest : List Oper} {o : Oper} {a : Act} {Q : Exit → Act → World → Prop} (hgd : o.guard = none) (sl x : Operand) (t u : TypeId)
    (ho : o.op = .call { callee := .builtin .append, args := #[sl, x], argTypes := #[t, u] })
    (e : TypeId) (i : TypeInfo) (ht : P.underlying t = some (.slice e)) (hu : P.underlying u = some .string) (hi : P.info? e = some i) (hz : i.zero = some (.int .u8 0)) (hsize : i.size = 1) (hby : i.bytes = 1)
    (v : Value) (W w : World) (B : Nat) (l : List UInt8) (s : ByteArray) (hb : Bts e w B v l) (hbel : Below B W w) (hB : B ≤ w.heap.size) (hs : a.eval sl = v) (hx : a.eval x = .string s) (hlen : l.length + s.size ≤ 140737488355328)
    (h : ∀ v' w', Bts e w' B v' (l ++ s.data.toList) → Below B W w' → wpList P ops Q rest (a.put o.dst v') w') :
    wpList P ops Q (o :: rest) a w := by
  refine Lib.wpList_append_own_string w hgd sl x t u ho B e i ht hu hi hz hsize hby v l.length (bV l) hs hb s hx (by unfold maxLen; omega) hlen hB ?_
  intro v' w' hown hgr _
  refine h v' w' ?_ ?_
  · unfold Bts
    rw [bV_append, List.length_append, toList_size]
    exact hown
  · refine hbel.trans ⟨hgr.os, hgr.tape, hgr.output, hgr.size, fun k hk => ?_⟩
    have hne : some k ≠ v.ownBlock := fun hk' => by
      have := (World.ownsRow.lt hb k hk'.symm).2
      have := (World.ownsRow.lt hb k hk'.symm).1
      omega
    exact hgr.block k (by omega) hne

/-- 'append(list, m...)' of another list. -/
theorem wpList_append_bytes {P : Program} {ops : Array Oper} {rest : List Oper} {o : Oper} {a : Act} {Q : Exit → Act → World → Prop} (hgd : o.guard = none) (s x : Operand) (t : TypeId)
    (ho : o.op = .call { callee := .builtin .append, args := #[s, x], argTypes := #[t, t] })
    (e : TypeId) (i : TypeInfo) (ht : P.underlying t = some (.slice e)) (hi : P.info? e = some i) (hz : i.zero = some (.int .u8 0)) (hsize : i.size = 1) (hby : i.bytes = 1)
    (v v2 : Value) (W w : World) (B B2 : Nat) (l m : List UInt8) (hb : Bts e w B v l) (hb2 : Bts e w B2 v2 m) (hm : m ≠ []) (hbel : Below B W w) (hB : B ≤ w.heap.size) (hs : a.eval s = v) (hx : a.eval x = v2) (hlen : l.length + m.length ≤ 140737488355328)
    (h : ∀ v' w', Bts e w' B v' (l ++ m) → Below B W w' → wpList P ops Q rest (a.put o.dst v') w') :
    wpList P ops Q (o :: rest) a w := by
  rcases hb2.2 with ⟨_, hn⟩ | ⟨g, cap, cur, rfl, _, hg, _⟩
  · exact absurd (List.eq_nil_of_length_eq_zero hn) hm
  · refine wpList_append_own w hgd s x t ho B e i (.int .u8 0) 1 1 ht hi hz hsize hby rfl (by decide) v l.length (bV l) hs hb ⟨g, 0, none⟩ m.length cap (bV m) hx (by rw [bV_length, Nat.mul_one]) ?_ (bV_one m) (by unfold maxLen; omega) (by omega) hB ?_
    · intro j u hj
      have hjl : j < m.length := by
        have := (List.getElem?_eq_some_iff.1 hj).1
        rwa [bV_length] at this
      have e1 : (Addr.mk g 0 none).add j = ⟨g, j, none⟩ := by unfold Addr.add; split <;> simp_all
      rw [e1, World.ownsRow.cellAt hb2 j (by omega)]
      exact hj
    · intro v' w' hown hgr _
      refine h v' w' ?_ ?_
      · unfold Bts
        rw [bV_append, List.length_append]
        exact hown
      · refine hbel.trans ⟨hgr.os, hgr.tape, hgr.output, hgr.size, fun k hk => ?_⟩
        have hne : some k ≠ v.ownBlock := fun hk' => by
          have := (World.ownsRow.lt hb k hk'.symm).1
          omega
        exact hgr.block k (by omega) hne
end Go.Proofs.YtjpppnfkpnfhoaaDoor
/- A list out of what stands at each place; a list of bytes that the call made, as it is handed on. Of no package. -/
namespace Go.Proofs.YtjpppnfkpnfhoaaDoor
open Go Go.RowKit
set_option linter.unusedVariables false

theorem any_list {α : Type} {Q : Nat → α → Prop} : ∀ n : Nat, (∀ i, i < n → ∃ o, Q i o) → ∃ L : List α, L.length = n ∧ ∀ i (h : i < L.length), Q i L[i]
  | 0, _ => ⟨[], rfl, fun i h => by simp at h⟩
  | n + 1, h => by
    obtain ⟨L, hl, hq⟩ := any_list n (fun i hi => h i (by omega))
    obtain ⟨o, ho⟩ := h n (by omega)
    refine ⟨L ++ [o], by rw [List.length_append, hl]; rfl, fun i hi => ?_⟩
    by_cases e : i < L.length
    · rw [List.getElem_append_left e]; exact hq i e
    · have : i = n := by rw [List.length_append, List.length_singleton] at hi; omega
      subst this
      rw [List.getElem_append_right (by omega)]
      simp only [hl, Nat.sub_self, List.getElem_cons_zero]; exact ho
theorem add_zero_at (ad : Addr) : ad.add 0 = ad := by unfold Addr.add; split <;> simp_all
/-- A list of bytes that the call made, as it is handed on. -/
theorem Bts.inn {t : TypeId} {w : World} {B : Nat} {v : Value} {l : List UInt8} (h : Bts t w B v l) : ∃ a cap, v = .slice a l.length cap ∧ BIn w a l := by
  rcases h.2 with ⟨rfl, hn⟩ | ⟨g, cap, cur, rfl, _, hg, _⟩
  · have h0 : l = [] := List.eq_nil_of_length_eq_zero hn
    subst h0
    exact ⟨none, 0, rfl, fun j hj => by simp at hj⟩
  · refine ⟨_, cap, rfl, fun j hj => ⟨g, 0, rfl, lt_of_block hg, ?_⟩⟩
    rw [Nat.zero_add, World.ownsRow.cellAt h j (by omega)]
    unfold bV
    rw [List.getElem?_map, List.getElem?_eq_getElem hj]; rfl
end Go.Proofs.YtjpppnfkpnfhoaaDoor
/- What a row's condition on listed variables says of memory: one variable out of the list; a laid array of integers, cell by cell. Of no package. -/
namespace Go.Proofs.YtjpppnfkpnfhoaaDoor
open Go.ChangeShapes Go.WideShapes Go.ChangeAt Go.WideMaps Go.WideElems Go.RowKit

/-- A laid array of integers, cell by cell. -/
theorem cells_of_ints {H : Type} {enc : TypeId × Value → H} {P : Program} {W : World} {base fuel n : Nat} {spare : Nat → Bool} {held : Bool} {t e : TypeId} {k : IntKind} {cs : List Value} {zs : List Int} {p : List MemPlace}
    (ht : P.underlying t = some (.array n e)) (he : P.underlying e = some (.int k)) (hc : P.cellsOf e = 1)
    (h : DataW.trod enc P W base spare held fuel t cs = some (.agg (zs.map fun z => .lit (.int k z)), p)) :
    ∀ i, i < n → cs[i]? = some (.int k (zs.getD i 0)) := by
  intro i hi
  obtain ⟨xs, m, rfl, hx, hlen, hn, hel⟩ := DataW.trod_array ht h
  have hi' : i < xs.length := by omega
  have h1 := hel i hi
  rw [hc, Nat.mul_one, List.getElem?_eq_getElem hi'] at h1
  obtain ⟨z, e1, e2, _⟩ := DataW.trod_int he h1
  simp only [Prod.mk.injEq, DataW.agg.injEq] at hx
  have h2 : (zs.map fun z => DataW.lit (H := H) (.int k z))[i]? = some xs[i].1 := by rw [hx.1]; simp [hi']
  rw [e2] at h2
  have h3 : zs[i]? = some z := by simpa using h2
  have h4 : cs[i]? = some (.int k z) := by
    have : (List.take 1 (List.drop i cs))[0]? = some (.int k z) := by rw [e1]; rfl
    simpa [List.getElem?_take, List.getElem?_drop] using this
  rw [h4, List.getD_eq_getElem?_getD, h3]; rfl

/-- One variable of a list that is met. -/
theorem laid_one {P : Program} {w : World} {n : String} {d : DataW Unit} : ∀ {laid : List (String × DataW Unit)} {ps : List MemPlace}, DataW.LaidVars P w laid ps → (n, d) ∈ laid →
    ∃ g t cs fuel p, P.globalNamed n = some g ∧ (P.globals[g]?).map (·.type) = some t ∧ w.var? P n = some cs ∧ DataW.trod (fun _ => ()) P w 0 (fun _ => true) false fuel t cs.toList = some (d, p)
  | [], _, _, hm => by cases hm
  | x :: r, ps, h, hm => by
    obtain ⟨g, t, cs, fuel, p, q, h1, h2, h3, h4, h5, h6⟩ := h
    rcases List.mem_cons.mp hm with e | e
    · subst e
      exact ⟨g, t, cs, fuel, p, h1, h2, h3, h4⟩
    · exact laid_one h5 e
theorem laid_mem {P : Program} {w : World} {n : String} {d : DataW Unit} {laid : List (String × DataW Unit)} (hp : (laid.all fun x => x.2.handleName?.isNone) = true) (h : laidMetH P laid w) (hm : (n, d) ∈ laid) :
    ∃ g t cs fuel p, P.globalNamed n = some g ∧ (P.globals[g]?).map (·.type) = some t ∧ w.var? P n = some cs ∧ DataW.trod (fun _ => ()) P w 0 (fun _ => true) false fuel t cs.toList = some (d, p) := by
  rw [MakeChecks.laidMetH_plain _ _ _ hp] at h
  obtain ⟨ps, h1, _, _⟩ := h
  exact laid_one h1 hm
/-- A listed array of integers, where the program keeps it. -/
theorem ints_of_laid {P : Program} {w : World} {n : String} {laid : List (String × DataW Unit)} {d : DataW Unit} {k : IntKind} {zs : List Int} {g m : Nat} {t e : TypeId} (hp : (laid.all fun x => x.2.handleName?.isNone) = true) (h : laidMetH P laid w) (hm : (n, d) ∈ laid)
    (hd : d = .agg (zs.map fun z => .lit (.int k z))) (hg : P.globalNamed n = some g) (ht : (P.globals[g]?).map (·.type) = some t) (hu : P.underlying t = some (.array m e)) (he : P.underlying e = some (.int k)) (hc : P.cellsOf e = 1) :
    ∀ i, i < m → w.cell? ⟨g, i, none⟩ = some (.int k (zs.getD i 0)) := by
  obtain ⟨g0, t0, cs0, f0, p0, hg0, ht0, hv0, hd0⟩ := laid_mem hp h hm
  obtain rfl := Option.some.inj (hg.symm.trans hg0)
  obtain rfl := Option.some.inj (ht.symm.trans ht0)
  subst hd
  have hcs := cells_of_ints hu he hc hd0
  intro i hi
  rw [World.var?_cell hg0 hv0 i]
  have h1 := hcs i hi
  rw [Array.getElem?_toList] at h1
  exact h1
/-- The same as a table of the library's. -/
theorem tab_of_laid {P : Program} {w : World} {n : String} {laid : List (String × DataW Unit)} {d : DataW Unit} {k : IntKind} {zs : List Int} {g m : Nat} {t e : TypeId} (hp : (laid.all fun x => x.2.handleName?.isNone) = true) (h : laidMetH P laid w) (hm : (n, d) ∈ laid)
    (hd : d = Lib.tabData k zs) (hg : P.globalNamed n = some g) (ht : (P.globals[g]?).map (·.type) = some t) (hu : P.underlying t = some (.array m e)) (he : P.underlying e = some (.int k)) (hc : P.cellsOf e = 1) (hct : P.cellsOf t = m) : Lib.TabIs P w n k zs := by
  obtain ⟨g0, t0, cs0, f0, p0, hg0, ht0, hv0, hd0⟩ := laid_mem hp h hm
  obtain rfl := Option.some.inj (hg.symm.trans hg0)
  obtain rfl := Option.some.inj (ht.symm.trans ht0)
  subst hd
  unfold Lib.TabIs
  rw [hv0, ← Lib.cells_of_tab hu he hc hct hd0]
end Go.Proofs.YtjpppnfkpnfhoaaDoor
