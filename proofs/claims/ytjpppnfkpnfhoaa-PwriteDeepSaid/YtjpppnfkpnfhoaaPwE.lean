/- Package pwrite: New, Size, Bytes. -/
import Derived.Test.YtjpppnfkpnfhoaaPwD
import Derived.Test.YtjpppnfkpnfhoaaShelf
namespace Go.Proofs.Ytjpppnfkpnfhoaa
open Go Go.RowKit
set_option linter.unusedVariables false

/-- Block b holds a message whose list of parts is v, and whose fields are X; it and its list are of blocks from B on. -/
structure MsgR (T : Prop) (w : World) (B b : Nat) (v : Value) (X : List FD) : Prop where
  base : B ≤ b
  blk : w.heap[b]? = some (.cells #[v, .int .i64 ((pB X).length : Nat)] 42 (0, 0))
  row : PRow T w B v X
theorem MsgR.lt {T : Prop} {w : World} {B b : Nat} {v : Value} {X : List FD} (h : MsgR T w B b v X) : b < w.heap.size := lt_of_block h.blk
theorem MsgR.c0 {T : Prop} {w : World} {B b : Nat} {v : Value} {X : List FD} (h : MsgR T w B b v X) : w.cell? ⟨b, 0, none⟩ = some v := by simp [World.cell?, h.blk]
theorem MsgR.c1 {T : Prop} {w : World} {B b : Nat} {v : Value} {X : List FD} (h : MsgR T w B b v X) : w.cell? ⟨b, 1, none⟩ = some (.int .i64 ((pB X).length : Nat)) := by simp [World.cell?, h.blk]
theorem MsgR.fr {T : Prop} {w : World} {B b : Nat} {v : Value} {X : List FD} (h : MsgR T w B b v X) (o : Nat) : w.frozen? ⟨b, o, none⟩ = false := by simp [World.frozen?, h.blk]
theorem MsgR.own {T : Prop} {w : World} {B b : Nat} {v : Value} {X : List FD} (h : MsgR T w B b v X) : ∀ g, v.ownBlock = some g → B ≤ g ∧ g < w.heap.size := fun g hg => by
  obtain ⟨h1, cs, h2⟩ := h.row.own g hg
  exact ⟨h1, lt_of_block h2⟩
/-- What a call leaves that adds to the message at b, whose list of parts was v. -/
structure AddK (b : Nat) (v : Value) (w w' : World) : Prop where
  os : w'.os = w.os
  tape : w'.tape = w.tape
  output : w'.output = w.output
  size : w.heap.size ≤ w'.heap.size
  block : ∀ k, k < w.heap.size → k ≠ b → some k ≠ v.ownBlock → w'.heap[k]? = w.heap[k]?
  kp : Kp w w'
theorem AddK.of_below {b : Nat} {v : Value} {w w' : World} (h : Below w.heap.size w w') : AddK b v w w' := ⟨h.os, h.tape, h.output, h.size, fun k hk _ _ => h.block k hk, Kp.below h⟩
theorem AddK.below {b N : Nat} {v : Value} {w w' : World} (h : AddK b v w w') (hb : N ≤ b) (hv : ∀ g, v.ownBlock = some g → N ≤ g) (hN : N ≤ w.heap.size) : Below N w w' :=
  ⟨h.os, h.tape, h.output, h.size, fun k hk => h.block k (by omega) (by omega) (fun e => by have := hv k e.symm; omega)⟩
/-- A message stays where its block and its list's stay. -/
theorem MsgR.keep {T : Prop} {w w' : World} {B b : Nat} {v : Value} {X : List FD} (h : MsgR T w B b v X) (hk : Kp w w') (hb : w'.heap[b]? = w.heap[b]?) (hv : ∀ g, v.ownBlock = some g → w'.heap[g]? = w.heap[g]?) : MsgR T w' B b v X :=
  ⟨h.base, hb.trans h.blk, h.row.keep hk hv⟩
theorem MsgR.below {T : Prop} {w w' : World} {B b : Nat} {v : Value} {X : List FD} (h : MsgR T w B b v X) (hb : Below w.heap.size w w') : MsgR T w' B b v X :=
  h.keep (Kp.below hb) (hb.block b h.lt) fun g hg => hb.block g (h.own g hg).2
theorem MsgR.other {T : Prop} {w w' : World} {B b c : Nat} {v u : Value} {X : List FD} (h : MsgR T w B b v X) (hk : AddK c u w w') (hb : b ≠ c) (hbu : some b ≠ u.ownBlock) (hv : ∀ g, v.ownBlock = some g → g ≠ c ∧ some g ≠ u.ownBlock) : MsgR T w' B b v X :=
  h.keep hk.kp (hk.block b h.lt hb hbu) fun g hg => hk.block g (h.own g hg).2 (hv g hg).1 (hv g hg).2
theorem MsgR.rebase {T : Prop} {w : World} {B C b : Nat} {v : Value} {X : List FD} (h : MsgR T w B b v X) (hC : C ≤ B) : MsgR T w C b v X := ⟨by have := h.base; omega, h.blk, h.row.base hC⟩

theorem pnew_any (w : World) :
    Calls Try.prog 6 #[] w fun e w' => e = .returned (.pointer (some ⟨w.heap.size, 0, none⟩)) ∧ w' = w.alloc (.cells #[.slice none 0 0, .int .i64 0] 42) := by
  go_enter Try.func6, Try.ntmps6
  go_wp2
  go_ret
  exact ⟨rfl, rfl⟩
theorem msg_new (T : Prop) (w : World) : MsgR T (w.alloc (.cells #[.slice none 0 0, .int .i64 0] 42)) w.heap.size w.heap.size (.slice none 0 0) [] := ⟨Nat.le_refl _, heap_alloc_new w _, .inl ⟨rfl, rfl⟩⟩
theorem psize_any {T : Prop} {B b : Nat} {v : Value} {X : List FD} {w : World} (h : MsgR T w B b v X) :
    Calls Try.prog 11 #[.pointer (some ⟨b, 0, none⟩)] w fun e w' => e = .returned (.int .i64 ((pB X).length : Nat)) ∧ w' = w := by
  have c1 := h.c1
  clear h
  generalize (pB X).length = Z at *
  go_enter Try.func11, Try.ntmps11
  go_wp2
  go_ret
  exact ⟨rfl, rfl⟩
theorem psize_nil (w : World) :
    Calls Try.prog 11 #[.pointer none] w fun e w' => e = .returned (.int .i64 0) ∧ w' = w := by
  go_enter Try.func11, Try.ntmps11
  go_wp2
  go_ret
  exact ⟨rfl, rfl⟩
theorem pbytes_nil (w : World) :
    Calls Try.prog 9 #[.pointer none] w fun e w' => e = .returned (.string ⟨#[]⟩) ∧ w' = w := by
  go_enter Try.func9, Try.ntmps9
  go_wp2
  go_ret
  exact ⟨rfl, rfl⟩
theorem bgrow_any (B b n : Nat) (w : World) (hB : B ≤ b) (hbk : w.heap[b]? = some (.cells #[.pointer none, .slice none 0 0] 50 (0, 0))) (hBw : B ≤ w.heap.size) (hn : n ≤ 281474976710656) :
    Calls Try.prog 21 #[.pointer (some ⟨b, 0, none⟩), .int .i64 n] w fun e w' => e = .returned (.tuple #[]) ∧ IsBld B b (bV []) w' ∧ Below B w w' :=
  (Any.Builder_Grow_fresh growL builderX B b n w hB hbk hBw hn).mono fun e w' h => ⟨h.1, .inr h.2.1, h.2.2⟩
theorem bstring_any (B b : Nat) (l : List UInt8) (w : World) (h : IsBld B b (bV l) w) (hBw : B ≤ w.heap.size) :
    Calls Try.prog 23 #[.pointer (some ⟨b, 0, none⟩)] w fun e w' => e = .returned (.string (bA l)) ∧ Below B w w' :=
  Any.Builder_String_any strL builderY B b l w h hBw
theorem pbytes_any {T : Prop} {B b : Nat} {v : Value} {X : List FD} {w : World} (h : MsgR T w B b v X) (ht : Tb T w.heap.size w) (hlen : (pB X).length ≤ 70368744177664) :
    Calls Try.prog 9 #[.pointer (some ⟨b, 0, none⟩)] w fun e w' => e = .returned (.string (bA (pB X))) ∧ Below w.heap.size w w' := by
  have c1 := h.c1
  obtain ⟨k, hr⟩ := h.row.rowOf
  have HR := Lib.hid (And.intro h.c0 hr)
  have HL := Lib.hid hlen
  have HT := Lib.hid ht
  have hlt := h.lt
  clear hr ht h hlen
  generalize hz : (pB X).length = Z at *
  have HZ := Lib.hid hz
  clear hz
  have N0 := Lib.hid (heap_alloc_new w (.cells #[.pointer none, .slice none 0 0] 50))
  have B0 := Lib.hid (show Below w.heap.size w (w.alloc (.cells #[.pointer none, .slice none 0 0] 50)) from (Below.refl _ w).alloc (Nat.le_refl _) _)
  go_enter Try.func9, Try.ntmps9
  go_wp2_with fail
  refine (bgrow_any w.heap.size w.heap.size Z _ (Nat.le_refl _) N0.out (by simp) (by have := HL.out; omega)).mono ?_
  rintro e w1 ⟨rfl, h1, b1⟩
  have K1 := Lib.hid (And.intro h1 (B0.out.trans b1))
  have s1 := K1.out.2.size
  clear h1 b1 B0 N0
  go_wp2_with fail
  refine (mput_any T k w.heap.size w.heap.size b 0 v X [] w1 (by rw [World.cell?_of_block (w := w) (K1.out.2.block b hlt)]; exact HR.out.1) (HR.out.2.mono (Kp.below K1.out.2) fun q y hq => hq.kp (Kp.below K1.out.2)) K1.out.1 (by omega) (HT.out.below K1.out.2) (by rw [HZ.out]; simpa using HL.out)).mono ?_
  rintro e w2 ⟨rfl, h2, b2⟩
  have K2 := Lib.hid (And.intro h2 (K1.out.2.trans b2.bel))
  have s2 := K2.out.2.size
  clear h2 b2 K1
  go_wp2_with fail
  refine (bstring_any w.heap.size w.heap.size ([] ++ pB X) w2 K2.out.1 (by omega)).mono ?_
  rintro e w3 ⟨rfl, b3⟩
  have K3 := Lib.hid (K2.out.2.trans b3)
  clear b3 K2
  go_wp2
  go_ret
  exact ⟨rfl, K3.out⟩
end Go.Proofs.Ytjpppnfkpnfhoaa
