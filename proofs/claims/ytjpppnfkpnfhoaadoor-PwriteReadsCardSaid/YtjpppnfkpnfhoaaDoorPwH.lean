/- Law 19: of; two messages side by side; law 19's example. -/
import Derived.Test.YtjpppnfkpnfhoaaDoorPwG
namespace Go.Proofs.YtjpppnfkpnfhoaaDoor
open Go Go.RowKit
set_option linter.unusedVariables false

/-- Two messages side by side. -/
structure Two (T : Prop) (w : World) (B b : Nat) (v : Value) (X : List FD) (C c : Nat) (u : Value) (Y : List FD) : Prop where
  m : MsgR T w B b v X
  x : MsgR T w C c u Y
  ne : b ≠ c
  dis : ∀ g, v.ownBlock = some g → u.ownBlock ≠ some g
theorem Two.swap {T : Prop} {w : World} {B b : Nat} {v : Value} {X : List FD} {C c : Nat} {u : Value} {Y : List FD} (h : Two T w B b v X C c u Y) : Two T w C c u Y B b v X :=
  ⟨h.x, h.m, h.ne.symm, fun g hg e => h.dis g e hg⟩
theorem Two.left {T : Prop} {w w' : World} {B b : Nat} {v v' : Value} {X X' : List FD} {C c : Nat} {u : Value} {Y : List FD} (h : Two T w B b v X C c u Y) (hm : MsgR T w' B b v' X') (hk : AddK b v w w') (ho : v'.ownBlock = v.ownBlock ∨ ∃ g, v'.ownBlock = some g ∧ w.heap.size ≤ g) : Two T w' B b v' X' C c u Y := by
  refine ⟨hm, h.x.other hk h.ne.symm (fun e => prow_ne h.m.row h.x.blk c e.symm rfl) (fun g hg => ⟨prow_ne h.x.row h.m.blk g hg, fun e => h.dis g e.symm hg⟩), h.ne, fun g hg hu => ?_⟩
  rcases ho with e | ⟨g', e, hl⟩
  · exact h.dis g (e ▸ hg) hu
  · rw [e] at hg
    have := (h.x.own g hu).2
    have : g' = g := Option.some.inj hg
    omega
theorem Two.below {T : Prop} {w w' : World} {B b : Nat} {v : Value} {X : List FD} {C c : Nat} {u : Value} {Y : List FD} (h : Two T w B b v X C c u Y) (hb : Below w.heap.size w w') : Two T w' B b v X C c u Y :=
  ⟨h.m.below hb, h.x.below hb, h.ne, h.dis⟩
/-- A new message beside one that is there. -/
theorem two_new {T : Prop} {w : World} {C c : Nat} {u : Value} {Y : List FD} (h : MsgR T w C c u Y) : Two T (w.alloc (.cells #[.slice none 0 0, .int .i64 0] 46)) w.heap.size w.heap.size (.slice none 0 0) [] C c u Y :=
  ⟨msg_new T w, h.below ((Below.refl _ w).alloc (Nat.le_refl _) _), by have := h.lt; omega, fun g hg => by simp [Value.ownBlock] at hg⟩
theorem new_grow (w : World) : Below w.heap.size w (w.alloc (.cells #[.slice none 0 0, .int .i64 0] 46)) := (Below.refl _ w).alloc (Nat.le_refl _) _
theorem AdQ.below {T : Prop} {w w' : World} {B b N : Nat} {v : Value} {X Y : List FD} {e : Ending} (h : AdQ T w B b v Y e w') (hm : MsgR T w B b v X) (hN : N ≤ B) (hw : N ≤ w.heap.size) : Below N w w' := by
  obtain ⟨_, v', _, hk, _⟩ := h
  exact hk.below (by have := hm.base; omega) (fun g hg => by have := (hm.own g hg).1; omega) hw

theorem pnewT (T : Prop) (w : World) :
    Calls Tryd.prog 5 #[] w fun e w' => e = .returned (.pointer (some ⟨w.heap.size, 0, none⟩)) ∧ MsgR T w' w.heap.size w.heap.size (.slice none 0 0) [] ∧ Below w.heap.size w w' :=
  (pnew_any w).mono fun e w' h => ⟨h.1, by rw [h.2]; exact msg_new T w, by rw [h.2]; exact new_grow w⟩
theorem two_of {T : Prop} {w w' : World} {C c : Nat} {u : Value} {Y : List FD} (h : MsgR T w C c u Y) (hm : MsgR T w' w.heap.size w.heap.size (.slice none 0 0) []) (hb : Below w.heap.size w w') : Two T w' w.heap.size w.heap.size (.slice none 0 0) [] C c u Y :=
  ⟨hm, h.below hb, by have := h.lt; omega, fun g hg => by simp [Value.ownBlock] at hg⟩
theorem Two.ad {T : Prop} {w w' : World} {B b : Nat} {v : Value} {X X' : List FD} {C c : Nat} {u : Value} {Y : List FD} {e : Ending} (h : Two T w B b v X C c u Y) (hq : AdQ T w B b v X' e w') {N : Nat} (hN : N ≤ B) (hw : N ≤ w.heap.size) : e = .returned (.tuple #[]) ∧ ∃ v', Two T w' B b v' X' C c u Y ∧ Below N w w' := by
  have hb := hq.below h.m hN hw
  obtain ⟨rfl, v', hm, hk, ho⟩ := hq
  exact ⟨rfl, v', h.left hm hk ho, hb⟩
theorem AdQ.one {T : Prop} {w w' : World} {B b : Nat} {v : Value} {X X' : List FD} {e : Ending} (h : MsgR T w B b v X) (hq : AdQ T w B b v X' e w') {N : Nat} (hN : N ≤ B) (hw : N ≤ w.heap.size) : e = .returned (.tuple #[]) ∧ ∃ v', MsgR T w' B b v' X' ∧ Below N w w' := by
  have hb := hq.below h hN hw
  obtain ⟨rfl, v', hm, hk, ho⟩ := hq
  exact ⟨rfl, v', hm, hb⟩

def oF (s : ByteArray) : List FD := if s = ⟨#[]⟩ then [] else fTag (1, 2, 0, s)
theorem fTag_le (n v : Int) (q : Nat) (s : ByteArray) (hu : q < 18446744073709551616) (hs : s.size ≤ 1099511627776) : (pB (fTag (n, v, q, s))).length ≤ s.size + 20 := by
  unfold fTag
  split
  · rw [pB_one]; exact fB_le n v q s hu (by omega)
  · simp [pB_nil]
theorem size_bA (l : List UInt8) : (bA l).size = l.length := by rw [← toList_size, toList_bA]
theorem pof_any (T : Prop) (s : ByteArray) (w : World) (hs : s.size ≤ 1099511627776) :
    Calls Tryd.prog 17 #[.string s] w fun e w' => e = .returned (.pointer (some ⟨w.heap.size, 0, none⟩)) ∧ ∃ v, MsgR T w' w.heap.size w.heap.size v (oF s) ∧ Below w.heap.size w w' := by
  have HN := Lib.hid (fun w => pnew_any w)
  have HT := Lib.hid (ptext_any (msg_new T w) 1 s hs ⟨by simp, by have := fTag_le 1 2 0 s (by decide) hs; rw [List.nil_append]; omega, by simp⟩)
  have HM := Lib.hid (msg_new T w)
  rw [List.nil_append] at HT
  rw [show (if s = ⟨#[]⟩ then [] else fTag (1, 2, 0, s)) = oF s from rfl] at HT
  generalize oF s = X at *
  go_enter Tryd.func17, Tryd.ntmps17
  go_wp2_with fail
  refine (HN.out _).mono ?_
  rintro e w1 ⟨rfl, rfl⟩
  go_wp2_with fail
  refine HT.out.mono ?_
  intro e w2 hq
  have hb := Lib.hid ((new_grow w).trans (hq.below (N := w.heap.size) HM.out (Nat.le_refl _) (by simp)))
  obtain ⟨rfl, v, hm, _⟩ := hq
  have H2 := Lib.hid hm
  clear hm
  go_wp2
  go_ret
  exact ⟨rfl, v, H2.out, hb.out⟩
end Go.Proofs.YtjpppnfkpnfhoaaDoor
