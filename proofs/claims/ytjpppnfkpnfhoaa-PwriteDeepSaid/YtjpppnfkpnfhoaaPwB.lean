/- What is written into a builder: bytes of a list; package pwrite: a field. -/
import Derived.Test.YtjpppnfkpnfhoaaPwT
namespace Go.Proofs.Ytjpppnfkpnfhoaa
open Go Go.RowKit
set_option linter.unusedVariables false

theorem byteCells_bV (l : List UInt8) : Lib.byteCells l = bV l := rfl
theorem others_below {w w' : World} {b : Nat} (h : Below w.heap.size w w') : Lib.OthersKept 5 (some b) w w' := fun k o hk _ _ => (h.block k (lt_of_block hk)).trans hk
theorem BldAt.below {B b : Nat} {p : Value} {bs : List Value} {w w' : World} (h : BldAt B b p bs w) (hb : Below w.heap.size w w') : BldAt B b p bs w' := by
  obtain ⟨hB, v, hbk, hown, hne⟩ := h
  refine ⟨hB, v, (hb.block b (lt_of_block hbk)).trans hbk, ?_, hne⟩
  refine World.ownsRow.kept (row := none) hown ⟨hb.os, hb.tape, hb.output, hb.size, fun k hk _ => hb.block k hk⟩ ?_
  cases v.ownBlock <;> simp
theorem IsBld.below {B b : Nat} {bs : List Value} {w w' : World} (h : IsBld B b bs w) (hb : Below w.heap.size w w') : IsBld B b bs w' := by
  rcases h with h | h
  · exact .inl (BldAt.below h hb)
  · exact .inr (BldAt.below h hb)
theorem IsBld.lt {B b : Nat} {bs : List Value} {w : World} (h : IsBld B b bs w) : B ≤ b ∧ b < w.heap.size ∧ ∃ cs fz, w.heap[b]? = some (.cells cs 50 fz) := by
  rcases h with ⟨hB, v, hbk, _⟩ | ⟨hB, v, hbk, _⟩
  · exact ⟨hB, lt_of_block hbk, _, _, hbk⟩
  · exact ⟨hB, lt_of_block hbk, _, _, hbk⟩
/-- What is the same behind a call that writes into builder b, whose row is one of the caller's from B on. -/
structure BW (B b : Nat) (w w' : World) : Prop where
  bel : Below B w w'
  oth : Lib.OthersKept 5 (some b) w w'
theorem BW.of {B b : Nat} {w w' : World} (h : Below w.heap.size w w') (hB : B ≤ w.heap.size) : BW B b w w' := ⟨h.mono hB, others_below h⟩
theorem BW.refl (B b : Nat) (w : World) : BW B b w w := ⟨Below.refl _ _, Lib.OthersKept.refl _ _ _⟩
theorem BW.trans {B b : Nat} {u v w : World} (h : BW B b u v) (k : BW B b v w) : BW B b u w := ⟨h.bel.trans k.bel, h.oth.trans k.oth⟩
theorem BW.kp {B b : Nat} {w w' : World} {bs : List Value} (h : BW B b w w') (hb : IsBld B b bs w) : Kp w w' := by
  obtain ⟨_, _, cs, fz, hc⟩ := hb.lt
  exact Kp.others hc h.oth
theorem BW.wt {B b f : Nat} {w w' : World} {n : Int} {u : Value} {z : Int} (h : BW B b w w') (hf : WtT 55 w f n u z) (hb : f ≠ b) : WtT 55 w' f n u z :=
  h.oth f _ hf (fun e => hb (Option.some.inj e)) (fun c fz e => by simp only [Obj.cells.injEq] at e; exact absurd e.2.1 (by decide))

theorem bwb_any (B b C : Nat) (u : Value) (l m : List UInt8) (w : World) (h : IsBld B b (bV l) w) (hu : Bts 5 w C u m) (hm : m ≠ []) (hC : b < C) (hlen : l.length + m.length ≤ 140737488355328) (hBw : B ≤ w.heap.size) :
    Calls Try.prog 52 #[.pointer (some ⟨b, 0, none⟩), u] w fun e w' => e = .returned (.tuple #[.int .i64 m.length, .nilIface]) ∧ IsBld B b (bV (l ++ m)) w' ∧ BW B b w w' := by
  have hml : m.length ≠ 0 := fun e => hm (List.eq_nil_of_length_eq_zero e)
  obtain ⟨g, cap, cur, rfl, hCg, hg, hnc, hcm, hcs, htake⟩ : ∃ g cap cur, u = .slice (some ⟨g, 0, none⟩) m.length cap ∧ C ≤ g ∧ w.heap[g]? = some (.cells cur 5 (0, 0)) ∧ m.length ≤ cap ∧ cap ≤ maxLen ∧ cur.size = cap * 1 ∧ cur.toList.take (m.length * 1) = bV m := by
    rcases hu.2 with ⟨_, hz⟩ | ⟨g, cap, cur, hv, r⟩
    · exact absurd hz hml
    · exact ⟨g, cap, cur, hv, r⟩
  have key := bw_any B b g cap (bV l) (bV m) w h (by omega) (lt_of_block hg) (fun j v hj => by
      have := World.ownsRow.cells hu (g := g) rfl j v hj
      have e1 : (Addr.mk g 0 none).add j = ⟨g, j, none⟩ := by unfold Addr.add; split <;> simp_all
      rwa [e1] at this) (bV_one m) (by rw [bV_length, bV_length]; exact hlen) hBw
  rw [bV_length, ← bV_append] at key
  exact key.mono fun e w' hh => ⟨hh.1, .inr hh.2.1, hh.2.2.1, hh.2.2.2⟩

/-- The listed table, where it is wanted. -/
def Tb (T : Prop) (B : Nat) (w : World) : Prop := T → Tab w ∧ 1 < B
theorem Tb.below {T : Prop} {B : Nat} {w w' : World} (h : Tb T B w) (hb : Below B w w') : Tb T B w' := fun t => ⟨(h t).1.below hb (h t).2, (h t).2⟩

theorem fwr4 {T : Prop} (B b : Nat) (n v : Int) (q : Nat) (s : ByteArray) (l : List UInt8) (w : World) (hx : FdOk T (n, v, q, s)) (ht : Tb T B w) (h : IsBld B b (bV l) w) (hBw : B ≤ w.heap.size) (hlen : l.length + (pBs (n, v, q, s)).length ≤ 70368744177664) :
    Calls Try.prog 60 #[.agg #[.int .i64 n, .int .i64 v, .int .u64 (q : Nat), .string s], .pointer (some ⟨b, 0, none⟩)] w fun e w' => e = .returned (.tuple #[]) ∧ IsBld B b (bV (l ++ pBs (n, v, q, s))) w' ∧ BW B b w w' := by
  have HP := Lib.hid (fun w hT => fputb_any (n, v, q, s) w hx hT)
  have hne := Lib.hid (pBs_pos hx)
  have F := Lib.hid (fd_grow w (n, v, q, s) 56)
  have H0 := Lib.hid (h.below F.out)
  have HT := Lib.hid (ht.below (F.out.mono hBw))
  have hlt := h.lt.2.1
  have HL := Lib.hid hlen
  have HB := Lib.hid hBw
  clear hx ht hlen hBw h
  generalize pBs (n, v, q, s) = M at *
  go_enter Try.func60, Try.ntmps60
  have c0 := (fd_alloc w (n, v, q, s) 56).c0; have c1 := (fd_alloc w (n, v, q, s) 56).c1
  have c2 := (fd_alloc w (n, v, q, s) 56).c2; have c3 := (fd_alloc w (n, v, q, s) 56).c3
  go_wp2_with fail
  refine (HP.out _ (fun t => (HT.out t).1)).mono ?_
  rintro e w2 ⟨u, rfl, hu, b2⟩
  have H2 := Lib.hid (H0.out.below b2)
  have HU := Lib.hid hu
  have hs2 := b2.size
  simp only [World.size_alloc] at hs2
  have W2 := Lib.hid (show BW B b w w2 from (BW.of F.out HB.out).trans (BW.of b2 (by simp; have := HB.out; omega)))
  clear c0 c1 c2 c3 b2 hu HP
  go_wp2_with fail
  refine (bwb_any B b _ u l M w2 H2.out HU.out hne.out (by simp; omega) (by have := HL.out; omega) (by have := HB.out; omega)).mono ?_
  rintro e w3 ⟨rfl, h3, k3⟩
  have H3 := Lib.hid (And.intro h3 (W2.out.trans k3))
  clear h3 k3
  go_wp2
  go_end0
  exact ⟨rfl, H3.out⟩
end Go.Proofs.Ytjpppnfkpnfhoaa
