/- Package pwrite: add: a part behind those that are there. -/
import Derived.Test.YtjpppnfkpnfhoaaPwE
import Derived.Deep.RegionHeld3
namespace Go.Proofs.Ytjpppnfkpnfhoaa
open Go Go.RowKit
set_option linter.unusedVariables false

theorem AddK.trans {b : Nat} {v : Value} {x y z : World} (h : AddK b v x y) (k : AddK b v y z) : AddK b v x z :=
  ⟨k.os.trans h.os, k.tape.trans h.tape, k.output.trans h.output, Nat.le_trans h.size k.size, fun i hi h1 h2 => (k.block i (Nat.lt_of_lt_of_le hi h.size) h1 h2).trans (h.block i hi h1 h2), h.kp.trans k.kp⟩
/-- While add runs: block b's list of parts is v' already (told in its cell: u), its size is z. -/
structure AM (T : Prop) (w W : World) (B b : Nat) (v v' u : Value) (z : Int) (X : List FD) : Prop where
  base : B ≤ b
  blk : W.heap[b]? = some (.cells #[u, .int .i64 z] 42 (0, 0))
  row : PRow T W B v' X
  add : AddK b v w W
  own : v'.ownBlock = v.ownBlock ∨ ∃ g, v'.ownBlock = some g ∧ w.heap.size ≤ g
theorem AM.c0 {T : Prop} {w W : World} {B b : Nat} {v v' u : Value} {z : Int} {X : List FD} (h : AM T w W B b v v' u z X) : W.cell? ⟨b, 0, none⟩ = some u := by simp [World.cell?, h.blk]
theorem AM.c1 {T : Prop} {w W : World} {B b : Nat} {v v' u : Value} {z : Int} {X : List FD} (h : AM T w W B b v v' u z X) : W.cell? ⟨b, 1, none⟩ = some (.int .i64 z) := by simp [World.cell?, h.blk]
theorem AM.fr {T : Prop} {w W : World} {B b : Nat} {v v' u : Value} {z : Int} {X : List FD} (h : AM T w W B b v v' u z X) (o : Nat) : W.frozen? ⟨b, o, none⟩ = false := by simp [World.frozen?, h.blk]
theorem prow_ne {T : Prop} {w : World} {B b : Nat} {v : Value} {X : List FD} {cs : Array Value} {fz : Nat × Nat} (h : PRow T w B v X) (hb : w.heap[b]? = some (.cells cs 42 fz)) : ∀ g, v.ownBlock = some g → g ≠ b := fun g hg e => by
  subst e
  obtain ⟨_, c, hc⟩ := h.own g hg
  rw [hb] at hc
  simp only [Option.some.injEq, Obj.cells.injEq] at hc
  exact ty_part_msg hc.2.1.symm
theorem PRow.sl {T : Prop} {w : World} {B : Nat} {v : Value} {X : List FD} (h : PRow T w B v X) : ∃ a n c, v = .slice a n c := by
  rcases h with ⟨h, _⟩ | ⟨g, cap, cs, h, _⟩
  · exact ⟨_, _, _, h⟩
  · exact ⟨_, _, _, h⟩
theorem AddK.set {b o : Nat} {v : Value} {w W : World} {cs : Array Value} {fz : Nat × Nat} (h : AddK b v w W) (hb : W.heap[b]? = some (.cells cs 42 fz)) (u : Value) : AddK b v w (W.setCell ⟨b, o, none⟩ u) :=
  h.trans ⟨rfl, rfl, rfl, by simp [World.setCell], fun k _ hk _ => Below.heap_setCell _ _ _ _ hk, Kp.setCell hb ty_part_msg u⟩
theorem AM.set0 {T : Prop} {w W : World} {B b : Nat} {v v' u : Value} {z : Int} {X : List FD} (h : AM T w W B b v v' u z X) (u' : Value) : AM T w (W.setCell ⟨b, 0, none⟩ u') B b v v' u' z X :=
  ⟨h.base, heap_setCell_block h.blk u', h.row.keep (Kp.setCell h.blk ty_part_msg u') fun g hg => Below.heap_setCell _ _ _ _ (prow_ne h.row h.blk g hg), h.add.set h.blk u', h.own⟩
theorem AM.set1 {T : Prop} {w W : World} {B b : Nat} {v v' u : Value} {z : Int} {X : List FD} (h : AM T w W B b v v' u z X) (z' : Int) : AM T w (W.setCell ⟨b, 1, none⟩ (.int .i64 z')) B b v v' u z' X :=
  ⟨h.base, heap_setCell_block h.blk (.int .i64 z'), h.row.keep (Kp.setCell h.blk ty_part_msg _) fun g hg => Below.heap_setCell _ _ _ _ (prow_ne h.row h.blk g hg), h.add.set h.blk _, h.own⟩
theorem AM.below {T : Prop} {w W W' : World} {B b : Nat} {v v' u : Value} {z : Int} {X : List FD} (h : AM T w W B b v v' u z X) (hb : Below W.heap.size W W') : AM T w W' B b v v' u z X :=
  ⟨h.base, (hb.block b (lt_of_block h.blk)).trans h.blk, h.row.keep (Kp.below hb) fun g hg => hb.block g (by obtain ⟨_, c, hc⟩ := h.row.own g hg; exact lt_of_block hc), h.add.trans (AddK.of_below hb), h.own⟩
theorem AM.drew {T : Prop} {w W : World} {B b : Nat} {v v' u : Value} {z : Int} {X : List FD} (h : AM T w W B b v v' u z X) : AM T w W.drew B b v v' u z X := h.below ((Below.refl _ W).drew)
theorem AM.done {T : Prop} {w W : World} {B b : Nat} {v v' : Value} {z : Int} {X : List FD} (h : AM T w W B b v v' v' z X) (hz : z = ((pB X).length : Nat)) : MsgR T W B b v' X ∧ AddK b v w W ∧ (v'.ownBlock = v.ownBlock ∨ ∃ g, v'.ownBlock = some g ∧ w.heap.size ≤ g) :=
  ⟨⟨h.base, by rw [← hz]; exact h.blk, h.row⟩, h.add, h.own⟩
@[reducible] def CAM (T : Prop) (w : World) (B b : Nat) (v v' : Value) (z : Int) (X : List FD) (W : World) : Prop := W.cell? ⟨b, 1, none⟩ = some (.int .i64 z) ∧ W.frozen? ⟨b, 1, none⟩ = false ∧ AM T w W B b v v' v' z X
theorem AM.cam {T : Prop} {w W : World} {B b : Nat} {v v' : Value} {z : Int} {X : List FD} (h : AM T w W B b v v' v' z X) : CAM T w B b v v' z X W := ⟨h.c1, h.fr 1, h⟩
theorem cam_next {T : Prop} {w W W' : World} {B b : Nat} {v v' : Value} {z : Int} {X : List FD} (hb : Below W.heap.size W W') (h : CAM T w B b v v' z X W) : CAM T w B b v v' z X W' := (h.2.2.below hb).cam
theorem CAM.am {T : Prop} {w W : World} {B b : Nat} {v v' : Value} {z : Int} {X : List FD} (h : CAM T w B b v v' z X W) : AM T w W B b v v' v' z X := h.2.2

/-- 'append(m.parts, p)' at the walk. -/
theorem wpList_append_part {T : Prop} {P : Program} {ops : Array Oper} {rest : List Oper} {o : Oper} {a : Act} {Q : Exit → Act → World → Prop} (hgd : o.guard = none) (sl x : Operand) (t : TypeId)
    (ho : o.op = .call { callee := .builtin .append, args := #[sl, x], argTypes := #[t, t] })
    (e : TypeId) (he : e = 61) (ht : P.underlying t = some (.slice e)) (hi : (P.info? e).map (fun i => (i.zero, i.size, i.bytes)) = some (some .nilIface, 1, 16))
    (w W : World) (B b : Nat) (v : Value) (X : List FD) (hm : MsgR T w B b v X) (hB : B ≤ w.heap.size) (hW : Below w.heap.size w W) (k : Nat) (ti : TypeId) (y : Value) (p : FD) (hp : PartV T k w (.iface ti y) p)
    (hs : a.eval sl = v) (hx : a.eval x = .slice (some ⟨W.heap.size, 0, none⟩) 1 1) (hlen : X.length ≤ 1099511627776)
    (h : ∀ v' w', AM T w w' B b v v' v ((pB X).length : Nat) (X ++ [p]) → wpList P ops Q rest (a.put o.dst v') w') :
    wpList P ops Q (o :: rest) a (W.alloc (.cells #[.iface ti y] e)) := by
  have hsz := hW.size
  have hWa : Below w.heap.size w (W.alloc (.cells #[.iface ti y] e)) := hW.alloc hsz _
  have hM := hm.below hWa
  obtain ⟨v', w', hr, h1, h2, h3, h4⟩ := append_part P t o.type e he ht hi (W.alloc (.cells #[.iface ti y] e)) B v X hM.row (by simp; omega) k ti y p (hp.kp (Kp.below hWa)) W.heap.size 1 (by rw [Lib.cell_of_heap (heap_alloc_new W _)]; rfl) hlen
  refine wpList_step fun K hK => ?_
  rw [if_pos (by simp [Region.wanted, hgd])]
  unfold Oper.wp
  simp [execOp, ho, resolve, invoke, builtin, hs, hx, hr, Result.andThen]
  refine hK _ _ (h v' w' ⟨hm.base, ?_, h1, (AddK.of_below hWa).trans ⟨h2.os, h2.tape, h2.output, h2.size, fun i hi' _ hv => h2.block i hi' hv, h3⟩, ?_⟩)
  · rw [h2.block b hM.lt (fun e => prow_ne hM.row hM.blk b e.symm rfl)]
    exact hM.blk
  · rcases h4 with h4 | h4
    · exact .inl h4
    · exact .inr ⟨_, h4, by simp; omega⟩

theorem add_yes_f {T : Prop} {B b : Nat} {v : Value} {X : List FD} {w : World} (h : MsgR T w B b v X) (k : Nat) (n v0 : Int) (q : Nat) (s : ByteArray) (hp : PartV T k w (.iface 56 (.agg #[.int .i64 n, .int .i64 v0, .int .u64 (q : Nat), .string s])) (n, v0, q, s)) (hB : B ≤ w.heap.size) (hlen : (pB (X ++ [(n, v0, q, s)])).length ≤ 70368744177664) (hXl : X.length ≤ 1099511627776) :
    Calls Try.prog 24 #[.pointer (some ⟨b, 0, none⟩), (.iface 56 (.agg #[.int .i64 n, .int .i64 v0, .int .u64 (q : Nat), .string s]))] w fun e w' => e = .returned (.tuple #[]) ∧ ∃ v', MsgR T w' B b v' (X ++ [(n, v0, q, s)]) ∧ AddK b v w w' ∧ (v'.ownBlock = v.ownBlock ∨ ∃ g, v'.ownBlock = some g ∧ w.heap.size ≤ g) := by
  have hok := hp.ok
  have HM := Lib.hid (fun w => may_any n v0 w)
  rw [show tagB n v0 = true from hok.tag] at HM
  have HG := Lib.hid (fun w => ftag4 n v0 q s w)
  have HS := Lib.hid (fun w => fsz4 n v0 q s w hok.num hok.txt)
  have HL := Lib.hid (show (pB (X ++ [(n, v0, q, s)])).length = (pB X).length + (pBs (n, v0, q, s)).length by rw [pB_len, pB_one])
  have HR := Lib.hid (show (fB n v0 q s).length = (pBs (n, v0, q, s)).length from rfl)
  rw [HR.out] at HS
  have hw : IntKind.i64.wrap (((pB X).length : Int) + ((pBs (n, v0, q, s)).length : Int)) = ((pB X).length : Int) + ((pBs (n, v0, q, s)).length : Int) := IntWalk.i64_in _ (by have := HL.out; omega)
  have HA := Lib.hid (fun W (hW : Below w.heap.size w W) => And.intro (h.below hW).c0 (And.intro (h.below hW).c1 (h.below hW).fr))
  have HH := Lib.hid h
  have HP := Lib.hid hp
  clear hok h hp hlen
  generalize hzx : (pBs (n, v0, q, s)).length = ZX at *
  generalize hz : (pB X).length = Z at *
  generalize (n, v0, q, s) = x at *
  have HZ := Lib.hid hz
  clear hz hzx HR
  go_enter Try.func24, Try.ntmps24
  go_wp2_with fail
  refine (HG.out _).mono ?_
  rintro e w1 ⟨rfl, b1⟩
  go_wp2_with fail
  refine (HM.out _).mono ?_
  rintro e w2 ⟨rfl, b2⟩
  have B2 := Lib.hid (grown_then b1 b2)
  have c0 := (HA.out w2 B2.out).1
  clear b1 b2
  go_wp2_with (at_builtin; go_loud (refine wpList_append_part rfl _ _ 40 rfl 61 rfl Try.underlying40 infoPart w w2 B b v X HH.out hB B2.out k _ _ x HP.out rfl rfl hXl ?_; intro v' w4 h4; rw [HZ.out] at h4; obtain ⟨ao, n', cap', rfl⟩ := h4.row.sl; have A4 := Lib.hid h4; clear h4; have d0 := A4.out.c0; have df := A4.out.fr; have A5 := Lib.hid (A4.out.set0 (.slice ao n' cap'))))
  clear c0 d0 df A4
  generalize hW5 : w4.setCell ⟨b, 0, none⟩ (.slice ao n' cap') = w5 at *
  clear hW5
  have a1 := A5.out.c1
  have af := A5.out.fr
  have A5d := Lib.hid A5.out.drew
  have d1 := A5d.out.c1
  have df := A5d.out.fr
  go_region_with (first | (go_at_call 61; go_loud (with_reducible refine (HS.out _).mono ?_; rintro r w6 ⟨rfl, b6⟩); (have A6 := Lib.hid (A5d.out.below b6)); (have e1 := A6.out.c1); (have ef := A6.out.fr)))
  all_goals go_wp2_with fail
  all_goals (go_end0; exact ⟨rfl, _, (A6.out.set1 ((Z : Int) + (ZX : Int))).done (by rw [HL.out]; omega)⟩)

theorem add_no_f {T : Prop} {B b : Nat} {v : Value} {X : List FD} {w : World} (h : MsgR T w B b v X) (n v0 : Int) (q : Nat) (s : ByteArray) (ht : tagB n v0 = false) :
    Calls Try.prog 24 #[.pointer (some ⟨b, 0, none⟩), (.iface 56 (.agg #[.int .i64 n, .int .i64 v0, .int .u64 (q : Nat), .string s]))] w fun e w' => e = .returned (.tuple #[]) ∧ Below w.heap.size w w' := by
  have HM := Lib.hid (fun w => may_any n v0 w)
  rw [ht] at HM
  have HG := Lib.hid (fun w => ftag4 n v0 q s w)
  clear ht h
  go_enter Try.func24, Try.ntmps24
  go_wp2_with fail
  refine (HG.out _).mono ?_
  rintro e w1 ⟨rfl, b1⟩
  go_wp2_with fail
  refine (HM.out _).mono ?_
  rintro e w2 ⟨rfl, b2⟩
  have B2 := Lib.hid (grown_then b1 b2)
  clear b1 b2
  go_wp2
  refine bodyPost_ret (results_none rfl _ _ _) rfl ?_
  exact ⟨rfl, B2.out⟩

theorem add_yes_w {T : Prop} {B b : Nat} {v : Value} {X : List FD} {w : World} (h : MsgR T w B b v X) (k : Nat) (n : Int) (u : Value) (z : Nat) (x0 : FD) (hp : PartV T k w (.iface 55 (.agg #[.int .i64 n, u, .int .i64 (z : Nat)])) x0) (hB : B ≤ w.heap.size) (hlen : (pB (X ++ [x0])).length ≤ 70368744177664) (hXl : X.length ≤ 1099511627776) (hz0 : z ≤ 1099511627776) (hx0 : (pBs x0).length = (tagL n 2).length + (vB z).length + z) (hx1 : x0.1 = n) (hx2 : x0.2.1 = 2) :
    Calls Try.prog 24 #[.pointer (some ⟨b, 0, none⟩), (.iface 55 (.agg #[.int .i64 n, u, .int .i64 (z : Nat)]))] w fun e w' => e = .returned (.tuple #[]) ∧ ∃ v', MsgR T w' B b v' (X ++ [x0]) ∧ AddK b v w w' ∧ (v'.ownBlock = v.ownBlock ∨ ∃ g, v'.ownBlock = some g ∧ w.heap.size ≤ g) := by
  have hok := hp.ok
  have HM := Lib.hid (fun w => may_any n 2 w)
  rw [show tagB n 2 = true from by have := hok.tag; rwa [hx1, hx2] at this] at HM
  have HG := Lib.hid (fun w => wtag_any n u (z : Nat) w)
  have HS := Lib.hid (fun w => wsz_any n u z w hz0)
  have HL := Lib.hid (show (pB (X ++ [x0])).length = (pB X).length + (pBs x0).length by rw [pB_len, pB_one])
  have HR := Lib.hid (show ((tagL n 2).length + (vB z).length + z) = (pBs x0).length from hx0.symm)
  rw [HR.out] at HS
  have hw : IntKind.i64.wrap (((pB X).length : Int) + ((pBs x0).length : Int)) = ((pB X).length : Int) + ((pBs x0).length : Int) := IntWalk.i64_in _ (by have := HL.out; omega)
  have HA := Lib.hid (fun W (hW : Below w.heap.size w W) => And.intro (h.below hW).c0 (And.intro (h.below hW).c1 (h.below hW).fr))
  have HH := Lib.hid h
  have HP := Lib.hid hp
  clear hok h hp hlen hx0 hx1 hx2 hz0
  generalize hzx : (pBs x0).length = ZX at *
  generalize hz : (pB X).length = Z at *
  generalize x0 = x at *
  have HZ := Lib.hid hz
  clear hz hzx HR
  go_enter Try.func24, Try.ntmps24
  go_wp2_with fail
  refine (HG.out _).mono ?_
  rintro e w1 ⟨rfl, b1⟩
  go_wp2_with fail
  refine (HM.out _).mono ?_
  rintro e w2 ⟨rfl, b2⟩
  have B2 := Lib.hid (grown_then b1 b2)
  have c0 := (HA.out w2 B2.out).1
  clear b1 b2
  go_wp2_with (at_builtin; go_loud (refine wpList_append_part rfl _ _ 40 rfl 61 rfl Try.underlying40 infoPart w w2 B b v X HH.out hB B2.out k _ _ x HP.out rfl rfl hXl ?_; intro v' w4 h4; rw [HZ.out] at h4; obtain ⟨ao, n', cap', rfl⟩ := h4.row.sl; have A4 := Lib.hid h4; clear h4; have d0 := A4.out.c0; have df := A4.out.fr; have A5 := Lib.hid (A4.out.set0 (.slice ao n' cap'))))
  clear c0 d0 df A4
  generalize hW5 : w4.setCell ⟨b, 0, none⟩ (.slice ao n' cap') = w5 at *
  clear hW5
  have a1 := A5.out.c1
  have af := A5.out.fr
  have A5d := Lib.hid A5.out.drew
  have d1 := A5d.out.c1
  have df := A5d.out.fr
  go_region_with (first | (go_at_call 50; go_loud (with_reducible refine (HS.out _).mono ?_; rintro r w6 ⟨rfl, b6⟩); (have A6 := Lib.hid (A5d.out.below b6)); (have e1 := A6.out.c1); (have ef := A6.out.fr)))
  all_goals go_wp2_with fail
  all_goals (go_end0; exact ⟨rfl, _, (A6.out.set1 ((Z : Int) + (ZX : Int))).done (by rw [HL.out]; omega)⟩)

theorem add_no_w {T : Prop} {B b : Nat} {v : Value} {X : List FD} {w : World} (h : MsgR T w B b v X) (n : Int) (u : Value) (z : Nat) (x0 : FD) (ht : tagB n 2 = false) :
    Calls Try.prog 24 #[.pointer (some ⟨b, 0, none⟩), (.iface 55 (.agg #[.int .i64 n, u, .int .i64 (z : Nat)]))] w fun e w' => e = .returned (.tuple #[]) ∧ Below w.heap.size w w' := by
  have HM := Lib.hid (fun w => may_any n 2 w)
  rw [ht] at HM
  have HG := Lib.hid (fun w => wtag_any n u (z : Nat) w)
  clear ht h
  go_enter Try.func24, Try.ntmps24
  go_wp2_with fail
  refine (HG.out _).mono ?_
  rintro e w1 ⟨rfl, b1⟩
  go_wp2_with fail
  refine (HM.out _).mono ?_
  rintro e w2 ⟨rfl, b2⟩
  have B2 := Lib.hid (grown_then b1 b2)
  clear b1 b2
  go_wp2
  refine bodyPost_ret (results_none rfl _ _ _) rfl ?_
  exact ⟨rfl, B2.out⟩

theorem add_nil (p : Value) (w : World) :
    Calls Try.prog 24 #[.pointer none, p] w fun e w' => e = .returned (.tuple #[]) ∧ w' = w := by
  go_enter Try.func24, Try.ntmps24
  go_wp2
  refine bodyPost_ret (results_none rfl _ _ _) rfl ?_
  exact ⟨rfl, rfl⟩
end Go.Proofs.Ytjpppnfkpnfhoaa
