/- Several texts in one (PtNum, PtA, PtB): each begins with its own words. -/
import Derived.Test.YtjpppnfkpnfhoaaDoorZC
import Derived.Test.YtjpppnfkpnfhoaaDoorZB
import Derived.Test.YtjpppnfkpnfhoaaDoorZA
import Derived.Laws.StructEq
import Derived.Lib.SliceRun
/- A tag of Protobuf as two numbers: which may be, their bytes, what a number that was read stands for. Of no program. -/
namespace Go.Proofs.YtjpppnfkpnfhoaaDoor
open Go Go.RowKit
set_option linter.unusedVariables false

/-- Whether two numbers are a tag. -/
def tagB (n v : Int) : Bool := decide (1 ≤ n) && decide (n ≤ 536870911) && decide (v = 0 ∨ v = 1 ∨ v = 2 ∨ v = 5)
theorem tag_yes {n v : Int} (h : tagB n v = true) : 1 ≤ n ∧ n ≤ 536870911 ∧ (v = 0 ∨ v = 1 ∨ v = 2 ∨ v = 5) := by
  unfold tagB at h; simp at h; exact ⟨h.1.1, h.1.2, h.2⟩
theorem tag_mk {n v : Int} (h1 : 1 ≤ n) (h2 : n ≤ 536870911) (h3 : v = 0 ∨ v = 1 ∨ v = 2 ∨ v = 5) : tagB n v = true := by
  unfold tagB; simp [h1, h2, h3]
/-- The number that stands for a tag. -/
def tagU (n v : Int) : Nat := (n * 8 + v).toNat
/-- A tag's bytes. -/
def tagL (n v : Int) : List UInt8 := if tagB n v then vB (tagU n v) else []
/-- What a number stands for. -/
def mN (u : Nat) : Nat := if tagB (u / 8 : Nat) (u % 8 : Nat) then u / 8 else 0
def mW (u : Nat) : Nat := if tagB (u / 8 : Nat) (u % 8 : Nat) then u % 8 else 0
theorem mN_yes {u : Nat} (h : tagB (u / 8 : Nat) (u % 8 : Nat) = true) : mN u = u / 8 ∧ mW u = u % 8 := ⟨if_pos h, if_pos h⟩
theorem mN_no {u : Nat} (h : tagB (u / 8 : Nat) (u % 8 : Nat) = false) : mN u = 0 ∧ mW u = 0 := ⟨if_neg (by rw [h]; exact Bool.false_ne_true), if_neg (by rw [h]; exact Bool.false_ne_true)⟩
theorem mN_le (u : Nat) : mN u ≤ 536870911 ∧ mW u ≤ 5 := by
  rcases Bool.eq_false_or_eq_true (tagB (u / 8 : Nat) (u % 8 : Nat)) with h | h
  · have := tag_yes h; rw [(mN_yes h).1, (mN_yes h).2]; omega
  · rw [(mN_no h).1, (mN_no h).2]; omega
theorem mN_zero {u : Nat} : mN u = 0 ↔ tagB (u / 8 : Nat) (u % 8 : Nat) = false := by
  rcases Bool.eq_false_or_eq_true (tagB (u / 8 : Nat) (u % 8 : Nat)) with h | h
  · have := tag_yes h; rw [(mN_yes h).1, h]; exact ⟨fun e => by omega, fun e => absurd e (by decide)⟩
  · rw [(mN_no h).1, h]; simp
theorem tagU_lt {n v : Int} (h : tagB n v = true) : tagU n v < 4294967296 := by have := tag_yes h; unfold tagU; omega
/-- The number of a tag stands for it. -/
theorem tagU_back {n v : Int} (h : tagB n v = true) : ((mN (tagU n v) : Nat) : Int) = n ∧ ((mW (tagU n v) : Nat) : Int) = v := by
  have h1 := tag_yes h
  have e1 : ((tagU n v / 8 : Nat) : Int) = n := by unfold tagU; omega
  have e2 : ((tagU n v % 8 : Nat) : Int) = v := by unfold tagU; omega
  have h2 : tagB (tagU n v / 8 : Nat) (tagU n v % 8 : Nat) = true := by rw [e1, e2]; exact h
  rw [(mN_yes h2).1, (mN_yes h2).2]; exact ⟨e1, e2⟩
/-- The cursor behind a tag's reading, and the tag. -/
def CS.gVal (c : CS) : Nat := c.vVal
def CS.gTo (c : CS) : CS := if mN c.vVal = 0 then c.vTo.fail 14 else c.vTo
theorem CS.gTo_yes {c : CS} (h : ¬ mN c.vVal = 0) : c.gTo = c.vTo := by unfold CS.gTo; rw [if_neg h]
theorem CS.gTo_no {c : CS} (h : mN c.vVal = 0) : c.gTo = c.vTo.fail 14 := by unfold CS.gTo; rw [if_pos h]
theorem mW_zero {u : Nat} (h : mN u = 0) : mW u = 0 := (mN_no (mN_zero.mp h)).2
end Go.Proofs.YtjpppnfkpnfhoaaDoor
/- Package ptag: May, whole, Size, Put, meant, Read; slices.Clone of bytes. -/
namespace Go.Proofs.YtjpppnfkpnfhoaaDoor
open Go Go.RowKit
set_option linter.unusedVariables false

abbrev tgV (n v : Int) : Value := .agg #[.int .i64 n, .int .i64 v]
/-- Block b holds a tag. -/
def TgT (t : TypeId) (w : World) (b : Nat) (n v : Int) : Prop := w.heap[b]? = some (.cells #[.int .i64 n, .int .i64 v] t (0, 0))
theorem TgT.lt {t : TypeId} {w : World} {b : Nat} {n v : Int} (h : TgT t w b n v) : b < w.heap.size := lt_of_block h
theorem TgT.c0 {t : TypeId} {w : World} {b : Nat} {n v : Int} (h : TgT t w b n v) : w.cell? ⟨b, 0, none⟩ = some (.int .i64 n) := by unfold TgT at h; simp [World.cell?, h]
theorem TgT.c1 {t : TypeId} {w : World} {b : Nat} {n v : Int} (h : TgT t w b n v) : w.cell? ⟨b, 1, none⟩ = some (.int .i64 v) := by unfold TgT at h; simp [World.cell?, h]
theorem TgT.fr {t : TypeId} {w : World} {b : Nat} {n v : Int} (h : TgT t w b n v) (o : Nat) : w.frozen? ⟨b, o, none⟩ = false := by unfold TgT at h; simp [World.frozen?, h]
theorem TgT.below {t : TypeId} {w w' : World} {b N : Nat} {n v : Int} (h : TgT t w b n v) (hb : Below N w w') (hN : b < N) : TgT t w' b n v := (hb.block b hN).trans h
theorem TgT.drewN {t : TypeId} {w : World} {b : Nat} {n v : Int} (h : TgT t w b n v) (m : Nat) : TgT t (w.drewN m) b n v := h
theorem TgT.only {t : TypeId} {w w' : World} {b c : Nat} {n v : Int} (h : TgT t w b n v) (ho : Only c w w') (hb : b ≠ c) : TgT t w' b n v := (ho.block b h.lt hb).trans h
theorem tg_alloc (t : TypeId) (w : World) (n v : Int) : TgT t (w.alloc (.cells #[.int .i64 n, .int .i64 v] t)) w.heap.size n v := heap_alloc_new w _
theorem tg_grow (t : TypeId) (w : World) (n v : Int) : Below w.heap.size w (w.alloc (.cells #[.int .i64 n, .int .i64 v] t)) := (Below.refl _ _).alloc (Nat.le_refl _) _
theorem TgT.set {t : TypeId} {w : World} {b : Nat} {n v : Int} (h : TgT t w b n v) (n' v' : Int) : TgT t ((w.setCell ⟨b, 0, none⟩ (.int .i64 n')).setCell ⟨b, 1, none⟩ (.int .i64 v')) b n' v' :=
  heap_setCell_block (heap_setCell_block h _) _
theorem tg_set_below {N : Nat} {w W : World} {b : Nat} {x y : Value} (h : Below N w W) (hb : N ≤ b) : Below N w ((W.setCell ⟨b, 0, none⟩ x).setCell ⟨b, 1, none⟩ y) :=
  h.trans ⟨rfl, rfl, rfl, by simp [World.setCell], fun k hk => (Below.heap_setCell _ _ _ _ (show k ≠ b from Nat.ne_of_lt (Nat.lt_of_lt_of_le hk hb))).trans (Below.heap_setCell _ _ _ _ (show k ≠ b from Nat.ne_of_lt (Nat.lt_of_lt_of_le hk hb)))⟩
theorem tg_set_only {c : Nat} {w W : World} {b : Nat} {x y : Value} (h : Only c w W) (hb : w.heap.size ≤ b) : Only c w ((W.setCell ⟨b, 0, none⟩ x).setCell ⟨b, 1, none⟩ y) :=
  ⟨h.os, h.tape, h.output, by have := h.size; simpa [World.setCell] using this, fun k hk hc => ((Below.heap_setCell _ _ _ _ (show k ≠ b from Nat.ne_of_lt (Nat.lt_of_lt_of_le hk hb))).trans (Below.heap_setCell _ _ _ _ (show k ≠ b from Nat.ne_of_lt (Nat.lt_of_lt_of_le hk hb)))).trans (h.block k hk hc)⟩
theorem tg_set_cur {w : World} {b k : Nat} {x y : Value} {t : TypeId} {c : CS} (h : CurT t w k c) (hk : k ≠ b) : CurT t ((w.setCell ⟨b, 0, none⟩ x).setCell ⟨b, 1, none⟩ y) k c :=
  ((Below.heap_setCell _ _ _ _ hk).trans (Below.heap_setCell _ _ _ _ hk)).trans h
theorem tg_set_tg {w : World} {b k : Nat} {x y : Value} {t : TypeId} {n v : Int} (h : TgT t w k n v) (hk : k ≠ b) : TgT t ((w.setCell ⟨b, 0, none⟩ x).setCell ⟨b, 1, none⟩ y) k n v :=
  ((Below.heap_setCell _ _ _ _ hk).trans (Below.heap_setCell _ _ _ _ hk)).trans h
/-- Two tags that have just been laid, seen behind a call that turned nothing that was there. -/
theorem tg_two {t : TypeId} {w w1 : World} {a b c d : Int} (h : Below ((w.alloc (.cells #[.int .i64 a, .int .i64 b] t)).alloc (.cells #[.int .i64 c, .int .i64 d] t)).heap.size ((w.alloc (.cells #[.int .i64 a, .int .i64 b] t)).alloc (.cells #[.int .i64 c, .int .i64 d] t)) w1) :
    TgT t w1 w.heap.size a b ∧ TgT t w1 (w.heap.size + 1) c d ∧ Below w.heap.size w w1 := by
  have g1 := tg_alloc t w a b
  have g2 := tg_alloc t (w.alloc (.cells #[.int .i64 a, .int .i64 b] t)) c d
  have g3 := g1.below (tg_grow t _ c d) (by simp)
  rw [World.size_alloc] at g2
  exact ⟨g3.below h g3.lt, g2.below h g2.lt, below_on (below_on (tg_grow _ w a b) (tg_grow _ _ c d) (by simp)) h (by simp; omega)⟩
/-- A result variable that is a tag. -/
theorem tg_result {P : Program} {T : TypeId} {d : TypeDesc} (hu : P.underlying T = some d) (hd : (match d with | .struct _ | .array _ _ => true | _ => false) = true) (hi : (P.info? T).map (·.size) = some 2)
    {fn : Func} {p : Tmp} (h : fn.results = #[.cell p T]) {tmps : Array Value} {w : World} {g : Nat} {t : TypeId} {n v : Int} (hg : TgT t w g n v) (hp : tmps.getD p undef = .pointer (some ⟨g, 0, none⟩)) :
    (results fn tmps).run P w = .ok (tgV n v) w :=
  results_cell_row h tmps w g t #[.int .i64 n, .int .i64 v] (0, 0) d hp hg hu hd hi
theorem ret_tg {n v n' v' : Int} (h : n = n') (h' : v = v') : Ending.returned (tgV n v) = .returned (tgV n' v') := by rw [h, h']
/-- Two tags compared. -/
theorem tg_eql (a b c d : Int) (w : World) : (binOp .eql 58 (tgV a b) (tgV c d)).run Tryd.prog w = .ok (.bool (decide (a = c) && decide (b = d))) w := by
  have h1 : Tryd.prog.stoodInHeld 58 = false := by kernel_rfl
  have h2 : Tryd.prog.underlying 58 = some (.struct (Tryd.prog.fieldsOf 58)) := by kernel_rfl
  have p0 : ∀ x y : Int, (part 3 #[.int .i64 x, .int .i64 y] 0).run Tryd.prog w = .ok (.int .i64 x) w := fun x y => by simp [part, go_sem]
  have p1 : ∀ x y : Int, (part 3 #[.int .i64 x, .int .i64 y] 1).run Tryd.prog w = .ok (.int .i64 y) w := fun x y => by simp [part, go_sem]
  rw [run_eql_struct, show (10000 : Nat) = 9999 + 1 from rfl, run_equalIn_struct w 9999 _ _ _ h2 h1]
  have q0 := run_equalIn_int (P := Tryd.prog) w 9998 3 .i64 .i64 a c Tryd.underlying3
  have q1 := run_equalIn_int (P := Tryd.prog) w 9998 3 .i64 .i64 b d Tryd.underlying3
  simp [Program.fieldsOf, Tryd.underlying58, Op.eqFields, Sem.run_bind, p0, p1, Result.andThen_ok, q0, q1, -beq_iff_eq]
  by_cases e1 : a = c
  · by_cases e2 : b = d
    · subst e1 e2; simp
    · simp [e1, e2]
  · simp [e1]
theorem tg_guard : Tryd.prog.eqGuardType Tryd.prog.depth 58 = false := by kernel_rfl

set_option maxRecDepth 10000 in
theorem may_way (n v : Int) (w : World) (x y : Bool) (p1 : decide (1 ≤ n) = x) (p2 : decide (n ≤ 536870911) = y) (hv : v = 0 ∨ v = 1 ∨ v = 2 ∨ v = 5) :
    Calls Tryd.prog 24 #[tgV n v] w fun e w' => e = .returned (.bool (x && y)) ∧ Below w.heap.size w w' := by
  cases x <;> cases y <;> rcases hv with rfl | rfl | rfl | rfl <;>
    (go_enter Tryd.func24, Tryd.ntmps24
     go_wp2
     go_ret
     exact ⟨rfl, by go_grown⟩)
theorem may_none (n v : Int) (w : World) (h0 : ¬ v = 0) (h1 : ¬ v = 1) (h2 : ¬ v = 2) (h5 : ¬ v = 5) :
    Calls Tryd.prog 24 #[tgV n v] w fun e w' => e = .returned (.bool false) ∧ Below w.heap.size w w' := by
  have p0 : (v == 0) = false := beq_eq_false_iff_ne.mpr h0
  have p1 : (v == 1) = false := beq_eq_false_iff_ne.mpr h1
  have p2 : (v == 2) = false := beq_eq_false_iff_ne.mpr h2
  have p5 : (v == 5) = false := beq_eq_false_iff_ne.mpr h5
  clear h0 h1 h2 h5
  go_enter Tryd.func24, Tryd.ntmps24
  go_wp2
  go_ret
  exact ⟨rfl, by go_grown⟩
theorem may_any (n v : Int) (w : World) :
    Calls Tryd.prog 24 #[tgV n v] w fun e w' => e = .returned (.bool (tagB n v)) ∧ Below w.heap.size w w' := by
  by_cases hv : v = 0 ∨ v = 1 ∨ v = 2 ∨ v = 5
  · have e : tagB n v = (decide (1 ≤ n) && decide (n ≤ 536870911)) := by unfold tagB; simp [hv]
    rw [e]; exact may_way n v w _ _ rfl rfl hv
  · have e : tagB n v = false := by unfold tagB; simp [hv]
    rw [e]; exact may_none n v w (fun h => hv (.inl h)) (fun h => hv (.inr (.inl h))) (fun h => hv (.inr (.inr (.inl h)))) (fun h => hv (.inr (.inr (.inr h))))

theorem whole_any (n v : Int) (w : World) (h : tagB n v = true) :
    Calls Tryd.prog 40 #[tgV n v] w fun e w' => e = .returned (.int .u64 (tagU n v : Nat)) ∧ Below w.heap.size w w' := by
  have h1 := tag_yes h
  have e1 : IntKind.u64.wrap n = n := IntWalk.u64_in _ (by omega)
  have e2 : IntKind.u64.wrap (n * 8) = n * 8 := IntWalk.u64_in _ (by omega)
  have e3 : IntKind.u64.wrap v = v := IntWalk.u64_in _ (by omega)
  have e4 : IntKind.u64.wrap (n * 8 + v) = n * 8 + v := IntWalk.u64_in _ (by omega)
  have HR := Lib.hid (show n * 8 + v = ((tagU n v : Nat) : Int) by unfold tagU; omega)
  clear h h1
  go_enter Tryd.func40, Tryd.ntmps40
  go_wp2
  go_ret
  exact ⟨ret_i HR.out, by go_grown⟩

theorem tsize_any (n v : Int) (w : World) :
    Calls Tryd.prog 37 #[tgV n v] w fun e w' => e = .returned (.int .i64 ((tagL n v).length : Nat)) ∧ Below w.heap.size w w' := by
  rcases Bool.eq_false_or_eq_true (tagB n v) with h | h
  · have HM := Lib.hid (fun w => may_any n v w)
    rw [h] at HM
    have HW := Lib.hid (fun w => whole_any n v w h)
    have HS := Lib.hid (fun w => vsize_any (tagU n v) w (by have := tagU_lt h; omega))
    have HR := Lib.hid (show (tagL n v).length = (vB (tagU n v)).length by unfold tagL; rw [if_pos h])
    clear h
    go_enter Tryd.func37, Tryd.ntmps37
    go_wp2_with fail
    with_reducible refine (HM.out _).mono ?_
    rintro e w1 ⟨rfl, b1⟩
    have k1 := Lib.hid (below_on (tg_grow 58 w n v) b1 (by simp))
    have A1 := (tg_alloc 58 w n v).below b1 (by simp)
    have c0 := A1.c0; have c1 := A1.c1
    clear b1 A1
    go_wp2_with fail
    with_reducible refine (HW.out _).mono ?_
    rintro e w2 ⟨rfl, b2⟩
    have k2 := Lib.hid (grown_then k1.out b2)
    clear b2 c0 c1
    go_wp2_with fail
    with_reducible refine (HS.out _).mono ?_
    rintro e w3 ⟨rfl, rfl⟩
    go_wp2
    go_ret
    exact ⟨ret_i (by rw [HR.out]), k2.out⟩
  · have HM := Lib.hid (fun w => may_any n v w)
    rw [h] at HM
    have HR := Lib.hid (show (tagL n v).length = 0 by unfold tagL; simp [h])
    clear h
    go_enter Tryd.func37, Tryd.ntmps37
    go_wp2_with fail
    with_reducible refine (HM.out _).mono ?_
    rintro e w1 ⟨rfl, b1⟩
    have k1 := Lib.hid (below_on (tg_grow 58 w n v) b1 (by simp))
    clear b1
    go_wp2
    go_ret
    exact ⟨by rw [HR.out]; rfl, k1.out⟩
end Go.Proofs.YtjpppnfkpnfhoaaDoor
/- Package ptag: Put, meant, Read; slices.Clone of bytes. -/
namespace Go.Proofs.YtjpppnfkpnfhoaaDoor
open Go Go.RowKit
set_option linter.unusedVariables false

theorem add_at (b off j : Nat) : (Addr.mk b off none).add j = ⟨b, off + j, none⟩ := by unfold Addr.add; split <;> simp_all

set_option maxHeartbeats 2000000 in
/-- slices.Clone of bytes that were there: a list of the call's own, of the same bytes. -/
theorem clone_any (a : Option Addr) (cap : Nat) (l : List UInt8) (w : World) (hl : l.length ≤ 140737488351232) (hin : BIn w a l) :
    Calls Tryd.prog 39 #[.slice a l.length cap] w fun e w' => ∃ v, e = .returned v ∧ Bts 5 w' w.heap.size v l ∧ Below w.heap.size w w' := by
  have q : ∀ (w : World) (a : Option Addr) (n c n' c' : Nat), (binOp .eql 35 (.slice a n c) (.slice none n' c')).run Tryd.prog w = .ok (.bool a.isNone) w := fun w a n c n' c' => Lib.run_eql_slice_nil w _ _ a n c n' c' Tryd.underlying35
  match a with
  | none =>
    have hz : l = [] := by
      cases l with
      | nil => rfl
      | cons x t => obtain ⟨b, off, e, _⟩ := hin 0 (by simp); cases e
    subst hz
    have HB := Lib.hid (show Bts 5 w w.heap.size (.slice none 0 0) [] from ⟨by simp [bV], .inl ⟨rfl, rfl⟩⟩)
    clear hin
    go_enter Tryd.func39, Tryd.ntmps39
    go_wp2
    go_ret
    exact ⟨_, rfl, HB.out, Below.refl _ _⟩
  | some A =>
    obtain ⟨i0, hi, hz0, hz1, hz2⟩ := info_parts info8
    have HC := Lib.hid (show ∀ j u, (bV l)[j]? = some u → w.cell? (A.add j) = some u from fun j u hj => by
      have hjl : j < l.length := by
        have := (List.getElem?_eq_some_iff.1 hj).1
        rwa [bV_length] at this
      obtain ⟨b, off, e, _, hc⟩ := hin j hjl
      obtain rfl : A = ⟨b, off, none⟩ := by simpa using e
      rw [add_at, hc, ← bV_get l j hjl]; exact hj)
    clear hin
    go_enter Tryd.func39, Tryd.ntmps39
    go_wp2_with (at_builtin; refine wpList_append_own _ rfl _ _ 35 rfl w.heap.size 5 i0 (.int .u8 0) 1 1 Tryd.underlying35 hi hz0 hz1 hz2 rfl (by decide) _ _ _ rfl (World.ownsRow_made w #[] 0 (Nat.le_refl _) (Nat.zero_le _) rfl) A l.length cap (bV l) rfl ?qc1 ?qc2 ?qc3 ?qc4 ?qc5 ?qc6 ?_)
    case qc1 => rw [bV_length, Nat.mul_one]
    case qc2 => intro j u hj; exact Lib.cell?_alloc_some _ (HC.out j u hj)
    case qc3 => exact bV_one l
    case qc4 => unfold maxLen; omega
    case qc5 => omega
    case qc6 => simp
    intro v' w1 hown hgrow hnil
    go_wp2
    go_ret
    refine ⟨v', rfl, by unfold Bts; simpa using hown, ?_⟩
    exact ((Below.refl _ w).alloc (Nat.le_refl _) _).grown hgrow (by simp) (by intro k hk; simp [Value.ownBlock] at hk; omega)

theorem tput_any (a : Option Addr) (cap : Nat) (l : List UInt8) (n v : Int) (w : World) (hl : l.length ≤ 140737488351232) (hin : BIn w a l) :
    Calls Tryd.prog 25 #[.slice a l.length cap, tgV n v] w fun e w' => ∃ x, e = .returned x ∧ Bts 5 w' w.heap.size x (l ++ tagL n v) ∧ Below w.heap.size w w' := by
  have HM := Lib.hid (fun w => may_any n v w)
  rcases Bool.eq_false_or_eq_true (tagB n v) with h | h
  · rw [h] at HM
    have HW := Lib.hid (fun w => whole_any n v w h)
    have hU := tagU_lt h
    have HP := Lib.hid (fun w hin => vput_any a cap l (tagU n v) w hl (by omega) hin)
    have HR := Lib.hid (show tagL n v = vB (tagU n v) from if_pos h)
    have HI := Lib.hid hin
    clear h hin hU
    go_enter Tryd.func25, Tryd.ntmps25
    go_wp2_with fail
    with_reducible refine (HM.out _).mono ?_
    rintro e w1 ⟨rfl, b1⟩
    have k1 := Lib.hid (below_on (tg_grow 58 w n v) b1 (by simp))
    have A1 := (tg_alloc 58 w n v).below b1 (by simp)
    have c0 := A1.c0; have c1 := A1.c1
    clear b1 A1
    go_wp2_with fail
    with_reducible refine (HW.out _).mono ?_
    rintro e w2 ⟨rfl, b2⟩
    have k2 := Lib.hid (grown_then k1.out b2)
    clear b2 c0 c1
    go_wp2_with fail
    with_reducible refine (HP.out _ (HI.out.below k2.out)).mono ?_
    rintro e w3 ⟨x, rfl, hb, b3⟩
    have k3 := Lib.hid (grown_then k2.out b3)
    have hb3 := Lib.hid (hb.base k2.out.size)
    clear b3 hb
    go_wp2
    go_ret
    exact ⟨_, rfl, by rw [HR.out]; exact hb3.out, k3.out⟩
  · rw [h] at HM
    have HC := Lib.hid (fun w hin => clone_any a cap l w hl hin)
    have HR := Lib.hid (show l ++ tagL n v = l by unfold tagL; simp [h])
    have HI := Lib.hid hin
    clear h hin
    go_enter Tryd.func25, Tryd.ntmps25
    go_wp2_with fail
    with_reducible refine (HM.out _).mono ?_
    rintro e w1 ⟨rfl, b1⟩
    have k1 := Lib.hid (below_on (tg_grow 58 w n v) b1 (by simp))
    clear b1
    go_wp2_with fail
    with_reducible refine (HC.out _ (HI.out.below k1.out)).mono ?_
    rintro e w3 ⟨x, rfl, hb, b3⟩
    have k3 := Lib.hid (grown_then k1.out b3)
    have hb3 := Lib.hid (hb.base k1.out.size)
    clear b3 hb
    go_wp2
    go_ret
    exact ⟨_, rfl, by rw [HR.out]; exact hb3.out, k3.out⟩

theorem meant_any (u : Nat) (w : World) (hu : u < 18446744073709551616) :
    Calls Tryd.prog 52 #[.int .u64 u] w fun e w' => e = .returned (tgV (mN u : Nat) (mW u : Nat)) ∧ Below w.heap.size w w' := by
  obtain ⟨q, hq⟩ : ∃ q, q = u / 8 := ⟨_, rfl⟩
  obtain ⟨r, hr⟩ : ∃ r, r = u % 8 := ⟨_, rfl⟩
  have m1 : (u : Int).tmod 8 = (r : Int) := by rw [Int.tmod_eq_emod_of_nonneg (by omega)]; omega
  have m1' : (u : Int) % 8 = (r : Int) := by omega
  have m2 : (u : Int) / 8 = (q : Int) := by omega
  have m2' : (u : Int).tdiv 8 = (q : Int) := by rw [Int.tdiv_eq_ediv_of_nonneg (by omega)]; omega
  have m3 : IntKind.i64.wrap (q : Int) = (q : Int) := IntWalk.i64_in _ (by omega)
  have m4 : IntKind.i64.wrap (r : Int) = (r : Int) := IntWalk.i64_in _ (by omega)
  have m5 : IntKind.u64.wrap (q : Int) = (q : Int) := IntWalk.u64_in _ (by omega)
  have m6 : IntKind.u64.wrap (r : Int) = (r : Int) := IntWalk.u64_in _ (by omega)
  have HM := Lib.hid (fun w => may_any (q : Int) (r : Int) w)
  rcases Bool.eq_false_or_eq_true (tagB (q : Nat) (r : Nat)) with h | h
  · rw [h] at HM
    have HR := Lib.hid (show mN u = q ∧ mW u = r by subst hq hr; exact mN_yes h)
    clear h hq hr
    go_enter Tryd.func52, Tryd.ntmps52
    go_wp2_with fail
    with_reducible refine (HM.out _).mono ?_
    rintro e w1 ⟨rfl, b1⟩
    obtain ⟨A0, A1, B1⟩ := tg_two b1
    have hB := Lib.hid B1
    have hA := Lib.hid (A0.set (q : Int) (r : Int))
    have c0 := A1.c0; have c1 := A1.c1; have f0 := A0.fr; have d0 := A0.c0; have d1 := A0.c1
    clear b1 A0 A1 B1
    go_wp2
    exact bodyPost_ret (tg_result Tryd.underlying58 rfl (by kernel_rfl) Tryd.results52 hA.out rfl) rfl ⟨ret_tg (by rw [HR.out.1]) (by rw [HR.out.2]), tg_set_below hB.out (Nat.le_refl _)⟩
  · rw [h] at HM
    have HR := Lib.hid (show mN u = 0 ∧ mW u = 0 by subst hq hr; exact mN_no h)
    clear h hq hr
    go_enter Tryd.func52, Tryd.ntmps52
    go_wp2_with fail
    with_reducible refine (HM.out _).mono ?_
    rintro e w1 ⟨rfl, b1⟩
    obtain ⟨A0, A1, B1⟩ := tg_two b1
    have hB := Lib.hid B1
    have hA := Lib.hid (A0.set 0 0)
    have c0 := A1.c0; have c1 := A1.c1; have f0 := A0.fr; have d0 := A0.c0; have d1 := A0.c1
    clear b1 A0 A1 B1
    go_wp2
    exact bodyPost_ret (tg_result Tryd.underlying58 rfl (by kernel_rfl) Tryd.results52 hA.out rfl) rfl ⟨ret_tg (by rw [HR.out.1]; rfl) (by rw [HR.out.2]; rfl), tg_set_below hB.out (Nat.le_refl _)⟩

theorem tread_any {b : Nat} {c : CS} {w : World} (h : CurT 82 w b c) (hc : c.ok) :
    Calls Tryd.prog 43 #[.pointer (some ⟨b, 0, none⟩)] w fun e w' => e = .returned (tgV (mN c.vVal : Nat) (mW c.vVal : Nat)) ∧ CurT 82 w' b c.gTo ∧ Only b w w' := by
  have qE := fun a d w => tg_eql a d 0 0 w
  have qG := fun (x y : Operand) xs ys w => run_eqGuard_agg w .eql 58 x y xs ys tg_guard
  have hbl := h.lt
  have A0 := tg_alloc 58 w 0 0
  have h1 := h.allocOld (.cells #[.int .i64 0, .int .i64 0] 58)
  have O1 := Lib.hid ((Only.refl b w).alloc (.cells #[.int .i64 0, .int .i64 0] 58))
  have HV := Lib.hid (fun w (h : CurT 82 w b c) => vread_any h hc)
  have HN := Lib.hid (fun w => meant_any c.vVal w (CS.vVal_lt c))
  obtain ⟨N, hN⟩ : ∃ N, N = mN c.vVal := ⟨_, rfl⟩
  obtain ⟨R, hR⟩ : ∃ R, R = mW c.vVal := ⟨_, rfl⟩
  rw [← hN, ← hR] at HN ⊢
  obtain ⟨U, hU⟩ : ∃ U, U = c.vVal := ⟨_, rfl⟩
  obtain ⟨d, hd⟩ : ∃ d, d = c.vTo := ⟨_, rfl⟩
  by_cases h0 : N = 0
  · have hR0 : R = 0 := by rw [hR]; exact mW_zero (by rw [← hN]; exact h0)
    have HG := Lib.hid (show c.gTo = d.fail 14 by rw [hd]; exact CS.gTo_no (by rw [← hN]; exact h0))
    subst h0; subst hR0
    have e0 : ((0 : Nat) : Int) = 0 := rfl
    rw [← hU, ← hd] at HV
    rw [← hU, e0] at HN
    rw [e0]
    clear hN hR hU hd hc e0
    go_enter Tryd.func43, Tryd.ntmps43
    go_wp2_with fail
    with_reducible refine (HV.out _ h1).mono ?_
    rintro e w2 ⟨rfl, h2, o2⟩
    have O2 := Lib.hid (O1.out.trans o2)
    have A2 := A0.only o2 (by omega)
    clear o2 A0 h1
    go_wp2_with fail
    with_reducible refine (HN.out _).mono ?_
    rintro e w3 ⟨rfl, b3⟩
    have O3 := Lib.hid (O2.out.trans (Only.of_below b3))
    have h3 := Below.cur b3 h2 h2.lt
    have A3 := A2.below b3 A2.lt
    have g3 := O3.out.size
    have H4 := Lib.hid (h3.allocOld (.cells #[.int .i64 0, .int .i64 0] 58))
    have A4 := Lib.hid (A3.below (tg_grow 58 w3 0 0) A3.lt)
    have T4 := Lib.hid (tg_alloc 58 w3 0 0)
    have O4 := Lib.hid (O3.out.alloc (.cells #[.int .i64 0, .int .i64 0] 58))
    have n4 : w3.heap.size ≠ b := by have := h3.lt; omega
    have n5 : w.heap.size ≠ b := by omega
    have l3 : w.heap.size < w3.heap.size := A3.lt
    clear b3 h2 A2 h3 A3 g3 hbl
    go_wp2_with fail
    with_reducible refine (fail_any H4.out 14).mono ?_
    rintro e w5 ⟨rfl, h5, o5⟩
    have O5 := Lib.hid (O4.out.trans o5)
    have A5 := A4.out.only o5 n5
    have T5 := T4.out.only o5 n4
    have c0 := T5.c0; have c1 := T5.c1; have f0 := A5.fr; have d0 := A5.c0; have d1 := A5.c1
    have hA := Lib.hid (A5.set 0 0)
    have hC := Lib.hid (tg_set_cur (x := .int .i64 0) (y := .int .i64 0) h5 (Ne.symm n5))
    clear A5 T5 o5 h5
    go_wp2
    exact bodyPost_ret (tg_result Tryd.underlying58 rfl (by kernel_rfl) Tryd.results43 hA.out rfl) rfl ⟨rfl, by rw [HG.out]; exact hC.out, tg_set_only O5.out (Nat.le_refl _)⟩
  · have HG := Lib.hid (show c.gTo = d by rw [hd]; exact CS.gTo_yes (by rw [← hN]; exact h0))
    have pN : decide ((N : Int) = 0) = false := decide_eq_false (by omega)
    have pN' : decide (N = 0) = false := decide_eq_false h0
    have pN2 : ((N : Int) == 0) = false := beq_eq_false_iff_ne.mpr (by omega)
    have pN3 : (N == 0) = false := beq_eq_false_iff_ne.mpr h0
    rw [← hU, ← hd] at HV
    rw [← hU] at HN
    clear hN hR hU hd hc h0
    go_enter Tryd.func43, Tryd.ntmps43
    go_wp2_with fail
    with_reducible refine (HV.out _ h1).mono ?_
    rintro e w2 ⟨rfl, h2, o2⟩
    have O2 := Lib.hid (O1.out.trans o2)
    have A2 := A0.only o2 (by omega)
    clear o2 A0 h1
    go_wp2_with fail
    with_reducible refine (HN.out _).mono ?_
    rintro e w3 ⟨rfl, b3⟩
    have O3 := Lib.hid (O2.out.trans (Only.of_below b3))
    have h3 := Below.cur b3 h2 h2.lt
    have A3 := A2.below b3 A2.lt
    have g3 := O3.out.size
    have H4 := Lib.hid (h3.allocOld (.cells #[.int .i64 N, .int .i64 R] 58))
    have A4 := Lib.hid (A3.below (tg_grow 58 w3 N R) A3.lt)
    have T4 := Lib.hid (tg_alloc 58 w3 N R)
    have O4 := Lib.hid (O3.out.alloc (.cells #[.int .i64 N, .int .i64 R] 58))
    have n4 : w3.heap.size ≠ b := by have := h3.lt; omega
    have n5 : w.heap.size ≠ b := by omega
    have l3 : w.heap.size < w3.heap.size := A3.lt
    have f0 := A3.fr; have d0 := A3.c0; have d1 := A3.c1
    have hA := Lib.hid ((A3.set (N : Int) (R : Int)).below (tg_grow 58 _ N R) (by simpa [World.setCell] using A3.lt))
    have hC := Lib.hid ((tg_set_cur (x := .int .i64 (N : Int)) (y := .int .i64 (R : Int)) h3 (Ne.symm n5)).allocOld (.cells #[.int .i64 N, .int .i64 R] 58))
    have hO := Lib.hid ((tg_set_only (x := .int .i64 (N : Int)) (y := .int .i64 (R : Int)) O3.out (Nat.le_refl _)).alloc (.cells #[.int .i64 N, .int .i64 R] 58))
    clear b3 h2 A2 h3 A3 g3 hbl H4 A4 T4 O4
    go_wp2
    exact bodyPost_ret (tg_result Tryd.underlying58 rfl (by kernel_rfl) Tryd.results43 hA.out rfl) rfl ⟨rfl, by rw [HG.out]; exact hC.out, hO.out⟩
end Go.Proofs.YtjpppnfkpnfhoaaDoor
