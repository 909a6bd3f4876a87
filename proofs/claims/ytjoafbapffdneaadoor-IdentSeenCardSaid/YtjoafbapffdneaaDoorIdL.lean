/- Quiet regions with arrays of bytes; the keeper's Find. -/
import Derived.Test.YtjoafbapffdneaaDoorIdK
import Derived.OrdersHeld
namespace Go.Proofs.YtjoafbapffdneaaDoor
open Go Go.RowKit Go.Maps
set_option linter.unusedVariables false

section
variable {P : Program} {T : TypeId} {n : Nat} {dst : Option Tmp} {ty yT : TypeId} {pos : String} {after : Array Edge} {g : Option (Nat × Bool)} {x y : Operand} {a : Act} {w : World} {C : World → Prop} {Q : Act → Prop} {ops : Array Oper} {rest : List Oper} {o : Oper}
theorem wq_val {v : Value} (hw : Region.wanted o (yielded ops a.tmps) = true) (hv : ∀ w, C w → (execOp a.eval o).run P w = .ok (.value v) w) (h : wpQuiet P ops C Q rest (a.put o.dst v)) : wpQuiet P ops C Q (o :: rest) a :=
  wpQuiet_step fun K hK => by
    rw [if_pos hw]
    exact ⟨v, fun w hC => by unfold Oper.quietAt; rw [hv w hC]; exact ⟨rfl, rfl⟩, hK _ h⟩
theorem exec_load (hT : BytesT P T n) {b off : Nat} {l : List UInt8} (hx : a.eval x = .pointer (some ⟨b, off, none⟩)) (hl : l.length = n) (ha : AAt w b off l) :
    (execOp a.eval ⟨dst, .load T x, ty, pos, after, g⟩).run P w = .ok (.value (.agg (aC l))) w := by
  obtain ⟨d, hd, hr⟩ := hT.row
  unfold execOp
  simp only [hx, Instr.loadAt, Instr.sureAddr, Sem.run_bind, Sem.run_pure, Result.andThen_ok, run_loadVar_mid w b off T (bV l) d ha hd hr (by rw [hT.size, bV_length, hl])]
  rfl
theorem exec_eql (hT : BytesT P T n) (hm : P.eqGuardType P.depth T = false) {l m : List UInt8} (hx : a.eval x = .agg (aC l)) (hy : a.eval y = .agg (aC m)) (hl : l.length = n) (hml : m.length = n) :
    (execOp a.eval ⟨dst, .binOp .eql T x y yT, ty, pos, after, g⟩).run P w = .ok (.value (.bool (decide (l = m)))) w := by
  simp only [execOp, hx, hy, Sem.run_bind, run_eqGuard_agg w .eql T x y (aC l) (aC m) hm, Result.andThen_ok, hT.eql hl hml w, Sem.run_pure]
theorem exec_build {x y : Operand} {cells u v : Array Value} (hx : a.eval x = .agg u) (hy : a.eval y = .agg v) (h : P.built T [(0, .agg u), (1, .agg v)] = some cells) :
    (execOp a.eval ⟨dst, .build T #[(0, x), (1, y)], ty, pos, after, g⟩).run P w = .ok (.value (.agg cells)) w := by
  unfold execOp
  have hp : (#[(0, x), (1, y)].map fun (p : Nat × Operand) => (p.1, a.eval p.2)) = #[(0, Value.agg u), (1, Value.agg v)] := by simp [hx, hy]
  simp only [hp, Sem.run_bind, run_build w T _ cells h, Result.andThen_ok, Sem.run_pure]
theorem exec_lookup {m k v : Value} (hx : a.eval x = m) (hy : a.eval y = k) (h : (Instr.lookup T m k true).run P w = .ok v w) :
    (execOp a.eval ⟨dst, .lookup T x y true, ty, pos, after, g⟩).run P w = .ok (.value v) w := by
  simp only [execOp, hx, hy, Sem.run_bind, h, Result.andThen_ok, Sem.run_pure]
theorem wq_load (hT : BytesT P T n) (hw : Region.wanted ⟨dst, .load T x, ty, pos, after, g⟩ (yielded ops a.tmps) = true) {b off : Nat} {l : List UInt8} (hx : a.eval x = .pointer (some ⟨b, off, none⟩)) (hl : l.length = n) (ha : ∀ w, C w → AAt w b off l)
    (h : wpQuiet P ops C Q rest (a.put dst (.agg (aC l)))) : wpQuiet P ops C Q (⟨dst, .load T x, ty, pos, after, g⟩ :: rest) a := wq_val hw (fun w hC => exec_load hT hx hl (ha w hC)) h
theorem wq_eql (hT : BytesT P T n) (hm : P.eqGuardType P.depth T = false) (hw : Region.wanted ⟨dst, .binOp .eql T x y yT, ty, pos, after, g⟩ (yielded ops a.tmps) = true) {l m : List UInt8} (hx : a.eval x = .agg (aC l)) (hy : a.eval y = .agg (aC m)) (hl : l.length = n) (hml : m.length = n)
    (h : wpQuiet P ops C Q rest (a.put dst (.bool (decide (l = m))))) : wpQuiet P ops C Q (⟨dst, .binOp .eql T x y yT, ty, pos, after, g⟩ :: rest) a := wq_val hw (fun w hC => exec_eql hT hm hx hy hl hml) h
theorem wq_build {x y : Operand} (hw : Region.wanted ⟨dst, .build T #[(0, x), (1, y)], ty, pos, after, g⟩ (yielded ops a.tmps) = true) {cells u v : Array Value} (hx : a.eval x = .agg u) (hy : a.eval y = .agg v) (h0 : P.built T [(0, .agg u), (1, .agg v)] = some cells)
    (h : wpQuiet P ops C Q rest (a.put dst (.agg cells))) : wpQuiet P ops C Q (⟨dst, .build T #[(0, x), (1, y)], ty, pos, after, g⟩ :: rest) a := wq_val hw (fun w hC => exec_build hx hy h0) h
theorem wq_lookup (hw : Region.wanted ⟨dst, .lookup T x y true, ty, pos, after, g⟩ (yielded ops a.tmps) = true) {m k v : Value} (hx : a.eval x = m) (hy : a.eval y = k) (h0 : ∀ w, C w → (Instr.lookup T m k true).run P w = .ok v w)
    (h : wpQuiet P ops C Q rest (a.put dst v)) : wpQuiet P ops C Q (⟨dst, .lookup T x y true, ty, pos, after, g⟩ :: rest) a := wq_val hw (fun w hC => exec_lookup hx hy (h0 w hC)) h
end

theorem built_key (t s : List UInt8) (ht : t.length = 16) (hs : s.length = 8) : Tryd.prog.built 68 [(0, .agg (aC t)), (1, .agg (aC s))] = some (aC (t ++ s)) := by
  match t, ht, s, hs with
  | [t0, t1, t2, t3, t4, t5, t6, t7, t8, t9, ta, tb, tc, td, te, tf], _, [s0, s1, s2, s3, s4, s5, s6, s7], _ =>
    show Tryd.prog.built 68 [(0, .agg (aC [t0, t1, t2, t3, t4, t5, t6, t7, t8, t9, ta, tb, tc, td, te, tf])), (1, .agg (aC [s0, s1, s2, s3, s4, s5, s6, s7]))] = some (aC [t0, t1, t2, t3, t4, t5, t6, t7, t8, t9, ta, tb, tc, td, te, tf, s0, s1, s2, s3, s4, s5, s6, s7])
    kernel_rfl
theorem AAt.drewN {w : World} {b o : Nat} {l : List UInt8} (h : AAt w b o l) (n : Nat) : AAt (w.drewN n) b o l := h
theorem zeroInt (w : World) : (zeroValue 3).run Tryd.prog w = .ok (.int .i64 0) w := by kernel_rfl
/-- The number that a span has. -/
def findN (L : List (List UInt8)) (p : List UInt8) : Nat := if p ∈ L then L.idxOf p else 0
theorem look_any {w : World} {b m : Nat} {L : List (List UInt8)} (h : SeenAt w b m L) (p : List UInt8) (hp : p.length = 24) :
    (Instr.lookup 64 (.map (some m)) (.agg (aC p)) true).run Tryd.prog w = .ok (.tuple #[.int .i64 (findN L p), .bool (decide (p ∈ L))]) w := by
  obtain ⟨D, ho, hs⟩ := h.own
  obtain ⟨v, ps, hrun, hv⟩ := ho.look_ok keyLaw Tryd.underlying64 (zeroInt w) (plainElem_int Tryd.underlying3 (by decide)) (key_of p hp)
  obtain ⟨c, rfl, hc, _⟩ := plainElem_int_inv Tryd.underlying3 hv
  rw [hrun, hs.has p hp]
  have hc1 : D.atKey (kLit p) (nL 0) = nL c := congrArg Prod.fst hc
  have : c = (findN L p : Nat) := by
    unfold findN
    by_cases hi : p ∈ L
    · rw [if_pos hi]
      rw [hs.at_ p hi] at hc1
      simpa using hc1.symm
    · rw [if_neg hi]
      have := atKey_of_not_has (by rw [hs.has p hp]; simp [hi] : Maps.has D (kLit p) = false) (nL 0)
      rw [this] at hc1
      simpa using hc1.symm
  rw [this]

theorem find_nil (t s : List UInt8) (w : World) :
    Calls Tryd.prog 28 #[.pointer none, .agg (aC t), .agg (aC s)] w fun e w' => e = .returned (.tuple #[.int .i64 0, .bool false]) ∧ Below w.heap.size w w' := by
  have h2 := Lib.hid (two_alloc 23 28 w t s).2.2.2
  go_enter Tryd.func28, Tryd.ntmps28
  go_wp2
  go_ret2
  exact ⟨rfl, h2.out⟩
theorem find_any {b m : Nat} {L : List (List UInt8)} (t s : List UInt8) {w : World} (ht : t.length = 16) (hs : s.length = 8) (h : SeenAt w b m L) :
    Calls Tryd.prog 28 #[.pointer (some ⟨b, 0, none⟩), .agg (aC t), .agg (aC s)] w fun e w' => e = .returned (.tuple #[.int .i64 (findN L (t ++ s)), .bool (decide (t ++ s ∈ L))]) ∧ Below w.heap.size w w' := by
  have h2 := two_alloc 23 28 w t s
  have hp : (t ++ s).length = 24 := by rw [List.length_append, ht, hs]
  have hlt := h.lt
  go_enter Tryd.func28, Tryd.ntmps28
  go_wp2_with fail
  generalize (w.alloc (.cells (aC t) 23)).alloc (.cells (aC s) 28) = W at h2 ⊢
  obtain ⟨hA, hB, hsz, hbe⟩ := h2
  have hW : SeenAt W b m L := h.below hbe hlt.1 hlt.2
  have A1 := Lib.hid hA.at0
  have B1 := Lib.hid hB.at0
  have K1 := Lib.hid (show ∀ w', (∃ n, w' = W.drewN n) → (Instr.lookup 64 (.map (some m)) (.agg (aC (t ++ s))) true).run Tryd.prog w' = .ok (.tuple #[.int .i64 (findN L (t ++ s)), .bool (decide (t ++ s ∈ L))]) w' from fun w' hC => by obtain ⟨n, rfl⟩ := hC; exact look_any (hW.keep rfl rfl : SeenAt (W.drewN n) b m L) (t ++ s) hp)
  have BK := Lib.hid (built_key t s ht hs)
  have HE := Lib.hid hbe
  have c0 := hW.cell
  clear hA hB hbe hW hlt h hsz
  refine wp_region_quiet_lit (by kernel_rfl) (by kernel_rfl) ?_
  quiet_step (fail)
  quiet_step (fail)
  quiet_step (fail)
  quiet_step (fail)
  refine wq_load traceT (by rfl) (by rfl) ht (fun w' ⟨n, e⟩ => e ▸ A1.out.drewN n) ?_
  simp only [Act.put, List.setIfInBounds_toArray, List.set_cons_zero, List.set_cons_succ]
  refine wq_load spanT (by rfl) (by rfl) hs (fun w' ⟨n, e⟩ => e ▸ B1.out.drewN n) ?_
  simp only [Act.put, List.setIfInBounds_toArray, List.set_cons_zero, List.set_cons_succ]
  refine wq_build (by rfl) (by rfl) (by rfl) BK.out ?_
  simp only [Act.put, List.setIfInBounds_toArray, List.set_cons_zero, List.set_cons_succ]
  refine wq_lookup (by rfl) (by rfl) (by rfl) K1.out ?_
  simp only [Act.put, List.setIfInBounds_toArray, List.set_cons_zero, List.set_cons_succ]
  repeat (quiet_step (fail))
  refine wpQuiet_nil ?_
  intro _ hw'
  obtain ⟨nq, hw''⟩ := hw'
  subst hw''
  go_wp2
  go_ret2
  exact ⟨rfl, Below.drewN HE.out _⟩
end Go.Proofs.YtjoafbapffdneaaDoor
