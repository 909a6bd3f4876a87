/- Law 7's example. -/
import Derived.Test.YtjoafbapffdneaaDoorIdE
import Derived.Test.YtjoafbapffdneaaDoorIdM
namespace Go.Proofs.YtjoafbapffdneaaDoor
open Go Go.RowKit Go.Maps
set_option linter.unusedVariables false

/-- 'store' of a whole value into the variable that was made last. -/
theorem wl_store_new {P : Program} {T : TypeId} {n : Nat} {dst : Option Tmp} {ty : TypeId} {pos : String} {after : Array Edge} {g : Option (Nat × Bool)} {x y : Operand} {a : Act} {w : World} {Q : Exit → Act → World → Prop} {ops : Array Oper} {rest : List Oper} {c : Array Value} {t : TypeId}
    (hT : BytesT P T n) (hw : Region.wanted ⟨dst, .store T x y, ty, pos, after, g⟩ (yielded ops a.tmps) = true) {l : List UInt8} (hx : a.eval x = .pointer (some ⟨w.heap.size, 0, none⟩)) (hy : a.eval y = .agg (aC l)) (hl : l.length = n) (hc : c.size = n)
    (h : wpList P ops Q rest (a.put dst undef) (w.alloc (.cells (aC l) t))) : wpList P ops Q (⟨dst, .store T x y, ty, pos, after, g⟩ :: rest) a (w.alloc (.cells c t)) := by
  refine wpList_wanted hw fun K hK => wp_store_row T x y rfl w.heap.size (aC l) hx hy t c (heap_alloc_new w _) (by rw [hT.size, aC_size, hl]) (by rw [aC_size, hl, hc]) (aC_one l) (hK _ _ ?_)
  rw [World.setRow_alloc_new]; exact h

abbrev tFF : List UInt8 := [0, 0, 0, 0, 0, 0, 0, 0, 0, 0, 0, 0, 0, 0, 0, 255]
theorem wk_trace (w : World) (ht : Tab w) : Calls Tryd.prog 6 #[.string ⟨#[48, 48, 48, 48, 48, 48, 48, 48, 48, 48, 48, 48, 48, 48, 102, 102]⟩] w fun e w' => e = .returned (.tuple #[.agg (aC tFF), .int .i64 0]) ∧ Below w.heap.size w w' := by
  have := readtrace_any ⟨#[48, 48, 48, 48, 48, 48, 48, 48, 48, 48, 48, 48, 48, 48, 102, 102]⟩ w (by decide +kernel) ht
  rw [show trL ⟨#[48, 48, 48, 48, 48, 48, 48, 48, 48, 48, 48, 48, 48, 48, 102, 102]⟩ = tFF by decide +kernel, show trC ⟨#[48, 48, 48, 48, 48, 48, 48, 48, 48, 48, 48, 48, 48, 48, 102, 102]⟩ = 0 by decide +kernel] at this; exact this
theorem wk_zero (w : World) : Calls Tryd.prog 8 #[.string ⟨#[48, 48, 48, 48, 48, 48, 48, 48, 48, 48, 48, 48, 48, 48, 48, 48]⟩] w fun e w' => e = .returned (.tuple #[.agg (aC (zs 8)), .int .i64 10]) ∧ Below w.heap.size w w' := by
  have := readspan_any ⟨#[48, 48, 48, 48, 48, 48, 48, 48, 48, 48, 48, 48, 48, 48, 48, 48]⟩ w (by decide +kernel)
  rw [show nmL 8 ⟨#[48, 48, 48, 48, 48, 48, 48, 48, 48, 48, 48, 48, 48, 48, 48, 48]⟩ = zs 8 by decide +kernel, show nmC 8 ⟨#[48, 48, 48, 48, 48, 48, 48, 48, 48, 48, 48, 48, 48, 48, 48, 48]⟩ = 10 by decide +kernel] at this; exact this
theorem wk_badid (w : World) : Calls Tryd.prog 8 #[.string ⟨#[48]⟩] w fun e w' => e = .returned (.tuple #[.agg (aC (zs 8)), .int .i64 3]) ∧ Below w.heap.size w w' := by
  have := readspan_any ⟨#[48]⟩ w (by decide +kernel)
  rw [show nmL 8 ⟨#[48]⟩ = zs 8 by decide +kernel, show nmC 8 ⟨#[48]⟩ = 3 by decide +kernel] at this; exact this
theorem wk_halves (w : World) (ht : Tab w) : Calls Tryd.prog 13 #[.agg (aC tFF)] w fun e w' => e = .returned (.tuple #[.int .u64 0, .int .u64 255]) ∧ Below w.heap.size w w' := by
  have := halves_any tFF w rfl ht
  rw [show beV (tFF.take 8) = 0 by decide +kernel, show beV (tFF.drop 8) = 255 by decide +kernel] at this; exact this
theorem wk_idtext (w : World) : Calls Tryd.prog 10 #[.agg (aC tFF)] w fun e w' => e = .returned (.string (bA [48, 48, 48, 48, 48, 48, 48, 48, 48, 48, 48, 48, 48, 48, 48, 48, 48, 48, 48, 48, 48, 48, 48, 48, 48, 48, 48, 48, 48, 48, 102, 102])) ∧ Below w.heap.size w w' := by
  have := tracetext_any tFF w rfl
  rw [show hx tFF = [48, 48, 48, 48, 48, 48, 48, 48, 48, 48, 48, 48, 48, 48, 48, 48, 48, 48, 48, 48, 48, 48, 48, 48, 48, 48, 48, 48, 48, 48, 102, 102] by decide +kernel] at this; exact this
abbrev pFF : List UInt8 := tFF ++ zs 8
theorem wk_add {b m : Nat} {w : World} (h : SeenAt w b m []) : Calls Tryd.prog 26 #[.pointer (some ⟨b, 0, none⟩), .agg (aC tFF), .agg z8] w fun e w' => e = .returned (.tuple #[.int .i64 0, .bool true]) ∧ SeenAt w' b m [pFF] ∧ Only m w w' := by
  have := add_any tFF (zs 8) rfl rfl h (by decide)
  exact this
theorem wk_again {b m : Nat} {w : World} (h : SeenAt w b m [pFF]) : Calls Tryd.prog 26 #[.pointer (some ⟨b, 0, none⟩), .agg (aC tFF), .agg z8] w fun e w' => e = .returned (.tuple #[.int .i64 0, .bool false]) ∧ SeenAt w' b m [pFF] ∧ Only m w w' := by
  have := add_any tFF (zs 8) rfl rfl h (by decide)
  rw [show addL [pFF] (tFF ++ zs 8) = [pFF] by decide +kernel, show List.idxOf (tFF ++ zs 8) [pFF] = 0 by decide +kernel, show decide (¬ tFF ++ zs 8 ∈ [pFF]) = false by decide +kernel] at this
  exact this
theorem wk_none (w : World) : Calls Tryd.prog 28 #[.pointer none, .agg (aC tFF), .agg z8] w fun e w' => e = .returned (.tuple #[.int .i64 0, .bool false]) ∧ Below w.heap.size w w' := find_nil tFF (zs 8) w

theorem Only.abelow {m : Nat} {w W w' : World} (h : Below w.heap.size w W) (ho : Only m W w') (hm : w.heap.size ≤ m) : Below w.heap.size w w' := h.trans (ho.below hm h.size)
theorem Only.blk {m b : Nat} {t : TypeId} {l : List UInt8} {w w' : World} (h : Only m w w') (ha : ABlk t w b l) (hb : b ≠ m) : ABlk t w' b l := (h.block b ha.lt hb).trans ha
theorem SeenAt.ne {t : TypeId} {b m c : Nat} {L : List (List UInt8)} {l : List UInt8} {w : World} (h : SeenAt w b m L) (ha : ABlk t w c l) : c ≠ m := fun e => by
  obtain ⟨D, ⟨es, clock, hm, _⟩, _⟩ := h.own
  rw [← e] at hm
  have := ha.symm.trans hm
  cases this

set_option maxRecDepth 100000 in
set_option maxHeartbeats 4000000 in
theorem works7_any (w : World) (ht : Tab w) : Calls Tryd.prog 12 #[] w fun e w' => e = .returned (.bool true) ∧ Below w.heap.size w w' := by
  have HT := Lib.hid ht
  have hpos := ht.lt
  clear ht
  go_enter Tryd.func12, Tryd.ntmps12
  go_wp2_with fail
  with_reducible refine (wk_trace _ HT.out).mono ?_
  rintro e w1 ⟨rfl, h1⟩
  have hbv : w.heap.size ≤ w1.heap.size := h1.size
  have A1 := Lib.hid (blk_alloc 23 w1 tFF)
  have K1 := Lib.hid (below_on h1 (below_alloc w1 (.cells (aC tFF) 23)) hbv)
  clear h1
  go_wp2_with (refine wl_store_new (l := tFF) traceT (by rfl) (by rfl) (by rfl) rfl rfl ?_)
  with_reducible refine (wk_zero _).mono ?_
  rintro e w2 ⟨rfl, h2⟩
  have A2 := Lib.hid (A1.out.below h2 A1.out.lt)
  have K2 := Lib.hid (grown_then K1.out h2)
  have A3 := Lib.hid (A2.out.below (below_alloc w2 (.cells (aC (zs 8)) 28)) A2.out.lt)
  have K3 := Lib.hid (below_on K2.out (below_alloc w2 (.cells (aC (zs 8)) 28)) K2.out.size)
  clear h2
  go_wp2_with (refine wl_store_new (l := zs 8) spanT (by rfl) (by rfl) (by rfl) rfl rfl ?_)
  with_reducible refine (wk_badid _).mono ?_
  rintro e w3 ⟨rfl, h3⟩
  have A4 := Lib.hid (A3.out.below h3 A3.out.lt)
  have K4 := Lib.hid (grown_then K3.out h3)
  have A5 := Lib.hid (A4.out.below (below_alloc w3 (.cells (aC (zs 8)) 28)) A4.out.lt)
  have K5 := Lib.hid (below_on K4.out (below_alloc w3 (.cells (aC (zs 8)) 28)) K4.out.size)
  have L5 := Lib.hid A5.out.at0
  have T5 := Lib.hid (HT.out.below K5.out hpos)
  clear h3 A1 A2 A3 K1 K2 K3
  go_wp2_with (first | refine wl_store_new (l := zs 8) spanT (by rfl) (by rfl) (by rfl) rfl rfl ?_ | refine wl_load traceT (by rfl) (by rfl) rfl L5.out ?_)
  with_reducible refine (wk_halves _ T5.out).mono ?_
  rintro e w4 ⟨rfl, h4⟩
  have A6 := Lib.hid (A5.out.below h4 A5.out.lt)
  have K6 := Lib.hid (grown_then K5.out h4)
  clear h4 A4 A5 K4 K5 L5 T5
  go_wp2_with fail
  with_reducible refine (newseen_any _).mono ?_
  rintro e w5 ⟨b, m, rfl, hsn, hb, hm, h5⟩
  have A7 := Lib.hid (A6.out.below h5 A6.out.lt)
  have K7 := Lib.hid (grown_then K6.out h5)
  have hm2 : w.heap.size ≤ m := Nat.le_trans K6.out.size hm
  have hb2 : w.heap.size ≤ b := Nat.le_trans K6.out.size hb
  have L7 := Lib.hid A7.out.at0
  have N7 := Lib.hid (wk_add hsn)
  have hne := hsn.ne A7.out
  clear h5 hsn hb hm A6 K6
  go_wp2_with (refine wl_load traceT (by rfl) (by rfl) rfl L7.out ?_)
  with_reducible refine N7.out.mono ?_
  rintro e w6 ⟨rfl, hsn, ho⟩
  have A8 := Lib.hid (ho.blk A7.out hne)
  have K8 := Lib.hid (Only.abelow K7.out ho hm2)
  have L8 := Lib.hid A8.out.at0
  have N8 := Lib.hid (wk_again hsn)
  clear ho hsn A7 K7 L7 N7
  go_wp2_with (refine wl_load traceT (by rfl) (by rfl) rfl L8.out ?_)
  with_reducible refine N8.out.mono ?_
  rintro e w7 ⟨rfl, hsn, ho⟩
  have A9 := Lib.hid (ho.blk A8.out hne)
  have K9 := Lib.hid (Only.abelow K8.out ho hm2)
  have L9 := Lib.hid A9.out.at0
  have S9 := Lib.hid hsn
  clear ho hsn A8 K8 L8 N8
  go_wp2_with (refine wl_load traceT (by rfl) (by rfl) rfl L9.out ?_)
  with_reducible refine (wk_none _).mono ?_
  rintro e w8 ⟨rfl, h8⟩
  have A10 := Lib.hid (A9.out.below h8 A9.out.lt)
  have K10 := Lib.hid (grown_then K9.out h8)
  have L10 := Lib.hid A10.out.at0
  have S10 := Lib.hid (S9.out.below h8 S9.out.lt.1 S9.out.lt.2)
  clear h8 A9 K9 L9 S9
  have X := Lib.hid (fun w => wk_idtext w)
  have heq : ((bA [48, 48, 48, 48, 48, 48, 48, 48, 48, 48, 48, 48, 48, 48, 48, 48, 48, 48, 48, 48, 48, 48, 48, 48, 48, 48, 48, 48, 48, 48, 102, 102]).toList == [48, 48, 48, 48, 48, 48, 48, 48, 48, 48, 48, 48, 48, 48, 48, 48, 48, 48, 48, 48, 48, 48, 48, 48, 48, 48, 48, 48, 48, 48, 102, 102]) = true := by decide +kernel
  generalize bA [48, 48, 48, 48, 48, 48, 48, 48, 48, 48, 48, 48, 48, 48, 48, 48, 48, 48, 48, 48, 48, 48, 48, 48, 48, 48, 48, 48, 48, 48, 102, 102] = TX at *
  go_wp2_with (refine wl_load traceT (by rfl) (by rfl) rfl L10.out ?_)
  with_reducible refine (X.out _).mono ?_
  rintro e w9 ⟨rfl, h9⟩
  have K11 := Lib.hid (grown_then K10.out h9)
  have S11 := Lib.hid (S10.out.below h9 S10.out.lt.1 S10.out.lt.2)
  clear h9
  go_wp2_with fail
  with_reducible refine (len_any S11.out).mono ?_
  rintro e w10 ⟨rfl, hw⟩
  rw [hw]; clear hw
  go_wp2_with fail
  with_reducible refine (len_nil _).mono ?_
  rintro e w11 ⟨rfl, hw⟩
  rw [hw]; clear hw
  go_wp2
  go_ret
  exact ⟨rfl, K11.out⟩
end Go.Proofs.YtjoafbapffdneaaDoor
