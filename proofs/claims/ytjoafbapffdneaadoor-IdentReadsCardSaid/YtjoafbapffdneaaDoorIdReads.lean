/- IdentReads, walked. -/
import Derived.Test.YtjoafbapffdneaaDoorIdWork
import Derived.Test.YtjoafbapffdneaaDoorIdJ
namespace Go.Proofs.YtjoafbapffdneaaDoor
open Go Go.RowKit
set_option linter.unusedVariables false

theorem hx_nm {k : Nat} {s : ByteArray} (h : nmC k s = 0) : bA (hx (nmL k s)) = s := by
  have hy := ((nmC_is k s).mp h).1
  rw [(nm_yes hy).1]
  simp only [nmIs, Bool.and_eq_true, decide_eq_true_eq] at hy
  rw [hx_uh _ hy.2, bA_of]
theorem hx_zs : hx (zs 8) = o16.data.toList := by decide +kernel
theorem hx_tr16 {s : ByteArray} (h : s.size = 16) (hc : trC s = 0) : bA (hx (trL s)) = o16 ++ s := by
  unfold trC at hc
  unfold trL
  rw [if_pos h] at hc ⊢
  rw [hx_append, ← bA_append, hx_nm hc, hx_zs]; rfl
theorem hx_tr32 {s : ByteArray} (h : s.size = 32) (hc : trC s = 0) : bA (hx (trL s)) = s := by
  unfold trC at hc
  unfold trL
  rw [if_neg (by omega)] at hc ⊢
  exact hx_nm hc
theorem wl_neq_self {P : Program} {T : TypeId} {n : Nat} {dst : Option Tmp} {ty yT : TypeId} {pos : String} {after : Array Edge} {g : Option (Nat × Bool)} {x y : Operand} {a : Act} {w : World} {Q : Exit → Act → World → Prop} {ops : Array Oper} {rest : List Oper}
    (hT : BytesT P T n) (hm : P.eqGuardType P.depth T = false) (hw : Region.wanted ⟨dst, .binOp .neq T x y yT, ty, pos, after, g⟩ (yielded ops a.tmps) = true) {l : List UInt8} (hx : a.eval x = .agg (aC l)) (hy : a.eval y = .agg (aC l)) (hl : l.length = n)
    (h : wpList P ops Q rest (a.put dst (.bool false)) w) : wpList P ops Q (⟨dst, .binOp .neq T x y yT, ty, pos, after, g⟩ :: rest) a w := by
  refine wl_neq hT hm hw hx hy hl hl ?_
  simpa using h
theorem traceG : Tryd.prog.eqGuardType Tryd.prog.depth 23 = false := by kernel_rfl
theorem spanG : Tryd.prog.eqGuardType Tryd.prog.depth 28 = false := by kernel_rfl
theorem text_self (s : ByteArray) : (s.toList == s.toList) = true := by simp

set_option maxRecDepth 100000 in
set_option maxHeartbeats 4000000 in
theorem identreads_any (s : ByteArray) (w : World) (hs : s.size ≤ 140737488351232) (ht : Tab w) :
    Calls Tryd.prog 3 #[.string s] w fun e w' => e = .returned (.bool true) ∧ Below w.heap.size w w' := by
  have HT := Lib.hid ht
  have hpos := ht.lt
  have R1 := Lib.hid (readtrace_any s w hs ht)
  have R2 := Lib.hid (fun w => rreadtrace_any s w hs)
  have R3 := Lib.hid (fun w => readspan_any s w hs)
  have R4 := Lib.hid (fun w => rreadspan_any s w hs)
  have T1 := Lib.hid (fun w => tracetext_any (trL s) w (trL_length s))
  have T2 := Lib.hid (fun w => spantext_any (nmL 8 s) w (nmL_length 8 s))
  have hn := trL_length s
  have hn2 := nmL_length 8 s
  have F1 := Lib.hid (fun (h : s.size = 32) (hc : trC s = 0) => hx_tr32 h hc)
  have F2 := Lib.hid (fun (h : s.size = 16) (hc : trC s = 0) => hx_tr16 h hc)
  have F3 := Lib.hid (fun (hc : nmC 8 s = 0) => hx_nm hc)
  clear ht
  generalize trL s = L at *
  generalize trC s = c at *
  generalize nmL 8 s = M at *
  generalize nmC 8 s = d at *
  go_enter Tryd.func3, Tryd.ntmps3
  go_wp2_with fail
  with_reducible refine R1.out.mono ?_
  rintro e w1 ⟨rfl, h1⟩
  have A1 := Lib.hid (blk_alloc 23 w1 L)
  have K1 := Lib.hid (below_on h1 (below_alloc w1 (.cells (aC L) 23)) h1.size)
  clear h1 R1
  go_wp2_with ((with_reducible refine wl_store_new (l := L) traceT ?_ ?_ ?_ hn ?_ ?_); rfl; rfl; rfl; rfl)
  with_reducible refine (R2.out _).mono ?_
  rintro e w2 ⟨rfl, h2⟩
  have A2 := Lib.hid ((A1.out.below h2 A1.out.lt).below (below_alloc w2 (.cells (aC L) 23)) (A1.out.below h2 A1.out.lt).lt)
  have B2 := Lib.hid (blk_alloc 23 w2 L)
  have K2 := Lib.hid (below_on (grown_then K1.out h2) (below_alloc w2 (.cells (aC L) 23)) (grown_then K1.out h2).size)
  clear h2 R2 A1 K1
  go_wp2_with ((with_reducible refine wl_store_new (l := L) traceT ?_ ?_ ?_ hn ?_ ?_); rfl; rfl; rfl; rfl)
  with_reducible refine (R3.out _).mono ?_
  rintro e w3 ⟨rfl, h3⟩
  have A3 := Lib.hid ((A2.out.below h3 A2.out.lt).below (below_alloc w3 (.cells (aC M) 28)) (A2.out.below h3 A2.out.lt).lt)
  have B3 := Lib.hid ((B2.out.below h3 B2.out.lt).below (below_alloc w3 (.cells (aC M) 28)) (B2.out.below h3 B2.out.lt).lt)
  have C3 := Lib.hid (blk_alloc 28 w3 M)
  have K3 := Lib.hid (below_on (grown_then K2.out h3) (below_alloc w3 (.cells (aC M) 28)) (grown_then K2.out h3).size)
  clear h3 R3 A2 B2 K2
  go_wp2_with ((with_reducible refine wl_store_new (l := M) spanT ?_ ?_ ?_ hn2 ?_ ?_); rfl; rfl; rfl; rfl)
  with_reducible refine (R4.out _).mono ?_
  rintro e w4 ⟨rfl, h4⟩
  have ZA := Lib.hid ((A3.out.below h4 A3.out.lt).below (below_alloc w4 (.cells (aC M) 28)) (A3.out.below h4 A3.out.lt).lt)
  have ZC := Lib.hid ((C3.out.below h4 C3.out.lt).below (below_alloc w4 (.cells (aC M) 28)) (C3.out.below h4 C3.out.lt).lt)
  have A4 := Lib.hid ZA.out.at0
  have B4 := Lib.hid ((B3.out.below h4 B3.out.lt).below (below_alloc w4 (.cells (aC M) 28)) (B3.out.below h4 B3.out.lt).lt).at0
  have C4 := Lib.hid ZC.out.at0
  have D4 := Lib.hid (blk_alloc 28 w4 M).at0
  have K4 := Lib.hid (below_on (grown_then K3.out h4) (below_alloc w4 (.cells (aC M) 28)) (grown_then K3.out h4).size)
  have Q1 := Lib.hid (text_ne s s)
  clear h4 R4 A3 B3 C3 K3
  by_cases hd : d = 0
  · have t2 := F3.out hd
    rw [t2] at T2
    have q1 : (d == 0) = true := by simp [hd]
    clear hd t2 F3
    by_cases hc : c = 0
    · have q2 : (c == 0) = true := by simp [hc]
      by_cases h32 : s.size = 32
      · have t1 := F1.out h32 hc
        rw [t1] at T1
        have q3 : ((s.size : Int) == 32) = true := by simp [h32]
        have q4 : ((s.size : Int) == 16) = false := by simp [h32]
        clear hc h32 t1 F1 F2
        go_wp2_with (first | ((with_reducible refine wl_load traceT ?_ ?_ hn A4.out ?_); rfl; rfl) | ((with_reducible refine wl_load traceT ?_ ?_ hn B4.out ?_); rfl; rfl) | ((with_reducible refine wl_load spanT ?_ ?_ hn2 C4.out ?_); rfl; rfl) | ((with_reducible refine wl_load spanT ?_ ?_ hn2 D4.out ?_); rfl; rfl) | ((with_reducible refine wl_neq_self (l := L) traceT traceG ?_ ?_ ?_ hn ?_); rfl; rfl; rfl) | ((with_reducible refine wl_neq_self (l := M) spanT spanG ?_ ?_ ?_ hn2 ?_); rfl; rfl; rfl) | ((with_reducible refine wl_store_new (l := M) spanT ?_ ?_ ?_ hn2 ?_ ?_); rfl; rfl; rfl; rfl))
        with_reducible refine (T1.out _).mono ?_
        rintro e w5 ⟨rfl, h5⟩
        have ZC5 := Lib.hid (ZC.out.below h5 ZC.out.lt)
        have C5 := Lib.hid ZC5.out.at0
        have K5 := Lib.hid (grown_then K4.out h5)
        clear h5
        go_wp2_with ((with_reducible refine wl_load spanT ?_ ?_ hn2 C5.out ?_); rfl; rfl)
        with_reducible refine (T2.out _).mono ?_
        rintro e w6 ⟨rfl, h6⟩
        have K6 := Lib.hid (grown_then K5.out h6)
        clear h6
        go_wp2_with fail
        with_reducible refine (works7_any _ (HT.out.below K6.out hpos)).mono ?_
        rintro e w9 ⟨rfl, h9⟩
        have K9 := Lib.hid (grown_then K6.out h9)
        clear h9
        go_wp2
        go_ret
        exact ⟨rfl, K9.out⟩
      · have q3 : ((s.size : Int) == 32) = false := by simp; omega
        by_cases h16 : s.size = 16
        · have t1 := F2.out h16 hc
          rw [t1] at T1
          have q4 : ((s.size : Int) == 16) = true := by simp [h16]
          have hsz : o16.size + s.size ≤ 9223372036854775807 := by rw [h16]; decide
          clear hc h32 h16 t1 F1 F2
          go_wp2_with (first | ((with_reducible refine wl_load traceT ?_ ?_ hn A4.out ?_); rfl; rfl) | ((with_reducible refine wl_load traceT ?_ ?_ hn B4.out ?_); rfl; rfl) | ((with_reducible refine wl_load spanT ?_ ?_ hn2 C4.out ?_); rfl; rfl) | ((with_reducible refine wl_load spanT ?_ ?_ hn2 D4.out ?_); rfl; rfl) | ((with_reducible refine wl_neq_self (l := L) traceT traceG ?_ ?_ ?_ hn ?_); rfl; rfl; rfl) | ((with_reducible refine wl_neq_self (l := M) spanT spanG ?_ ?_ ?_ hn2 ?_); rfl; rfl; rfl) | ((with_reducible refine wl_store_new (l := M) spanT ?_ ?_ ?_ hn2 ?_ ?_); rfl; rfl; rfl; rfl))
          with_reducible refine (T1.out _).mono ?_
          rintro e w5 ⟨rfl, h5⟩
          have ZC5 := Lib.hid (ZC.out.below h5 ZC.out.lt)
          have C5 := Lib.hid ZC5.out.at0
          have K5 := Lib.hid (grown_then K4.out h5)
          clear h5
          go_wp2_with ((with_reducible refine wl_load spanT ?_ ?_ hn2 C5.out ?_); rfl; rfl)
          with_reducible refine (T2.out _).mono ?_
          rintro e w6 ⟨rfl, h6⟩
          have K6 := Lib.hid (grown_then K5.out h6)
          clear h6
          go_wp2_with fail
          with_reducible refine (works7_any _ (HT.out.below K6.out hpos)).mono ?_
          rintro e w9 ⟨rfl, h9⟩
          have K9 := Lib.hid (grown_then K6.out h9)
          clear h9
          go_wp2
          go_ret
          exact ⟨rfl, K9.out⟩
        · have q4 : ((s.size : Int) == 16) = false := by simp; omega
          clear hc h32 h16 F1 F2
          go_wp2_with (first | ((with_reducible refine wl_load traceT ?_ ?_ hn A4.out ?_); rfl; rfl) | ((with_reducible refine wl_load traceT ?_ ?_ hn B4.out ?_); rfl; rfl) | ((with_reducible refine wl_load spanT ?_ ?_ hn2 C4.out ?_); rfl; rfl) | ((with_reducible refine wl_load spanT ?_ ?_ hn2 D4.out ?_); rfl; rfl) | ((with_reducible refine wl_neq_self (l := L) traceT traceG ?_ ?_ ?_ hn ?_); rfl; rfl; rfl) | ((with_reducible refine wl_neq_self (l := M) spanT spanG ?_ ?_ ?_ hn2 ?_); rfl; rfl; rfl) | ((with_reducible refine wl_store_new (l := M) spanT ?_ ?_ ?_ hn2 ?_ ?_); rfl; rfl; rfl; rfl))
          with_reducible refine (T2.out _).mono ?_
          rintro e w6 ⟨rfl, h6⟩
          have K6 := Lib.hid (grown_then K4.out h6)
          clear h6
          go_wp2_with fail
          with_reducible refine (works7_any _ (HT.out.below K6.out hpos)).mono ?_
          rintro e w9 ⟨rfl, h9⟩
          have K9 := Lib.hid (grown_then K6.out h9)
          clear h9
          go_wp2
          go_ret
          exact ⟨rfl, K9.out⟩
    · have q2 : (c == 0) = false := by simp [hc]
      clear hc F1 F2
      go_wp2_with (first | ((with_reducible refine wl_load traceT ?_ ?_ hn A4.out ?_); rfl; rfl) | ((with_reducible refine wl_load traceT ?_ ?_ hn B4.out ?_); rfl; rfl) | ((with_reducible refine wl_load spanT ?_ ?_ hn2 C4.out ?_); rfl; rfl) | ((with_reducible refine wl_load spanT ?_ ?_ hn2 D4.out ?_); rfl; rfl) | ((with_reducible refine wl_neq_self (l := L) traceT traceG ?_ ?_ ?_ hn ?_); rfl; rfl; rfl) | ((with_reducible refine wl_neq_self (l := M) spanT spanG ?_ ?_ ?_ hn2 ?_); rfl; rfl; rfl) | ((with_reducible refine wl_store_new (l := M) spanT ?_ ?_ ?_ hn2 ?_ ?_); rfl; rfl; rfl; rfl))
      with_reducible refine (T2.out _).mono ?_
      rintro e w6 ⟨rfl, h6⟩
      have K6 := Lib.hid (grown_then K4.out h6)
      clear h6
      go_wp2_with fail
      with_reducible refine (works7_any _ (HT.out.below K6.out hpos)).mono ?_
      rintro e w9 ⟨rfl, h9⟩
      have K9 := Lib.hid (grown_then K6.out h9)
      clear h9
      go_wp2
      go_ret
      exact ⟨rfl, K9.out⟩
  · have q1 : (d == 0) = false := by simp [hd]
    clear hd F3
    by_cases hc : c = 0
    · have q2 : (c == 0) = true := by simp [hc]
      by_cases h32 : s.size = 32
      · have t1 := F1.out h32 hc
        rw [t1] at T1
        have q3 : ((s.size : Int) == 32) = true := by simp [h32]
        have q4 : ((s.size : Int) == 16) = false := by simp [h32]
        clear hc h32 t1 F1 F2
        go_wp2_with (first | ((with_reducible refine wl_load traceT ?_ ?_ hn A4.out ?_); rfl; rfl) | ((with_reducible refine wl_load traceT ?_ ?_ hn B4.out ?_); rfl; rfl) | ((with_reducible refine wl_load spanT ?_ ?_ hn2 C4.out ?_); rfl; rfl) | ((with_reducible refine wl_load spanT ?_ ?_ hn2 D4.out ?_); rfl; rfl) | ((with_reducible refine wl_neq_self (l := L) traceT traceG ?_ ?_ ?_ hn ?_); rfl; rfl; rfl) | ((with_reducible refine wl_neq_self (l := M) spanT spanG ?_ ?_ ?_ hn2 ?_); rfl; rfl; rfl) | ((with_reducible refine wl_store_new (l := M) spanT ?_ ?_ ?_ hn2 ?_ ?_); rfl; rfl; rfl; rfl))
        with_reducible refine (T1.out _).mono ?_
        rintro e w5 ⟨rfl, h5⟩
        have ZC5 := Lib.hid (ZC.out.below h5 ZC.out.lt)
        have C5 := Lib.hid ZC5.out.at0
        have K5 := Lib.hid (grown_then K4.out h5)
        clear h5
        go_wp2_with ((with_reducible refine wl_load spanT ?_ ?_ hn2 C5.out ?_); rfl; rfl)
        with_reducible refine (works7_any _ (HT.out.below K5.out hpos)).mono ?_
        rintro e w9 ⟨rfl, h9⟩
        have K9 := Lib.hid (grown_then K5.out h9)
        clear h9
        go_wp2
        go_ret
        exact ⟨rfl, K9.out⟩
      · have q3 : ((s.size : Int) == 32) = false := by simp; omega
        by_cases h16 : s.size = 16
        · have t1 := F2.out h16 hc
          rw [t1] at T1
          have q4 : ((s.size : Int) == 16) = true := by simp [h16]
          have hsz : o16.size + s.size ≤ 9223372036854775807 := by rw [h16]; decide
          clear hc h32 h16 t1 F1 F2
          go_wp2_with (first | ((with_reducible refine wl_load traceT ?_ ?_ hn A4.out ?_); rfl; rfl) | ((with_reducible refine wl_load traceT ?_ ?_ hn B4.out ?_); rfl; rfl) | ((with_reducible refine wl_load spanT ?_ ?_ hn2 C4.out ?_); rfl; rfl) | ((with_reducible refine wl_load spanT ?_ ?_ hn2 D4.out ?_); rfl; rfl) | ((with_reducible refine wl_neq_self (l := L) traceT traceG ?_ ?_ ?_ hn ?_); rfl; rfl; rfl) | ((with_reducible refine wl_neq_self (l := M) spanT spanG ?_ ?_ ?_ hn2 ?_); rfl; rfl; rfl) | ((with_reducible refine wl_store_new (l := M) spanT ?_ ?_ ?_ hn2 ?_ ?_); rfl; rfl; rfl; rfl))
          with_reducible refine (T1.out _).mono ?_
          rintro e w5 ⟨rfl, h5⟩
          have ZC5 := Lib.hid (ZC.out.below h5 ZC.out.lt)
          have C5 := Lib.hid ZC5.out.at0
          have K5 := Lib.hid (grown_then K4.out h5)
          clear h5
          go_wp2_with ((with_reducible refine wl_load spanT ?_ ?_ hn2 C5.out ?_); rfl; rfl)
          with_reducible refine (works7_any _ (HT.out.below K5.out hpos)).mono ?_
          rintro e w9 ⟨rfl, h9⟩
          have K9 := Lib.hid (grown_then K5.out h9)
          clear h9
          go_wp2
          go_ret
          exact ⟨rfl, K9.out⟩
        · have q4 : ((s.size : Int) == 16) = false := by simp; omega
          clear hc h32 h16 F1 F2
          go_wp2_with (first | ((with_reducible refine wl_load traceT ?_ ?_ hn A4.out ?_); rfl; rfl) | ((with_reducible refine wl_load traceT ?_ ?_ hn B4.out ?_); rfl; rfl) | ((with_reducible refine wl_load spanT ?_ ?_ hn2 C4.out ?_); rfl; rfl) | ((with_reducible refine wl_load spanT ?_ ?_ hn2 D4.out ?_); rfl; rfl) | ((with_reducible refine wl_neq_self (l := L) traceT traceG ?_ ?_ ?_ hn ?_); rfl; rfl; rfl) | ((with_reducible refine wl_neq_self (l := M) spanT spanG ?_ ?_ ?_ hn2 ?_); rfl; rfl; rfl) | ((with_reducible refine wl_store_new (l := M) spanT ?_ ?_ ?_ hn2 ?_ ?_); rfl; rfl; rfl; rfl))
          with_reducible refine (works7_any _ (HT.out.below K4.out hpos)).mono ?_
          rintro e w9 ⟨rfl, h9⟩
          have K9 := Lib.hid (grown_then K4.out h9)
          clear h9
          go_wp2
          go_ret
          exact ⟨rfl, K9.out⟩
    · have q2 : (c == 0) = false := by simp [hc]
      clear hc F1 F2
      go_wp2_with (first | ((with_reducible refine wl_load traceT ?_ ?_ hn A4.out ?_); rfl; rfl) | ((with_reducible refine wl_load traceT ?_ ?_ hn B4.out ?_); rfl; rfl) | ((with_reducible refine wl_load spanT ?_ ?_ hn2 C4.out ?_); rfl; rfl) | ((with_reducible refine wl_load spanT ?_ ?_ hn2 D4.out ?_); rfl; rfl) | ((with_reducible refine wl_neq_self (l := L) traceT traceG ?_ ?_ ?_ hn ?_); rfl; rfl; rfl) | ((with_reducible refine wl_neq_self (l := M) spanT spanG ?_ ?_ ?_ hn2 ?_); rfl; rfl; rfl) | ((with_reducible refine wl_store_new (l := M) spanT ?_ ?_ ?_ hn2 ?_ ?_); rfl; rfl; rfl; rfl))
      with_reducible refine (works7_any _ (HT.out.below K4.out hpos)).mono ?_
      rintro e w9 ⟨rfl, h9⟩
      have K9 := Lib.hid (grown_then K4.out h9)
      clear h9
      go_wp2
      go_ret
      exact ⟨rfl, K9.out⟩
end Go.Proofs.YtjoafbapffdneaaDoor
