/- JwriteScript, walked. -/
import Derived.Test.YtnbhhnkcfbfdcaaDoorJwRk
import Derived.Test.YtnbhhnkcfbfdcaaDoorJwOpn
namespace Go.Proofs.YtnbhhnkcfbfdcaaDoor
open Go Go.RowKit
set_option linter.unusedVariables false

theorem WrX.off {Z : Nat → Prop} {B b : Nat} {w w' : World} {s : WS} (h : WrX Z B b w s) (hs : w.heap.size ≤ w'.heap.size) (hb : ∀ k, ¬ Z k → w'.heap[k]? = w.heap[k]?) : WrX Z B b w' s := by
  obtain ⟨vl, ve, h⟩ := h
  exact ⟨vl, ve, (hb b h.nb).trans h.blk, h.l.keep fun g hg => hb g (h.nl g hg).2, h.e.keep fun g hg => hb g (h.ne g hg).2, h.hb, h.nb, fun k hk => Nat.lt_of_lt_of_le (h.zl k hk) hs, h.nl, h.ne, h.nn⟩
theorem set5_size (w : World) (g : Nat) (a b c d e : Value) : (((((w.setCell ⟨g, 0, none⟩ a).setCell ⟨g, 1, none⟩ b).setCell ⟨g, 2, none⟩ c).setCell ⟨g, 3, none⟩ d).setCell ⟨g, 4, none⟩ e).heap.size = w.heap.size := by simp
/-- The program's writer, and the document's in block z. -/
structure ScR (W : World) (z : Nat) (s : WS) (r : RfS) (wr : World) : Prop where
  ww : WrX (fun k => False ∨ k = z) W.heap.size W.heap.size wr s
  rs : RcT wr z (bA r.out) (bA r.op) r.kd r.af r.c
  b : Below W.heap.size W wr
  z : W.heap.size ≤ z
section
variable {W wr w' : World} {z : Nat} {s s' : WS} {r r' : RfS}
theorem ScR.next (h : ScR W z s r wr) (hb : Below wr.heap.size wr w') : ScR W z s r w' := ⟨h.ww.next hb, h.rs.below hb, grown_then h.b hb, h.z⟩
theorem ScR.told (h : ScR W z s r wr) (hw : WrX (fun k => False ∨ k = z) W.heap.size W.heap.size w' s') (hk : Kz (fun k => False ∨ k = z) W.heap.size wr w') : ScR W z s' r w' :=
  ⟨hw, (hk.block z (lt_of_block h.rs) (.inr (.inr rfl))).trans h.rs, h.b.trans (hk.below h.b.size), h.z⟩
theorem ScR.stored (h : ScR W z s r wr) (A P : ByteArray) (k f : Bool) (c : Int) (hA : A = bA r'.out) (hP : P = bA r'.op) (hk : k = r'.kd) (hf : f = r'.af) (hc : c = r'.c) :
    ScR W z s r' (((((wr.setCell ⟨z, 0, none⟩ (.string A)).setCell ⟨z, 1, none⟩ (.string P)).setCell ⟨z, 2, none⟩ (.bool k)).setCell ⟨z, 3, none⟩ (.bool f)).setCell ⟨z, 4, none⟩ (.int .i64 c)) := by
  subst hA hP hk hf hc
  exact ⟨h.ww.off (by rw [set5_size]; exact Nat.le_refl _) (fun k hk => set5_lt wr z _ _ _ _ _ k (fun e => hk (.inr e))), h.rs.setAll _ _ _ _ _, set5_below h.b h.z _ _ _ _ _, h.z⟩
end
theorem OIn.at {w : World} {g off : Nat} {L : List OP} (h : OIn w (some ⟨g, off, none⟩) L) (j : Nat) (hj : j < L.length) : w.cell? ⟨g, off + j * 3, none⟩ = some (.int .u8 (L[j].k.toNat : Int)) ∧ w.cell? ⟨g, off + j * 3 + 1, none⟩ = some (.string (bA L[j].t)) ∧ w.cell? ⟨g, off + j * 3 + 2, none⟩ = some (.int .i64 L[j].n) := by
  obtain ⟨g', off', e, _, h0, h1, h2⟩ := h j hj
  simp only [Option.some.injEq, Addr.mk.injEq, and_true] at e
  obtain ⟨rfl, rfl⟩ := e
  exact ⟨h0, h1, h2⟩
theorem js_long (a : Option Addr) (cap : Nat) (L : List OP) (w : World) (h : 80 < L.length) (ht : P10 w) :
    Calls Tryd.prog 3 #[.slice a L.length cap] w fun e w' => e = .returned (.bool true) ∧ Below w.heap.size w w' := by
  have p1 : decide (80 < (L.length : Int)) = true := decide_eq_true (by omega)
  have p2 : decide (80 < L.length) = true := decide_eq_true h
  have HX := Lib.hid (works15_any w ht)
  clear ht
  go_enter Tryd.func3, Tryd.ntmps3
  go_wp2_with fail
  refine HX.out.mono ?_
  rintro e w2 ⟨rfl, hb⟩
  go_wp2
  go_ret
  exact ⟨rfl, hb⟩
/-- What holds of the first k of what a writer is told. -/
theorem run_facts (L : List OP) (hn : ∀ o ∈ L, OpOk o) (hz : opz L ≤ 7340032) (k : Nat) : WOk (wRun WS.nw (L.take k)) ∧ RelW (wRun WS.nw (L.take k)) (rRun RfS.nw (L.take k)) ∧ (rRun RfS.nw (L.take k)).op.length ≤ 32 ∧ (wRun WS.nw (L.take k)).out.length ≤ 7340032 ∧ (rRun RfS.nw (L.take k)).out.length ≤ 7340032 := by
  obtain ⟨a, b, c, d, e⟩ := run_all (L.take k) WS.nw RfS.nw .nw .nw (by simp [RfS.nw]) (fun o ho => hn o (List.mem_of_mem_take ho))
  have := opz_take L k
  have h1 : WS.nw.out.length = 0 := rfl
  have h2 : RfS.nw.out.length = 0 := rfl
  exact ⟨a, b, c, by omega, by omega⟩
theorem opz_mem : ∀ {L : List OP} {o : OP}, o ∈ L → 6 * o.t.length + 25 ≤ opz L
  | x :: L, o, h => by
    rcases List.mem_cons.mp h with rfl | h
    · simp only [opz]; omega
    · have := opz_mem h; simp only [opz]; omega
def JsRel (W : World) (z : Nat) (L : List OP) (i : Value) (wr : World) : Prop := ∃ j : Nat, j ≤ L.length ∧ i = .int .i64 (j : Nat) ∧ ScR W z (wRun WS.nw (L.take j)) (rRun RfS.nw (L.take j)) wr
set_option maxRecDepth 100000 in
set_option maxHeartbeats 4000000 in
theorem js_short (a : Option Addr) (cap : Nat) (L : List OP) (w : World) (h : L.length ≤ 80) (hin : OIn w a L) (hn : ∀ o ∈ L, OpOk o) (hz : opz L ≤ 7340032) (ht : P10 w) :
    Calls Tryd.prog 3 #[.slice a L.length cap] w fun e w' => e = .returned (.bool true) ∧ Below w.heap.size w w' := by
  have p1 : decide (80 < (L.length : Int)) = false := decide_eq_false (by omega)
  have p2 : decide (80 < L.length) = false := decide_eq_false (by omega)
  have HT := Lib.hid (show ∀ w', Below w.heap.size w w' → P10 w' from fun w' hb => ht.below hb)
  have HIN := Lib.hid (show ∀ w', Below w.heap.size w w' → OIn w' a L from fun w' hb => hin.below hb (Nat.le_refl _))
  have HN := Lib.hid hn
  have HZ := Lib.hid hz
  have HNW := Lib.hid (jwnew_any w)
  have HL := Lib.hid h
  clear h hin hn hz ht
  go_enter Tryd.func3, Tryd.ntmps3
  go_wp2_with fail
  refine HNW.out.mono ?_
  rintro e w1 ⟨rfl, hw1, hb1⟩
  have R0 := Lib.hid (show ScR w w1.heap.size WS.nw RfS.nw (w1.alloc (.cells #[.string ⟨#[]⟩, .string ⟨#[]⟩, .bool false, .bool false, .int .i64 0] 28)) from
    ⟨hw1.alloc _, new_rc w1 ⟨#[]⟩ ⟨#[]⟩ false false 0, hb1.trans ((new_blw w1 _).mono hb1.size), hb1.size⟩)
  clear hw1 hb1
  go_wp2_with fail
  go_loopw [2, 5] (fun _ i wr => JsRel w w1.heap.size L i wr) (fun _ i _ => L.length - (intOf i).toNat)
  case atStart => exact ⟨0, Nat.zero_le _, rfl, R0.out⟩
  case round =>
    clear R0
    generalize w1.heap.size = z at *
    obtain ⟨j, hj, rfl, hR⟩ := hrel
    by_cases hlt : j < L.length
    · have q1 : decide (j < L.length) = true := decide_eq_true hlt
      have q2 : (j : Int) < (L.length : Int) := by omega
      have q3 : (0 : Int) ≤ (j : Int) := by omega
      obtain ⟨g, off, rfl, hg, m0, m1, m2⟩ := HIN.out wr hR.b j hlt
      obtain ⟨f1, f2, f3, f4, f5⟩ := run_facts L HN.out HZ.out j
      obtain ⟨g1, g2, _, _, _⟩ := run_facts L HN.out HZ.out (j + 1)
      have ho := HN.out _ (List.getElem_mem hlt)
      have hot := opz_mem (List.getElem_mem hlt)
      have hzz := HZ.out
      have hot2 : L[j].t.length ≤ 1099511627776 := by omega
      obtain ⟨vl, ve, hw⟩ := hR.ww
      have HD := Lib.hid (do_any hw f1 (by omega) L[j] ho hot2 (fun w' hb => HT.out w' (hR.b.trans hb)))
      have HRD := Lib.hid (rfdo_any (rRun RfS.nw (L.take j)) L[j] ho hot2 f3 (by omega))
      have HRF := Lib.hid (rfdone_any (rDo (rRun RfS.nw (L.take j)) L[j]))
      have HRL := Lib.hid (rel_done g1 g2)
      have HDN := Lib.hid (fun (w' : World) (h : ScR w z (wRun WS.nw (L.take (j + 1))) (rDo (rRun RfS.nw (L.take j)) L[j]) w') => let ⟨vl, ve, hw⟩ := h.ww; jwdone_any hw g1)
      have HNX := Lib.hid (fun (w' : World) (h : ScR w z (wRun WS.nw (L.take (j + 1))) (rDo (rRun RfS.nw (L.take j)) L[j]) w') (hh : j + 1 ≤ L.length) => (⟨j + 1, hh, rfl, by rw [rRun_take _ _ _ hlt]; exact h⟩ : JsRel w z L (.int .i64 ((j + 1 : Nat) : Int)) w'))
      rw [rRun_take _ _ _ hlt] at HRL
      have HCL := Lib.hid (fun (w' : World) (hb : Below w.heap.size w w') => (HIN.out w' hb).at j hlt)
      unfold opV rsV rcV at HRD
      unfold opV at HD
      unfold rsV rcV at HRF
      have HR := Lib.hid hR
      have HWR := Lib.hid (show wDo (wRun WS.nw (L.take j)) L[j] = wRun WS.nw (L.take (j + 1)) from (wRun_take _ _ _ hlt).symm)
      rw [HWR.out] at HD
      generalize wRun WS.nw (L.take (j + 1)) = s1 at *
      generalize wRun WS.nw (L.take j) = s0 at *
      generalize rRun RfS.nw (L.take (j + 1)) = rr at *
      generalize rRun RfS.nw (L.take j) = r0 at *
      generalize rDo r0 L[j] = r1 at *
      generalize (L[j].k.toNat : Int) = ok at *
      generalize bA L[j].t = ot at *
      generalize L[j].n = on at *
      clear HNW f1 f2 f3 f4 f5 g1 g2 ho hot hzz hot2 hw hR vl ve HWR
      go_wp2_with fail
      refine HD.out.mono ?_
      rintro e w2 ⟨rfl, hw2, hk2⟩
      have R2 := Lib.hid (HR.out.told hw2 hk2)
      obtain ⟨m0, m1, m2⟩ := HCL.out w2 R2.out.b
      have c0 := R2.out.rs.c0; have c1 := R2.out.rs.c1; have c2 := R2.out.rs.c2; have c3 := R2.out.rs.c3; have c4 := R2.out.rs.c4
      have RD := Lib.hid (show ScR w z s1 r0 w2.drew from R2.out.next (Below.drewN (Below.refl _ _) 1))
      clear hw2 hk2 HD HR HCL
      go_wp2_with fail
      go_cut [] from 27 to 32 (fun wx => ScR w z s1 r1 wx)
      case first =>
        go_region_law (first
          | (go_simp; go_at_call 7; (with_reducible refine (HRD.out _).mono ?_); rintro e w4 ⟨rfl, hb4⟩; have R4 := Lib.hid (RD.out.next hb4); have a0 := R4.out.rs.c0; have a1 := R4.out.rs.c1; have a2 := R4.out.rs.c2; have a3 := R4.out.rs.c3; have a4 := R4.out.rs.c4; have af := R4.out.rs.fr; clear hb4))
        all_goals go_wp2
        all_goals go_meet
        all_goals (case rel => exact R4.out.stored _ _ _ _ _ rfl rfl rfl rfl rfl)
      case rest =>
        have RC := Lib.hid hcut
        clear hcut R2 RD m0 m1 m2 c0 c1 c2 c3 c4 HRD
        go_wp2_with fail
        refine (HDN.out _ RC.out).mono ?_
        rintro e w5 ⟨rfl, hb5⟩
        have R5 := Lib.hid (RC.out.next hb5)
        have a0 := R5.out.rs.c0; have a1 := R5.out.rs.c1; have a2 := R5.out.rs.c2; have a3 := R5.out.rs.c3; have a4 := R5.out.rs.c4
        rw [HRL.out]
        generalize hX : bA (rDone r1).1 = X at *
        generalize hY : (rDone r1).2 = Y at *
        clear hb5 HDN RC hX hY
        go_wp2_with fail
        refine (HRF.out w5).mono ?_
        rintro e w6 ⟨rfl, hb6⟩
        have R6 := Lib.hid (R5.out.next hb6)
        have hj80 := HL.out
        clear hb6 R5 HRF a0 a1 a2 a3 a4
        go_wp2_with fail
        go_roundw
        case rel =>
          obtain ⟨j1, h1, h2, h3⟩ := HNX.out w6 R6.out (by omega)
          exact ⟨j1, h1, by rw [← h2]; go_num, h3⟩
        case measure => simp [intOf]; omega
    · have q1 : decide (j < L.length) = false := decide_eq_false hlt
      have q2 : ¬ (j : Int) < (L.length : Int) := by omega
      have HX := Lib.hid (works15_any wr (HT.out wr hR.b))
      have HB := Lib.hid hR.b
      clear hR HNW
      go_wp2_with fail
      refine HX.out.mono ?_
      rintro e w2 ⟨rfl, hb⟩
      have B2 := Lib.hid (HB.out.trans (hb.mono HB.out.size))
      go_wp2
      go_ret
      exact ⟨rfl, B2.out⟩
theorem js_any (a : Option Addr) (cap : Nat) (L : List OP) (w : World) (hin : OIn w a L) (hn : ∀ o ∈ L, OpOk o) (hz : opz L ≤ 7340032) (ht : P10 w) :
    Calls Tryd.prog 3 #[.slice a L.length cap] w fun e w' => e = .returned (.bool true) ∧ Below w.heap.size w w' := by
  by_cases h : 80 < L.length
  · exact js_long a cap L w h ht
  · exact js_short a cap L w (by omega) hin hn hz ht
end Go.Proofs.YtnbhhnkcfbfdcaaDoor
