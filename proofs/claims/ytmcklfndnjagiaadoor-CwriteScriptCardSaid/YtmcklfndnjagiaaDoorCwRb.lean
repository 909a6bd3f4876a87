/- The document's writer (package truchmanref23): end, begun, set. -/
import Derived.Test.YtmcklfndnjagiaaDoorCwRa
import Derived.Laws.EntriesVeiled
import Derived.Deep.RegionLaw
namespace Go.Proofs.YtmcklfndnjagiaaDoor
open Go Go.RowKit
set_option linter.unusedVariables false

section
variable {w wx w' : World} {A : ByteArray} {v : Value} {er : Int}
theorem BdS.next (h : BdS w A v er wx) (hb : Below wx.heap.size wx w') : BdS w A v er w' := ⟨h.s.below hb, h.q.below hb, grown_then h.b hb⟩
theorem BdS.set0 (h : BdS w A v er wx) (x : ByteArray) : BdS w x v er (wx.setCell ⟨w.heap.size, 0, none⟩ (.string x)) := ⟨h.s.set0 x, (RowKit.Below.heap_setCell _ _ _ _ (show w.heap.size + 1 ≠ w.heap.size by omega)).trans h.q, h.b.setCell (Nat.le_refl _) _⟩
theorem BdS.set1 (h : BdS w A v er wx) (x : Value) : BdS w A x er (wx.setCell ⟨w.heap.size, 1, none⟩ x) := ⟨h.s.set1 x, (RowKit.Below.heap_setCell _ _ _ _ (show w.heap.size + 1 ≠ w.heap.size by omega)).trans h.q, h.b.setCell (Nat.le_refl _) _⟩
/-- The state is told. -/
theorem BdS.fin (h : BdS w A v er wx) (A' : ByteArray) (v' : Value) (e' : Int) : StT (((wx.setCell ⟨w.heap.size + 1, 0, none⟩ (.string A')).setCell ⟨w.heap.size + 1, 1, none⟩ v').setCell ⟨w.heap.size + 1, 2, none⟩ (.int .i64 e')) (w.heap.size + 1) A' v' e' ∧
    Below w.heap.size w (((wx.setCell ⟨w.heap.size + 1, 0, none⟩ (.string A')).setCell ⟨w.heap.size + 1, 1, none⟩ v').setCell ⟨w.heap.size + 1, 2, none⟩ (.int .i64 e')) :=
  ⟨h.q.setAll _ _ _, h.b.trans ((set3_only wx (w.heap.size + 1) _ _ _).below (Nat.le_succ _) h.b.size)⟩
end
theorem zero_add_bytes (l : List UInt8) : bA l ++ (⟨#[0]⟩ : ByteArray) = bA (l ++ [0]) := bA_append l [0]
set_option maxRecDepth 20000 in
theorem rwend_no (A : ByteArray) (a : Option Addr) (n cap : Nat) (er : Int) (w : World) (hn : n = 0) : Calls Tryd.prog 20 #[stV A (.slice a n cap) er] w fun e w' => e = .returned (stV A (.slice a n cap) 12) ∧ Below w.heap.size w w' := by
  have N0 := bds_new w A (.slice a n cap) er
  have HBAD := Lib.hid (fun w => rwbad_any A a n cap er 12 w)
  subst hn
  unfold stV at *
  go_enter Tryd.func20, Tryd.ntmps20
  go_upto_region 1 with fail
  generalize ((w.alloc (.cells #[.string A, .slice a 0 cap, .int .i64 er] 29)).alloc (.cells #[.string ⟨#[]⟩, .slice none 0 0, .int .i64 0] 29)) = W at *
  have a0 := N0.s.c0; have a1 := N0.s.c1; have a2 := N0.s.c2
  have HW := Lib.hid N0
  clear N0
  go_wp2_with fail
  refine (HBAD.out _).mono ?_
  rintro e w9 ⟨rfl, hb9⟩
  have H9 := Lib.hid (HW.out.next hb9)
  clear hb9
  have q0 := H9.out.q.c0; have q1 := H9.out.q.c1; have q2 := H9.out.q.c2; have qf := H9.out.q.fr
  go_wp2
  refine bodyPost_ret (st_result Tryd.results20 (BdS.fin H9.out _ _ _).1 rfl) rfl ?_
  exact ⟨rfl, (BdS.fin H9.out _ _ _).2⟩
/-- What the law's walk wants of the last one. -/
structure TopF (w : World) (g k : Nat) (p : WP) : Prop where
  c0 : w.cell? ⟨g, k * 4, none⟩ = some (.bool p.li)
  c1 : w.cell? ⟨g, k * 4 + 1, none⟩ = some (.int .i64 p.last)
  c2 : w.cell? ⟨g, k * 4 + 2, none⟩ = some (.int .i64 p.left)
  c3 : w.cell? ⟨g, k * 4 + 3, none⟩ = some (.int .u8 (p.kd : Nat))
theorem TopF.below {w w' : World} {g k : Nat} {p : WP} (h : TopF w g k p) (hb : Below w.heap.size w w') : TopF w' g k p := by
  have hl := World.block_lt_of_cell? w _ h.c0
  exact ⟨(hb.cell (p := ⟨g, k * 4, none⟩) hl).trans h.c0, (hb.cell (p := ⟨g, k * 4 + 1, none⟩) hl).trans h.c1, (hb.cell (p := ⟨g, k * 4 + 2, none⟩) hl).trans h.c2, (hb.cell (p := ⟨g, k * 4 + 3, none⟩) hl).trans h.c3⟩
theorem PIn.topF {w : World} {v : Value} {p : WP} {ps : List WP} (h : PIn w v (p :: ps).reverse) : ∃ g cap, v = .slice (some ⟨g, 0, none⟩) (ps.length + 1) cap ∧ ps.length + 1 ≤ cap ∧ TopF w g ps.length p := by
  rw [List.reverse_cons] at h
  obtain ⟨g, cap, h1, h2, _, h4, h5, h6, h7⟩ := h.top
  rw [List.length_reverse] at h1 h2 h4 h5 h6 h7
  exact ⟨g, cap, h1, h2, h4, h5, h6, h7⟩
set_option maxRecDepth 20000 in
theorem rwend_lacks (A : ByteArray) (g m cap : Nat) (er : Int) (p : WP) (w : World) (hm : m ≤ 1099511627776) (hc : m + 1 ≤ cap) (ht : TopF w g m p) (hl : 0 < p.left) : Calls Tryd.prog 20 #[stV A (.slice (some ⟨g, 0, none⟩) (m + 1) cap) er] w fun e w' => e = .returned (stV A (.slice (some ⟨g, 0, none⟩) (m + 1) cap) 12) ∧ Below w.heap.size w w' := by
  have N0 := bds_new w A (.slice (some ⟨g, 0, none⟩) (m + 1) cap) er
  have HBAD := Lib.hid (fun w => rwbad_any A (some ⟨g, 0, none⟩) (m + 1) cap er 12 w)
  have hT := fun w' hb => ht.below (w' := w') hb
  have p2 : decide (0 < p.left) = true := decide_eq_true hl
  have p1 : (((m + 1 : Nat) : Int) == 0) = false := beq_eq_false_iff_ne.mpr (by omega)
  have p1' : decide (m + 1 = 0) = false := decide_eq_false (by omega)
  have zw : IntKind.i64.wrap (((m + 1 : Nat) : Int) - 1) = (m : Int) := by rw [IntWalk.i64_in _ (by omega)]; omega
  have z1 : (0 : Int) ≤ (m : Int) := by omega
  have z2 : (m : Int) < ((m + 1 : Nat) : Int) := by omega
  have z3 : (m : Int) ≤ (cap : Int) := by omega
  have z4 : m ≤ cap := by omega
  clear ht hl
  unfold stV at *
  go_enter Tryd.func20, Tryd.ntmps20
  go_upto_region 1 with fail
  generalize ((w.alloc (.cells #[.string A, .slice (some ⟨g, 0, none⟩) (m + 1) cap, .int .i64 er] 29)).alloc (.cells #[.string ⟨#[]⟩, .slice none 0 0, .int .i64 0] 29)) = W at *
  have a0 := N0.s.c0; have a1 := N0.s.c1; have a2 := N0.s.c2
  have HW := Lib.hid N0
  have t2 := (hT W N0.b).c2
  clear N0 hT
  go_wp2_with fail
  refine (HBAD.out _).mono ?_
  rintro e w9 ⟨rfl, hb9⟩
  have H9 := Lib.hid (HW.out.next hb9)
  clear hb9
  have q0 := H9.out.q.c0; have q1 := H9.out.q.c1; have q2 := H9.out.q.c2; have qf := H9.out.q.fr
  go_wp2
  refine bodyPost_ret (st_result Tryd.results20 (BdS.fin H9.out _ _ _).1 rfl) rfl ?_
  exact ⟨rfl, (BdS.fin H9.out _ _ _).2⟩
set_option maxRecDepth 20000 in
theorem rwend_list (A : ByteArray) (g m cap : Nat) (er : Int) (p : WP) (w : World) (hm : m ≤ 1099511627776) (hc : m + 1 ≤ cap) (ht : TopF w g m p) (hl : ¬ 0 < p.left) (hli : p.li = true) : Calls Tryd.prog 20 #[stV A (.slice (some ⟨g, 0, none⟩) (m + 1) cap) er] w fun e w' => e = .returned (stV A (.slice (some ⟨g, 0, none⟩) m cap) er) ∧ Below w.heap.size w w' := by
  have N0 := bds_new w A (.slice (some ⟨g, 0, none⟩) (m + 1) cap) er
  have hT := fun w' hb => ht.below (w' := w') hb
  have p2 : decide (0 < p.left) = false := decide_eq_false hl
  have p1 : (((m + 1 : Nat) : Int) == 0) = false := beq_eq_false_iff_ne.mpr (by omega)
  have p1' : decide (m + 1 = 0) = false := decide_eq_false (by omega)
  have zw : IntKind.i64.wrap (((m + 1 : Nat) : Int) - 1) = (m : Int) := by rw [IntWalk.i64_in _ (by omega)]; omega
  have z1 : (0 : Int) ≤ (m : Int) := by omega
  have z2 : (m : Int) < ((m + 1 : Nat) : Int) := by omega
  have z3 : (m : Int) ≤ (cap : Int) := by omega
  have z4 : m ≤ cap := by omega
  clear ht hl
  unfold stV at *
  go_enter Tryd.func20, Tryd.ntmps20
  go_upto_region 1 with fail
  generalize ((w.alloc (.cells #[.string A, .slice (some ⟨g, 0, none⟩) (m + 1) cap, .int .i64 er] 29)).alloc (.cells #[.string ⟨#[]⟩, .slice none 0 0, .int .i64 0] 29)) = W at *
  have a0 := N0.s.c0; have a1 := N0.s.c1; have a2 := N0.s.c2
  have HW := Lib.hid N0
  have t0 := (hT W N0.b).c0; have t2 := (hT W N0.b).c2
  rw [hli] at t0
  clear hT hli
  have af := N0.s.fr
  have h2 := N0.set1 (.slice (some ⟨g, 0, none⟩) m cap)
  clear N0 HW
  go_upto_region 7 with fail
  generalize W.setCell ⟨w.heap.size, 1, none⟩ (.slice (some ⟨g, 0, none⟩) m cap) = W2 at *
  clear a0 a1 a2 af
  have a0 := h2.s.c0; have a1 := h2.s.c1; have a2 := h2.s.c2
  have H2 := Lib.hid h2
  clear h2
  have q0 := H2.out.q.c0; have q1 := H2.out.q.c1; have q2 := H2.out.q.c2; have qf := H2.out.q.fr
  go_wp2
  refine bodyPost_ret (st_result Tryd.results20 (BdS.fin H2.out _ _ _).1 rfl) rfl ?_
  exact ⟨rfl, (BdS.fin H2.out _ _ _).2⟩
set_option maxRecDepth 20000 in
theorem rwend_strt (A : ByteArray) (g m cap : Nat) (er : Int) (p : WP) (w : World) (hm : m ≤ 1099511627776) (hc : m + 1 ≤ cap) (ht : TopF w g m p) (hl : ¬ 0 < p.left) (hli : p.li = false) (hA : A.size ≤ 140737488355328) : Calls Tryd.prog 20 #[stV A (.slice (some ⟨g, 0, none⟩) (m + 1) cap) er] w fun e w' => e = .returned (stV (A ++ ⟨#[0]⟩) (.slice (some ⟨g, 0, none⟩) m cap) er) ∧ Below w.heap.size w w' := by
  have N0 := bds_new w A (.slice (some ⟨g, 0, none⟩) (m + 1) cap) er
  have hT := fun w' hb => ht.below (w' := w') hb
  have p2 : decide (0 < p.left) = false := decide_eq_false hl
  have p1 : (((m + 1 : Nat) : Int) == 0) = false := beq_eq_false_iff_ne.mpr (by omega)
  have p1' : decide (m + 1 = 0) = false := decide_eq_false (by omega)
  have zw : IntKind.i64.wrap (((m + 1 : Nat) : Int) - 1) = (m : Int) := by rw [IntWalk.i64_in _ (by omega)]; omega
  have z1 : (0 : Int) ≤ (m : Int) := by omega
  have z2 : (m : Int) < ((m + 1 : Nat) : Int) := by omega
  have z3 : (m : Int) ≤ (cap : Int) := by omega
  have z4 : m ≤ cap := by omega
  have l1 : ¬ 9223372036854775807 < A.size + 1 := by omega
  clear ht hl
  unfold stV at *
  go_enter Tryd.func20, Tryd.ntmps20
  go_upto_region 1 with fail
  generalize ((w.alloc (.cells #[.string A, .slice (some ⟨g, 0, none⟩) (m + 1) cap, .int .i64 er] 29)).alloc (.cells #[.string ⟨#[]⟩, .slice none 0 0, .int .i64 0] 29)) = W at *
  have a0 := N0.s.c0; have a1 := N0.s.c1; have a2 := N0.s.c2
  have HW := Lib.hid N0
  have t0 := (hT W N0.b).c0; have t2 := (hT W N0.b).c2
  rw [hli] at t0
  clear hT hli
  have af := N0.s.fr
  have h1 := N0.set0 (A ++ ⟨#[0]⟩)
  clear N0
  go_upto_region 6 with fail
  generalize W.setCell ⟨w.heap.size, 0, none⟩ (.string (A ++ ⟨#[0]⟩)) = W1 at *
  clear a0 a1 a2 af t0 t2
  have a0 := h1.s.c0; have a1 := h1.s.c1; have a2 := h1.s.c2; have af := h1.s.fr
  have h2 := h1.set1 (.slice (some ⟨g, 0, none⟩) m cap)
  clear h1 HW
  go_upto_region 7 with fail
  generalize W1.setCell ⟨w.heap.size, 1, none⟩ (.slice (some ⟨g, 0, none⟩) m cap) = W2 at *
  clear a0 a1 a2 af
  have a0 := h2.s.c0; have a1 := h2.s.c1; have a2 := h2.s.c2
  have H2 := Lib.hid h2
  clear h2
  have q0 := H2.out.q.c0; have q1 := H2.out.q.c1; have q2 := H2.out.q.c2; have qf := H2.out.q.fr
  go_wp2
  refine bodyPost_ret (st_result Tryd.results20 (BdS.fin H2.out _ _ _).1 rfl) rfl ?_
  exact ⟨rfl, (BdS.fin H2.out _ _ _).2⟩
theorem rwend_any (s : WT) (v : Value) (w : World) (h : PIn w v s.l.reverse) (hl : s.l.length ≤ 1099511627776) (hA : s.out.length ≤ 140737488355328) :
    Calls Tryd.prog 20 #[stV (bA s.out) v s.er] w fun e w' => ∃ v', e = .returned (stV (bA (wEnd s).out) v' (wEnd s).er) ∧ PIn w' v' (wEnd s).l.reverse ∧ Below w.heap.size w w' := by
  unfold wEnd
  match hs : s.l with
  | [] =>
    rw [hs] at h
    obtain ⟨a, cap, rfl⟩ := h.form
    refine (rwend_no (bA s.out) a _ cap s.er w rfl).mono ?_
    rintro e w' ⟨he, hb⟩
    exact ⟨_, he, by show PIn w' _ s.l.reverse; rw [hs]; exact h.below hb, hb⟩
  | p :: ps =>
    rw [hs] at h hl
    have hps : ps.length ≤ 1099511627776 := by simp at hl; omega
    have h0 := h
    obtain ⟨g, cap, rfl, hc, ht⟩ := h.topF
    simp only
    by_cases hp : 0 < p.left
    · rw [if_pos hp]
      refine (rwend_lacks (bA s.out) g _ cap s.er p w hps hc ht hp).mono ?_
      rintro e w' ⟨he, hb⟩
      exact ⟨_, he, by show PIn w' _ s.l.reverse; rw [hs]; exact h0.below hb, hb⟩
    · rw [if_neg hp]
      rw [List.reverse_cons] at h0
      have hcut := h0.cut
      rw [List.length_reverse] at hcut
      cases hli : p.li with
      | true =>
        refine (rwend_list (bA s.out) g _ cap s.er p w hps hc ht hp hli).mono ?_
        rintro e w' ⟨he, hb⟩
        exact ⟨_, he, hcut.below hb, hb⟩
      | false =>
        refine (rwend_strt (bA s.out) g _ cap s.er p w hps hc ht hp hli (by rw [bA_size]; exact hA)).mono ?_
        rintro e w' ⟨he, hb⟩
        exact ⟨_, by rw [he, zero_add_bytes]; rfl, hcut.below hb, hb⟩
end Go.Proofs.YtmcklfndnjagiaaDoor
