/- The document's writer (package truchmanref23): set. -/
import Derived.Test.YtmcklfndnjagiaaDoorCwRc
namespace Go.Proofs.YtmcklfndnjagiaaDoor
open Go Go.RowKit
set_option linter.unusedVariables false

/-- A place in a block. -/
def PlT (w : World) (g : Nat) (p : WP) : Prop := w.heap[g]? = some (.cells #[.bool p.li, .int .i64 p.last, .int .i64 p.left, .int .u8 (p.kd : Nat)] 60 (0, 0))
theorem PlT.c {w : World} {g : Nat} {p : WP} (h : PlT w g p) : w.cell? ⟨g, 0, none⟩ = some (.bool p.li) ∧ w.cell? ⟨g, 1, none⟩ = some (.int .i64 p.last) ∧ w.cell? ⟨g, 2, none⟩ = some (.int .i64 p.left) ∧ w.cell? ⟨g, 3, none⟩ = some (.int .u8 (p.kd : Nat)) := by
  unfold PlT at h
  refine ⟨?_, ?_, ?_, ?_⟩ <;> (rw [cell_of_row w g _ _ _ _ h]; rfl)
theorem PlT.fr {w : World} {g : Nat} {p : WP} (h : PlT w g p) (o : Nat) : w.frozen? ⟨g, o, none⟩ = false := by unfold PlT at h; simp [World.frozen?, h]
theorem PlT.below {w w' : World} {g : Nat} {p : WP} (h : PlT w g p) (hb : Below w.heap.size w w') : PlT w' g p := (hb.block g (lt_of_block h)).trans h
theorem new_pl (w : World) (p : WP) : PlT (w.alloc (.cells #[.bool p.li, .int .i64 p.last, .int .i64 p.left, .int .u8 (p.kd : Nat)] 60)) w.heap.size p := heap_alloc_new w _
def plV (p : WP) : Value := .agg #[.bool p.li, .int .i64 p.last, .int .i64 p.left, .int .u8 (p.kd : Nat)]
set_option maxRecDepth 20000 in
set_option maxHeartbeats 2000000 in
theorem rwset_any (a : Option Addr) (m cap : Nat) (p q : WP) (l : List WP) (w : World) (h : PIn w (.slice a (m + 1) cap) (l ++ [q])) (hl : l.length ≤ 1099511627776) :
    Calls Tryd.prog 27 #[.slice a (m + 1) cap, plV p] w fun e w' => ∃ ad n c, e = .returned (.slice ad n c) ∧ PIn w' (.slice ad n c) (l ++ [p]) ∧ Below w.heap.size w w' := by
  have hm : l.length = m := by
    obtain ⟨a', cap', e, _⟩ := h
    simp only [Value.slice.injEq, List.length_append, List.length_cons, List.length_nil] at e
    omega
  have hcap : m + 1 ≤ cap := by
    obtain ⟨a', cap', e, h2, _⟩ := h
    simp only [Value.slice.injEq, List.length_append, List.length_cons, List.length_nil] at e h2
    omega
  have hc := h.cut
  rw [hm] at hc
  have N0 := new_pl w p
  have hb0 := new_grow w (.cells #[.bool p.li, .int .i64 p.last, .int .i64 p.left, .int .u8 (p.kd : Nat)] 60)
  have zw : IntKind.i64.wrap (((m + 1 : Nat) : Int) - 1) = (m : Int) := by rw [IntWalk.i64_in _ (by omega)]; omega
  have zw2 : IntKind.i64.wrap (m : Int) = (m : Int) := IntWalk.i64_in _ (by omega)
  have z1 : (0 : Int) ≤ (m : Int) := by omega
  have z3 : (m : Int) ≤ (cap : Int) := by omega
  have z4 : m ≤ cap := by omega
  clear h
  unfold plV
  go_enter Tryd.func27, Tryd.ntmps27
  go_upto_region 1 with fail
  obtain ⟨W, hW⟩ : ∃ W, W = w.alloc (.cells #[.bool p.li, .int .i64 p.last, .int .i64 p.left, .int .u8 (p.kd : Nat)] 60) := ⟨_, rfl⟩
  obtain ⟨g, hg⟩ : ∃ g, g = w.heap.size := ⟨_, rfl⟩
  rw [← hW, ← hg]
  rw [← hW] at N0 hb0
  rw [← hg] at N0
  have HP := Lib.hid (hc.below hb0)
  have HB0 := Lib.hid hb0
  have HQ := Lib.hid (lt_of_block N0)
  clear hW hg hc hb0 hm hcap
  have DA := N0.below (new_grow W (.cells #[] 60))
  have DC := N0.below (new_grow W (.cells #[.bool p.li, .int .i64 p.last, .int .i64 p.left, .int .u8 (p.kd : Nat)] 60))
  have DAC := DA.below (new_grow (W.alloc (.cells #[] 60)) (.cells #[.bool p.li, .int .i64 p.last, .int .i64 p.left, .int .u8 (p.kd : Nat)] 60))
  have DCA := DC.below (new_grow (W.alloc (.cells #[.bool p.li, .int .i64 p.last, .int .i64 p.left, .int .u8 (p.kd : Nat)] 60)) (.cells #[] 60))
  have PA := Lib.hid (HP.out.below (new_grow W (.cells #[] 60))).drew
  have PAC := Lib.hid ((HP.out.below (new_grow W (.cells #[] 60))).below (new_grow (W.alloc (.cells #[] 60)) (.cells #[.bool p.li, .int .i64 p.last, .int .i64 p.left, .int .u8 (p.kd : Nat)] 60))).drew
  have PCA := Lib.hid ((HP.out.below (new_grow W (.cells #[.bool p.li, .int .i64 p.last, .int .i64 p.left, .int .u8 (p.kd : Nat)] 60))).below (new_grow (W.alloc (.cells #[.bool p.li, .int .i64 p.last, .int .i64 p.left, .int .u8 (p.kd : Nat)] 60)) (.cells #[] 60))).drew
  obtain ⟨d0, d1, d2, d3⟩ := N0.c
  obtain ⟨da0, da1, da2, da3⟩ := DA.c
  obtain ⟨dc0, dc1, dc2, dc3⟩ := DC.c
  obtain ⟨dac0, dac1, dac2, dac3⟩ := DAC.c
  obtain ⟨dca0, dca1, dca2, dca3⟩ := DCA.c
  have EC := Lib.hid (((new_grow (W.alloc (.cells #[.bool p.li, .int .i64 p.last, .int .i64 p.left, .int .u8 (p.kd : Nat)] 60)) (.cells #[] 60)).block _ (lt_of_block (heap_alloc_new W (.cells #[.bool p.li, .int .i64 p.last, .int .i64 p.left, .int .u8 (p.kd : Nat)] 60)))).trans (heap_alloc_new W (.cells #[.bool p.li, .int .i64 p.last, .int .i64 p.left, .int .u8 (p.kd : Nat)] 60)))
  have EA := Lib.hid (show PlT (W.alloc (.cells #[] 60)).drew g p from DA)
  have BA := Lib.hid (grown_then HB0.out (new_grow W (.cells #[] 60))).drew
  have BAC := Lib.hid (grown_then (grown_then HB0.out (new_grow W (.cells #[] 60))) (new_grow (W.alloc (.cells #[] 60)) (.cells #[.bool p.li, .int .i64 p.last, .int .i64 p.left, .int .u8 (p.kd : Nat)] 60))).drew
  have BCA := Lib.hid (grown_then (grown_then HB0.out (new_grow W (.cells #[.bool p.li, .int .i64 p.last, .int .i64 p.left, .int .u8 (p.kd : Nat)] 60))) (new_grow (W.alloc (.cells #[.bool p.li, .int .i64 p.last, .int .i64 p.left, .int .u8 (p.kd : Nat)] 60)) (.cells #[] 60))).drew
  clear DA DC DAC DCA N0
  go_region_law (first
    | ((with_reducible refine step_app_first ?_ (.tmp 5) (.tmp 10) 26 ?_ ?_ ⟨W.heap.size, 0, none⟩ ?_ _ l PA.out ?_ hl ?_); (any_goals (first | rfl | exact Tryd.underlying26)); intro ad5 n5 c5 w5 hn5 hb5; have W5 : PlT w5 g p := EA.out.below hb5; obtain ⟨x0, x1, x2, x3⟩ := W5.c; have N6 := Lib.hid (hn5.next (new_grow w5 (.cells #[.bool p.li, .int .i64 p.last, .int .i64 p.left, .int .u8 (p.kd : Nat)] 60))); have B6 := Lib.hid (grown_then (grown_then BA.out hb5) (new_grow w5 (.cells #[.bool p.li, .int .i64 p.last, .int .i64 p.left, .int .u8 (p.kd : Nat)] 60))); have hB6 := Lib.hid (Nat.le_trans hb5.size (new_grow w5 (.cells #[.bool p.li, .int .i64 p.last, .int .i64 p.left, .int .u8 (p.kd : Nat)] 60)).size); have hB7 := Lib.hid BA.out.size; have C6 := Lib.hid (heap_alloc_new w5 (.cells #[.bool p.li, .int .i64 p.last, .int .i64 p.left, .int .u8 (p.kd : Nat)] 60)); clear W5 hn5)
    | ((with_reducible refine step_app_first ?_ (.tmp 5) (.tmp 10) 26 ?_ ?_ ⟨W.heap.size, 0, none⟩ ?_ _ l PAC.out ?_ hl ?_); (any_goals (first | rfl | exact Tryd.underlying26)); intro ad5 n5 c5 w5 hn5 hb5; have B6 := Lib.hid (grown_then BAC.out hb5); have N6 := Lib.hid hn5; have hB6 := Lib.hid hb5.size; have hB7 := Lib.hid BAC.out.size; have C5 := (hb5.block _ (lt_of_block (heap_alloc_new (W.alloc (.cells #[] 60)) (.cells #[.bool p.li, .int .i64 p.last, .int .i64 p.left, .int .u8 (p.kd : Nat)] 60)))).trans (heap_alloc_new (W.alloc (.cells #[] 60)) (.cells #[.bool p.li, .int .i64 p.last, .int .i64 p.left, .int .u8 (p.kd : Nat)] 60)); rw [World.size_alloc] at C5; have C6 := Lib.hid C5; clear hn5 C5)
    | ((with_reducible refine step_app_first ?_ (.tmp 5) (.tmp 10) 26 ?_ ?_ ⟨W.heap.size + 1, 0, none⟩ ?_ _ l PCA.out ?_ hl ?_); (any_goals (first | rfl | exact Tryd.underlying26)); intro ad5 n5 c5 w5 hn5 hb5; have B6 := Lib.hid (grown_then BCA.out hb5); have N6 := Lib.hid hn5; have hB6 := Lib.hid hb5.size; have hB7 := Lib.hid BCA.out.size; have C6 := Lib.hid ((hb5.block _ (lt_of_block EC.out)).trans EC.out); clear hn5)
    | (refine step_app_more rfl (.tmp 11) (.tmp 13) 26 rfl Tryd.underlying26 _ _ l N6.out hB6.out rfl _ p C6.out rfl hl ?_; intro ad7 n7 c7 w7 hp7 hb7; have P7 := Lib.hid hp7; have B7 := Lib.hid (B6.out.trans (hb7.mono hB7.out)); clear hp7 hb7))
  all_goals go_wp2
  all_goals go_ret
  all_goals exact ⟨_, _, _, rfl, P7.out, B7.out⟩
end Go.Proofs.YtmcklfndnjagiaaDoor
