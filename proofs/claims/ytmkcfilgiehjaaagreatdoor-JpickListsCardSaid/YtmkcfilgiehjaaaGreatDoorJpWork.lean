/- Law 14's example. -/
import Derived.Test.YtmkcfilgiehjaaaGreatDoorZS
import Derived.Test.YtmkcfilgiehjaaaGreatDoorZY
import Derived.Deep.RegionHeld3
namespace Go.Proofs.YtmkcfilgiehjaaaGreatDoor
open Go Go.RowKit
set_option linter.unusedVariables false

def t14 : List TK := [(123, []), (115, [97]), (58, []), (110, [49, 46, 48]), (44, []), (115, [98]), (58, []), (122, []), (44, []), (115, [99]), (58, []), (91, []), (116, []), (93, []), (44, []), (115, [100]), (58, []), (123, []), (115, [101]), (58, []), (102, []), (125, []), (125, [])]
def l14 : List ND := [(123, [], [], 7), (110, [97], [49, 46, 48], 1), (122, [98], [], 1), (91, [99], [], 2), (116, [], [], 1), (123, [100], [], 2), (102, [101], [], 1)]
def b14 : ByteArray := ⟨#[123, 34, 97, 34, 58, 49, 46, 48, 44, 34, 98, 34, 58, 110, 117, 108, 108, 44, 34, 99, 34, 58, 91, 116, 114, 117, 101, 93, 44, 34, 100, 34, 58, 123, 34, 101, 34, 58, 102, 97, 108, 115, 101, 125, 125]⟩
theorem sg14 : SgE t14 := fun x hx => by
  have := List.all_eq_true.mp (show (t14.all fun x => (!tSign x.1 || x.2.isEmpty) && decide (x.2.length ≤ 1099511627776)) = true by decide +kernel) x hx
  simp only [Bool.and_eq_true, Bool.or_eq_true, Bool.not_eq_true', decide_eq_true_eq] at this
  refine ⟨fun hs => ?_, this.2⟩
  rcases this.1 with h1 | h1
  · rw [h1] at hs; cases hs
  · exact List.isEmpty_iff.mp h1
theorem rd14 : rdT t14 (some 0) = (l14, 0) := by decide +kernel
theorem sz14 : SzOk l14 := by
  have h := (rdT_good (ts := t14) (la := some 0) sg14 (by rw [rd14])).2
  rw [show (rdT t14 (some 0)).1 = l14 by rw [rd14]] at h
  exact wf_sz h
theorem tx14 : ∀ k, k < l14.length → (txL l14 k).length ≤ 1048576 := by
  intro k hk
  have h : ∀ k, k < 7 → (txL l14 k).length ≤ 1048576 := by decide
  exact h k hk
theorem w14_a (w : World) (ht : Hds w) :
    Calls Tryz.prog 20 #[.string b14] w fun e w' => ∃ g cap, e = .returned (.tuple #[.slice (some ⟨g, 0, none⟩) 7 cap, .int .i64 0]) ∧ NIn w' (some ⟨g, 0, none⟩) l14 ∧ Below w.heap.size w w' := by
  refine (read_any b14 w t14 (some 0) (by decide) (by decide +kernel) sg14 (by decide) (fun e => by cases e) ht).mono ?_
  rw [rd14]
  rintro e w' ⟨v, he, hrow, hb⟩
  obtain ⟨a, cap, hv, hin⟩ := hrow.inn
  obtain ⟨g, ha, _⟩ := hin 0 (by decide)
  subst ha
  rw [hv] at he
  exact ⟨g, cap, he, hin, hb⟩
section
variable (g cap : Nat) (w : World) (hin : NIn w (some ⟨g, 0, none⟩) l14)
include hin
theorem w14_whole (hm : MaxL w) : Calls Tryz.prog 12 #[.slice (some ⟨g, 0, none⟩) 7 cap, .int .i64 0, .string ⟨#[97]⟩] w fun e w' => e = .returned (.agg #[.int .i64 1, .bool true, .int .i64 0]) ∧ Below w.heap.size w w' := by
  have h := jwhole_any (some ⟨g, 0, none⟩) cap l14 0 [97] w (by decide) hin sz14 (by decide) (by decide) tx14 hm
  rw [show fwA l14 0 [97] = (1, true, 0) by decide +kernel] at h; exact h
theorem w14_text (key : List UInt8) (c : Int) (hk : ftA l14 0 key = ([], false, c)) : Calls Tryz.prog 11 #[.slice (some ⟨g, 0, none⟩) 7 cap, .int .i64 0, .string (bA key)] w fun e w' => e = .returned (.agg #[.string ⟨#[]⟩, .bool false, .int .i64 c]) ∧ Below w.heap.size w w' := by
  have h := jtext_any (some ⟨g, 0, none⟩) cap l14 0 key w (by decide) hin sz14 (by decide) (by decide)
  rw [hk] at h; exact h
theorem w14_list : Calls Tryz.prog 18 #[.slice (some ⟨g, 0, none⟩) 7 cap, .int .i64 0, .string ⟨#[99]⟩] w fun e w' => ∃ a c, e = .returned (.agg #[.slice a 1 c, .bool true, .int .i64 0]) ∧ Below w.heap.size w w' := by
  have h := jlist_any (some ⟨g, 0, none⟩) cap l14 0 [99] w (by decide) hin sz14 (by decide) (by decide)
  rw [show flA l14 0 [99] = ([4], true, 0) by decide +kernel] at h
  refine h.mono ?_
  rintro e w' ⟨v, he, hv, hb⟩
  obtain ⟨a, c, e2, _⟩ := hv.inn
  rw [e2] at he
  exact ⟨a, c, he, hb⟩
theorem w14_object : Calls Tryz.prog 17 #[.slice (some ⟨g, 0, none⟩) 7 cap, .int .i64 0, .string ⟨#[100]⟩] w fun e w' => e = .returned (.agg #[.int .i64 5, .bool true, .int .i64 0]) ∧ Below w.heap.size w w' := by
  have h := jobject_any (some ⟨g, 0, none⟩) cap l14 0 [100] w (by decide) hin sz14 (by decide) (by decide)
  rw [show foA l14 0 [100] = (5, true, 0) by decide +kernel] at h; exact h
theorem w14_flag : Calls Tryz.prog 13 #[.slice (some ⟨g, 0, none⟩) 7 cap, .int .i64 5, .string ⟨#[101]⟩] w fun e w' => e = .returned (.agg #[.bool false, .bool true, .int .i64 0]) ∧ Below w.heap.size w w' := by
  have h := jflag_any (some ⟨g, 0, none⟩) cap l14 5 [101] w (by decide) hin sz14 (by decide) (by decide)
  rw [show ffA l14 5 [101] = (false, true, 0) by decide +kernel] at h; exact h
theorem w14_find (x : Int) (key : List UInt8) (v : Int) (h0 : -9223372036854775808 ≤ x) (h1 : x ≤ 9223372036854775807) (hk : fdV (fdL l14 x key) = v) : Calls Tryz.prog 9 #[.slice (some ⟨g, 0, none⟩) 7 cap, .int .i64 x, .string (bA key)] w fun e w' => e = .returned (.int .i64 v) ∧ Below w.heap.size w w' := by
  have h := jfind_any (some ⟨g, 0, none⟩) cap l14 x key w (by decide) hin sz14 h0 h1
  rw [hk] at h; exact h
end
/-- What stands behind the calls of the example. -/
structure W14 (W : World) (g G H I : Nat) (va : Option Addr) (vc : Nat) (w : World) : Prop where
  nin : NIn w (some ⟨g, 0, none⟩) l14
  f3 : FdT 38 w G (.int .i64 1) true 0
  f4 : FdT 35 w (G + 1) (.string ⟨#[]⟩) false 0
  f5 : FdT 51 w (G + 1 + 1) (.slice va 1 vc) true 0
  f6 : FdT 38 w H (.int .i64 5) true 0
  f7 : FdT 41 w I (.bool false) true 0
  b : Below W.heap.size W w
theorem W14.next {W w w' : World} {g G H I : Nat} {va : Option Addr} {vc : Nat} (h : W14 W g G H I va vc w) (hb : Below w.heap.size w w') : W14 W g G H I va vc w' :=
  ⟨h.nin.below hb (Nat.le_refl _), h.f3.below hb, h.f4.below hb, h.f5.below hb, h.f6.below hb, h.f7.below hb, h.b.trans (hb.mono h.b.size)⟩
@[reducible] def C14 (W : World) (g G H I : Nat) (va : Option Addr) (vc : Nat) (w : World) : Prop :=
  w.cell? ⟨G, 0, none⟩ = some (.int .i64 1) ∧ w.cell? ⟨G, 1, none⟩ = some (.bool true) ∧ w.cell? ⟨G + 1, 1, none⟩ = some (.bool false) ∧ w.cell? ⟨G + 1, 2, none⟩ = some (.int .i64 0) ∧ w.cell? ⟨G + 1 + 1, 0, none⟩ = some (.slice va 1 vc) ∧ w.cell? ⟨G + 1 + 1, 1, none⟩ = some (.bool true) ∧
  w.cell? ⟨H, 0, none⟩ = some (.int .i64 5) ∧ w.cell? ⟨H, 1, none⟩ = some (.bool true) ∧ w.cell? ⟨I, 0, none⟩ = some (.bool false) ∧ w.cell? ⟨I, 1, none⟩ = some (.bool true) ∧ W14 W g G H I va vc w
theorem W14.cells {W w : World} {g G H I : Nat} {va : Option Addr} {vc : Nat} (h : W14 W g G H I va vc w) : C14 W g G H I va vc w :=
  ⟨h.f3.c0, h.f3.c1, h.f4.c1, h.f4.c2, h.f5.c0, h.f5.c1, h.f6.c0, h.f6.c1, h.f7.c0, h.f7.c1, h⟩
theorem c14_next {W w w' : World} {g G H I : Nat} {va : Option Addr} {vc : Nat} (hb : Below w.heap.size w w') (h : C14 W g G H I va vc w) : C14 W g G H I va vc w' := (h.2.2.2.2.2.2.2.2.2.2.next hb).cells
theorem C14.w {W w : World} {g G H I : Nat} {va : Option Addr} {vc : Nat} (h : C14 W g G H I va vc w) : W14 W g G H I va vc w := h.2.2.2.2.2.2.2.2.2.2
theorem fd_three (w4 : World) (va : Option Addr) (vc : Nat) :
    FdT 38 (((w4.alloc (.cells #[.int .i64 1, .bool true, .int .i64 0] 38)).alloc (.cells #[.string ⟨#[]⟩, .bool false, .int .i64 0] 35)).alloc (.cells #[.slice va 1 vc, .bool true, .int .i64 0] 51)) w4.heap.size (.int .i64 1) true 0 ∧
    FdT 35 (((w4.alloc (.cells #[.int .i64 1, .bool true, .int .i64 0] 38)).alloc (.cells #[.string ⟨#[]⟩, .bool false, .int .i64 0] 35)).alloc (.cells #[.slice va 1 vc, .bool true, .int .i64 0] 51)) (w4.heap.size + 1) (.string ⟨#[]⟩) false 0 ∧
    FdT 51 (((w4.alloc (.cells #[.int .i64 1, .bool true, .int .i64 0] 38)).alloc (.cells #[.string ⟨#[]⟩, .bool false, .int .i64 0] 35)).alloc (.cells #[.slice va 1 vc, .bool true, .int .i64 0] 51)) (w4.heap.size + 1 + 1) (.slice va 1 vc) true 0 ∧
    Below w4.heap.size w4 (((w4.alloc (.cells #[.int .i64 1, .bool true, .int .i64 0] 38)).alloc (.cells #[.string ⟨#[]⟩, .bool false, .int .i64 0] 35)).alloc (.cells #[.slice va 1 vc, .bool true, .int .i64 0] 51)) := by
  have q1 := FdT.new w4 38 (.int .i64 1) true 0
  have b1 := alloc_below w4 (.cells #[.int .i64 1, .bool true, .int .i64 0] 38)
  have e1 : (w4.alloc (.cells #[.int .i64 1, .bool true, .int .i64 0] 38)).heap.size = w4.heap.size + 1 := by simp
  generalize w4.alloc (.cells #[.int .i64 1, .bool true, .int .i64 0] 38) = w5 at *
  have q2 := FdT.new w5 35 (.string ⟨#[]⟩) false 0
  have b2 := alloc_below w5 (.cells #[.string ⟨#[]⟩, .bool false, .int .i64 0] 35)
  have e2 : (w5.alloc (.cells #[.string ⟨#[]⟩, .bool false, .int .i64 0] 35)).heap.size = w5.heap.size + 1 := by simp
  generalize w5.alloc (.cells #[.string ⟨#[]⟩, .bool false, .int .i64 0] 35) = w6 at *
  have q3 := FdT.new w6 51 (.slice va 1 vc) true 0
  have b3 := alloc_below w6 (.cells #[.slice va 1 vc, .bool true, .int .i64 0] 51)
  generalize w6.alloc (.cells #[.slice va 1 vc, .bool true, .int .i64 0] 51) = w7 at *
  rw [e2, e1] at q3
  rw [e1] at q2
  exact ⟨(q1.below b2).below b3, q2.below b3, q3, (b1.trans (b2.mono (by omega))).trans (b3.mono (by omega))⟩
theorem field14 (w' : World) : (Instr.field 35 (.agg #[.string ⟨#[]⟩, .bool false, .int .i64 7]) 2).run Tryz.prog w' = .ok (.int .i64 7) w' := by
  kernel_rfl
set_option maxRecDepth 100000 in
set_option maxHeartbeats 8000000 in
theorem works14_any (w : World) (ht : Hds w) (hm : MaxL w) : Calls Tryz.prog 6 #[] w fun e w' => e = .returned (.bool true) ∧ Below w.heap.size w w' := by
  have HM := Lib.hid (show ∀ w', Below w.heap.size w w' → MaxL w' from fun w' h => hm.below h hm.lt)
  have HA := Lib.hid (w14_a w ht)
  clear ht hm
  go_enter Tryz.func6, Tryz.ntmps6
  go_wp2_with fail
  refine HA.out.mono ?_
  rintro e w1 ⟨g, cap, rfl, hin, b1⟩
  have N1 := Lib.hid hin
  have B1 := Lib.hid b1
  have m1 := Lib.hid (HM.out _ b1)
  clear hin b1 HA
  go_wp2_with fail
  with_reducible refine (w14_whole g cap w1 N1.out m1.out).mono ?_
  rintro e w2 ⟨rfl, b2⟩
  have N2 := Lib.hid (N1.out.below b2 (Nat.le_refl _))
  have B2 := Lib.hid (B1.out.trans (b2.mono B1.out.size))
  clear b2 m1
  go_wp2_with fail
  refine (w14_text g cap w2 N2.out [98] 0 (by decide +kernel)).mono ?_
  rintro e w3 ⟨rfl, b3⟩
  have N3 := Lib.hid (N2.out.below b3 (Nat.le_refl _))
  have B3 := Lib.hid (B2.out.trans (b3.mono B2.out.size))
  clear b3
  go_wp2_with fail
  with_reducible refine (w14_list g cap w3 N3.out).mono ?_
  rintro e w4 ⟨va, vc, rfl, b4⟩
  have N4 := Lib.hid (N3.out.below b4 (Nat.le_refl _))
  have B4 := Lib.hid (B3.out.trans (b4.mono B3.out.size))
  clear b4 HM N1 N2 N3 B1 B2 B3
  go_upto_region 3 with fail
  have FF := Lib.hid (fd_three w4 va vc)
  have N5 := Lib.hid (N4.out.below FF.out.2.2.2 (Nat.le_refl _))
  have B5 := Lib.hid (B4.out.trans (FF.out.2.2.2.mono B4.out.size))
  have F3 := Lib.hid FF.out.1
  have F4 := Lib.hid FF.out.2.1
  have F5 := Lib.hid FF.out.2.2.1
  clear FF N4 B4
  generalize ((w4.alloc (.cells #[.int .i64 1, .bool true, .int .i64 0] 38)).alloc (.cells #[.string ⟨#[]⟩, .bool false, .int .i64 0] 35)).alloc (.cells #[.slice va 1 vc, .bool true, .int .i64 0] 51) = w5 at *
  generalize w4.heap.size = G at *
  go_wp2_with fail
  with_reducible refine (w14_object g cap w5 N5.out).mono ?_
  rintro e w6 ⟨rfl, b6⟩
  have b7 := b6.trans ((alloc_below w6 (.cells #[.int .i64 5, .bool true, .int .i64 0] 38)).mono b6.size)
  have F6 := FdT.new w6 38 (.int .i64 5) true 0
  have N7 := Lib.hid (N5.out.below b7 (Nat.le_refl _))
  have B7 := Lib.hid (B5.out.trans (b7.mono B5.out.size))
  have G3 := Lib.hid (F3.out.below b7)
  have G4 := Lib.hid (F4.out.below b7)
  have G5 := Lib.hid (F5.out.below b7)
  clear b6 b7 F3 F4 F5 N5 B5
  go_upto_region 4 with fail
  generalize w6.alloc (.cells #[.int .i64 5, .bool true, .int .i64 0] 38) = w7 at *
  generalize w6.heap.size = H at *
  have c6 := F6.c0
  have F6' := Lib.hid F6
  clear F6
  go_wp2_with fail
  with_reducible refine (w14_flag g cap w7 N7.out).mono ?_
  rintro e w8 ⟨rfl, b8⟩
  have b9 := b8.trans ((alloc_below w8 (.cells #[.bool false, .bool true, .int .i64 0] 41)).mono b8.size)
  have F7 := FdT.new w8 41 (.bool false) true 0
  have HW := Lib.hid (show W14 w g G H w8.heap.size va vc (w8.alloc (.cells #[.bool false, .bool true, .int .i64 0] 41)) from ⟨N7.out.below b9 (Nat.le_refl _), G3.out.below b9, G4.out.below b9, G5.out.below b9, F6'.out.below b9, F7, B7.out.trans (b9.mono B7.out.size)⟩)
  clear b8 b9 F7 N7 B7 G3 G4 G5 F6' c6
  go_upto_region 5 with fail
  generalize w8.alloc (.cells #[.bool false, .bool true, .int .i64 0] 41) = w9 at *
  generalize w8.heap.size = I at *
  have HC := HW.out.cells
  clear HW
  have T7 := Lib.hid (show ∀ wx, NIn wx (some ⟨g, 0, none⟩) l14 → Calls Tryz.prog 11 #[.slice (some ⟨g, 0, none⟩) 7 cap, .int .i64 0, .string ⟨#[97]⟩] wx fun e w' => e = .returned (.agg #[.string ⟨#[]⟩, .bool false, .int .i64 7]) ∧ Below wx.heap.size wx w' from fun wx h => w14_text g cap wx h [97] 7 (by decide +kernel))
  have D5 := Lib.hid (show ∀ wx, NIn wx (some ⟨g, 0, none⟩) l14 → Calls Tryz.prog 9 #[.slice (some ⟨g, 0, none⟩) 7 cap, .int .i64 0, .string ⟨#[100]⟩] wx fun e w' => e = .returned (.int .i64 5) ∧ Below wx.heap.size wx w' from fun wx h => w14_find g cap wx h 0 [100] 5 (by decide) (by decide) (by decide +kernel))
  have D1 := Lib.hid (show ∀ wx, NIn wx (some ⟨g, 0, none⟩) l14 → Calls Tryz.prog 9 #[.slice (some ⟨g, 0, none⟩) 7 cap, .int .i64 1, .string ⟨#[97]⟩] wx fun e w' => e = .returned (.int .i64 (-1)) ∧ Below wx.heap.size wx w' from fun wx h => w14_find g cap wx h 1 [97] (-1) (by decide) (by decide) (by decide +kernel))
  have hfl : ∀ w', (Instr.field 35 (.agg #[.string ⟨#[]⟩, .bool false, .int .i64 7]) 2).run Tryz.prog w' = .ok (.int .i64 7) w' := fun w' => field14 w'
  go_region_held3 (fun wx => wx.cell? ⟨G, 0, none⟩ = some (.int .i64 1) ∧ wx.cell? ⟨G, 1, none⟩ = some (.bool true) ∧ wx.cell? ⟨G + 1, 1, none⟩ = some (.bool false) ∧ wx.cell? ⟨G + 1, 2, none⟩ = some (.int .i64 0) ∧ wx.cell? ⟨G + 1 + 1, 0, none⟩ = some (.slice va 1 vc) ∧ wx.cell? ⟨G + 1 + 1, 1, none⟩ = some (.bool true) ∧ wx.cell? ⟨H, 0, none⟩ = some (.int .i64 5) ∧ wx.cell? ⟨H, 1, none⟩ = some (.bool true) ∧ wx.cell? ⟨I, 0, none⟩ = some (.bool false) ∧ wx.cell? ⟨I, 1, none⟩ = some (.bool true) ∧ W14 w g G H I va vc wx)
    (first | with_reducible exact HC | with_reducible exact c14_next (drew_below _ _) HC | with_reducible exact c14_next (by assumption) (by assumption) | with_reducible exact c14_next (drew_below _ _) (by assumption))
    (first | (go_at_call 11; (with_reducible refine (T7.out _ (C14.w (by assumption)).nin).mono ?_); rintro e w' ⟨rfl, hbq⟩) | (go_at_call 9; (with_reducible refine (D5.out _ (C14.w (by assumption)).nin).mono ?_); rintro e w' ⟨rfl, hbq⟩) | (go_at_call 9; (with_reducible refine (D1.out _ (C14.w (by assumption)).nin).mono ?_); rintro e w' ⟨rfl, hbq⟩))
  rename_i hHeld9
  have HF := Lib.hid (C14.w hHeld9).b
  clear hHeld9 HC T7 D5 D1 hfl
  go_wp2
  go_ret
  exact ⟨rfl, HF.out⟩
end Go.Proofs.YtmkcfilgiehjaaaGreatDoor
