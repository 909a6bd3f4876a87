/- Package pmsg: Num, Text: the last field of one tag. -/
import Derived.Test.YtipnaonagepolaaDoorZK
namespace Go.Proofs.YtipnaonagepolaaDoor
open Go Go.RowKit
set_option linter.unusedVariables false

theorem one_tag (w : World) (n v : Int) : TgIn (w.alloc (.cells #[.int .i64 n, .int .i64 v] 51)) (some ⟨w.heap.size, 0, none⟩) [(n, v)] := fun j hj => by
  have h := tg_alloc 51 w n v
  obtain rfl : j = 0 := by simpa using hj
  exact ⟨_, 0, rfl, h.lt, h.c0, h.c1⟩
theorem one_last (mp : Option Addr) (l : List FD) (n v : Int) (w : World) (h : MsgIn w mp l) (hl : l.length ≤ 1099511627776) :
    Calls Tryd.prog 19 #[.pointer mp, .slice (some ⟨w.heap.size, 0, none⟩) 1 1] (w.alloc (.cells #[.int .i64 n, .int .i64 v] 51)) fun e w' => e = .returned (.tuple #[pfV (fLast l (tHas (n, v))), .bool (fIs l (tHas (n, v)))]) ∧ Below w.heap.size w w' := by
  have hg := tg_grow 51 w n v
  refine (pmlast_any mp (some ⟨w.heap.size, 0, none⟩) 1 l [(n, v)] _ (h.below hg (Nat.le_refl _)) hl (by simp) (one_tag w n v)).mono ?_
  rintro e w' ⟨rfl, hb⟩
  exact ⟨by rw [tKn_one], below_on hg hb (by simp)⟩
theorem pmnum_any (mp : Option Addr) (l : List FD) (n v : Int) (w : World) (h : MsgIn w mp l) (hl : l.length ≤ 1099511627776) :
    Calls Tryd.prog 9 #[.pointer mp, .int .i64 n, .int .i64 v] w fun e w' => e = .returned (.tuple #[.int .u64 (fNum l n v : Nat), .bool (fNis l n v)]) ∧ Below w.heap.size w w' := by
  by_cases h2 : v = 2
  · have p1 : (v == 2) = true := beq_iff_eq.mpr h2
    have hR : (.tuple #[.int .u64 (fNum l n v : Nat), .bool (fNis l n v)] : Value) = .tuple #[.int .u64 0, .bool false] := by unfold fNum fNis; rw [if_pos h2, if_pos h2]; rfl
    have HR := Lib.hid hR
    clear h2 hR
    go_enter Tryd.func9, Tryd.ntmps9
    go_wp2
    go_ret2
    exact ⟨by rw [HR.out]; rfl, Below.refl _ _⟩
  · have p1 : (v == 2) = false := beq_eq_false_iff_ne.mpr h2
    have hR : (.tuple #[.int .u64 (fNum l n v : Nat), .bool (fNis l n v)] : Value) = .tuple #[.int .u64 ((fLast l (tHas (n, v))).2.2.1 : Nat), .bool (fIs l (tHas (n, v)))] := by unfold fNum fNis; rw [if_neg h2, if_neg h2]
    have HR := Lib.hid hR
    have HL := Lib.hid (one_last mp l n v w h hl)
    clear h2 hR
    generalize fLast l (tHas (n, v)) = x at *
    obtain ⟨x0, x1, x2, x3⟩ := x
    unfold pfV at HL
    dsimp only at HL HR
    go_enter Tryd.func9, Tryd.ntmps9
    go_wp2_with (go_at_call 19; refine HL.out.mono ?_; rintro e w1 ⟨rfl, hb⟩; have F1 := fd_alloc w1 (x0, x1, x2, x3) 47; have c2 := F1.c2; have B1 := Lib.hid (below_on hb (fd_grow w1 (x0, x1, x2, x3) 47) hb.size); clear F1 hb)
    go_ret2
    exact ⟨by rw [HR.out]; rfl, B1.out⟩
theorem pmtext_any (mp : Option Addr) (l : List FD) (n : Int) (w : World) (h : MsgIn w mp l) (hl : l.length ≤ 1099511627776) :
    Calls Tryd.prog 11 #[.pointer mp, .int .i64 n] w fun e w' => e = .returned (.tuple #[.string (fLast l (tHas (n, 2))).2.2.2, .bool (fIs l (tHas (n, 2)))]) ∧ Below w.heap.size w w' := by
  have HL := Lib.hid (one_last mp l n 2 w h hl)
  generalize fLast l (tHas (n, 2)) = x at *
  obtain ⟨x0, x1, x2, x3⟩ := x
  unfold pfV at HL
  dsimp only at HL ⊢
  go_enter Tryd.func11, Tryd.ntmps11
  go_wp2_with (go_at_call 19; refine HL.out.mono ?_; rintro e w1 ⟨rfl, hb⟩; have F1 := fd_alloc w1 (x0, x1, x2, x3) 47; have c3 := F1.c3; have B1 := Lib.hid (below_on hb (fd_grow w1 (x0, x1, x2, x3) 47) hb.size); clear F1 hb)
  go_ret2
  exact ⟨rfl, B1.out⟩
end Go.Proofs.YtipnaonagepolaaDoor
