/- Package ptag: Put, meant, Read; slices.Clone of bytes. -/
import Derived.Test.YtjpppnfkpnfhoaaPtA
namespace Go.Proofs.Ytjpppnfkpnfhoaa
open Go Go.RowKit
set_option linter.unusedVariables false

theorem add_at (b off j : Nat) : (Addr.mk b off none).add j = ⟨b, off + j, none⟩ := by unfold Addr.add; split <;> simp_all

set_option maxHeartbeats 2000000 in
/-- slices.Clone of bytes that were there: a list of the call's own, of the same bytes. -/
theorem clone_any (a : Option Addr) (cap : Nat) (l : List UInt8) (w : World) (hl : l.length ≤ 140737488351232) (hin : BIn w a l) :
    Calls Try.prog 57 #[.slice a l.length cap] w fun e w' => ∃ v, e = .returned v ∧ Bts 5 w' w.heap.size v l ∧ Below w.heap.size w w' := by
  have q : ∀ (w : World) (a : Option Addr) (n c n' c' : Nat), (binOp .eql 48 (.slice a n c) (.slice none n' c')).run Try.prog w = .ok (.bool a.isNone) w := fun w a n c n' c' => Lib.run_eql_slice_nil w _ _ a n c n' c' Try.underlying48
  match a with
  | none =>
    have hz : l = [] := by
      cases l with
      | nil => rfl
      | cons x t => obtain ⟨b, off, e, _⟩ := hin 0 (by simp); cases e
    subst hz
    have HB := Lib.hid (show Bts 5 w w.heap.size (.slice none 0 0) [] from ⟨by simp [bV], .inl ⟨rfl, rfl⟩⟩)
    clear hin
    go_enter Try.func57, Try.ntmps57
    go_wp2
    go_ret
    exact ⟨_, rfl, HB.out, Below.refl _ _⟩
  | some A =>
    obtain ⟨i0, hi, hz0, hz1, hz2⟩ := info_parts info8
    have HC := Lib.hid (show ∀ j u, (bV l)[j]? = some u → w.cell? (A.add j) = some u from fun j u hj => by
      have hjl : j < l.length := by
        have := (List.getElem?_eq_some_iff.1 hj).1
        rwa [bV_length] at this
      obtain ⟨b, off, e, _, hc⟩ := hin j hjl
      obtain rfl : A = ⟨b, off, none⟩ := by simpa using e
      rw [add_at, hc, ← bV_get l j hjl]; exact hj)
    clear hin
    go_enter Try.func57, Try.ntmps57
    go_wp2_with (at_builtin; refine wpList_append_own _ rfl _ _ 48 rfl w.heap.size 5 i0 (.int .u8 0) 1 1 Try.underlying48 hi hz0 hz1 hz2 rfl (by decide) _ _ _ rfl (World.ownsRow_made w #[] 0 (Nat.le_refl _) (Nat.zero_le _) rfl) A l.length cap (bV l) rfl ?qc1 ?qc2 ?qc3 ?qc4 ?qc5 ?qc6 ?_)
    case qc1 => rw [bV_length, Nat.mul_one]
    case qc2 => intro j u hj; exact Lib.cell?_alloc_some _ (HC.out j u hj)
    case qc3 => exact bV_one l
    case qc4 => unfold maxLen; omega
    case qc5 => omega
    case qc6 => simp
    intro v' w1 hown hgrow hnil
    go_wp2
    go_ret
    refine ⟨v', rfl, by unfold Bts; simpa using hown, ?_⟩
    exact ((Below.refl _ w).alloc (Nat.le_refl _) _).grown hgrow (by simp) (by intro k hk; simp [Value.ownBlock] at hk; omega)

theorem tput_any (a : Option Addr) (cap : Nat) (l : List UInt8) (n v : Int) (w : World) (hl : l.length ≤ 140737488351232) (hin : BIn w a l) :
    Calls Try.prog 53 #[.slice a l.length cap, tgV n v] w fun e w' => ∃ x, e = .returned x ∧ Bts 5 w' w.heap.size x (l ++ tagL n v) ∧ Below w.heap.size w w' := by
  have HM := Lib.hid (fun w => may_any n v w)
  rcases Bool.eq_false_or_eq_true (tagB n v) with h | h
  · rw [h] at HM
    have HW := Lib.hid (fun w => whole_any n v w h)
    have hU := tagU_lt h
    have HP := Lib.hid (fun w hin => vput_any a cap l (tagU n v) w hl (by omega) hin)
    have HR := Lib.hid (show tagL n v = vB (tagU n v) from if_pos h)
    have HI := Lib.hid hin
    clear h hin hU
    go_enter Try.func53, Try.ntmps53
    go_wp2_with fail
    with_reducible refine (HM.out _).mono ?_
    rintro e w1 ⟨rfl, b1⟩
    have k1 := Lib.hid (below_on (tg_grow 64 w n v) b1 (by simp))
    have A1 := (tg_alloc 64 w n v).below b1 (by simp)
    have c0 := A1.c0; have c1 := A1.c1
    clear b1 A1
    go_wp2_with fail
    with_reducible refine (HW.out _).mono ?_
    rintro e w2 ⟨rfl, b2⟩
    have k2 := Lib.hid (grown_then k1.out b2)
    clear b2 c0 c1
    go_wp2_with fail
    with_reducible refine (HP.out _ (HI.out.below k2.out)).mono ?_
    rintro e w3 ⟨x, rfl, hb, b3⟩
    have k3 := Lib.hid (grown_then k2.out b3)
    have hb3 := Lib.hid (hb.base k2.out.size)
    clear b3 hb
    go_wp2
    go_ret
    exact ⟨_, rfl, by rw [HR.out]; exact hb3.out, k3.out⟩
  · rw [h] at HM
    have HC := Lib.hid (fun w hin => clone_any a cap l w hl hin)
    have HR := Lib.hid (show l ++ tagL n v = l by unfold tagL; simp [h])
    have HI := Lib.hid hin
    clear h hin
    go_enter Try.func53, Try.ntmps53
    go_wp2_with fail
    with_reducible refine (HM.out _).mono ?_
    rintro e w1 ⟨rfl, b1⟩
    have k1 := Lib.hid (below_on (tg_grow 64 w n v) b1 (by simp))
    clear b1
    go_wp2_with fail
    with_reducible refine (HC.out _ (HI.out.below k1.out)).mono ?_
    rintro e w3 ⟨x, rfl, hb, b3⟩
    have k3 := Lib.hid (grown_then k1.out b3)
    have hb3 := Lib.hid (hb.base k1.out.size)
    clear b3 hb
    go_wp2
    go_ret
    exact ⟨_, rfl, by rw [HR.out]; exact hb3.out, k3.out⟩


end Go.Proofs.Ytjpppnfkpnfhoaa
