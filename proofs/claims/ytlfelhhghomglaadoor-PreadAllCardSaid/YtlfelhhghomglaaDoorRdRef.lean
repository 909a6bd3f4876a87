/- The document's own readers (package truchmanref02): OfLow, ReadLow, ReadHigh. -/
import Derived.Test.YtlfelhhghomglaaDoorLayC
import Derived.Test.YtlfelhhghomglaaDoorRefA
import Derived.Deep.RegionWith
namespace Go.Proofs.YtlfelhhghomglaaDoor
open Go Go.RowKit
set_option linter.unusedVariables false

theorem ret_num3 {k : IntKind} {a b : Int} (h : a = b) : Ending.returned (.int k a) = .returned (.int k b) := by rw [h]

def OfRel (s : ByteArray) (W : World) (u i : Value) (wr : World) : Prop :=
  ∃ j : Nat, j ≤ s.size ∧ i = .int .i64 ((j : Int) - 1) ∧ u = .int .u64 ((valL (s.data.toList.drop j) : Nat) : Int) ∧ wr = W

theorem ofLow_any (s : ByteArray) (w : World) (hs : s.size ≤ 8) :
    Calls Tryd.prog 60 #[.string s] w fun e w' => e = .returned (.int .u64 ((valL s.data.toList : Nat) : Int)) ∧ w' = w := by
  have e1 : IntKind.i64.wrap ((s.size : Int) - 1) = (s.size : Int) - 1 := IntWalk.i64_in _ (by omega)
  go_enter Tryd.func60, Tryd.ntmps60
  go_wp2_with fail
  go_loopw [3, 4] (fun u i wr => OfRel s w u i wr) (fun _ i _ => (intOf i + 1).toNat)
  case atStart => exact ⟨s.size, Nat.le_refl _, rfl, by rw [List.drop_of_length_le (by rw [toList_size]; exact Nat.le_refl _)]; rfl, rfl⟩
  case round =>
    obtain ⟨j, hj, rfl, rfl, rfl⟩ := hrel
    match j, hj with
    | 0, hj =>
      go_wp2
      go_ret
      exact ⟨rfl, rfl⟩
    | i + 1, hj =>
      have hij : ((i + 1 : Nat) : Int) - 1 = (i : Nat) := by omega
      have his : i < s.size := by omega
      have p1 : decide ((0 : Int) ≤ (i : Nat)) = true := by simp
      have hl : i < s.data.toList.length := by rw [toList_size]; exact his
      have hv := valL_drop s.data.toList i hl
      rw [byte_at s i his hl] at hv
      have hlt : valL (s.data.toList.drop (i + 1)) < 256 ^ 7 := by
        have := valL_lt (s.data.toList.drop (i + 1))
        rw [List.length_drop, toList_size] at this
        exact Nat.lt_of_lt_of_le this (p256 (by omega))
      have hb := (s[i]).toNat_lt
      have HV := Lib.hid hv
      clear hv
      generalize valL (s.data.toList.drop (i + 1)) = V at *
      have hV2 : 256 ^ 7 = 72057594037927936 := by decide
      rw [hV2] at hlt
      rw [hij]
      go_wp2
      go_roundw
      case rel => exact ⟨i, by omega, rfl, by rw [HV.out]; go_num, rfl⟩
      case measure => first | (simp [intOf]; done) | (simp [intOf]; omega)


set_option maxHeartbeats 4000000 in
theorem ref_readLow (c : CS) (n : Nat) (w : World) (hc : c.ok) (hn : n ≤ 8) (hs : (c.takeS n).size ≤ 8) :
    Calls Tryd.prog 49 #[.agg #[.string c.s, .int .i64 c.at_, .int .i64 c.en, .int .i64 c.er], .int .i64 n] w fun e w' => e = .returned (.tuple #[(c.take n).val, .int .u64 ((valL (c.takeS n).data.toList : Nat) : Int)]) ∧ Below w.heap.size w w' := by
  have HT := Lib.hid (fun w => ref_take c n w hc)
  have HO := Lib.hid (fun w => ofLow_any (c.takeS n) w hs)
  generalize c.takeS n = s at *
  generalize hd : c.take n = d at *
  have hdv := Lib.hid (show d.val = .agg #[.string d.s, .int .i64 d.at_, .int .i64 d.en, .int .i64 d.er] from rfl)
  clear hd
  go_enter Tryd.func49, Tryd.ntmps49
  go_wp2_with fail
  refine (HT.out _).mono ?_
  rintro e w1 ⟨rfl, hb1⟩
  obtain ⟨q1, q2, hbel⟩ := two_laid c CS.zero 33 hb1
  clear hb1
  have a0 := q1.c0; have a1 := q1.c1; have a2 := q1.c2; have a3 := q1.c3; have af := q1.fr
  have b0 := q2.c0; have b1 := q2.c1; have b2 := q2.c2; have b3 := q2.c3; have bf := q2.fr
  rw [hdv.out]
  go_wp2
  go_region_with ((with_reducible refine (HO.out _).mono ?_); rintro e w' ⟨rfl, rfl⟩)
  all_goals go_wp2
  all_goals refine bodyPost_ret (v := .tuple #[.agg #[.string d.s, .int .i64 d.at_, .int .i64 d.en, .int .i64 d.er], .int .u64 ((valL s.data.toList : Nat) : Int)]) (by simp [results, Tryd.results49, go_sem, b0, b1, b2, b3]) rfl ⟨ret_pair hdv.out.symm rfl, ?_⟩
  all_goals go_grown

def HiRel (s : ByteArray) (W : World) (u i : Value) (wr : World) : Prop :=
  ∃ k : Nat, k ≤ s.size ∧ i = .int .i64 (k : Nat) ∧ u = .int .u64 ((valL (s.data.toList.take k).reverse : Nat) : Int) ∧ wr = W


end Go.Proofs.YtlfelhhghomglaaDoor
