/- PreadJoins, walked. -/
import Derived.Test.YtlfelhhghomglaaDoorPrWork
import Derived.Test.YtlfelhhghomglaaDoorPrSm
import Derived.Laws.AppendOwnNone
namespace Go.Proofs.YtlfelhhghomglaaDoor
open Go Go.RowKit
set_option linter.unusedVariables false

theorem jo_all (s : ByteArray) (w : World) (hs : s.size ≤ 1099511627776) (ht : Tab w) :
    Calls Tryd.prog 7 #[.string s] w fun e w' => ∃ v, e = .returned (.tuple #[v, .int .i64 (fAll s.data.toList).2]) ∧ FRow 37 w' w.heap.size v (fAll s.data.toList).1 ∧ Below w.heap.size w w' := by
  exact all_any s w (by omega) (.inl (by rw [toList_size]; exact hs)) ht
/-- 'append(list, more...)' of fields that are there, on a list that the call itself made, where the operation is wanted. -/
theorem wpList_append_fds {P : Program} {ops : Array Oper} {rest : List Oper} {o : Oper} {a : Act} {w : World} {Q : Exit → Act → World → Prop} (hw : Region.wanted o (yielded ops a.tmps) = true) (sl x : Operand) (t : TypeId)
    (ho : o.op = .call { callee := .builtin .append, args := #[sl, x], argTypes := #[t, t] })
    (e : TypeId) (ht : P.underlying t = some (.slice e)) (hi : (P.info? e).map (fun i => (i.zero, i.size, i.bytes)) = some (some (.agg #[.int .i64 0, .int .i64 0, .int .u64 0, .string ⟨#[]⟩]), 4, 40))
    (v : Value) (B : Nat) (l : List FD) (hb : FRow e w B v l) (hB : B ≤ w.heap.size) (hs : a.eval sl = v)
    (u : Value) (C : Nat) (m : List FD) (hm : FRow e w C u m) (hx : a.eval x = u) (hlen : l.length + m.length ≤ 1099511627776)
    (h : ∀ v' w', FRow e w' B v' (l ++ m) → Below B w w' → wpList P ops Q rest (a.put o.dst v') w') : wpList P ops Q (o :: rest) a w := by
  obtain ⟨i0, hi, hz, hz1, hz2⟩ := info_parts hi
  refine wpList_step fun K hK => ?_
  rw [if_pos hw]
  rcases hm.2 with ⟨rfl, hn⟩ | ⟨g, cap, cur, rfl, _, hg, _⟩
  · have h0 : m = [] := List.eq_nil_of_length_eq_zero hn
    subst h0
    have hrun := run_append_owned_none (P := P) (w := w) B t o.type e i0 4 ht hi v l.length (fV l) hb
    unfold Oper.wp
    simp [execOp, ho, resolve, invoke, builtin, hs, hx, hrun, Result.andThen]
    exact hK _ _ (h v w (by rw [List.append_nil]; exact hb) (Below.refl _ _))
  · refine wp_append_own w sl x t ho B e i0 (.agg #[.int .i64 0, .int .i64 0, .int .u64 0, .string ⟨#[]⟩]) 4 40 ht hi hz hz1 hz2 rfl (by decide) v l.length (fV l) hs hb ⟨g, 0, none⟩ m.length cap (fV m) hx (fV_length m) (World.ownsRow.cells hm rfl) (fV_one _) (by unfold maxLen; omega) (by omega) hB ?_
    intro v' w' hown hgr _
    refine hK _ _ (h v' w' ?_ ⟨hgr.os, hgr.tape, hgr.output, hgr.size, fun k hk => hgr.block k (by omega) (fun e => ?_)⟩)
    · unfold FRow
      rw [fV_append, List.length_append]
      exact hown
    · have := (World.ownsRow.lt hb k e.symm).1; omega
theorem frow_empty (w : World) (e : TypeId) : FRow e (w.alloc (.cells #[] e)) w.heap.size (.slice (some ⟨w.heap.size, 0, none⟩) 0 0) [] :=
  ⟨rfl, .inr ⟨w.heap.size, 0, #[], rfl, Nat.le_refl _, heap_alloc_new w _, Nat.le_refl _, by unfold maxLen; omega, rfl, rfl⟩⟩
theorem fjoin_long (s t : ByteArray) (w : World) (h : ¬ (s.size ≤ 200 ∧ t.size ≤ 200)) (ht : Tab w) :
    Calls Tryd.prog 5 #[.string s, .string t] w fun e w' => e = .returned (.bool true) ∧ Below w.heap.size w w' := by
  have HT := Lib.hid ht
  clear ht
  by_cases h1 : 200 < s.size
  · have p1 : decide (200 < (s.size : Int)) = true := decide_eq_true (by omega)
    clear h
    go_enter Tryd.func5, Tryd.ntmps5
    go_wp2_with ((with_reducible refine (works17_any _ HT.out).mono ?_); rintro e w2 ⟨rfl, hbel2⟩)
    go_ret
    exact ⟨rfl, hbel2⟩
  · have p1 : decide (200 < (s.size : Int)) = false := decide_eq_false (by omega)
    have p2 : decide (200 < (t.size : Int)) = true := decide_eq_true (by omega)
    clear h
    go_enter Tryd.func5, Tryd.ntmps5
    go_wp2_with ((with_reducible refine (works17_any _ HT.out).mono ?_); rintro e w2 ⟨rfl, hbel2⟩)
    go_ret
    exact ⟨rfl, hbel2⟩
set_option maxRecDepth 100000 in
set_option maxHeartbeats 4000000 in
theorem fjoin_short (s t : ByteArray) (w : World) (h : s.size ≤ 200) (h' : t.size ≤ 200) (ht : Tab w) :
    Calls Tryd.prog 5 #[.string s, .string t] w fun e w' => e = .returned (.bool true) ∧ Below w.heap.size w w' := by
  have p1 : decide (200 < (s.size : Int)) = false := decide_eq_false (by omega)
  have p2 : decide (200 < (t.size : Int)) = false := decide_eq_false (by omega)
  have HT := Lib.hid (show ∀ w', Below w.heap.size w w' → Tab w' from fun w' hb => ht.below hb ht.lt)
  have HA := Lib.hid (jo_all s w (by omega) ht)
  have HB := Lib.hid (fun w ht => jo_all t w (by omega) ht)
  have hst : (s ++ t).size = s.size + t.size := ByteArray.size_append
  have HC := Lib.hid (fun w ht => jo_all (s ++ t) w (by omega) ht)
  have e1 : (s ++ t).data.toList = s.data.toList ++ t.data.toList := by simp
  have HJ := Lib.hid (fAll_app t.data.toList s.data.toList)
  have HW := Lib.hid (fAll_wrong t.data.toList s.data.toList)
  have HN := Lib.hid (fAll_none t.data.toList)
  have l1 := fAll_len s.data.toList
  have l2 := fAll_len t.data.toList
  have l3 := fAll_len (s.data.toList ++ t.data.toList)
  rw [List.length_append] at l3
  rw [toList_size] at l1 l2 l3
  rw [toList_size] at l3
  rw [e1] at HC
  clear e1 ht
  generalize fAll (s.data.toList ++ t.data.toList) = C at *
  generalize fAll s.data.toList = A at *
  generalize fAll t.data.toList = B at *
  obtain ⟨A, x⟩ := A
  obtain ⟨B, y⟩ := B
  obtain ⟨C, z⟩ := C
  dsimp only at *
  go_enter Tryd.func5, Tryd.ntmps5
  go_wp2_with fail
  refine HA.out.mono ?_
  rintro e w1 ⟨a, rfl, r1, b1⟩
  go_wp2_with fail
  refine (HB.out _ (HT.out _ b1)).mono ?_
  rintro e w2 ⟨b, rfl, r2, b2⟩
  have r1 := r1.below b2 (Nat.le_refl _)
  have r2 := r2.base b1.size
  have b2 := grown_then b1 b2
  clear b1
  go_wp2_with fail
  refine (HC.out _ (HT.out _ b2)).mono ?_
  rintro e w3 ⟨c, rfl, r3, b3⟩
  have R1 := Lib.hid (r1.below b3 (Nat.le_refl _))
  have R2 := Lib.hid (r2.below b3 (Nat.le_refl _))
  have R3 := Lib.hid (r3.base b2.size)
  have B3 := Lib.hid (grown_then b2 b3)
  clear r1 r2 r3 b2 b3 HA HB HC
  by_cases hx : x = 0
  · by_cases hy : y = 0
    · have hz := HJ.out hx
      rw [if_neg (by simp [hy])] at hz
      obtain ⟨hC, hz⟩ := Prod.mk.inj hz
      subst hx hy hz
      have HCe := Lib.hid hC
      clear HJ HW HN hC
      obtain ⟨c3, k3, hc, i3⟩ := R3.out.inn
      subst hc
      go_wp2_with fail
      with_reducible refine (fback c3 k3 C (by omega) i3).mono ?_
      rintro e w4 ⟨d4, k4, rfl, i4, b4⟩
      have R15 := (R1.out.below b4 (Nat.le_refl _)).below ((Below.refl _ w4).alloc (Nat.le_refl _) (.cells #[] 37)) (Nat.le_refl _)
      have R24 := R2.out.below b4 (Nat.le_refl _)
      have BA := (Below.refl w4.heap.size w4).alloc (Nat.le_refl _) (.cells #[] 37)
      have B4 := grown_then B3.out b4
      clear b4 i3
      have i4 := Lib.hid i4
      have B4 := Lib.hid B4
      go_wp2_with (first
        | (at_builtin; (refine wpList_append_fds (by rfl) (.tmp 67) (.tmp 68) 23 rfl 37 Tryd.underlying23 infoPf _ w4.heap.size [] (frow_empty w4 37) (by simp) rfl _ _ A R15 rfl (by simp; omega) ?_; intro v5 w5 hv5 hb5; have R26 := R24.below (BA.trans hb5) (Nat.le_refl _)))
        | (at_builtin; (refine wpList_append_fds (by rfl) (.tmp 69) (.tmp 70) 23 rfl 37 Tryd.underlying23 infoPf _ w4.heap.size ([] ++ A) hv5 (BA.trans hb5).size rfl _ _ B R26 rfl (by simp; omega) ?_; intro v6 w6 hv6 hb6)))
      have B6 := BA.trans (hb5.trans hb6)
      have r6 := Lib.hid (show FRow 37 w6 w4.heap.size v6 C from by rw [HCe.out]; exact hv6)
      have i6 := Lib.hid (i4.out.below B6 (Nat.le_refl _))
      have B6 := Lib.hid (grown_then B4.out B6)
      clear hv5 hv6 hb5 hb6 R15 R24 R26 BA B4 i4
      obtain ⟨d6, k6, hv, i7⟩ := r6.out.inn
      subst hv
      clear r6
      with_reducible refine (fback d6 k6 C (by omega) i7).mono ?_
      rintro e w7 ⟨d7, k7, rfl, i8, b7⟩
      have i9 := i6.out.below b7 (Nat.le_refl _)
      have B7 := Lib.hid (grown_then B6.out b7)
      clear i7 b7 B6 i6
      go_wp2_with fail
      with_reducible refine (fsame d4 d7 k4 k7 C w7 (by omega) i9 i8).mono ?_
      rintro e w8 ⟨rfl, b8⟩
      have B8 := Lib.hid (grown_then B7.out b8)
      clear b8 i8 i9 B7
      go_wp2_with fail
      with_reducible refine (works17_any _ (HT.out _ B8.out)).mono ?_
      rintro e w9 ⟨rfl, b9⟩
      have B9 := Lib.hid (grown_then B8.out b9)
      clear b9 B8
      go_wp2
      go_ret
      exact ⟨rfl, B9.out⟩
    · have hz := HJ.out hx
      rw [if_pos hy] at hz
      obtain ⟨hC, hz⟩ := Prod.mk.inj hz
      subst hx hz hC
      have q1 : (z != 0) = true := bne_iff_ne.mpr hy
      obtain ⟨c3, k3, hc, _⟩ := R3.out.inn
      subst hc
      clear HJ HW HN
      go_wp2_with fail
      with_reducible refine (works17_any _ (HT.out _ B3.out)).mono ?_
      rintro e w4 ⟨rfl, b4⟩
      have B4 := Lib.hid (grown_then B3.out b4)
      clear b4
      go_wp2
      go_ret
      exact ⟨rfl, B4.out⟩
  · have q1 : (x != 0) = true := bne_iff_ne.mpr hx
    by_cases h1 : x = 1
    · subst h1
      clear HJ HW HN hx q1
      go_wp2_with fail
      with_reducible refine (works17_any _ (HT.out _ B3.out)).mono ?_
      rintro e w4 ⟨rfl, b4⟩
      have B4 := Lib.hid (grown_then B3.out b4)
      clear b4
      go_wp2
      go_ret
      exact ⟨rfl, B4.out⟩
    · have q2 : (x == 1) = false := beq_eq_false_iff_ne.mpr h1
      have hz := HW.out hx h1
      subst hz
      clear HJ HW HN hx h1
      go_wp2_with fail
      with_reducible refine (works17_any _ (HT.out _ B3.out)).mono ?_
      rintro e w4 ⟨rfl, b4⟩
      have B4 := Lib.hid (grown_then B3.out b4)
      clear b4
      go_wp2
      go_ret
      exact ⟨rfl, B4.out⟩
theorem fjoin_any (s t : ByteArray) (w : World) (hs : s.size ≤ 140737488351232) (hs' : t.size ≤ 140737488351232) (ht : Tab w) :
    Calls Tryd.prog 5 #[.string s, .string t] w fun e w' => e = .returned (.bool true) ∧ Below w.heap.size w w' := by
  by_cases h : s.size ≤ 200 ∧ t.size ≤ 200
  · exact fjoin_short s t w h.1 h.2 ht
  · exact fjoin_long s t w h ht
end Go.Proofs.YtlfelhhghomglaaDoor
