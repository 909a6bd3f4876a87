/- Package pread: fields: the function over which All ranges. -/
import Derived.Test.YtjpppnfkpnfhoaaDoorPrB
import Derived.Test.YtjpppnfkpnfhoaaDoorRng
namespace Go.Proofs.YtjpppnfkpnfhoaaDoor
open Go Go.RowKit
set_option linter.unusedVariables false
attribute [local go_sem] Oper.semAt_some

theorem fields_any (s : ByteArray) (w : World) :
    Calls Tryd.prog 18 #[.string s] w fun e w' => e = .returned (.func (.func 30) #[] #[.pointer (some ⟨w.heap.size, 0, none⟩)]) ∧ w' = w.alloc (.cells #[.string s] 9) := by
  have hmf : ∀ (fn : Fn) (first cap : Array Value) (w : World), (Instr.makeFunc fn first cap).run Tryd.prog w = .ok (.func fn first cap) w := fun _ _ _ _ => rfl
  go_enter Tryd.func18, Tryd.ntmps18
  go_wp2
  go_ret
  exact ⟨rfl, rfl⟩

/-- There are not too many fields for a list: the text is short, or it is just so many fields. -/
def FFew (l : List UInt8) : Prop := l.length ≤ 1099511627776 ∨ ((fAll l).2 = 0 ∧ (fAll l).1.length ≤ 1099511627776)
/-- Behind k bytes, and the fields that came. -/
def FPre (l : List UInt8) (k : Nat) (pre : List FD) : Prop := k ≤ l.length ∧ pre.length ≤ k ∧
  fAll l = if (fAll (l.drop k)).2 ≠ 0 then ([], (fAll (l.drop k)).2) else (pre ++ (fAll (l.drop k)).1, 0)
theorem FPre.first (l : List UInt8) : FPre l 0 [] := by
  refine ⟨Nat.zero_le _, Nat.le_refl _, ?_⟩
  rw [List.drop_zero]
  by_cases h : (fAll l).2 ≠ 0
  · rw [if_pos h]; exact Prod.ext (fAll_none l h) rfl
  · rw [if_neg h]; exact Prod.ext rfl (by simpa using h)
theorem FPre.few {l : List UInt8} {k : Nat} {pre : List FD} (h : FPre l k pre) (hf : FFew l) : pre.length ≤ 1099511627776 := by
  obtain ⟨h1, h2, h3⟩ := h
  rcases hf with hf | ⟨hf, hn⟩
  · omega
  · rw [h3] at hf hn
    by_cases hd : (fAll (l.drop k)).2 ≠ 0
    · rw [if_pos hd] at hf; exact absurd hf hd
    · rw [if_neg hd] at hn
      rw [List.length_append] at hn
      omega
theorem FPre.last {l : List UInt8} {pre : List FD} (h : FPre l l.length pre) : fAll l = (pre, 0) := by
  have := h.2.2
  rw [List.drop_length, fAll_nil] at this
  rw [this]; simp
theorem FPre.more {l : List UInt8} {k : Nat} {pre : List FD} (h : FPre l k pre) (hk : k < l.length) (h0 : (fRd (l.drop k)).1 = 0) :
    FPre l (k + (fRd (l.drop k)).2.1) (pre ++ [(fRd (l.drop k)).2.2]) ∧ k < k + (fRd (l.drop k)).2.1 := by
  obtain ⟨h1, h2, h3⟩ := h
  have hne : l.drop k ≠ [] := fun e => by have := congrArg List.length e; rw [List.length_drop] at this; simp at this; omega
  have hp := fRd_pos h0
  rw [List.length_drop] at hp
  refine ⟨⟨by omega, by rw [List.length_append]; simp; omega, ?_⟩, by omega⟩
  rw [h3, fAll_more hne h0, List.drop_drop]
  by_cases hd : (fAll (l.drop (k + (fRd (l.drop k)).2.1))).2 ≠ 0
  · rw [if_pos hd, if_pos hd, if_pos hd]
  · rw [if_neg hd, if_neg hd, if_neg (by simp)]; simp
theorem FPre.stop {l : List UInt8} {k : Nat} {pre : List FD} (h : FPre l k pre) (hk : k < l.length) (h0 : ¬ (fRd (l.drop k)).1 = 0) : fAll l = ([], (fRd (l.drop k)).1) := by
  obtain ⟨h1, h2, h3⟩ := h
  have hne : l.drop k ≠ [] := fun e => by have := congrArg List.length e; rw [List.length_drop] at this; simp at this; omega
  rw [fAll_bad hne h0] at h3
  rw [h3, if_pos h0]
/-- A field behind k bytes of a text. -/
theorem past_fTo (s : ByteArray) (k : Nat) (hk : k ≤ s.size) (hs : s.size ≤ 9223372036854775807) :
    ((CS.new s).past k).fTo.er = (fRd (s.data.toList.drop k)).1 ∧ ((fRd (s.data.toList.drop k)).1 = 0 → ((CS.new s).past k).fTo = (CS.new s).past (k + (fRd (s.data.toList.drop k)).2.1)) ∧ ((CS.new s).past k).fVal = (fRd (s.data.toList.drop k)).2.2 := by
  have hok : ((CS.new s).past k).ok := ⟨by show 0 + k ≤ s.size; omega, Nat.le_refl _, hs⟩
  have := CS.fTo_l hok rfl
  rw [CS.rest_past, new_rest, CS.past_past] at this
  exact this

set_option maxRecDepth 100000 in
set_option maxHeartbeats 4000000 in
theorem iter_any (s : ByteArray) (l Bn m : Nat) (W : World) (hs : s.size ≤ 9223372036854775807) (hfew : FFew s.data.toList)
    (St : Nat → CS → List FD → World → Prop) (Sx : Int → World → Prop)
    (h0 : ∀ b W', W.heap.size ≤ b → CurT 82 W' b (CS.new s) → Below W.heap.size W W' → St b (CS.new s) [] W')
    (h1 : ∀ b c c2 pre W1 W2, St b c pre W1 → Only b W1 W2 → CurT 82 W2 b c2 → St b c2 pre W2)
    (hc : ∀ b c pre W1, St b c pre W1 → CurT 82 W1 b c ∧ Tab W1 ∧ 0 ≠ b)
    (hY0 : ∀ b c pre x W1, St b c pre W1 → pre.length ≤ 1099511627776 → YieldAt Fence.wide m Tryd.prog l #[pfV x, .int .i64 0] W1 fun r W' => r = .returned (.bool true) ∧ St b c (pre ++ [x]) W')
    (hY1 : ∀ b c pre x e W1, ¬ e = 0 → St b c pre W1 → YieldAt Fence.wide m Tryd.prog l #[pfV x, .int .i64 e] W1 fun r W' => r = .returned (.bool false) ∧ Sx e W')
    (hB : W.cell? ⟨Bn, 0, none⟩ = some (.string s)) :
    CallsIn Fence.wide (m + 1) Tryd.prog 30 #[.func (.yield l) #[] #[], .pointer (some ⟨Bn, 0, none⟩)] W fun e W' => (∃ v, e = .returned v) ∧
      ((∃ b c pre, St b c pre W' ∧ fAll s.data.toList = (pre, 0)) ∨ (∃ e, ¬ e = 0 ∧ fAll s.data.toList = ([], e) ∧ Sx e W')) := by
  have hlen := toList_size s
  have H0 := Lib.hid h0
  have H1 := Lib.hid h1
  have HC := Lib.hid hc
  have HY0 := Lib.hid hY0
  have HY1 := Lib.hid hY1
  have HF := Lib.hid hfew
  have HLn := Lib.hid hlen
  clear h0 h1 hc hY0 hY1 hfew hlen
  refine callsIn_of_wp Tryd.func30 rfl trivial ?_ rfl
  simp only [Tryd.ntmps30, List.size_toArray, List.length_cons, List.length_nil, Nat.reduceAdd, Nat.reduceSub, Array.replicate_succ, Array.replicate_zero, List.push_toArray, List.append_toArray, List.nil_append, List.cons_append]
  gi_wp2_with (refine ⟨trivial, ?_⟩; gi_at_call 31; refine (callsIn_wide.2 (new_cur s _ hs)).mono ?_; rintro e w1 ⟨b, rfl, hb, hc1, hb1⟩)
  have S0 := Lib.hid (H0.out b w1 hb hc1 hb1)
  clear hb1 hc1 hb
  gi_loopw [] (fun wr => ∃ k pre, St b ((CS.new s).past k) pre wr ∧ FPre s.data.toList k pre) (fun wr => s.size - atOf b wr)
  case atStart => exact ⟨0, [], S0.out, FPre.first _⟩
  case round =>
    obtain ⟨k, pre, hst, hpre⟩ := hrel
    obtain ⟨q1, q2, q3⟩ := HC.out _ _ _ _ hst
    have hk : k ≤ s.size := by have := hpre.1; rw [HLn.out] at this; exact this
    have hok : ((CS.new s).past k).ok := ⟨by show 0 + k ≤ s.size; omega, Nat.le_refl _, hs⟩
    have HE := Lib.hid (show Calls Tryd.prog 32 #[.pointer (some ⟨b, 0, none⟩)] wr fun e w' => e = .returned (.int .i64 0) ∧ w' = wr from err_any q1)
    obtain ⟨L, hL⟩ : ∃ L, Hid (L = ((CS.new s).past k).en - ((CS.new s).past k).at_) := ⟨_, Lib.hid rfl⟩
    have eL : L = s.size - k := by rw [hL.out]; show s.size - (0 + k) = _; omega
    have HL := Lib.hid (left_nat q1 hok hL)
    have HS := Lib.hid hst
    have HP := Lib.hid hpre
    have hat := Lib.hid (atOf_cur q1)
    by_cases hlt : k < s.size
    · have p1 : decide ((0 : Int) < (L : Int)) = true := decide_eq_true (by omega)
      have p2 : decide (0 < L) = true := decide_eq_true (by omega)
      obtain ⟨f1, f2, f3⟩ := past_fTo s k hk hs
      have hm := fun h => HP.out.more (by rw [HLn.out]; exact hlt) h
      have hx := fun h => HP.out.stop (by rw [HLn.out]; exact hlt) h
      have HN := Lib.hid (fun w (h : CurT 82 w b ((CS.new s).past k)) (ht : Tab w) => fnext_any h hok ht q3)
      have hTab := Lib.hid q2
      have hCur := Lib.hid q1
      clear q1 q2 q3 hst hpre hok eL hL hlt
      generalize fRd (s.data.toList.drop k) = R at *
      rw [f3] at HN
      generalize ((CS.new s).past k).fTo = D at *
      obtain ⟨x, hxx⟩ : ∃ x, x = R.2.2 := ⟨_, rfl⟩
      rw [← hxx] at HN hm
      obtain ⟨x0, x1, x2, x3⟩ := x
      unfold pfV at HN
      dsimp only at HN
      by_cases he : R.1 = 0
      · have f2' := f2 he
        have hD : D.er = 0 := f1.trans he
        have HE2 := Lib.hid (fun w (h : CurT 82 w b D) => err_any h)
        rw [hD] at HE2
        obtain ⟨m1, m2⟩ := hm he
        have M1 := Lib.hid m1
        have M2 := Lib.hid m2
        have M3 := Lib.hid f2'
        clear hm hx f1 f2 f3 f2' hD he m1 m2 hxx
        gi_wp2_with (first
          | (refine ⟨trivial, ?_⟩; gi_at_call 32; refine (callsIn_wide.2 HE.out).mono ?_; rintro e w1 ⟨rfl, hw1⟩; rw [hw1]; clear hw1)
          | (refine ⟨trivial, ?_⟩; gi_at_call 33; refine (callsIn_wide.2 HL.out).mono ?_; rintro e w2 ⟨rfl, n, rfl⟩)
          | (refine ⟨trivial, ?_⟩; gi_at_call 34; refine (callsIn_wide.2 (HN.out _ (hCur.out.drewN n) hTab.out)).mono ?_; rintro e w3 ⟨rfl, c3, o3⟩))
        have S3 := H1.out _ _ D _ _ _ HS.out ((Only.drewN (Only.refl b wr) n).trans o3) c3
        have S4 := H1.out _ _ D _ _ (w3.alloc (.cells #[.int .i64 x0, .int .i64 x1, .int .u64 (x2 : Nat), .string x3] 38)) S3 ((Only.refl b w3).alloc _) (c3.allocOld _)
        have F4 := fd_alloc w3 (x0, x1, x2, x3) 38
        obtain ⟨w4, hw4⟩ : ∃ w4, w4 = w3.alloc (.cells #[.int .i64 x0, .int .i64 x1, .int .u64 (x2 : Nat), .string x3] 38) := ⟨_, rfl⟩
        have C4 := c3.allocOld (.cells #[.int .i64 x0, .int .i64 x1, .int .u64 (x2 : Nat), .string x3] 38)
        rw [← hw4] at S4 F4 C4 ⊢
        have g0 := F4.c0; have g1 := F4.c1; have g2 := F4.c2; have g3 := F4.c3
        have S5 := H1.out _ _ D _ _ w4.drew S4 ((Only.refl b w4).drew) C4
        have hmx : Tryd.prog.follows .mixedOrders = true := by kernel_rfl
        obtain ⟨fn, tm, ass, bo, hy, hR⟩ := HY0.out b D pre (x0, x1, x2, x3) w4.drew S5 (HP.out.few HF.out)
        unfold pfV at hy
        dsimp only at hy
        have C5 := Lib.hid (show CurT 82 w4.drew b D from C4)
        have hM := Lib.hid M2.out
        clear S3 S4 S5 c3 o3 hw4 F4 C4 M2
        generalize w3.heap.size = G at *
        gi_region_with_o (first
          | (refine ⟨trivial, ?_⟩; gi_at_call 32; refine (callsIn_wide.2 (HE2.out _ C5.out)).mono ?_; rintro e w1 ⟨rfl, hw1⟩; rw [hw1]; clear hw1)
          | (refine hR.mono ?_; rintro e w6 ⟨rfl, hst6⟩))
        all_goals (rw [M3.out] at hst6)
        all_goals simp only [Act.put, List.getElem_toArray, List.getElem_cons_succ, List.getElem_cons_zero, List.setIfInBounds_toArray, List.set_cons_succ, List.set_cons_zero]
        all_goals gi_wp2
        all_goals go_roundw
        all_goals first
          | exact ⟨_, _, hst6, M1.out⟩
          | (rw [hat.out, atOf_cur (HC.out _ _ _ _ hst6).1]
             show s.size - (0 + (k + R.2.1)) < s.size - (0 + k)
             have := M1.out.1
             rw [HLn.out] at this
             have := hM.out
             omega)
      · have hne : ¬ D.er = 0 := by rw [f1]; exact he
        have HE2 := Lib.hid (fun w (h : CurT 82 w b D) => err_any h)
        have HX := Lib.hid (hx he)
        rw [← f1] at HX
        have HNE := Lib.hid hne
        clear hm hx f1 f2 f3 he hne hxx
        gi_wp2_with (first
          | (refine ⟨trivial, ?_⟩; gi_at_call 32; refine (callsIn_wide.2 HE.out).mono ?_; rintro e w1 ⟨rfl, hw1⟩; rw [hw1]; clear hw1)
          | (refine ⟨trivial, ?_⟩; gi_at_call 33; refine (callsIn_wide.2 HL.out).mono ?_; rintro e w2 ⟨rfl, n, rfl⟩)
          | (refine ⟨trivial, ?_⟩; gi_at_call 34; refine (callsIn_wide.2 (HN.out _ (hCur.out.drewN n) hTab.out)).mono ?_; rintro e w3 ⟨rfl, c3, o3⟩))
        have S3 := H1.out _ _ D _ _ _ HS.out ((Only.drewN (Only.refl b wr) n).trans o3) c3
        have S4 := H1.out _ _ D _ _ (w3.alloc (.cells #[.int .i64 x0, .int .i64 x1, .int .u64 (x2 : Nat), .string x3] 38)) S3 ((Only.refl b w3).alloc _) (c3.allocOld _)
        have F4 := fd_alloc w3 (x0, x1, x2, x3) 38
        obtain ⟨w4, hw4⟩ : ∃ w4, w4 = w3.alloc (.cells #[.int .i64 x0, .int .i64 x1, .int .u64 (x2 : Nat), .string x3] 38) := ⟨_, rfl⟩
        have C4 := c3.allocOld (.cells #[.int .i64 x0, .int .i64 x1, .int .u64 (x2 : Nat), .string x3] 38)
        rw [← hw4] at S4 F4 C4 ⊢
        have g0 := F4.c0; have g1 := F4.c1; have g2 := F4.c2; have g3 := F4.c3
        have S5 := H1.out _ _ D _ _ w4.drew S4 ((Only.refl b w4).drew) C4
        have hmx : Tryd.prog.follows .mixedOrders = true := by kernel_rfl
        obtain ⟨fn, tm, ass, bo, hy, hR⟩ := HY1.out b D pre (x0, x1, x2, x3) D.er w4.drew HNE.out S5
        unfold pfV at hy
        dsimp only at hy
        have C5 := Lib.hid (show CurT 82 w4.drew b D from C4)
        clear S3 S4 S5 c3 o3 hw4 F4 C4
        generalize w3.heap.size = G at *
        gi_region_with_o (first
          | (refine ⟨trivial, ?_⟩; gi_at_call 32; refine (callsIn_wide.2 (HE2.out _ C5.out)).mono ?_; rintro e w1 ⟨rfl, hw1⟩; rw [hw1]; clear hw1)
          | (refine hR.mono ?_; rintro e w6 ⟨rfl, hst6⟩))
        all_goals gi_wp2
        all_goals exact bodyPost_ret (results_none rfl _ _ _) rfl ⟨⟨_, rfl⟩, .inr ⟨_, HNE.out, HX.out, hst6⟩⟩
    · have p1 : decide ((0 : Int) < (L : Int)) = false := decide_eq_false (by omega)
      have p2 : decide (0 < L) = false := decide_eq_false (by omega)
      have hks : k = s.size := by omega
      subst hks
      have HR := Lib.hid (HP.out)
      rw [← HLn.out] at HR
      have HA := Lib.hid HR.out.last
      have hcu := Lib.hid q1
      clear q1 q2 q3 hst hpre hok eL hL hlt HR
      gi_wp2_with (first
        | (refine ⟨trivial, ?_⟩; gi_at_call 32; refine (callsIn_wide.2 HE.out).mono ?_; rintro e w1 ⟨rfl, hw1⟩; rw [hw1]; clear hw1)
        | (refine ⟨trivial, ?_⟩; gi_at_call 33; refine (callsIn_wide.2 HL.out).mono ?_; rintro e w2 ⟨rfl, n, rfl⟩))
      go_end0
      exact ⟨⟨_, rfl⟩, .inl ⟨b, _, pre, H1.out _ _ _ _ _ _ HS.out ((Only.refl b wr).drewN n) (hcu.out.drewN n), HA.out⟩⟩
end Go.Proofs.YtjpppnfkpnfhoaaDoor
