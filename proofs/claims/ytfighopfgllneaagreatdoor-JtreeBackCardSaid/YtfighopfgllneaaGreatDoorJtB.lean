/- Package jtoken's first, spelt. -/
import Derived.Test.YtfighopfgllneaaGreatDoorZI
import Derived.Deep.Cut
import Derived.Deep.RegionWith
import Derived.OneCell
import Derived.OwnWalk
namespace Go.Proofs.YtfighopfgllneaaGreatDoor
open Go Go.RowKit
set_option linter.unusedVariables false

theorem peek_bad {b : Nat} {c : CS} {w : World} (h : CurT 71 w b c) (hc : c.ok) (h0 : ¬ c.er = 0) :
    Calls Tryz.prog 57 #[.pointer (some ⟨b, 0, none⟩)] w fun e w' => e = .returned (.tuple #[.int .u8 (((0 : UInt8).toNat : Nat) : Int), .bool false]) ∧ CurT 71 w' b c ∧ Below w.heap.size w w' := by
  have h1 : c.peekIs = false := by unfold CS.peekIs; simp [h0]
  have := peek_any h hc
  rw [CS.peekB_no h1, h1] at this
  refine this.mono ?_
  rintro e w' ⟨he, n, hw⟩
  rw [hw]
  exact ⟨he, h.drewN n, drew_below w n⟩
theorem peek_no {b : Nat} {c : CS} {w : World} (h : CurT 71 w b c) (hc : c.ok) (hb : c.bs = []) :
    Calls Tryz.prog 57 #[.pointer (some ⟨b, 0, none⟩)] w fun e w' => e = .returned (.tuple #[.int .u8 (((0 : UInt8).toNat : Nat) : Int), .bool false]) ∧ CurT 71 w' b c ∧ Below w.heap.size w w' := peek_none h hc hb
theorem bl_in {l : List UInt8} {k : Nat} (hk : k ≤ bL l) {x : UInt8} {t : List UInt8} (hd : l.drop k = x :: t) : (tBl x = true → k + 1 ≤ bL l) ∧ (tBl x = false → k = bL l) := by
  constructor
  · intro hx
    rcases Nat.lt_or_ge k (bL l) with h | h
    · exact h
    · obtain rfl : k = bL l := by omega
      rw [drop_bl l x t hd] at hx; cases hx
  · intro hx
    rcases Nat.lt_or_ge k (bL l) with h | h
    · have h1 : k < l.length := Nat.lt_of_lt_of_le h (bl_len l)
      have h2 : l[k] = x := by
        have := List.drop_eq_getElem_cons h1
        rw [hd] at this
        exact (List.cons.inj this).1.symm
      have h3 : l[k] ∈ l.takeWhile tBl := by
        have h4 : l.takeWhile tBl = l.take (bL l) := List.prefix_iff_eq_take.1 (List.takeWhile_prefix tBl)
        rw [h4, List.mem_take_iff_getElem]
        exact ⟨k, by omega, rfl⟩
      have h5 := List.all_eq_true.mp (List.all_takeWhile (p := tBl) (l := l)) _ h3
      rw [h2, hx] at h5; cases h5
    · omega
theorem sz_drop (s : ByteArray) (k : Nat) (h : k < s.size) : s.data.toList.drop k = s[k] :: s.data.toList.drop (k + 1) := by
  have h' : k < s.data.toList.length := by rw [toList_size]; exact h
  rw [List.drop_eq_getElem_cons h', byte_at s k h h']
theorem bl_end {l : List UInt8} {k : Nat} (hk : k ≤ bL l) (hd : l.drop k = []) : k = bL l := by
  have := congrArg List.length hd
  have := bl_len l
  simp at *
  omega
/-- The byte behind the blanks, and whether there is one. -/
def fB (l : List UInt8) : UInt8 × Bool := match l.drop (bL l) with
  | [] => (0, false)
  | x :: _ => (x, true)
def FstRel (c : CS) (b : Nat) (W wr : World) : Prop := ∃ k, k ≤ bL c.bs ∧ CurT 71 wr b (c.past k) ∧ Only b W wr
theorem am_bl (x : UInt8) (w : World) :
    Calls Tryz.prog 58 #[.int .u8 (x.toNat : Int), .slice (some ⟨w.heap.size, 0, none⟩) 4 4] (w.alloc (.cells #[.int .u8 32, .int .u8 9, .int .u8 10, .int .u8 13] 5)) fun e w' => e = .returned (.bool (tBl x)) ∧ Below w.heap.size w w' :=
  among_new x w 4 [32, 9, 10, 13] _ _ _ rfl rfl rfl (by decide)
theorem am_zero (w : World) :
    Calls Tryz.prog 58 #[.int .u8 0, .slice (some ⟨w.heap.size, 0, none⟩) 4 4] (w.alloc (.cells #[.int .u8 32, .int .u8 9, .int .u8 10, .int .u8 13] 5)) fun e w' => e = .returned (.bool false) ∧ Below w.heap.size w w' := by
  have := am_bl 0 w
  rw [show tBl 0 = false by decide] at this; exact this
set_option maxRecDepth 20000 in
set_option maxHeartbeats 1000000 in
theorem first_any {b : Nat} {c : CS} {w : World} (h : CurT 71 w b c) (hc : c.ok) (h0 : c.er = 0) :
    Calls Tryz.prog 47 #[.pointer (some ⟨b, 0, none⟩)] w fun e w' => e = .returned (.tuple #[.int .u8 ((fB c.bs).1.toNat : Int), .bool (fB c.bs).2]) ∧ CurT 71 w' b (c.past (bL c.bs)) ∧ Only b w w' := by
  have HC := Lib.hid (And.intro hc h0)
  have hbl := h.lt
  have hlen := CS.bs_length hc
  have hbb := bl_len c.bs
  clear hc h0
  go_enter Tryz.func47, Tryz.ntmps47
  go_wp2_with fail
  go_loopw [2, 3, 4, 5] (fun _ _ _ _ wr => FstRel c b w wr) (fun _ _ _ _ wr => c.en + 1 - atOf b wr)
  case atStart => exact ⟨0, Nat.zero_le _, h, Only.refl _ _⟩
  case round =>
    obtain ⟨k, hk, hq, ho⟩ := hrel
    have hok := Lib.hid (CS.past_fine HC.out.1 (Nat.le_trans hk hbb))
    have hat := Lib.hid (atOf_cur hq)
    have hbp := CS.bs_past c k
    have hsz := ho.size
    match hd : c.bs.drop k with
    | [] =>
      have HP := Lib.hid (peek_no hq hok.out (hbp.trans hd))
      have he := bl_end hk hd
      have HR := Lib.hid (show fB c.bs = (0, false) ∧ k = bL c.bs from ⟨by unfold fB; rw [← he, hd], he⟩)
      have HA := Lib.hid (fun w => am_zero w)
      clear hd he hbp
      go_wp2_with fail
      with_reducible refine HP.out.mono ?_
      rintro e w1 ⟨rfl, hq1, hb1⟩
      have ho1 := only_then ho hb1 hsz
      clear hb1 hq
      go_wp2_with fail
      with_reducible refine (HA.out _).mono ?_
      rintro e w2 ⟨rfl, hb2⟩
      have hq2 := Below.cur hb2 hq1 hq1.lt
      have ho2 := only_then ho1 hb2 ho1.size
      clear hb2 hq1
      go_wp2
      go_ret2
      exact ⟨ret_peek (by rw [HR.out.1]; rfl) (by rw [HR.out.1]), by rw [← HR.out.2]; exact hq2, ho2⟩
    | x :: t =>
      have HP := Lib.hid (peek_next hq hok.out HC.out.2 (hbp.trans hd))
      have hin := bl_in hk hd
      have HA := Lib.hid (fun w => am_bl x w)
      by_cases hx : tBl x = true
      · have HB := Lib.hid (fun w h => byte_next (w := w) (b := b) h hok.out HC.out.2 (hbp.trans hd))
        rw [CS.past_past] at HB
        have HK := Lib.hid (hin.1 hx)
        rw [hx] at HA
        clear hx hin hbp hd
        go_wp2_with fail
        with_reducible refine HP.out.mono ?_
        rintro e w1 ⟨rfl, hq1, hb1⟩
        have ho1 := only_then ho hb1 hsz
        clear hb1 hq
        go_wp2_with fail
        with_reducible refine (HA.out _).mono ?_
        rintro e w2 ⟨rfl, hb2⟩
        have hq2 := Below.cur hb2 hq1 hq1.lt
        have ho2 := only_then ho1 hb2 ho1.size
        clear hb2 hq1
        go_wp2_with fail
        with_reducible refine (HB.out _ hq2).mono ?_
        rintro e w3 ⟨rfl, hq3, ho3⟩
        have ho4 := ho2.trans ho3
        go_wp2
        go_roundw
        case rel => exact ⟨k + 1, HK.out, hq3, ho4⟩
        case measure =>
          have h1 := HC.out.1.1
          have h2 := HK.out
          rw [atOf_cur hq3, hat.out]
          show c.en + 1 - (c.at_ + (k + 1)) < c.en + 1 - (c.at_ + k)
          omega
      · have hx2 := (Bool.not_eq_true _).mp hx
        rw [hx2] at HA
        have he := hin.2 hx2
        have HR := Lib.hid (show fB c.bs = (x, true) ∧ k = bL c.bs from ⟨by unfold fB; rw [← he, hd], he⟩)
        clear hx hx2 hin hbp hd he
        go_wp2_with fail
        with_reducible refine HP.out.mono ?_
        rintro e w1 ⟨rfl, hq1, hb1⟩
        have ho1 := only_then ho hb1 hsz
        clear hb1 hq
        go_wp2_with fail
        with_reducible refine (HA.out _).mono ?_
        rintro e w2 ⟨rfl, hb2⟩
        have hq2 := Below.cur hb2 hq1 hq1.lt
        have ho2 := only_then ho1 hb2 ho1.size
        clear hb2 hq1
        go_wp2
        go_ret2
        exact ⟨ret_peek (by rw [HR.out.1]) (by rw [HR.out.1]), by rw [← HR.out.2]; exact hq2, ho2⟩
theorem first_bad {b : Nat} {c : CS} {w : World} (h : CurT 71 w b c) (hc : c.ok) (h0 : ¬ c.er = 0) :
    Calls Tryz.prog 47 #[.pointer (some ⟨b, 0, none⟩)] w fun e w' => e = .returned (.tuple #[.int .u8 0, .bool false]) ∧ CurT 71 w' b c ∧ Only b w w' := by
  have HP := Lib.hid (peek_bad h hc h0)
  have HA := Lib.hid (fun w => am_zero w)
  clear hc h0
  go_enter Tryz.func47, Tryz.ntmps47
  go_wp2_with fail
  refine wp_loop_once ?_
  go_wp2_with fail
  with_reducible refine HP.out.mono ?_
  rintro e w1 ⟨rfl, hq1, hb1⟩
  have ho1 := only_then (Only.refl b w) hb1 (Nat.le_refl _)
  clear hb1
  go_wp2_with fail
  with_reducible refine (HA.out _).mono ?_
  rintro e w2 ⟨rfl, hb2⟩
  have hq2 := Below.cur hb2 hq1 hq1.lt
  have ho2 := only_then ho1 hb2 ho1.size
  clear hb2 hq1
  go_wp2
  go_ret2
  exact ⟨rfl, hq2, ho2⟩

/-- The next byte, whatever the cursor; where it stands then beside a word that has to stand here. -/
theorem byte_word {b : Nat} {c ci : CS} {s : List UInt8} {a : UInt8} {t : List UInt8} {j : Nat} (hs : s.drop j = a :: t) (ha : a.toNat ≠ 0) (hj : j ≤ c.bs.length ∨ ¬ tWd (s.take j) c.bs = 0) (hc : c.ok) (h0 : c.er = 0) (hA : CAt c j (tWd (s.take j) c.bs) ci) :
    ∃ (y : Int) (cj : CS), (∀ w, CurT 71 w b ci → Calls Tryz.prog 59 #[.pointer (some ⟨b, 0, none⟩)] w (fun e w' => e = .returned (.int .u8 y) ∧ CurT 71 w' b cj ∧ Only b w w')) ∧
      ((y = (a.toNat : Int) ∧ CAt c (j + 1) (tWd (s.take (j + 1)) c.bs) cj) ∨ (¬ y = (a.toNat : Int) ∧ CAt c (j + 1) (tWd (s.take (j + 1)) c.bs) (cj.fail 3))) := by
  have hjs : j < s.length := by
    have := congrArg List.length hs
    rw [List.length_drop, List.length_cons] at this; omega
  have hsn : s.take (j + 1) = s.take j ++ [a] := by
    rw [List.take_succ_eq_append_getElem hjs]
    congr 1
    have := List.drop_eq_getElem_cons hjs
    rw [hs] at this
    rw [(List.cons.inj this).1]
  have hlj : (s.take j).length = j := by rw [List.length_take]; omega
  have hst := tWd_snoc (s.take j) c.bs a
  rw [← hsn, hlj] at hst
  have hciok := hA.1
  by_cases he : tWd (s.take j) c.bs = 0
  · rw [if_pos he] at hst
    rw [he] at hA
    have hci := hA.2.2.2.2 rfl
    subst hci
    have hjl : j ≤ c.bs.length := by
      rcases hj with h | h
      · exact h
      · exact absurd he h
    have hbp := CS.bs_past c j
    match hd : c.bs.drop j with
    | [] =>
      rw [hd] at hst
      refine ⟨0, _, fun w hq => byte_lacks hq hciok h0 (hbp.trans hd), .inr ⟨by omega, ?_⟩⟩
      rw [hst, CS.fail_bad (show ¬ ((c.past j).bad 1).er = 0 from (by decide : ¬ (1 : Int) = 0))]
      exact CAt.bad hc hjl _ (show (1 : Int) ≠ 0 by decide)
    | x :: u =>
      rw [hd] at hst
      simp only at hst
      have hlt : j < c.bs.length := by
        have := congrArg List.length hd
        rw [List.length_drop, List.length_cons] at this; omega
      have hB := fun w (hq : CurT 71 w b (c.past j)) => byte_next hq hciok h0 (hbp.trans hd)
      rw [CS.past_past] at hB
      refine ⟨_, _, hB, ?_⟩
      by_cases hx : x = a
      · rw [if_pos hx] at hst
        refine .inl ⟨by rw [hx], ?_⟩
        rw [hst]
        exact CAt.past hc h0 hlt
      · rw [if_neg hx] at hst
        refine .inr ⟨fun e => hx (UInt8.toNat_inj.mp (by omega)), ?_⟩
        rw [hst, CS.fail_good (show (c.past (j + 1)).er = 0 from h0)]
        exact CAt.bad hc hlt _ (show (3 : Int) ≠ 0 by decide)
  · rw [if_neg he] at hst
    have her : ¬ ci.er = 0 := by rw [hA.2.2.2.1]; exact he
    refine ⟨0, _, fun w hq => byte_bad hq hciok her, .inr ⟨by omega, ?_⟩⟩
    rw [hst, CS.fail_bad her]
    exact hA.no he
def SpRel (c : CS) (b G : Nat) (W : World) (s : List UInt8) (n : Value) (wr : World) : Prop :=
  ∃ (j : Nat) (ci : CS), j ≤ s.length ∧ n = .int .i64 (j : Nat) ∧ CurT 71 wr b ci ∧ CAt c j (tWd (s.take j) c.bs) ci ∧ TkT 54 wr G (0, []) ∧ Only b W wr
set_option maxRecDepth 20000 in
set_option maxHeartbeats 2000000 in
theorem spelt_any {b : Nat} {c : CS} {w : World} (k : UInt8) (hk : k = 116 ∨ k = 102 ∨ k = 122) (h : CurT 71 w b c) (hc : c.ok) (h0 : c.er = 0) :
    Calls Tryz.prog 63 #[.pointer (some ⟨b, 0, none⟩), .int .u8 (k.toNat : Int)] w fun e w' => e = .returned (tkV (k, [])) ∧ (∃ c', CurT 71 w' b c' ∧ CAt c (tW k).length (tWd (tW k) c.bs) c') ∧ Only b w w' := by
  have HC := Lib.hid (And.intro hc h0)
  have hbl := h.lt
  have hsl := (tW_some hk).2
  have HW := Lib.hid (word_any k)
  have HS0 := Lib.hid (show ∀ a ∈ tW k, a.toNat ≠ 0 by rcases hk with rfl | rfl | rfl <;> decide)
  obtain ⟨S, hS⟩ : ∃ S, S = bA (tW k) := ⟨_, rfl⟩
  have hsz : S.size = (tW k).length := by rw [hS, bA_size]
  have hSl := Lib.hid (show S.data.toList = tW k by rw [hS]; rfl)
  rw [← hS] at HW
  clear hS
  have q0 := h.allocOld (.cells #[.int .u8 0, .string ⟨#[]⟩] 54)
  have g0 := tk_alloc (w := w) ((0, []) : TK) 54
  have HR := Lib.hid (show SpRel c b w.heap.size w (tW k) (.int .i64 0) (w.alloc (.cells #[.int .u8 0, .string ⟨#[]⟩] 54)) from
    ⟨0, c, Nat.zero_le _, rfl, q0, CAt.past hc h0 (Nat.zero_le _), g0, (Only.refl _ _).alloc _⟩)
  clear q0 g0 hk hc h0 h
  generalize hs : tW k = s at *
  have HSE := Lib.hid hs
  clear hs
  go_enter Tryz.func63, Tryz.ntmps63
  go_wp2_with fail
  with_reducible refine (HW.out _).mono ?_
  rintro e w1 ⟨rfl, hw1⟩
  rw [hw1]; clear hw1
  go_wp2_with fail
  generalize w.alloc (.cells #[.int .u8 0, .string ⟨#[]⟩] 54) = W1 at *
  go_loopw [6, 11] (fun i n wr => SpRel c b w.heap.size w s n wr) (fun _ n _ => s.length - (intOf n).toNat)
  case atStart => exact HR.out
  case round =>
    obtain ⟨j, ci, hj, rfl, hq, hA, hg, ho⟩ := hrel
    have HA := Lib.hid hA
    have hne : w.heap.size ≠ b := by omega
    by_cases hlt : j < s.length
    · have p1 : decide ((j : Int) < (s.length : Int)) = true := decide_eq_true (by omega)
      have p2 : (j : Int) < (S.size : Int) := by omega
      have hjS : j < S.size := by omega
      have hd : s.drop j = S[j] :: s.drop (j + 1) := by
        have := sz_drop S j hjS
        rw [hSl.out] at this; exact this
      have hjb : j ≤ c.bs.length ∨ ¬ tWd (s.take j) c.bs = 0 := by
        rcases Int.decEq (tWd (s.take j) c.bs) 0 with h | h
        · exact .inr h
        · have := tWd_len _ _ h
          rw [List.length_take] at this
          exact .inl (by omega)
      obtain ⟨y, cj, hB, hyz⟩   := byte_word (b := b) hd (HS0.out _ (List.mem_of_mem_drop (hd ▸ List.mem_cons_self))) hjb HC.out.1 HC.out.2 hA
      have HB := Lib.hid hB
      have hsl2 : S.size = s.length := hsz
      clear hB hd hjb hA
      rcases hyz with ⟨hy, hY⟩ | ⟨hy, hY⟩
      · have d1 : (y != (S[j].toNat : Int)) = false := by rw [hy]; simp
        have HY := Lib.hid hY
        clear hy hY
        have hqD : CurT 71 wr.drew b ci := hq
        have hgD := hg.drew
        have hoD := ho.drew
        clear hq
        go_wp2_with fail
        go_region_with (go_at_call 59; (with_reducible refine (HB.out _ hqD).mono ?_); rintro e w2 ⟨rfl, hq2, ho2⟩)
        all_goals
          go_wp2
          go_roundw
          case rel => exact ⟨j + 1, cj, by omega, by go_num, hq2, HY.out, hgD.only ho2 hne, hoD.trans ho2⟩
          case measure => simp [intOf]; omega
      · have d1 : (y != (S[j].toNat : Int)) = true := bne_iff_ne.mpr hy
        have HY := Lib.hid hY
        clear hy hY
        have hqD : CurT 71 wr.drew b ci := hq
        have hgD := hg.drew
        have hoD := ho.drew
        clear hq
        go_wp2_with fail
        go_region_with (go_at_call 59; (with_reducible refine (HB.out _ hqD).mono ?_); rintro e w2 ⟨rfl, hq2, ho2⟩)
        all_goals
          go_wp2_with fail
          with_reducible refine (fail_any hq2 3).mono ?_
          rintro e w3 ⟨rfl, hq3, ho3⟩
          go_wp2
          go_roundw
          case rel => exact ⟨j + 1, _, by omega, by go_num, hq3, HY.out, (hgD.only ho2 hne).only ho3 hne, (hoD.trans ho2).trans ho3⟩
          case measure => simp [intOf]; omega
    · have p1 : decide ((j : Int) < (s.length : Int)) = false := decide_eq_false (by omega)
      have HE := Lib.hid (show j = s.length by omega)
      have c0 := hg.c0; have c1 := hg.c1; have cf := hg.fr
      have hq5 := (Only.setTk wr w.heap.size (k, [])).cur hq (Ne.symm hne)
      have HZ := hg.setAll (k, [])
      have ho5 : Only b w ((wr.setCell ⟨w.heap.size, 0, none⟩ (.int .u8 (k.toNat : Int))).setCell ⟨w.heap.size, 1, none⟩ (.string ⟨#[]⟩)) :=
        only_then ho ((Only.setTk wr w.heap.size (k, [])).below (Nat.le_refl _) ho.size) (Nat.le_refl _)
      clear hq
      go_wp2
      refine bodyPost_ret (tok_result Tryz.results63 HZ rfl) rfl ?_
      have hA2 := HA.out
      rw [HE.out, List.take_length] at hA2
      exact ⟨rfl, ⟨ci, hq5, hA2⟩, ho5⟩
end Go.Proofs.YtfighopfgllneaaGreatDoor
