/- Package jnum's perhaps, lacks, digits. -/
import Derived.Test.YtemmeoikenbmgaaDoorCurB
import Derived.Test.YtemmeoikenbmgaaDoorApp
import Derived.Test.YtemmeoikenbmgaaDoorJnNum
import Derived.Test.YtemmeoikenbmgaaDoorShelf
import Derived.WalkMore
import Derived.ScopeJumps
import Derived.Deep.Cut
namespace Go.Proofs.YtemmeoikenbmgaaDoor
open Go Go.RowKit
set_option linter.unusedVariables false

theorem CS.cut_bs {c : CS} (h : c.ok) {k : Nat} (hk : k ≤ c.bs.length) : c.s.extract c.at_ (c.at_ + k) = bA (c.bs.take k) := by
  have hl := CS.bs_length h
  apply ByteArray.ext
  apply Array.toList_inj.mp
  rw [ext_toList, Nat.add_sub_cancel_left]
  show _ = c.bs.take k
  unfold CS.bs
  rw [List.drop_take, List.take_take, Nat.min_eq_left (by omega)]
theorem Bts.shape {t : TypeId} {w : World} {B : Nat} {v : Value} {l : List UInt8} (h : Bts t w B v l) : ∃ ad cp, v = .slice ad l.length cp := by
  rcases h.2 with ⟨h1, h2⟩ | ⟨g, cap, cur, h1, _⟩
  · exact ⟨none, 0, by rw [h1, h2]⟩
  · exact ⟨_, cap, h1⟩
/-- How many bytes (one or none) of a cursor are passed, if the next one is one of these. -/
def CS.pk (c : CS) (ts : List UInt8) : Nat := if c.er = 0 then pL ts c.bs else 0
/-- How many digits; what is wrong. -/
def CS.dk (c : CS) : Nat := if c.er = 0 then dL c.bs else 0
def CS.de (c : CS) : Int := if c.er = 0 then dE c.bs else c.er
theorem CS.pk_le (c : CS) (ts : List UInt8) : c.pk ts ≤ c.bs.length := by
  unfold CS.pk; split
  · exact pL_len _ _
  · exact Nat.zero_le _
theorem CS.pk_one (c : CS) (ts : List UInt8) : c.pk ts ≤ 1 := by
  unfold CS.pk; split
  · exact pL_le _ _
  · exact Nat.zero_le _
theorem CS.dk_le (c : CS) : c.dk ≤ c.bs.length := by
  unfold CS.dk; split
  · exact dL_len _
  · exact Nat.zero_le _
theorem ix_lt (ts : List UInt8) (x : UInt8) : decide (Lib.indexByte ts x < 0) = !ts.contains x := by
  rw [Lib.contains_iff_indexByte, Bool.eq_iff_iff]
  simp
theorem ix_byte (ts : ByteArray) (x : UInt8) (w : World) : Calls Tryd.prog 31 #[.string ts, .int .u8 (x.toNat : Int)] w fun e w' => e = .returned (.int .i64 (Lib.indexByte ts.data.toList x)) ∧ w' = w := by
  have := Any.strings_IndexByte indexByteL ts (x.toNat : Int) w
  rw [show ((x.toNat : Int)).toNat.toUInt8 = x from by rw [Int.toNat_natCast]; exact UInt8.ofNat_toNat] at this
  exact this
theorem peek_off {b : Nat} {c : CS} {w : World} (h : CurT 40 w b c) (hc : c.ok) (hp : c.peekIs = false) :
    Calls Tryd.prog 30 #[.pointer (some ⟨b, 0, none⟩)] w fun e w' => e = .returned (.tuple #[.int .u8 0, .bool false]) ∧ CurT 40 w' b c ∧ Below w.heap.size w w' := by
  have := peek_any h hc
  rw [CS.peekB_no hp, hp] at this
  refine this.mono ?_
  rintro e w' ⟨he, n, hw⟩
  rw [hw]
  exact ⟨he, h.drewN n, drew_below w n⟩
theorem take_one {b : Nat} {c : CS} {w : World} (h : CurT 40 w b c) (hc : c.ok) (h0 : c.er = 0) {x : UInt8} {t : List UInt8} (hb : c.bs = x :: t) :
    Calls Tryd.prog 32 #[.pointer (some ⟨b, 0, none⟩), .int .i64 1] w fun e w' => e = .returned (.string (bA [x])) ∧ CurT 40 w' b (c.past 1) ∧ Only b w w' := by
  have hl := CS.bs_length hc
  rw [hb, List.length_cons] at hl
  have hy : c.why 1 = 0 := CS.why_mk h0 (by decide) (by omega)
  have := take_any h hc 1
  rw [takeS_yes hy, take_yes hy, show (1 : Int).toNat = 1 from rfl, CS.cut_bs hc (show 1 ≤ c.bs.length by rw [hb]; simp), hb] at this
  exact this
theorem pk_off {c : CS} (hc : c.ok) (hp : c.peekIs = false) (ts : List UInt8) : c.pk ts = 0 := by
  unfold CS.pk
  by_cases h0 : c.er = 0
  · rw [if_pos h0]
    have hl := CS.bs_length hc
    have h1 := of_decide_eq_false hp
    rw [List.eq_nil_of_length_eq_zero (show c.bs.length = 0 by have : ¬ c.at_ < c.en := fun h => h1 ⟨h0, h⟩; omega)]; rfl
  · rw [if_neg h0]

set_option maxRecDepth 20000 in
theorem per_any {b : Nat} {c : CS} {w : World} (h : CurT 40 w b c) (hc : c.ok) (ts : ByteArray) :
    Calls Tryd.prog 17 #[.pointer (some ⟨b, 0, none⟩), .string ts] w fun e w' => e = .returned (.string (bA (c.bs.take (c.pk ts.data.toList)))) ∧ CurT 40 w' b (c.past (c.pk ts.data.toList)) ∧ Only b w w' := by
  cases hp : c.peekIs with
  | false =>
    have HP := Lib.hid (peek_off h hc hp)
    have HR := Lib.hid (pk_off hc hp ts.data.toList)
    have hbl := h.lt
    clear hp h
    go_enter Tryd.func17, Tryd.ntmps17
    go_wp2_with (with_reducible refine HP.out.mono ?_; rintro e w1 ⟨rfl, hq1, hb1⟩)
    go_ret
    exact ⟨by rw [HR.out]; rfl, by rw [HR.out]; exact hq1, Only.of_below hb1⟩
  | true =>
    have h0 : c.er = 0 := (of_decide_eq_true hp).1
    have hne : c.bs ≠ [] := fun e => by have := (CS.bs_none hc e).1; rw [hp] at this; exact absurd this (by decide)
    obtain ⟨x, t, hd⟩ := List.exists_cons_of_ne_nil hne
    have HP := Lib.hid (peek_next h hc h0 hd)
    have HI := Lib.hid (fun w => ix_byte ts x w)
    have HX := ix_lt ts.data.toList x
    have hbl := h.lt
    by_cases hx : ts.data.toList.contains x = true
    · rw [hx] at HX
      have HR := Lib.hid (show c.pk ts.data.toList = 1 by unfold CS.pk; rw [if_pos h0, hd, pL_cons t hx])
      have HT := Lib.hid (fun w h => take_one (w := w) (b := b) h hc h0 hd)
      have HS := Lib.hid (show bA (c.bs.take 1) = bA [x] by rw [hd]; rfl)
      clear hp h hne hx hd h0
      generalize Lib.indexByte ts.data.toList x = K at *
      rw [Bool.not_true] at HX
      go_enter Tryd.func17, Tryd.ntmps17
      go_wp2_with fail
      with_reducible refine HP.out.mono ?_
      rintro e w1 ⟨rfl, hq1, hb1⟩
      go_wp2_with (go_at_call 31; with_reducible refine (HI.out _).mono ?_; rintro e w2 ⟨rfl, hw⟩; rw [hw]; clear hw)
      with_reducible refine (HT.out _ hq1).mono ?_
      rintro e w3 ⟨rfl, hq3, ho3⟩
      go_wp2
      go_ret
      exact ⟨by rw [HR.out]; exact ret_string HS.out.symm, by rw [HR.out]; exact hq3, (Only.of_below hb1).trans ho3⟩
    · rw [show ts.data.toList.contains x = false by simpa using hx] at HX
      have HR := Lib.hid (show c.pk ts.data.toList = 0 by unfold CS.pk; rw [if_pos h0, hd, pL_other t hx])
      clear hp h hne hx hd h0
      generalize Lib.indexByte ts.data.toList x = K at *
      rw [Bool.not_false] at HX
      go_enter Tryd.func17, Tryd.ntmps17
      go_wp2_with fail
      with_reducible refine HP.out.mono ?_
      rintro e w1 ⟨rfl, hq1, hb1⟩
      go_wp2_with (go_at_call 31; with_reducible refine (HI.out _).mono ?_; rintro e w2 ⟨rfl, hw⟩; rw [hw]; clear hw)
      go_ret
      exact ⟨by rw [HR.out]; rfl, by rw [HR.out]; exact hq1, Only.of_below hb1⟩

/-- What is wrong where a digit lacks. -/
def CS.lk (c : CS) : Int := if c.er = 0 then (if c.bs = [] then 1 else 3) else c.er
theorem CS.lk_ne (c : CS) : c.lk ≠ 0 := by
  unfold CS.lk
  by_cases h : c.er = 0
  · rw [if_pos h]; split <;> decide
  · rw [if_neg h]; exact h
theorem lacks_any {b : Nat} {c : CS} {w : World} (h : CurT 40 w b c) (hc : c.ok) :
    Calls Tryd.prog 33 #[.pointer (some ⟨b, 0, none⟩)] w fun e w' => e = .returned (.tuple #[]) ∧ CurT 40 w' b (c.bad c.lk) ∧ Only b w w' := by
  have hl := CS.bs_length hc
  have HL := Lib.hid (left_any h hc)
  have hbl := h.lt
  by_cases hz : c.at_ < c.en
  · have p1 : ((c.en : Int) - c.at_ == 0) = false := by simp; omega
    have HR := Lib.hid (show c.fail 3 = c.bad c.lk by
      unfold CS.lk
      by_cases h0 : c.er = 0
      · rw [CS.fail_good h0, if_pos h0, if_neg (fun e => by rw [e, List.length_nil] at hl; omega)]
      · rw [CS.fail_bad h0, if_neg h0]; rfl)
    clear hz hl
    go_enter Tryd.func33, Tryd.ntmps33
    go_wp2_with fail
    with_reducible refine HL.out.mono ?_
    rintro e w1 ⟨rfl, n, hw⟩
    have h1 : CurT 40 w1 b c := by rw [hw]; exact h.drewN n
    have ho1 : Only b w w1 := by rw [hw]; exact (Only.refl _ _).drewN n
    clear hw
    go_wp2_with fail
    with_reducible refine (fail_any h1 3).mono ?_
    rintro e w2 ⟨rfl, hq2, ho2⟩
    go_wp2
    go_end0
    exact ⟨rfl, by rw [← HR.out]; exact hq2, ho1.trans ho2⟩
  · have p1 : ((c.en : Int) - c.at_ == 0) = true := by have := hc.1; simp; omega
    have HR := Lib.hid (show (c.fail 1).fail 3 = c.bad c.lk by
      unfold CS.lk
      by_cases h0 : c.er = 0
      · rw [CS.fail_good h0, if_pos h0, if_pos (List.eq_nil_of_length_eq_zero (by omega)), CS.fail_bad (show ¬ (c.bad 1).er = 0 by show ¬ (1 : Int) = 0; decide)]
      · rw [CS.fail_bad h0, CS.fail_bad h0, if_neg h0]; rfl)
    clear hz hl
    go_enter Tryd.func33, Tryd.ntmps33
    go_wp2_with fail
    with_reducible refine HL.out.mono ?_
    rintro e w1 ⟨rfl, n, hw⟩
    have h1 : CurT 40 w1 b c := by rw [hw]; exact h.drewN n
    have ho1 : Only b w w1 := by rw [hw]; exact (Only.refl _ _).drewN n
    clear hw
    go_wp2_with fail
    with_reducible refine (fail_any h1 1).mono ?_
    rintro e w2 ⟨rfl, hq2, ho2⟩
    go_wp2_with fail
    with_reducible refine (fail_any hq2 3).mono ?_
    rintro e w3 ⟨rfl, hq3, ho3⟩
    go_wp2
    go_end0
    exact ⟨rfl, by rw [← HR.out]; exact hq3, (ho1.trans ho2).trans ho3⟩

abbrev digs : ByteArray := ⟨#[48, 49, 50, 51, 52, 53, 54, 55, 56, 57]⟩
theorem digs_all : ∀ i : Fin 256, digs.data.toList.contains (UInt8.ofNat i.val) = dIs (UInt8.ofNat i.val) := by decide +kernel
theorem digs_is (x : UInt8) : digs.data.toList.contains x = dIs x := by
  have := digs_all ⟨x.toNat, x.toNat_lt⟩
  rwa [show UInt8.ofNat x.toNat = x from UInt8.ofNat_toNat] at this

/-- Behind the goto: k digits were passed and kept. -/
def DigJ (c : CS) (b : Nat) (W : World) (a' : Act) (wr : World) : Prop :=
  ∃ (k : Nat) (v u4 u5 u6 u7 u8 u9 u10 u11 : Value), a' = { tmps := #[.pointer (some ⟨b, 0, none⟩), undef, .string ⟨#[]⟩, v, u4, u5, u6, u7, u8, u9, u10, u11, undef, undef, undef, undef, undef, undef, undef], defers := [] } ∧ k ≤ dL c.bs ∧ Bts 5 wr W.heap.size v (c.bs.take k) ∧ CurT 40 wr b (c.past k) ∧ Only b W wr
theorem dig_next {l : List UInt8} {k : Nat} (h : k < dL l) : ∃ x t, l.drop k = x :: t ∧ dIs x = true ∧ l.take (k + 1) = l.take k ++ [x] := by
  have hl := dL_len l
  have hlt : k < l.length := by omega
  refine ⟨l[k], l.drop (k + 1), List.drop_eq_getElem_cons hlt, ?_, List.take_succ_eq_append_getElem hlt⟩
  have h1 := take_dL_all l
  have h2 : (l.take (dL l))[k]'(by rw [List.length_take]; omega) = l[k] := List.getElem_take
  rw [← h2]
  exact List.all_eq_true.mp h1 _ (List.getElem_mem _)
theorem dig_stop (l : List UInt8) : pL digs.data.toList (l.drop (dL l)) = 0 := by
  have h1 : l.drop (dL l) = l.dropWhile dIs := by
    have e : (l.takeWhile dIs ++ l.dropWhile dIs).drop (dL l) = l.dropWhile dIs := by rw [List.drop_left']; rfl
    rwa [List.takeWhile_append_dropWhile] at e
  rw [h1]
  match hd : l.dropWhile dIs with
  | [] => rfl
  | x :: t =>
    have := List.head?_dropWhile_not dIs l
    rw [hd, List.head?_cons] at this
    rw [pL_other t (by rw [digs_is]; simpa using this)]
theorem dig_none {c : CS} (h0 : c.er = 0) (h : dL c.bs = 0) : c.dk = 0 ∧ c.de = c.lk := by
  unfold CS.dk CS.de CS.lk dE
  rw [if_pos h0, if_pos h0, if_pos h0, if_pos h]; exact ⟨h, rfl⟩
theorem dig_some {c : CS} (h0 : c.er = 0) (h : dL c.bs ≠ 0) : c.dk = dL c.bs ∧ c.de = 0 := by
  unfold CS.dk CS.de dE
  rw [if_pos h0, if_pos h0, if_neg h]; exact ⟨rfl, rfl⟩
set_option maxRecDepth 20000 in
set_option maxHeartbeats 2000000 in
theorem dig_good {b : Nat} {c : CS} {w : World} (h : CurT 40 w b c) (hc : c.ok) (h0 : c.er = 0) (hs : c.s.size ≤ 140737488351232) :
    Calls Tryd.prog 18 #[.pointer (some ⟨b, 0, none⟩)] w fun e w' => e = .returned (.string (bA (c.bs.take c.dk))) ∧ (∃ c', CurT 40 w' b c' ∧ CAt c c.dk c.de c') ∧ Only b w w' := by
  obtain ⟨i0, hi, hz0, hz1, hz2⟩ := info_parts info8
  have HC := Lib.hid (And.intro hc h0)
  have hbl := h.lt
  have hmax : c.bs.length ≤ 140737488351232 := by have := CS.bs_length hc; have := hc.2.1; omega
  clear hc h0
  go_enter Tryd.func18, Tryd.ntmps18
  go_wp2
  refine wp_scope_jumps 0 (DigJ c b w) (fun _ wr => c.en + 1 - atOf b wr) rfl ?_ ?_
  · obtain ⟨k, hk0⟩ : ∃ k : Nat, k = 0 := ⟨0, rfl⟩
    have hk : k ≤ dL c.bs := by omega
    have hb : Bts 5 w w.heap.size (.slice none 0 0) (c.bs.take k) := by rw [hk0]; exact World.ownsRow_nil _ _ _ _
    have hq : CurT 40 w b (c.past k) := by rw [hk0]; exact h
    have ho : Only b w w := Only.refl _ _
    have hkl : k ≤ c.bs.length := Nat.le_trans hk (dL_len _)
    have hok := Lib.hid (CS.past_fine HC.out.1 hkl)
    have hbp := CS.bs_past c k
    have hpe : (c.past k).er = 0 := HC.out.2
    have hsz := ho.size
    have HP := Lib.hid (per_any hq hok.out digs)
    by_cases hgo : k < dL c.bs
    · obtain ⟨x, t, hd, hx, hget⟩ := dig_next hgo
      have hpk : (c.past k).pk digs.data.toList = 1 := by unfold CS.pk; rw [if_pos hpe, hbp, hd, pL_cons t (by rw [digs_is]; exact hx)]
      rw [hpk, CS.past_past, hbp, hd] at HP
      obtain ⟨V, hV⟩ : ∃ V, V = bA ((x :: t).take 1) := ⟨_, rfl⟩
      rw [← hV] at HP
      have hVl : V.data.toList = [x] := by rw [hV]; rfl
      have hVz : V.size = 1 := by rw [← toList_size, hVl]; rfl
      have pE : V.toList.isEmpty = false := by rw [isEmpty_of, hVz]; rfl
      have HG := Lib.hid (show c.bs.take (k + 1) = c.bs.take k ++ V.data.toList by rw [hVl]; exact hget)
      have hl2 : (c.bs.take k).length + V.size ≤ 140737488355328 := by rw [List.length_take, hVz]; omega
      have HEN := Lib.hid (CS.bs_length HC.out.1)
      have hlt := Lib.hid (show k + 1 ≤ c.bs.length by have := dL_len c.bs; omega)
      have hgo2 := Lib.hid (show k + 1 ≤ dL c.bs by omega)
      clear hV hVl hd hx hget hpk hbp hgo hpe hVz
      go_wp2_with fail
      go_step3
      go_wp2_with fail
      with_reducible refine HP.out.mono ?_
      rintro e w1 ⟨rfl, hq1, ho1⟩
      have hv1 := hb.only ho1 hbl
      have ho2 := ho.trans ho1
      have hs2 := ho2.size
      have HQ := Lib.hid (fun w3 (h : Below w.heap.size w1 w3) => And.intro (Below.cur h hq1 hbl) (only_then ho2 h (Nat.le_refl _)))
      clear hq1 ho1 ho hq hb
      go_wp2_with (at_builtin; go_loud (refine wpList_append_text rfl (.tmp 9) (.tmp 10) 57 9 rfl 5 i0 Tryd.underlying57 Tryd.underlying9 hi hz0 hz1 hz2 _ w1 w1 w.heap.size _ V hv1 (Below.refl _ _) hs2 rfl rfl hl2 ?_; intro v4 w4 hv4 hb4))
      have hq4 := (HQ.out _ hb4).1
      have ho4 := (HQ.out _ hb4).2
      rw [← HG.out] at hv4
      go_step3
      exact ⟨rfl, k + 1, v4, _, _, _, _, _, _, _, _, rfl, hgo2.out, hv4, hq4, ho4⟩
    · have hkn : k = dL c.bs := by omega
      have hpk : (c.past k).pk digs.data.toList = 0 := by unfold CS.pk; rw [if_pos hpe, hbp, hkn, dig_stop]
      rw [hpk, CS.past_past, Nat.add_zero, List.take_zero] at HP
      have pE : (bA []).toList.isEmpty = true := by rw [isEmpty_of]; rfl
      by_cases hz : k = 0
      · have HN := Lib.hid (dig_none HC.out.2 (show dL c.bs = 0 by omega))
        have hlck : (c.past k).lk = c.lk := by rw [hz]; rfl
        have HLK := Lib.hid (fun w h => lacks_any (w := w) (b := b) h hok.out)
        rw [hlck] at HLK
        have HA := Lib.hid (CAt.bad0 HC.out.1 0 (CS.lk_ne c))
        have HK := Lib.hid hkn
        have HZ := Lib.hid hz
        clear hbp hpk hpe hgo hz hkn hlck
        go_wp2_with fail
        go_step3
        go_wp2_with fail
        with_reducible refine HP.out.mono ?_
        rintro e w1 ⟨rfl, hq1, ho1⟩
        have hv1 := hb.only ho1 hbl
        have ho2 := ho.trans ho1
        clear ho1 ho hq hb
        go_wp2_with fail
        with_reducible refine (HLK.out _ hq1).mono ?_
        rintro e w2 ⟨rfl, hq2, ho3⟩
        have htx := Lib.hid ((hv1.only ho3 hbl).text (P := Tryd.prog) (d := 9) Tryd.underlying57 Tryd.underlying5 Tryd.underlying9)
        go_wp2_with fail
        rw [htx.out]
        go_wp2
        simp only [Exit.jump]
        go_ret
        exact ⟨by rw [HN.out.1]; exact ret_string (by first | rfl | rw [HZ.out]), ⟨_, hq2, by rw [HN.out.1, HN.out.2, HZ.out, CS.past_zero]; exact HA.out⟩, ho2.trans ho3⟩
      · exact absurd hk0 hz
  · rintro a' wr ⟨k, v, u4, u5, u6, u7, u8, u9, u10, u11, rfl, hk, hb, hq, ho⟩
    have hkl : k ≤ c.bs.length := Nat.le_trans hk (dL_len _)
    have hok := Lib.hid (CS.past_fine HC.out.1 hkl)
    have hbp := CS.bs_past c k
    have hpe : (c.past k).er = 0 := HC.out.2
    have hsz := ho.size
    have hat := Lib.hid (atOf_cur hq)
    have HP := Lib.hid (per_any hq hok.out digs)
    by_cases hgo : k < dL c.bs
    · obtain ⟨x, t, hd, hx, hget⟩ := dig_next hgo
      have hpk : (c.past k).pk digs.data.toList = 1 := by unfold CS.pk; rw [if_pos hpe, hbp, hd, pL_cons t (by rw [digs_is]; exact hx)]
      rw [hpk, CS.past_past, hbp, hd] at HP
      obtain ⟨V, hV⟩ : ∃ V, V = bA ((x :: t).take 1) := ⟨_, rfl⟩
      rw [← hV] at HP
      have hVl : V.data.toList = [x] := by rw [hV]; rfl
      have hVz : V.size = 1 := by rw [← toList_size, hVl]; rfl
      have pE : V.toList.isEmpty = false := by rw [isEmpty_of, hVz]; rfl
      have HG := Lib.hid (show c.bs.take (k + 1) = c.bs.take k ++ V.data.toList by rw [hVl]; exact hget)
      have hl2 : (c.bs.take k).length + V.size ≤ 140737488355328 := by rw [List.length_take, hVz]; omega
      have HEN := Lib.hid (CS.bs_length HC.out.1)
      have hlt := Lib.hid (show k + 1 ≤ c.bs.length by have := dL_len c.bs; omega)
      have hgo2 := Lib.hid (show k + 1 ≤ dL c.bs by omega)
      have hkk := hkl
      clear hV hVl hd hx hget hpk hbp hgo hpe hVz
      go_wp2_with fail
      with_reducible refine HP.out.mono ?_
      rintro e w1 ⟨rfl, hq1, ho1⟩
      have hv1 := hb.only ho1 hbl
      have ho2 := ho.trans ho1
      have hs2 := ho2.size
      have HQ := Lib.hid (fun w3 (h : Below w.heap.size w1 w3) => And.intro (Below.cur h hq1 hbl) (only_then ho2 h (Nat.le_refl _)))
      clear hq1 ho1 ho hq hb
      go_wp2_with (at_builtin; go_loud (refine wpList_append_text rfl (.tmp 9) (.tmp 10) 57 9 rfl 5 i0 Tryd.underlying57 Tryd.underlying9 hi hz0 hz1 hz2 _ w1 w1 w.heap.size _ V hv1 (Below.refl _ _) hs2 rfl rfl hl2 ?_; intro v4 w4 hv4 hb4))
      have hq4 := (HQ.out _ hb4).1
      have ho4 := (HQ.out _ hb4).2
      rw [← HG.out] at hv4
      go_step3
      refine ⟨rfl, ⟨k + 1, v4, _, _, _, _, _, _, _, _, rfl, hgo2.out, hv4, hq4, ho4⟩, ?_⟩
      have e1 := hat.out
      have e2 := atOf_cur hq4
      have e3 := HEN.out
      have e4 := hlt.out
      have e5 := HC.out.1.1
      have e6 : (c.past k).at_ = c.at_ + k := rfl
      have e7 : (c.past (k + 1)).at_ = c.at_ + (k + 1) := rfl
      omega
    · have hkn : k = dL c.bs := by omega
      have hpk : (c.past k).pk digs.data.toList = 0 := by unfold CS.pk; rw [if_pos hpe, hbp, hkn, dig_stop]
      rw [hpk, CS.past_past, Nat.add_zero, List.take_zero] at HP
      have pE : (bA []).toList.isEmpty = true := by rw [isEmpty_of]; rfl
      obtain ⟨ad, cp, rfl⟩ := hb.shape
      have hlk : (c.bs.take k).length = k := by rw [List.length_take]; omega
      rw [hlk] at hb ⊢
      by_cases hz : k = 0
      · have HN := Lib.hid (dig_none HC.out.2 (show dL c.bs = 0 by omega))
        have hlck : (c.past k).lk = c.lk := by rw [hz]; rfl
        have HLK := Lib.hid (fun w h => lacks_any (w := w) (b := b) h hok.out)
        rw [hlck] at HLK
        have HA := Lib.hid (CAt.bad0 HC.out.1 0 (CS.lk_ne c))
        have p1 : ((k : Int) == 0) = true := by simp [hz]
        have HK := Lib.hid hkn
        have HZ := Lib.hid hz
        clear hbp hpk hpe hgo hz hkn hlck
        go_wp2_with fail
        with_reducible refine HP.out.mono ?_
        rintro e w1 ⟨rfl, hq1, ho1⟩
        have hv1 := hb.only ho1 hbl
        have ho2 := ho.trans ho1
        clear ho1 ho hq hb
        go_wp2_with fail
        with_reducible refine (HLK.out _ hq1).mono ?_
        rintro e w2 ⟨rfl, hq2, ho3⟩
        have htx := Lib.hid ((hv1.only ho3 hbl).text (P := Tryd.prog) (d := 9) Tryd.underlying57 Tryd.underlying5 Tryd.underlying9)
        go_wp2_with fail
        rw [htx.out]
        go_wp2
        simp only [Exit.jump]
        go_ret
        exact ⟨by rw [HN.out.1]; exact ret_string (by first | rfl | rw [HZ.out]), ⟨_, hq2, by rw [HN.out.1, HN.out.2, HZ.out, CS.past_zero]; exact HA.out⟩, ho2.trans ho3⟩
      · have HN := Lib.hid (dig_some HC.out.2 (show dL c.bs ≠ 0 by omega))
        have p1 : ((k : Int) == 0) = false := beq_eq_false_iff_ne.mpr (by omega)
        have HA := Lib.hid (CAt.past HC.out.1 HC.out.2 (dL_len c.bs))
        have HK := Lib.hid hkn
        have HZ := Lib.hid hz
        clear hbp hpk hpe hgo hz hkn
        go_wp2_with fail
        with_reducible refine HP.out.mono ?_
        rintro e w1 ⟨rfl, hq1, ho1⟩
        have hv1 := hb.only ho1 hbl
        have ho2 := ho.trans ho1
        clear ho1 ho hq hb
        go_wp2_with fail
        have htx := Lib.hid (hv1.text (P := Tryd.prog) (d := 9) Tryd.underlying57 Tryd.underlying5 Tryd.underlying9)
        rw [htx.out]
        go_wp2
        simp only [Exit.jump]
        go_ret
        exact ⟨by rw [HN.out.1]; exact ret_string (by rw [HK.out]), ⟨_, hq1, by rw [HN.out.1, HN.out.2, HK.out]; exact HA.out⟩, ho2⟩
set_option maxRecDepth 20000 in
theorem dig_off {b : Nat} {c : CS} {w : World} (h : CurT 40 w b c) (hc : c.ok) (h0 : ¬ c.er = 0) :
    Calls Tryd.prog 18 #[.pointer (some ⟨b, 0, none⟩)] w fun e w' => e = .returned (.string (bA (c.bs.take c.dk))) ∧ (∃ c', CurT 40 w' b c' ∧ CAt c c.dk c.de c') ∧ Only b w w' := by
  have HP := Lib.hid (per_any h hc digs)
  have hpk : c.pk digs.data.toList = 0 := by unfold CS.pk; rw [if_neg h0]
  rw [hpk, CS.past_zero, List.take_zero] at HP
  have HLK := Lib.hid (fun w h => lacks_any (w := w) (b := b) h hc)
  have pE : (bA []).toList.isEmpty = true := by rw [isEmpty_of]; rfl
  have HN := Lib.hid (show c.dk = 0 ∧ c.de = c.lk by unfold CS.dk CS.de CS.lk; rw [if_neg h0, if_neg h0, if_neg h0]; exact ⟨rfl, rfl⟩)
  have HA := Lib.hid (CAt.bad0 hc 0 (CS.lk_ne c))
  have hbl := h.lt
  clear hpk h0 hc h
  go_enter Tryd.func18, Tryd.ntmps18
  go_wp2
  go_step3
  go_wp2
  go_step3
  go_wp2_with fail
  with_reducible refine HP.out.mono ?_
  rintro e w1 ⟨rfl, hq1, ho1⟩
  go_wp2_with fail
  with_reducible refine (HLK.out _ hq1).mono ?_
  rintro e w2 ⟨rfl, hq2, ho2⟩
  have htx := Lib.hid ((show Bts 5 w2 w.heap.size (.slice none 0 0) [] from World.ownsRow_nil _ _ _ _).text (P := Tryd.prog) (t := 57) (d := 9) Tryd.underlying57 Tryd.underlying5 Tryd.underlying9)
  go_wp2_with fail
  rw [htx.out]
  go_wp2
  try rw [Exit.noGoto_ret]
  go_ret
  exact ⟨by rw [HN.out.1]; rfl, ⟨_, hq2, by rw [HN.out.1, HN.out.2]; exact HA.out⟩, ho1.trans ho2⟩
theorem dig_any {b : Nat} {c : CS} {w : World} (h : CurT 40 w b c) (hc : c.ok) (hs : c.s.size ≤ 140737488351232) :
    Calls Tryd.prog 18 #[.pointer (some ⟨b, 0, none⟩)] w fun e w' => e = .returned (.string (bA (c.bs.take c.dk))) ∧ (∃ c', CurT 40 w' b c' ∧ CAt c c.dk c.de c') ∧ Only b w w' := by
  by_cases h0 : c.er = 0
  · exact dig_good h hc h0 hs
  · exact dig_off h hc h0
end Go.Proofs.YtemmeoikenbmgaaDoor
