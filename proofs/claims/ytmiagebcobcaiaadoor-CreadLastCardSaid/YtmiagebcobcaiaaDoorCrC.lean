/- Package cread: value, item, whatever the kind. -/
import Derived.Test.YtmiagebcobcaiaaDoorCrB
namespace Go.Proofs.YtmiagebcobcaiaaDoor
open Go Go.RowKit
set_option linter.unusedVariables false

theorem want_both {c : CS} {x : Bool} {k : Int} (hk : k ≠ 0) (h : (c.want x k).er = 0) : x = true ∧ c.er = 0 := by
  cases x
  · exfalso
    rw [CS.want_no] at h
    by_cases h0 : c.er = 0
    · exact CS.bad_er h0 hk h
    · rw [CS.fail_fail h0] at h; exact h0 h
  · exact ⟨rfl, h⟩
theorem gOf_one (id : Int) (s : ByteArray) : gOf id 1 s = (id, 1, 1, 0, ⟨#[]⟩, ⟨#[]⟩) := rfl
theorem gOf_two (id : Int) (s : ByteArray) : gOf id 2 s = (id, 2, 0, 0, ⟨#[]⟩, ⟨#[]⟩) := rfl
theorem value_all {b : Nat} {c : CS} {w : World} (h : CurT 83 w b c) (hc : c.ok) (deep id : Int) (h0 : 0 ≤ deep) (k : Nat) (hk : k < 256) (ht : Tab w) (hg : 0 ≠ b) :
    Calls Tryd.prog 17 #[rdV c.s b deep, .int .i64 id, .int .u8 (k : Nat)] w fun e w' => ∃ x, e = .returned (gfV x) ∧ CurT 83 w' b (valTo (rdTo (32 - deep).toNat) k c) ∧ Only b w w' ∧ ((valTo (rdTo (32 - deep).toNat) k c).er = 0 → x = gAt (rdTo (32 - deep).toNat) id k c) := by
  generalize hd : (32 - deep).toNat = d at *
  unfold gAt
  by_cases h8 : 1 ≤ k ∧ k ≤ 8
  · have hcase : k = 1 ∨ k = 2 ∨ k = 3 ∨ (4 ≤ k ∧ k ≤ 6) ∨ k = 7 ∨ k = 8 := by omega
    rcases hcase with rfl | rfl | rfl | hn | rfl | rfl
    · refine (gval_1 h c.s deep id).mono ?_
      rintro e w' ⟨rfl, h1, o1⟩
      exact ⟨_, rfl, h1, o1, fun _ => rfl⟩
    · refine (gval_2 h c.s deep id).mono ?_
      rintro e w' ⟨rfl, h1, o1⟩
      exact ⟨_, rfl, h1, o1, fun _ => rfl⟩
    · have hv : valTo (rdTo d) 3 c = c.byte := by rw [val_no rfl, rdTo_flat rfl, inTo_flat rfl]; rfl
      rw [hv]
      refine (gval_3 h hc c.s deep id).mono ?_
      rintro e w' ⟨rfl, h1, o1⟩
      refine ⟨_, rfl, h1, o1, fun he => ?_⟩
      have := sub_byte hc he
      unfold gOf
      rw [this]; rfl
    · have hv : valTo (rdTo d) k c = c.vTo.want (fitB k c.vVal) 4 := by rw [val_no (by unfold trB; simp; omega), rdTo_num hn]
      rw [hv]
      have hx : (c.vTo.want (fitB k c.vVal) 4).er = 0 → gOf id k (c.s.extract c.at_ (c.vTo.want (fitB k c.vVal) 4).at_) = (id, k, zagI (c.vVal : Nat), 0, ⟨#[]⟩, ⟨#[]⟩) := by
        intro he
        obtain ⟨e1, e2⟩ := want_both (by decide) he
        obtain ⟨n, hn1, hn2, hn3⟩ := sub_num hc e2
        have hw : (c.vTo.want (fitB k c.vVal) 4).at_ = c.at_ + (n + 0) := by rw [e1, CS.want_yes, hn2]; rfl
        rw [hw]
        have := (hn3 0 (by omega)).1
        unfold gOf
        have hbk : ¬ bitsK k = 0 := by
          have hcase : k = 4 ∨ k = 5 ∨ k = 6 := by omega
          rcases hcase with rfl | rfl | rfl <;> decide
        rw [this, if_neg (by omega), if_neg (by omega), if_neg hbk, if_neg (by omega), if_neg (by omega), if_neg (by omega)]
      have hcase : k = 4 ∨ k = 5 ∨ k = 6 := by omega
      rcases hcase with rfl | rfl | rfl
      · refine (gval_4 h hc c.s deep id).mono ?_
        rintro e w' ⟨rfl, h1, o1⟩
        exact ⟨_, rfl, h1, o1, fun he => (hx he).symm⟩
      · refine (gval_5 h hc c.s deep id).mono ?_
        rintro e w' ⟨rfl, h1, o1⟩
        exact ⟨_, rfl, h1, o1, fun he => (hx he).symm⟩
      · refine (gval_6 h hc c.s deep id).mono ?_
        rintro e w' ⟨rfl, h1, o1⟩
        exact ⟨_, rfl, h1, o1, fun he => (hx he).symm⟩
    · have hv : valTo (rdTo d) 7 c = c.take 8 := by rw [val_no rfl, rdTo_flat rfl, inTo_flat rfl]; rfl
      rw [hv]
      refine (gval_7 h hc c.s deep id ht hg).mono ?_
      rintro e w' ⟨rfl, h1, o1⟩
      refine ⟨_, rfl, h1, o1, fun he => ?_⟩
      have := (sub_eight hc he).1
      unfold gOf
      rw [this]; rfl
    · have hv : valTo (rdTo d) 8 c = c.txt := by rw [val_no rfl, rdTo_flat rfl, inTo_flat rfl]; rfl
      rw [hv]
      refine (gval_8 h hc c.s deep id).mono ?_
      rintro e w' ⟨T, rfl, h1, o1, hT⟩
      refine ⟨_, rfl, h1, o1, fun he => ?_⟩
      have := (sub_text hc he).2.2.2.1
      unfold gOf
      rw [if_pos rfl, this, ← hT he]; rfl
  · have hb : bitsK k = 0 := bitsK_no (by omega)
    have hv : valTo (rdTo d) k c = valTo (inTo d) k c := by unfold valTo; rw [rdTo_flat hb]
    rw [hv]
    refine (gval_no h hc deep id h0 k hk h8).mono ?_
    rw [hd]
    rintro e w' ⟨T, rfl, h1, o1, hT⟩
    refine ⟨_, rfl, h1, o1, fun he => ?_⟩
    have h9 : 9 ≤ k := by
      rcases Nat.lt_or_ge k 9 with h9 | h9
      · exfalso
        obtain rfl : k = 0 := by omega
        have : valTo (inTo d) 0 c = c.fail 7 := by rw [val_no rfl, inTo_flat rfl]; rfl
        rw [this] at he
        by_cases e0 : c.er = 0
        · exact CS.bad_er e0 (by decide) he
        · rw [CS.fail_fail e0] at he; exact e0 he
      · exact h9
    unfold gOf
    rw [← hT he, if_neg (by omega), if_neg (by omega), if_pos hb, if_neg (by omega), if_neg (by omega), if_pos h9]
/-- A value within a list. -/
theorem item_all {b : Nat} {c : CS} {w : World} (h : CurT 83 w b c) (hc : c.ok) (deep : Int) (j : Nat) (h0 : 0 ≤ deep) (k : Nat) (hk : k < 256) (ht : Tab w) (hg : 0 ≠ b) :
    Calls Tryd.prog 26 #[rdV c.s b deep, .int .i64 (j : Nat), .int .u8 (k : Nat)] w fun e w' => ∃ x, e = .returned (gfV x) ∧ CurT 83 w' b (rdTo (32 - deep).toNat k c) ∧ Only b w w' ∧ ((rdTo (32 - deep).toNat k c).er = 0 → x = iAt (rdTo (32 - deep).toNat) j k c) := by
  have hstd := rd_std (32 - deep).toNat k c hc
  have hV := fun k (hk : k < 256) c w (hs : c.s = c.s) (h : CurT 83 w b c) hc (ht : Tab w) => value_all h hc deep (j : Nat) h0 k hk ht hg
  have HS := Lib.hid (fun w => same_true k w)
  generalize (32 - deep).toNat = d at *
  have gl := ht.lt
  have S0 := Lib.hid (rd_start h c.s deep)
  obtain ⟨w1, hw1⟩ : ∃ w1, w1 = (w.alloc (.cells #[.string c.s, .pointer (some ⟨b, 0, none⟩), .int .i64 deep] 48)).alloc (.cells #[.int .i64 0, .int .u8 0, .int .i64 0, .int .u64 0, .string ⟨#[]⟩, .string ⟨#[]⟩] 39) := ⟨_, rfl⟩
  have hz := gf_alloc (w.alloc (.cells #[.string c.s, .pointer (some ⟨b, 0, none⟩), .int .i64 deep] 48)) (0, 0, 0, 0, ⟨#[]⟩, ⟨#[]⟩) 39
  rw [World.size_alloc] at hz
  have z1 : GfT 39 w1 (w.heap.size + 1) (0, 0, 0, 0, ⟨#[]⟩, ⟨#[]⟩) := by rw [hw1]; exact hz
  have h1 : CurT 83 w1 b c := by rw [hw1]; exact S0.out.1.allocOld _
  have o1 : Only b w w1 := by rw [hw1]; exact S0.out.2.1.alloc _
  have r1 : RdT w1 w.heap.size c.s (some ⟨b, 0, none⟩) deep := by rw [hw1]; exact S0.out.2.2.2.alloc _
  have hb : b < w.heap.size := h.lt
  have T1 : Tab w1 := fun k hk => by
    have := o1.block 0 gl hg
    rw [World.cell?_of_block (w := w) this]; exact ht k hk
  clear hz S0 h ht
  rcases Bool.eq_false_or_eq_true (trB k) with htr | htr
  · have hrd : rdTo d k c = c.tru := by
      have h9 : hdK k = false := by
        unfold trB at htr; simp at htr
        rcases htr with rfl | rfl <;> rfl
      have hb0 : bitsK k = 0 := by
        unfold trB at htr; simp at htr
        rcases htr with rfl | rfl <;> rfl
      rw [rdTo_flat hb0, inTo_flat h9]; unfold flatTo; rw [if_pos htr]
    have hko : kOf k c = kT c := by unfold kOf kT; rw [if_pos htr]
    rw [htr] at HS
    have HT := Lib.hid (fun w (h : CurT 83 w b c) => rtruth_any h hc c.s deep)
    have hkt : kT c = 1 ∨ kT c = 2 := by unfold kT; split; exact .inl rfl; exact .inr rfl
    have hS : c.tru.s = c.s := by rw [← hrd]; exact hstd.2.1
    have hi : ∀ s, gOf (j : Int) (kT c) s = (((j : Int), kT c, (if kT c = 1 then (1 : Int) else 0), 0, ⟨#[]⟩, ⟨#[]⟩) : GD) := by
      intro s; rcases hkt with e | e <;> (rw [e]; rfl)
    unfold iAt
    rw [hko, hrd, hi]
    have HV := Lib.hid (fun w (h : CurT 83 w b c.tru) => show Calls Tryd.prog 17 #[.agg #[.string c.s, .pointer (some ⟨b, 0, none⟩), .int .i64 deep], .int .i64 (j : Nat), .int .u8 (kT c : Nat)] w fun e w' => e = .returned (gfV ((j : Int), kT c, (if kT c = 1 then (1 : Int) else 0), 0, ⟨#[]⟩, ⟨#[]⟩)) ∧ CurT 83 w' b c.tru ∧ Only b w w' from by
      rcases hkt with e | e
      · rw [e]; exact gval_1 h c.s deep (j : Int)
      · rw [e]; exact gval_2 h c.s deep (j : Int))
    generalize (if kT c = 1 then (1 : Int) else 0) = n at *
    generalize kT c = q at *
    generalize c.tru = D at *
    obtain ⟨s, hs⟩ : ∃ s, s = c.s := ⟨_, rfl⟩
    rw [← hs] at HT HV r1 hw1 ⊢
    clear hrd hko hkt hi hV hs hS hstd htr hc
    unfold rdV at HT ⊢
    go_enter Tryd.func26, Tryd.ntmps26
    go_wp2_with fail
    rw [← hw1]
    clear hw1
    with_reducible refine (HS.out _).mono ?_
    rintro e w2 ⟨rfl, hww⟩
    rw [hww]; clear hww
    have g0 := r1.c0; have g1 := r1.c1; have g2 := r1.c2
    go_wp2_with fail
    with_reducible refine (HT.out _ h1).mono ?_
    rintro e w3 ⟨rfl, h3, o3⟩
    have r3 := r1.only o3 (show w.heap.size ≠ b by omega)
    have z3 := z1.only o3 (show w.heap.size + 1 ≠ b by omega)
    have o3 := o1.trans o3
    clear g0 g1 g2 h1 r1 z1 o1 T1
    have g0 := r3.c0; have g1 := r3.c1; have g2 := r3.c2
    go_wp2_with fail
    with_reducible refine (HV.out _ h3).mono ?_
    rintro e w4 ⟨rfl, h4, o4⟩
    have z4 := Lib.hid (z3.only o4 (show w.heap.size + 1 ≠ b by omega))
    have z0 := z4.out.c0; have z1 := z4.out.c1; have z2 := z4.out.c2; have z3' := z4.out.c3; have z4' := z4.out.c4; have z5 := z4.out.c5; have zf := z4.out.fr
    have f5 := Lib.hid (z4.out.setAll ((j : Int), q, n, 0, ⟨#[]⟩, ⟨#[]⟩))
    have V5 := Lib.hid (val_end h4 (o3.trans o4) (show b ≠ w.heap.size + 1 by omega) (show w.heap.size ≤ w.heap.size + 1 by omega) ((j : Int), q, n, 0, ⟨#[]⟩, ⟨#[]⟩))
    clear z4 h4 o4 o3 z3 r3 g0 g1 g2
    unfold gfV
    try simp only []
    repeat (first | go_values | go_skip | go_guarded | go_step | go_upon)
    exact bodyPost_ret (gf_result Tryd.underlying39 rfl (by kernel_rfl) Tryd.results26 f5.out (by kernel_rfl)) rfl ⟨_, rfl, V5.out.1, V5.out.2, fun _ => rfl⟩
  · rw [htr] at HS
    have hko : kOf k c = k := by unfold kOf; rw [if_neg (by rw [htr]; decide)]
    have hv : valTo (rdTo d) k c = rdTo d k c := val_no htr c
    have HV := Lib.hid (fun w (h : CurT 83 w b c) ht => hV k hk c w rfl h hc ht)
    unfold gAt at HV
    unfold iAt
    rw [hko]
    rw [hv] at HV
    generalize rdTo d k c = D at *
    generalize gOf (j : Nat) k (c.s.extract c.at_ D.at_) = X at *
    obtain ⟨s, hs⟩ : ∃ s, s = c.s := ⟨_, rfl⟩
    rw [← hs] at HV r1 hw1 ⊢
    clear hko hv hV hs hstd htr hc
    unfold rdV at HV ⊢
    go_enter Tryd.func26, Tryd.ntmps26
    go_wp2_with fail
    rw [← hw1]
    clear hw1
    with_reducible refine (HS.out _).mono ?_
    rintro e w2 ⟨rfl, hww⟩
    rw [hww]; clear hww
    have g0 := r1.c0; have g1 := r1.c1; have g2 := r1.c2
    go_wp2_with fail
    with_reducible refine (HV.out _ h1 T1).mono ?_
    rintro e w4 ⟨x, rfl, h4, o4, hx⟩
    have HX := Lib.hid hx
    have z4 := Lib.hid (z1.only o4 (show w.heap.size + 1 ≠ b by omega))
    obtain ⟨x0, x1, x2, x3, x4, x5⟩ := x
    clear hx T1 z1 r1 g0 g1 g2 h1
    have z0 := z4.out.c0; have z1 := z4.out.c1; have z2 := z4.out.c2; have z3' := z4.out.c3; have z4' := z4.out.c4; have z5 := z4.out.c5; have zf := z4.out.fr
    have f5 := Lib.hid (z4.out.setAll (x0, x1, x2, x3, x4, x5))
    have V5 := Lib.hid (val_end h4 (o1.trans o4) (show b ≠ w.heap.size + 1 by omega) (show w.heap.size ≤ w.heap.size + 1 by omega) (x0, x1, x2, x3, x4, x5))
    clear z4 h4 o4 o1
    unfold gfV
    try simp only []
    repeat (first | go_values | go_skip | go_guarded | go_step | go_upon)
    exact bodyPost_ret (gf_result Tryd.underlying39 rfl (by kernel_rfl) Tryd.results26 f5.out (by kernel_rfl)) rfl ⟨_, rfl, V5.out.1, V5.out.2, HX.out⟩
end Go.Proofs.YtmiagebcobcaiaaDoor
