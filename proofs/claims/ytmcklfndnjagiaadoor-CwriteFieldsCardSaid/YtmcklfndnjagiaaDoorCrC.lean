/- Package cread: value, item, whatever the kind. -/
import Derived.Test.YtmcklfndnjagiaaDoorCrB
namespace Go.Proofs.YtmcklfndnjagiaaDoor
open Go Go.RowKit
set_option linter.unusedVariables false

theorem want_both {c : CS} {x : Bool} {k : Int} (hk : k ≠ 0) (h : (c.want x k).er = 0) : x = true ∧ c.er = 0 := by
  cases x
  · exfalso
    rw [CS.want_no] at h
    by_cases h0 : c.er = 0
    · exact CS.bad_er h0 hk h
    · rw [CS.fail_fail h0] at h; exact h0 h
  · exact ⟨rfl, h⟩
theorem gOf_one (id : Int) (s : ByteArray) : gOf id 1 s = (id, 1, 1, 0, ⟨#[]⟩, ⟨#[]⟩) := rfl
theorem gOf_two (id : Int) (s : ByteArray) : gOf id 2 s = (id, 2, 0, 0, ⟨#[]⟩, ⟨#[]⟩) := rfl
theorem value_all {b : Nat} {c : CS} {w : World} (h : CurT 105 w b c) (hc : c.ok) (deep id : Int) (h0 : 0 ≤ deep) (k : Nat) (hk : k < 256) (ht : Tab w) (hg : 0 ≠ b) :
    Calls Tryd.prog 31 #[rdV c.s b deep, .int .i64 id, .int .u8 (k : Nat)] w fun e w' => ∃ x, e = .returned (gfV x) ∧ CurT 105 w' b (valTo (rdTo (32 - deep).toNat) k c) ∧ Only b w w' ∧ ((valTo (rdTo (32 - deep).toNat) k c).er = 0 → x = gAt (rdTo (32 - deep).toNat) id k c) := by
  generalize hd : (32 - deep).toNat = d at *
  unfold gAt
  by_cases h8 : 1 ≤ k ∧ k ≤ 8
  · have hcase : k = 1 ∨ k = 2 ∨ k = 3 ∨ (4 ≤ k ∧ k ≤ 6) ∨ k = 7 ∨ k = 8 := by omega
    rcases hcase with rfl | rfl | rfl | hn | rfl | rfl
    · refine (gval_1 h c.s deep id).mono ?_
      rintro e w' ⟨rfl, h1, o1⟩
      exact ⟨_, rfl, h1, o1, fun _ => rfl⟩
    · refine (gval_2 h c.s deep id).mono ?_
      rintro e w' ⟨rfl, h1, o1⟩
      exact ⟨_, rfl, h1, o1, fun _ => rfl⟩
    · have hv : valTo (rdTo d) 3 c = c.byte := by rw [val_no rfl, rdTo_flat rfl, inTo_flat rfl]; rfl
      rw [hv]
      refine (gval_3 h hc c.s deep id).mono ?_
      rintro e w' ⟨rfl, h1, o1⟩
      refine ⟨_, rfl, h1, o1, fun he => ?_⟩
      have := sub_byte hc he
      unfold gOf
      rw [this]; rfl
    · have hv : valTo (rdTo d) k c = c.vTo.want (fitB k c.vVal) 4 := by rw [val_no (by unfold trB; simp; omega), rdTo_num hn]
      rw [hv]
      have hx : (c.vTo.want (fitB k c.vVal) 4).er = 0 → gOf id k (c.s.extract c.at_ (c.vTo.want (fitB k c.vVal) 4).at_) = (id, k, zagI (c.vVal : Nat), 0, ⟨#[]⟩, ⟨#[]⟩) := by
        intro he
        obtain ⟨e1, e2⟩ := want_both (by decide) he
        obtain ⟨n, hn1, hn2, hn3⟩ := sub_num hc e2
        have hw : (c.vTo.want (fitB k c.vVal) 4).at_ = c.at_ + (n + 0) := by rw [e1, CS.want_yes, hn2]; rfl
        rw [hw]
        have := (hn3 0 (by omega)).1
        unfold gOf
        have hbk : ¬ bitsK k = 0 := by
          have hcase : k = 4 ∨ k = 5 ∨ k = 6 := by omega
          rcases hcase with rfl | rfl | rfl <;> decide
        rw [this, if_neg (by omega), if_neg (by omega), if_neg hbk, if_neg (by omega), if_neg (by omega), if_neg (by omega)]
      have hcase : k = 4 ∨ k = 5 ∨ k = 6 := by omega
      rcases hcase with rfl | rfl | rfl
      · refine (gval_4 h hc c.s deep id).mono ?_
        rintro e w' ⟨rfl, h1, o1⟩
        exact ⟨_, rfl, h1, o1, fun he => (hx he).symm⟩
      · refine (gval_5 h hc c.s deep id).mono ?_
        rintro e w' ⟨rfl, h1, o1⟩
        exact ⟨_, rfl, h1, o1, fun he => (hx he).symm⟩
      · refine (gval_6 h hc c.s deep id).mono ?_
        rintro e w' ⟨rfl, h1, o1⟩
        exact ⟨_, rfl, h1, o1, fun he => (hx he).symm⟩
    · have hv : valTo (rdTo d) 7 c = c.take 8 := by rw [val_no rfl, rdTo_flat rfl, inTo_flat rfl]; rfl
      rw [hv]
      refine (gval_7 h hc c.s deep id ht hg).mono ?_
      rintro e w' ⟨rfl, h1, o1⟩
      refine ⟨_, rfl, h1, o1, fun he => ?_⟩
      have := (sub_eight hc he).1
      unfold gOf
      rw [this]; rfl
    · have hv : valTo (rdTo d) 8 c = c.txt := by rw [val_no rfl, rdTo_flat rfl, inTo_flat rfl]; rfl
      rw [hv]
      refine (gval_8 h hc c.s deep id).mono ?_
      rintro e w' ⟨T, rfl, h1, o1, hT⟩
      refine ⟨_, rfl, h1, o1, fun he => ?_⟩
      have := (sub_text hc he).2.2.2.1
      unfold gOf
      rw [if_pos rfl, this, ← hT he]; rfl
  · have hb : bitsK k = 0 := bitsK_no (by omega)
    have hv : valTo (rdTo d) k c = valTo (inTo d) k c := by unfold valTo; rw [rdTo_flat hb]
    rw [hv]
    refine (gval_no h hc deep id h0 k hk h8).mono ?_
    rw [hd]
    rintro e w' ⟨T, rfl, h1, o1, hT⟩
    refine ⟨_, rfl, h1, o1, fun he => ?_⟩
    have h9 : 9 ≤ k := by
      rcases Nat.lt_or_ge k 9 with h9 | h9
      · exfalso
        obtain rfl : k = 0 := by omega
        have : valTo (inTo d) 0 c = c.fail 7 := by rw [val_no rfl, inTo_flat rfl]; rfl
        rw [this] at he
        by_cases e0 : c.er = 0
        · exact CS.bad_er e0 (by decide) he
        · rw [CS.fail_fail e0] at he; exact e0 he
      · exact h9
    unfold gOf
    rw [← hT he, if_neg (by omega), if_neg (by omega), if_pos hb, if_neg (by omega), if_neg (by omega), if_pos h9]
end Go.Proofs.YtmcklfndnjagiaaDoor
