/- What a cursor reads as a field, and where it stands then. Of no program. -/
import Derived.Test.YtjpppnfkpnfhoaaPrNum
namespace Go.Proofs.Ytjpppnfkpnfhoaa
open Go Go.RowKit
set_option linter.unusedVariables false

theorem CS.vCode_l {c : CS} (h0 : c.er = 0) : c.vCode = lvC c.rest := by unfold CS.vCode lvC; rw [if_neg (by simp [h0])]
theorem CS.vVal_l {c : CS} (h0 : c.er = 0) : c.vVal = lvV c.rest := by unfold CS.vVal lvV lvK; rw [CS.vCode_l h0]
theorem CS.vTo_l {c : CS} (h0 : c.er = 0) (h : lvC c.rest = 0) : c.vTo = c.past (lvK c.rest) := (CS.vTo_good (by rw [CS.vCode_l h0]; exact h)).2.1
theorem CS.rest_past (c : CS) (k : Nat) : (c.past k).rest = c.rest.drop k := by
  show (c.s.data.toList.drop (c.at_ + k)).take (c.en - (c.at_ + k)) = ((c.s.data.toList.drop c.at_).take (c.en - c.at_)).drop k
  rw [List.drop_take, List.drop_drop, Nat.sub_sub]
theorem CS.take_l {c : CS} (h : c.ok) (h0 : c.er = 0) (n : Nat) :
    (c.rest.length < n → c.take (n : Nat) = c.bad 1 ∧ c.takeS (n : Nat) = ⟨#[]⟩) ∧ (¬ c.rest.length < n → c.take (n : Nat) = c.past n ∧ c.takeS (n : Nat) = bA (c.rest.take n)) := by
  have hl := CS.rest_length h
  obtain ⟨h1, h2, h3⟩ := h
  constructor
  · intro hn
    have hy : c.why (n : Nat) = 1 := by
      unfold CS.why; rw [if_neg (by simp [h0]), if_neg (by omega), if_pos (by omega)]
    have hy' : ¬ c.why (n : Nat) = 0 := by rw [hy]; decide
    exact ⟨by rw [take_no hy']; unfold CS.allow CS.bad; rw [hy], takeS_no hy'⟩
  · intro hn
    have hy : c.why (n : Nat) = 0 := CS.why_mk h0 (by omega) (by omega)
    refine ⟨by rw [take_yes hy, Int.toNat_natCast], ?_⟩
    rw [takeS_yes hy, Int.toNat_natCast]
    apply ByteArray.ext
    apply Array.toList_inj.mp
    rw [ext_toList]
    unfold CS.rest bA
    simp only [List.take_take]
    congr 1
    omega

/-- Behind a number of bytes, and these; the text that is read so. -/
def CS.xTo (c : CS) : CS := if c.vTo.en - c.vTo.at_ < c.vVal then c.vTo.fail 1 else c.vTo.take (c.vVal : Nat)
def CS.xTxt (c : CS) : ByteArray := if c.vTo.en - c.vTo.at_ < c.vVal then ⟨#[]⟩ else c.vTo.takeS (c.vVal : Nat)
/-- Behind what stands behind a tag of wire type v; Num and Text of it. -/
def CS.cTo (c : CS) (v : Nat) : CS := if v = 0 then c.vTo else if v = 1 then c.take (8 : Nat) else if v = 5 then c.take (4 : Nat) else c.xTo
def CS.cNum (c : CS) (v : Nat) : Nat := if v = 0 then c.vVal else if v = 1 then valL (c.takeS (8 : Nat)).data.toList else if v = 5 then valL (c.takeS (4 : Nat)).data.toList else 0
def CS.cTxt (c : CS) (v : Nat) : ByteArray := if v = 0 then ⟨#[]⟩ else if v = 1 then ⟨#[]⟩ else if v = 5 then ⟨#[]⟩ else c.xTxt
/-- Behind a field; the field. -/
def CS.fTo (c : CS) : CS := c.gTo.cTo (mW c.vVal)
def CS.fGot (c : CS) : FD := (((mN c.vVal : Nat) : Int), ((mW c.vVal : Nat) : Int), c.gTo.cNum (mW c.vVal), c.gTo.cTxt (mW c.vVal))
def CS.fVal (c : CS) : FD := if c.fTo.er = 0 then c.fGot else fZ

theorem CS.fail_s (c : CS) (k : Int) : (c.fail k).s = c.s ∧ (c.fail k).en = c.en := by unfold CS.fail; split <;> exact ⟨rfl, rfl⟩
theorem CS.take_s (c : CS) (n : Int) : (c.take n).s = c.s ∧ (c.take n).en = c.en := by unfold CS.take; split <;> exact ⟨rfl, rfl⟩
theorem CS.gTo_s (c : CS) : c.gTo.s = c.s ∧ c.gTo.en = c.en := by
  unfold CS.gTo; split
  · rw [(CS.fail_s _ _).1, (CS.fail_s _ _).2]; exact CS.vTo_s c
  · exact CS.vTo_s c
theorem CS.gTo_ok {c : CS} (h : c.ok) : c.gTo.ok := by
  unfold CS.gTo; split
  · exact CS.fail_ok (CS.vTo_ok h) _
  · exact CS.vTo_ok h
theorem CS.xTo_s (c : CS) : c.xTo.s = c.s ∧ c.xTo.en = c.en := by
  unfold CS.xTo; split
  · rw [(CS.fail_s _ _).1, (CS.fail_s _ _).2]; exact CS.vTo_s c
  · rw [(CS.take_s _ _).1, (CS.take_s _ _).2]; exact CS.vTo_s c
theorem CS.xTo_ok {c : CS} (h : c.ok) : c.xTo.ok := by
  unfold CS.xTo; split
  · exact CS.fail_ok (CS.vTo_ok h) _
  · exact CS.take_ok (CS.vTo_ok h) _
theorem CS.cTo_s (c : CS) (v : Nat) : (c.cTo v).s = c.s ∧ (c.cTo v).en = c.en := by
  unfold CS.cTo; split
  · exact CS.vTo_s c
  · split
    · exact CS.take_s _ _
    · split
      · exact CS.take_s _ _
      · exact CS.xTo_s c
theorem CS.cTo_ok {c : CS} (h : c.ok) (v : Nat) : (c.cTo v).ok := by
  unfold CS.cTo; split
  · exact CS.vTo_ok h
  · split
    · exact CS.take_ok h _
    · split
      · exact CS.take_ok h _
      · exact CS.xTo_ok h
theorem CS.fTo_s (c : CS) : c.fTo.s = c.s ∧ c.fTo.en = c.en := by
  unfold CS.fTo; rw [(CS.cTo_s _ _).1, (CS.cTo_s _ _).2]; exact CS.gTo_s c
theorem CS.fTo_ok {c : CS} (h : c.ok) : c.fTo.ok := CS.cTo_ok (CS.gTo_ok h) _
theorem CS.cNum_lt (c : CS) (v : Nat) (hc : c.ok) : c.cNum v < 18446744073709551616 := by
  have hs : ∀ n : Nat, n ≤ 8 → valL (c.takeS (n : Nat)).data.toList < 18446744073709551616 := fun n hn => by
    have h1 := valL_lt (c.takeS (n : Nat)).data.toList
    have h2 : (c.takeS (n : Nat)).data.toList.length ≤ n := by
      rw [toList_size]
      by_cases hy : c.why n = 0
      · rw [takeS_yes hy]; simp; omega
      · rw [takeS_no hy]; simp [ByteArray.size]
    have h3 : 256 ^ (c.takeS (n : Nat)).data.toList.length ≤ 256 ^ 8 := Nat.pow_le_pow_right (by decide) (by omega)
    have h4 : (256 : Nat) ^ 8 = 18446744073709551616 := by decide
    omega
  unfold CS.cNum; split
  · exact CS.vVal_lt c
  · split
    · exact hs 8 (by omega)
    · split
      · exact hs 4 (by omega)
      · omega

theorem CS.cTo_l {c : CS} (h : c.ok) (h0 : c.er = 0) (v : Nat) :
    (c.cTo v).er = (cRd (v : Nat) c.rest).1 ∧ ((cRd (v : Nat) c.rest).1 = 0 → c.cTo v = c.past (cRd (v : Nat) c.rest).2.1 ∧ c.cNum v = (cRd (v : Nat) c.rest).2.2.1 ∧ c.cTxt v = (cRd (v : Nat) c.rest).2.2.2) := by
  have ev : ∀ k : Nat, ((v : Int) = (k : Int)) = (v = k) := fun k => propext ⟨fun e => by omega, fun e => by omega⟩
  have e0 : ((v : Int) = 0) = (v = 0) := ev 0
  have e1 : ((v : Int) = 1) = (v = 1) := ev 1
  have e5 : ((v : Int) = 5) = (v = 5) := ev 5
  unfold CS.cTo CS.cNum CS.cTxt cRd
  simp only [e0, e1, e5]
  by_cases v0 : v = 0
  · simp only [if_pos v0]
    rw [CS.vTo_er, CS.vCode_l h0]
    by_cases hc : lvC c.rest ≠ 0
    · rw [if_pos hc]; exact ⟨rfl, fun e => absurd e hc⟩
    · have hc' : lvC c.rest = 0 := by simpa using hc
      rw [if_neg hc]; exact ⟨hc', fun _ => ⟨CS.vTo_l h0 hc', CS.vVal_l h0, rfl⟩⟩
  · simp only [if_neg v0]
    by_cases v1 : v = 1
    · simp only [if_pos v1]
      obtain ⟨t1, t2⟩ := CS.take_l h h0 8
      by_cases hl : c.rest.length < 8
      · rw [(t1 hl).1, if_pos hl]; exact ⟨rfl, fun e => absurd e (by decide)⟩
      · rw [(t2 hl).1, (t2 hl).2, if_neg hl]; exact ⟨h0, fun _ => ⟨rfl, by simp [bA], rfl⟩⟩
    · simp only [if_neg v1]
      by_cases v5 : v = 5
      · simp only [if_pos v5]
        obtain ⟨t1, t2⟩ := CS.take_l h h0 4
        by_cases hl : c.rest.length < 4
        · rw [(t1 hl).1, if_pos hl]; exact ⟨rfl, fun e => absurd e (by decide)⟩
        · rw [(t2 hl).1, (t2 hl).2, if_neg hl]; exact ⟨h0, fun _ => ⟨rfl, by simp [bA], rfl⟩⟩
      · simp only [if_neg v5]
        have hk := CS.vTo_ok h
        have hr := CS.rest_length hk
        have he := CS.vTo_er c
        rw [CS.vCode_l h0] at he
        unfold CS.xTo CS.xTxt
        by_cases hc : lvC c.rest ≠ 0
        · have hv : c.vVal = 0 := by unfold CS.vVal; rw [CS.vCode_l h0, if_neg hc]
          rw [if_pos hc, hv, if_neg (by omega)]
          refine ⟨?_, fun e => absurd e hc⟩
          have hy : c.vTo.why (0 : Nat) = c.vTo.er := by unfold CS.why; rw [if_pos (by rw [he]; exact hc)]
          unfold CS.take
          rw [if_neg (by rw [hy, he]; exact hc), hy]; exact he
        · have hc' : lvC c.rest = 0 := by simpa using hc
          rw [hc'] at he
          have ht := CS.vTo_l h0 hc'
          have hrl : c.vTo.rest = c.rest.drop (lvK c.rest) := by rw [ht, CS.rest_past]
          have hll := lvK_le hc'
          rw [hrl, List.length_drop] at hr
          rw [if_neg hc, ← hr, CS.vVal_l h0]
          obtain ⟨t1, t2⟩ := CS.take_l hk he (lvV c.rest)
          rw [hrl, List.length_drop] at t1 t2
          by_cases hl : c.rest.length < lvK c.rest + lvV c.rest
          · rw [if_pos hl, if_pos (by omega)]
            exact ⟨by rw [CS.fail_good he]; rfl, fun e => absurd e (by decide)⟩
          · have hn : ¬ c.rest.length - lvK c.rest < lvV c.rest := by omega
            rw [if_neg hl]
            simp only [if_neg hn]
            rw [(t2 hn).1, (t2 hn).2, ht, CS.past_past]
            exact ⟨h0, fun _ => by refine ⟨?_, ?_, ?_⟩ <;> first | rfl | trivial⟩

/-- A field, of a cursor without an error. -/
theorem CS.fTo_l {c : CS} (h : c.ok) (h0 : c.er = 0) :
    c.fTo.er = (fRd c.rest).1 ∧ ((fRd c.rest).1 = 0 → c.fTo = c.past (fRd c.rest).2.1) ∧ c.fVal = (fRd c.rest).2.2 := by
  have hv := CS.vVal_l h0
  have he := CS.vTo_er c
  rw [CS.vCode_l h0] at he
  have hz : ∀ d : CS, ¬ d.er = 0 → d.ok → (d.cTo 0) = d := fun d hd _ => (CS.vread_err hd).1
  by_cases h1 : lvC c.rest ≠ 0
  · have hV : c.vVal = 0 := by rw [hv]; unfold lvV; rw [if_neg h1]
    have hm : mN 0 = 0 ∧ mW 0 = 0 := ⟨rfl, rfl⟩
    have hg : c.gTo = c.vTo := by
      rw [CS.gTo_no (by rw [hV]; exact hm.1), CS.fail_bad (by rw [he]; exact h1)]
    have hF : c.fTo = c.vTo := by
      unfold CS.fTo; rw [hV, hm.2, hg]; exact hz _ (by rw [he]; exact h1) (CS.vTo_ok h)
    have hR : (fRd c.rest).1 = lvC c.rest := by unfold fRd; rw [if_pos h1]
    refine ⟨by rw [hF, he, hR], fun e => absurd (hR ▸ e) h1, ?_⟩
    unfold CS.fVal; rw [if_neg (by rw [hF, he]; exact h1)]
    rw [fRd_bad (by rw [hR]; exact h1)]
  · have h1' : lvC c.rest = 0 := by simpa using h1
    rw [h1'] at he
    have ht := CS.vTo_l h0 h1'
    by_cases h2 : mN (lvV c.rest) = 0
    · have hg : c.gTo = c.vTo.bad 14 := by rw [CS.gTo_no (by rw [hv]; exact h2), CS.fail_good he]
      have hw := mW_zero h2
      have hF : c.fTo = c.vTo.bad 14 := by
        unfold CS.fTo; rw [hv, hw, hg]; exact hz _ (show ¬ (14 : Int) = 0 by decide) (CS.bad_fine (CS.vTo_ok h) _)
      have hR : (fRd c.rest).1 = 14 := by unfold fRd; rw [if_neg h1, if_pos h2]
      refine ⟨by rw [hF, hR]; rfl, fun e => absurd (hR ▸ e) (by decide), ?_⟩
      unfold CS.fVal; rw [if_neg (by rw [hF]; exact (show ¬ (14 : Int) = 0 by decide))]
      rw [fRd_bad (by rw [hR]; decide)]
    · have hg : c.gTo = c.vTo := CS.gTo_yes (by rw [hv]; exact h2)
      obtain ⟨k1, k2⟩ := CS.cTo_l (CS.vTo_ok h) he (mW (lvV c.rest))
      have hrl : c.vTo.rest = c.rest.drop (lvK c.rest) := by rw [ht, CS.rest_past]
      rw [hrl] at k1 k2
      have hF : c.fTo = c.vTo.cTo (mW (lvV c.rest)) := by unfold CS.fTo; rw [hv, hg]
      by_cases h3 : (cRd (mW (lvV c.rest) : Nat) (c.rest.drop (lvK c.rest))).1 ≠ 0
      · have hR : (fRd c.rest).1 = (cRd (mW (lvV c.rest) : Nat) (c.rest.drop (lvK c.rest))).1 := by unfold fRd; rw [if_neg h1, if_neg h2, if_pos h3]
        refine ⟨by rw [hF, hR]; exact k1, fun e => absurd (hR ▸ e) h3, ?_⟩
        unfold CS.fVal; rw [if_neg (by rw [hF, k1]; exact h3)]
        rw [fRd_bad (by rw [hR]; exact h3)]
      · have h3' : (cRd (mW (lvV c.rest) : Nat) (c.rest.drop (lvK c.rest))).1 = 0 := by simpa using h3
        obtain ⟨j1, j2, j3⟩ := k2 h3'
        have hR : fRd c.rest = (0, lvK c.rest + (cRd (mW (lvV c.rest) : Nat) (c.rest.drop (lvK c.rest))).2.1, (((mN (lvV c.rest) : Nat) : Int), ((mW (lvV c.rest) : Nat) : Int), (cRd (mW (lvV c.rest) : Nat) (c.rest.drop (lvK c.rest))).2.2)) := by
          unfold fRd; rw [if_neg h1, if_neg h2, if_neg h3]
        rw [hR]
        refine ⟨by rw [hF, k1]; exact h3', fun _ => by rw [hF, j1, ht, CS.past_past], ?_⟩
        unfold CS.fVal; rw [if_pos (by rw [hF, k1]; exact h3')]
        unfold CS.fGot
        rw [hg, hv, j2, j3]
/-- .. and with one. -/
theorem CS.fTo_err {c : CS} (h0 : ¬ c.er = 0) : c.fTo = c ∧ c.fVal = fZ := by
  obtain ⟨h1, h2⟩ := CS.vread_err h0
  have hg : c.gTo = c := by rw [CS.gTo_no (by rw [h2]; rfl), h1, CS.fail_bad h0]
  have hF : c.fTo = c := by
    unfold CS.fTo; rw [h2, hg]; exact h1
  exact ⟨hF, by unfold CS.fVal; rw [hF, if_neg h0]⟩
theorem new_fTo (s : ByteArray) (h : s.size ≤ 9223372036854775807) :
    (CS.new s).fTo.er = (fRd s.data.toList).1 ∧ ((fRd s.data.toList).1 = 0 → (CS.new s).fTo = (CS.new s).past (fRd s.data.toList).2.1) ∧ (CS.new s).fVal = (fRd s.data.toList).2.2 := by
  have := CS.fTo_l (CS.new_ok h) rfl
  rw [new_rest] at this
  exact this
theorem mW_four (u : Nat) : mW u = 0 ∨ mW u = 1 ∨ mW u = 5 ∨ mW u = 2 := by
  rcases Bool.eq_false_or_eq_true (tagB (u / 8 : Nat) (u % 8 : Nat)) with h | h
  · have := tag_yes h; rw [(mN_yes h).2]; omega
  · rw [(mN_no h).2]; exact .inl rfl
end Go.Proofs.Ytjpppnfkpnfhoaa
