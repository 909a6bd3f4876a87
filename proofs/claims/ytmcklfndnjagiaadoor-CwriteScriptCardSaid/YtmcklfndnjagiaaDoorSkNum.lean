/- Plain facts, of no program: how a cursor goes past things of Thrift's compact form, whatever they are. -/
import Derived.Test.YtmcklfndnjagiaaDoorChA
import Derived.Test.YtmcklfndnjagiaaDoorChWay
import Derived.Test.YtmcklfndnjagiaaDoorCurB
namespace Go.Proofs.YtmcklfndnjagiaaDoor
open Go Go.RowKit
set_option linter.unusedVariables false

/-- How many bytes are left. -/
def CS.lf (c : CS) : Nat := c.en - c.at_
/-- A truth within something; a text. -/
def CS.tru (c : CS) : CS := c.byte.want (decide (c.pB ≤ 2)) 3
def txTo (u : Nat) (c : CS) : CS := if u ≤ c.lf then c.take (u : Nat) else c.fail 1
def CS.txt (c : CS) : CS := txTo c.vVal c.vTo
/-- Has it things within it? -/
def hdK (k : Nat) : Bool := decide (9 ≤ k) && decide (k ≤ 12)
/-- So many times things of some kinds, one behind the other. -/
def eachTo (f : Nat → CS → CS) (ks : List Nat) : Nat → CS → CS
  | 0, c => c
  | n + 1, c => eachTo f ks n (ks.foldl (fun c k => f k c) c)
def valTo (f : Nat → CS → CS) (k : Nat) (c : CS) : CS := if trB k = true then c else f k c
def fldTo (f : Nat → CS → CS) : Nat → Int → CS → CS
  | 0, _, c => c
  | n + 1, last, c => if c.hKd last = 0 then c.hTo last else fldTo f n (c.hId last) (valTo f (c.hKd last) (c.hTo last))
def fuelN : Nat := 9223372036854775808
def holdTo (f : Nat → CS → CS) (k : Nat) (c : CS) : CS :=
  if k = 12 then fldTo f fuelN 0 c else if k = 11 then eachTo f [c.mKy, c.mVl] c.mCt c.mTo else eachTo f [c.lKd] c.lCt c.lTo
def flatTo (k : Nat) (c : CS) : CS :=
  if trB k = true then c.tru else if k = 3 then c.byte else if 4 ≤ k ∧ k ≤ 6 then c.vTo else if k = 7 then c.take 8 else if k = 8 then c.txt else c.fail 7
/-- A thing within, where so many may stand within one another. -/
def inTo : Nat → Nat → CS → CS
  | 0, k, c => if hdK k = true then c.fail 33 else flatTo k c
  | d + 1, k, c => if hdK k = true then holdTo (inTo d) k c else flatTo k c
theorem inTo_flat {k : Nat} (h : hdK k = false) (d : Nat) (c : CS) : inTo d k c = flatTo k c := by
  cases d <;> (unfold inTo; rw [h]; rfl)
theorem inTo_deep {k : Nat} (h : hdK k = true) (c : CS) : inTo 0 k c = c.fail 33 := by unfold inTo; rw [h]; rfl
theorem inTo_hold {k : Nat} (h : hdK k = true) (d : Nat) (c : CS) : inTo (d + 1) k c = holdTo (inTo d) k c := by show (if hdK k = true then _ else _) = _; rw [h]; rfl

/-- It keeps the text and its end, never goes back, and does nothing behind an error. -/
def Std (f : CS → CS) : Prop := ∀ c, c.ok → (f c).ok ∧ (f c).s = c.s ∧ (f c).en = c.en ∧ c.at_ ≤ (f c).at_ ∧ (¬ c.er = 0 → f c = c)
theorem Std.id : Std fun c => c := fun c h => ⟨h, rfl, rfl, Nat.le_refl _, fun _ => rfl⟩
theorem Std.comp {f g : CS → CS} (hf : Std f) (hg : Std g) : Std fun c => g (f c) := by
  intro c h
  obtain ⟨a1, a2, a3, a4, a5⟩ := hf c h
  obtain ⟨b1, b2, b3, b4, b5⟩ := hg _ a1
  exact ⟨b1, b2.trans a2, b3.trans a3, Nat.le_trans a4 b4, fun he => by
    have e := a5 he
    show g (f c) = c
    rw [e] at b5 ⊢; exact b5 he⟩
theorem Std.fail (k : Int) : Std fun c => c.fail k := by
  intro c h
  refine ⟨CS.fail_ok h k, ?_, ?_, ?_, fun he => CS.fail_fail he k⟩
  · show (c.fail k).s = c.s; unfold CS.fail; split <;> rfl
  · show (c.fail k).en = c.en; unfold CS.fail; split <;> rfl
  · show c.at_ ≤ (c.fail k).at_; unfold CS.fail; split <;> exact Nat.le_refl _
theorem Std.want (b : Bool) (k : Int) : Std fun c => c.want b k := by
  cases b
  · exact Std.fail k
  · exact Std.id
theorem Std.take (n : Int) : Std fun c => c.take n := by
  intro c h
  refine ⟨CS.take_ok h n, ?_, ?_, ?_, ?_⟩
  · show (c.take n).s = c.s; unfold CS.take; split <;> rfl
  · show (c.take n).en = c.en; unfold CS.take; split <;> rfl
  · show c.at_ ≤ (c.take n).at_
    unfold CS.take
    split
    · exact Nat.le_add_right _ _
    · exact Nat.le_refl _
  · intro he
    have hw : c.why n = c.er := by unfold CS.why; rw [if_pos he]
    show c.take n = c
    unfold CS.take; rw [hw, if_neg he]
theorem Std.byte : Std fun c => c.byte := Std.take 1
theorem Std.num : Std fun c => c.vTo := by
  intro c h
  have hv := vlead_le c.rest
  have hl := CS.rest_length h
  refine ⟨CS.vTo_ok h, (CS.vTo_s c).1, (CS.vTo_s c).2, ?_, fun he => (CS.vread_err he).1⟩
  show c.at_ ≤ c.vTo.at_
  have := h.1
  unfold CS.vTo
  split
  · exact Nat.le_refl _
  · split
    · exact Nat.le_add_right _ _
    · split
      · exact this
      · exact Nat.le_add_right _ _

/-- It goes past n bytes, whatever stands behind them, and says the same; of less than these it says that bytes lack. -/
structure Loc {α : Type} (f : CS → CS) (v : CS → α) : Prop where
  std : Std f
  good : ∀ c, c.ok → (f c).er = 0 → ∃ n, n ≤ c.rest.length ∧ f c = c.past n ∧ ∀ c' : CS, c'.ok → c'.er = 0 →
    (n ≤ c'.rest.length → c'.rest.take n = c.rest.take n → f c' = c'.past n ∧ v c' = v c) ∧ (c'.rest.length < n → c'.rest = c.rest.take c'.rest.length → (f c').er = 1)
theorem CS.rest_past {c : CS} (h : c.ok) {n : Nat} (hn : n ≤ c.rest.length) : (c.past n).rest = c.rest.drop n := by
  have hl := CS.rest_length h
  unfold CS.rest CS.past
  rw [List.drop_take, List.drop_drop]
  show ((c.s.data.toList.drop (c.at_ + n)).take (c.en - (c.at_ + n))) = _
  congr 1; omega
theorem CS.past_ok2 {c : CS} (h : c.ok) {n : Nat} (hn : n ≤ c.rest.length) : (c.past n).ok := CS.past_ok h hn
theorem Std.er {f : CS → CS} (h : Std f) {c : CS} (hc : c.ok) (h0 : (f c).er = 0) : c.er = 0 := by
  by_cases he : c.er = 0
  · exact he
  · rw [(h c hc).2.2.2.2 he] at h0; exact absurd h0 he
theorem Loc.bind {α β : Type} {f : CS → CS} {v : CS → α} {g : α → CS → CS} {u : α → CS → β} (h1 : Loc f v) (h2 : ∀ a, Loc (g a) (u a)) : Loc (fun c => g (v c) (f c)) (fun c => u (v c) (f c)) := by
  refine ⟨?_, ?_⟩
  · intro c hc
    exact (h1.std.comp (h2 (v c)).std) c hc
  · intro c hc h0
    have hfo := (h1.std c hc).1
    have hf0 := (h2 (v c)).std.er hfo h0
    obtain ⟨n, hn, hfn, hN⟩ := h1.good c hc hf0
    obtain ⟨m, hm, hgm, hM⟩ := (h2 (v c)).good (f c) hfo h0
    rw [hfn] at hgm hM hm
    rw [CS.rest_past hc hn] at hM hm
    rw [List.length_drop] at hm
    refine ⟨n + m, by omega, by show g (v c) (f c) = _; rw [hfn, hgm, CS.past_past], ?_⟩
    intro c' hc' he'
    obtain ⟨k1, k2⟩ := hN c' hc' he'
    constructor
    · intro hl ht
      have ht1 : c'.rest.take n = c.rest.take n := by
        have := congrArg (List.take n) ht
        rw [List.take_take, List.take_take, Nat.min_eq_left (by omega)] at this
        exact this
      obtain ⟨e1, e2⟩ := k1 (by omega) ht1
      have ho := CS.past_ok2 hc' (n := n) (by omega)
      have hr := CS.rest_past hc' (n := n) (by omega)
      obtain ⟨e3, e4⟩ := (hM (c'.past n) ho he').1 (by rw [hr, List.length_drop]; omega) (by
        rw [hr]
        have := congrArg (List.drop n) ht
        rw [List.drop_take, List.drop_take] at this
        rwa [show n + m - n = m by omega] at this)
      show g (v c') (f c') = _ ∧ u (v c') (f c') = _
      rw [e1, e2, e3, CS.past_past, e4, hfn]
      exact ⟨rfl, rfl⟩
    · intro hl ht
      rcases Nat.lt_or_ge c'.rest.length n with hlt | hge
      · have e := k2 hlt ht
        have ho := (h1.std c' hc').1
        show (g (v c') (f c')).er = 1
        rw [((h2 (v c')).std _ ho).2.2.2.2 (by rw [e]; decide)]
        exact e
      · have ht1 : c'.rest.take n = c.rest.take n := by
          have := congrArg (List.take n) ht
          rw [List.take_take, Nat.min_eq_left hge] at this
          exact this
        obtain ⟨e1, e2⟩ := k1 hge ht1
        have ho := CS.past_ok2 hc' hge
        have hr := CS.rest_past hc' hge
        show (g (v c') (f c')).er = 1
        rw [e1, e2]
        refine (hM (c'.past n) ho he').2 (by rw [hr, List.length_drop]; omega) ?_
        rw [hr, List.length_drop]
        have := congrArg (List.drop n) ht
        rw [List.drop_take] at this
        exact this
theorem Loc.cong {α : Type} {f g : CS → CS} {v u : CS → α} (h : Loc f v) (hf : ∀ c, g c = f c) (hv : ∀ c, c.ok → (f c).er = 0 → u c = v c) : Loc g u := by
  obtain rfl : g = f := funext hf
  refine ⟨h.std, fun c hc h0 => ?_⟩
  obtain ⟨n, hn, hfn, hN⟩ := h.good c hc h0
  refine ⟨n, hn, hfn, fun c' hc' he' => ⟨fun hl ht => ?_, (hN c' hc' he').2⟩⟩
  obtain ⟨e1, e2⟩ := (hN c' hc' he').1 hl ht
  refine ⟨e1, ?_⟩
  rw [hv c hc h0, hv c' hc' (by rw [e1]; exact he'), e2]
theorem Loc.ret {α : Type} (a : α) : Loc (fun c => c) (fun _ => a) :=
  ⟨Std.id, fun c hc h0 => ⟨0, Nat.zero_le _, rfl, fun c' hc' he' => ⟨fun _ _ => ⟨rfl, rfl⟩, fun h => absurd h (Nat.not_lt_zero _)⟩⟩⟩
theorem Loc.ite {α : Type} {p : Prop} [Decidable p] {f g : CS → CS} {v u : CS → α} (h1 : Loc f v) (h2 : Loc g u) : Loc (fun c => if p then f c else g c) (fun c => if p then v c else u c) := by
  by_cases h : p
  · simpa [h] using h1
  · simpa [h] using h2
theorem Loc.fail {α : Type} {k : Int} (hk : k ≠ 0) (v : CS → α) : Loc (fun c => c.fail k) v := by
  refine ⟨Std.fail k, fun c hc h0 => ?_⟩
  exfalso
  have h0' : (c.fail k).er = 0 := h0
  unfold CS.fail at h0'
  split at h0'
  · exact hk h0'
  · rename_i h; exact h h0'
theorem Loc.want {α : Type} (b : Bool) {k : Int} (hk : k ≠ 0) (a : α) : Loc (fun c => c.want b k) (fun _ => a) := by
  cases b
  · exact Loc.fail hk _
  · exact Loc.ret a
theorem Loc.take {α : Type} (n : Nat) (a : α) : Loc (fun c => c.take (n : Nat)) (fun _ => a) := by
  refine ⟨Std.take n, fun c hc h0 => ?_⟩
  have hy : ∀ c : CS, (c.take (n : Nat)).er = 0 → c.why n = 0 := by
    intro c h
    by_cases hw : c.why n = 0
    · exact hw
    · unfold CS.take at h; rw [if_neg hw] at h; exact h
  have hw := hy c h0
  obtain ⟨w1, w2, w3⟩ := CS.why_zero hw
  have hl := CS.rest_length hc
  have hc1 := hc.1
  refine ⟨n, by omega, by have := take_yes hw; rwa [Int.toNat_natCast] at this, fun c' hc' he' => ⟨fun hl' _ => ?_, fun hlt _ => ?_⟩⟩
  · have hl2 := CS.rest_length hc'
    have hc2 := hc'.1
    have hw' : c'.why n = 0 := CS.why_mk he' (by omega) (by omega)
    exact ⟨by have := take_yes hw'; rwa [Int.toNat_natCast] at this, rfl⟩
  · have hl2 := CS.rest_length hc'
    have hc2 := hc'.1
    have hw' : c'.why n = 1 := by
      unfold CS.why
      rw [if_neg (by simp [he']), if_neg (by omega), if_pos (by omega)]
    show (c'.take (n : Nat)).er = 1
    unfold CS.take
    rw [hw', if_neg (show ¬ (1 : Int) = 0 by decide)]
theorem CS.pB_rest {c : CS} (h : c.ok) (h0 : c.er = 0) {x : UInt8} {t : List UInt8} (hr : c.rest = x :: t) : c.pB = x.toNat := by
  have hl : 0 < c.rest.length := by rw [hr]; simp
  have := CS.rest_peek h h0 0 hl
  have e : ({ c with at_ := c.at_ + 0 } : CS) = c := rfl
  rw [e] at this
  unfold CS.pB
  rw [this]
  simp [hr]
theorem Loc.byte : Loc (fun c => c.byte) (fun c => c.pB) := by
  have hT := Loc.take 1 ()
  refine ⟨Std.byte, fun c hc h0 => ?_⟩
  obtain ⟨n, hn, hfn, hN⟩ := hT.good c hc h0
  have e1 : n = 1 := by
    have hp : c.peekIs = true := by
      cases hp : c.peekIs with
      | true => rfl
      | false =>
        exfalso
        have h0' : c.byte.er = 0 := h0
        rw [CS.byte_no hc hp] at h0'
        unfold CS.fail at h0'
        split at h0'
        · exact absurd (show (1 : Int) = 0 from h0') (by decide)
        · rename_i h; exact h h0'
    have h2 : c.byte = c.past n := hfn
    rw [CS.byte_yes hp] at h2
    have := congrArg CS.at_ h2
    have e3 : (c.past n).at_ = c.at_ + n := rfl
    rw [e3] at this
    have e4 : ({ c with at_ := c.at_ + 1 } : CS).at_ = c.at_ + 1 := rfl
    rw [e4] at this
    omega
  subst e1
  refine ⟨1, hn, hfn, fun c' hc' he' => ⟨fun hl ht => ⟨((hN c' hc' he').1 hl ht).1, ?_⟩, (hN c' hc' he').2⟩⟩
  have hc0 : c.er = 0 := Std.byte.er hc h0
  match hr : c.rest, hr' : c'.rest with
  | [], _ => rw [hr] at hn; exact absurd hn (by simp)
  | _ :: _, [] => rw [hr'] at hl; exact absurd hl (by simp)
  | x :: t, x' :: t' =>
    rw [hr, hr'] at ht
    simp at ht
    show c'.pB = c.pB
    rw [CS.pB_rest hc hc0 hr, CS.pB_rest hc' he' hr', ht]
theorem vlead_take : ∀ (l : List UInt8) (j : Nat), j ≤ vlead l → vlead (l.take j) = j
  | _, 0, _ => by simp [vlead]
  | [], j + 1, h => by simp [vlead] at h
  | b :: r, j + 1, h => by
    rw [vlead] at h
    split at h
    · rename_i hb
      rw [List.take_succ_cons, vlead, if_pos hb, vlead_take r j (by omega)]
    · omega
theorem Loc.num : Loc (fun c => c.vTo) (fun c => c.vVal) := by
  refine ⟨Std.num, fun c hc h0 => ?_⟩
  have h0' : c.vCode = 0 := (CS.vTo_er c).symm.trans h0
  obtain ⟨g1, g2, g3, g4, g5⟩ := CS.vTo_good h0'
  have hval : c.vVal = vvL (c.rest.take (vlead c.rest + 1)) := by unfold CS.vVal; rw [if_pos h0']
  refine ⟨vlead c.rest + 1, g3, g2, fun c' hc' he' => ⟨fun hl ht => ?_, fun hlt ht => ?_⟩⟩
  · have hvf := VF_take c.rest g3
    have hv' : vlead c'.rest = vlead c.rest := by
      have e : c'.rest = c.rest.take (vlead c.rest + 1) ++ c'.rest.drop (vlead c.rest + 1) := by rw [← ht, List.take_append_drop]
      have := vlead_VF _ (c'.rest.drop (vlead c.rest + 1)) hvf
      rw [← e, List.length_take] at this
      omega
    have hn9 : ¬ (9 ≤ vlead c'.rest ∧ 1 < ((c'.rest[9]?).getD 0).toNat) := by
      rw [hv']
      rintro ⟨x1, x2⟩
      have x9 : vlead c.rest = 9 := by omega
      have h9 : 9 < c.rest.length := by omega
      have h9' : 9 < c'.rest.length := by omega
      have e1 : (c'.rest.take (vlead c.rest + 1))[9]? = c'.rest[9]? := List.getElem?_take_of_lt (by omega)
      have e2 : (c.rest.take (vlead c.rest + 1))[9]? = c.rest[9]? := List.getElem?_take_of_lt (by omega)
      rw [← e1, ht, e2, List.getElem?_eq_getElem h9] at x2
      have := g5 h9 x9
      simp only [Option.getD_some] at x2
      omega
    have hcut : ¬ c'.rest.length ≤ vlead c'.rest := by rw [hv']; omega
    have hne : ¬ c'.er ≠ 0 := fun h => h he'
    have hcode : c'.vCode = 0 := by unfold CS.vCode; rw [if_neg hne, if_neg hn9, if_neg hcut]
    constructor
    · show c'.vTo = _
      unfold CS.vTo; rw [if_neg hne, if_neg hn9, if_neg hcut, hv']; rfl
    · show c'.vVal = c.vVal
      rw [hval]; unfold CS.vVal; rw [if_pos hcode, hv', ht]
  · have hv' : vlead c'.rest = c'.rest.length := by
      have := vlead_take c.rest c'.rest.length (by omega)
      rwa [← ht] at this
    have hn9 : ¬ (9 ≤ vlead c'.rest ∧ 1 < ((c'.rest[9]?).getD 0).toNat) := by
      rintro ⟨x1, x2⟩
      rw [List.getElem?_eq_none (by omega)] at x2
      simp at x2
    have hne : ¬ c'.er ≠ 0 := fun h => h he'
    show c'.vTo.er = 1
    unfold CS.vTo; rw [if_neg hne, if_neg hn9, if_pos (by omega)]
theorem Loc.unit {α : Type} {f : CS → CS} {v : CS → α} (h : Loc f v) : Loc f (fun _ => ()) :=
  ⟨h.std, fun c hc h0 => by
    obtain ⟨n, hn, hfn, hN⟩ := h.good c hc h0
    exact ⟨n, hn, hfn, fun c' hc' he' => ⟨fun hl ht => ⟨((hN c' hc' he').1 hl ht).1, rfl⟩, (hN c' hc' he').2⟩⟩⟩
end Go.Proofs.YtmcklfndnjagiaaDoor
