/- What a number's text is worth, over bytes: 'nWorth', 'wEnd'; that a power beyond all numbers may be cut; the digits without noughts at either end; the texts of a whole number with noughts. Of no program. -/
import Derived.Test.YtemmeoikenbmgaaDoorJnNum
import Derived.Lib.TrimByte
namespace Go.Proofs.YtemmeoikenbmgaaDoor
open Go Go.RowKit
set_option linter.unusedVariables false

/-- Digits without noughts ahead; how many noughts stand at the end; digits without these. -/
def lz (d : List UInt8) : List UInt8 := d.dropWhile (· == 48)
def zR (d : List UInt8) : Nat := (d.reverse.takeWhile (· == 48)).length
def cnt (d : List UInt8) : List UInt8 := (d.reverse.dropWhile (· == 48)).reverse
/-- The number of a power's text; the same, cut at m. -/
def pwV (P : List UInt8) : Int := if P.head? = some 45 then -(dV (P.filter dIs) : Int) else (dV (P.filter dIs) : Int)
def capV (m : Nat) (P : List UInt8) : Int := if P.head? = some 45 then -((min m (dV (P.filter dIs)) : Nat) : Int) else ((min m (dV (P.filter dIs)) : Nat) : Int)
/-- What digits are worth times 10 to a power. -/
def dWorth (sg d : List UInt8) (n : Int) : Int × Int :=
  if d = [] then (0, 0) else if n < -(zR d : Int) then (0, 7) else if 30 < (d.length : Int) + n then (0, 4)
  else sEnd (sg ++ (if n < 0 then d.take ((d.length : Int) + n).toNat else d ++ List.replicate n.toNat 48))
def nWorth (sg W B : List UInt8) (v : Int) : Int × Int := dWorth sg (lz (W ++ B)) (v - B.length)
def wEnd (L : List UInt8) : Int × Int := if nCode L = 0 ∧ nE L = L.length then nWorth (L.take (nA L)) (wW L) (wB L) (pwV (wP L)) else (0, 3)

theorem all_eq_rep {l : List UInt8} (h : l.all (· == 48) = true) : l = List.replicate l.length 48 :=
  List.eq_replicate_iff.mpr ⟨rfl, fun b hb => by have := List.all_eq_true.mp h b hb; simpa using this⟩
theorem cnt_rep (d : List UInt8) : d = cnt d ++ List.replicate (zR d) 48 := by
  have h1 : d.reverse.takeWhile (· == 48) = List.replicate (zR d) 48 := all_eq_rep List.all_takeWhile
  have h2 : d.reverse = List.replicate (zR d) 48 ++ d.reverse.dropWhile (· == 48) := by rw [← h1, List.takeWhile_append_dropWhile]
  have h3 := congrArg List.reverse h2
  rw [List.reverse_reverse, List.reverse_append, List.reverse_replicate] at h3
  exact h3
theorem cnt_len (d : List UInt8) : d.length = (cnt d).length + zR d := by
  have := congrArg List.length (cnt_rep d)
  rwa [List.length_append, List.length_replicate] at this
theorem lz_head (l : List UInt8) {x : UInt8} {t : List UInt8} (h : lz l = x :: t) : x ≠ 48 := by
  have := List.head?_dropWhile_not (· == (48 : UInt8)) l
  unfold lz at h
  rw [h, List.head?_cons] at this
  simpa using this
theorem lz_all {l : List UInt8} (h : l.all dIs = true) : (lz l).all dIs = true :=
  List.all_eq_true.mpr fun x hx => List.all_eq_true.mp h x ((List.dropWhile_sublist _).mem hx)
theorem lz_len (l : List UInt8) : (lz l).length ≤ l.length := (List.dropWhile_sublist _).length_le
theorem dV_lz : ∀ (l : List UInt8), dV (lz l) = dV l
  | [] => rfl
  | b :: r => by
    unfold lz
    rw [List.dropWhile_cons]
    by_cases h : (b == (48 : UInt8)) = true
    · rw [if_pos h]
      have hb : b = 48 := by simpa using h
      have ih := dV_lz r
      unfold lz at ih
      rw [ih, dV_cons, hb]
      show dV r = 0 * 10 ^ r.length + dV r
      rw [Nat.zero_mul, Nat.zero_add]
    · rw [if_neg h]
/-- Digits whose first one is no nought. -/
def Lead (d : List UInt8) : Prop := d ≠ [] ∧ d.all dIs = true ∧ ∀ x t, d = x :: t → x ≠ 48
theorem Lead.of {l : List UInt8} (h : l.all dIs = true) (hn : lz l ≠ []) : Lead (lz l) := ⟨hn, lz_all h, fun x t e => lz_head l e⟩
theorem Lead.dok {d : List UInt8} (h : Lead d) : DOK d := ⟨h.1, h.2.1, fun e => by
  match d, h, e with
  | x :: t, h, e => rw [List.head?_cons] at e; exact absurd (Option.some.inj e) (h.2.2 x t rfl)⟩
theorem Lead.big {d : List UInt8} (h : Lead d) : ∃ x t, cnt d = x :: t ∧ 49 ≤ x.toNat := by
  have e := cnt_rep d
  match hc : cnt d with
  | [] =>
    rw [hc, List.nil_append] at e
    obtain ⟨x, t, hx⟩ := List.exists_cons_of_ne_nil h.1
    have := h.2.2 x t hx
    rw [e] at hx
    have hm : x ∈ List.replicate (zR d) (48 : UInt8) := by rw [hx]; exact List.mem_cons_self
    exact absurd (List.eq_of_mem_replicate hm) this
  | x :: t =>
    rw [hc, List.cons_append] at e
    have h1 := h.2.2 x _ e
    have h2 : dIs x = true := List.all_eq_true.mp h.2.1 x (by rw [e]; exact List.mem_cons_self)
    have h3 := dIs_iff.mp h2
    refine ⟨x, t, rfl, ?_⟩
    have : x.toNat ≠ 48 := fun e => h1 (UInt8.toNat_inj.mp (by rw [e]; rfl))
    omega
theorem cnt_ne {d : List UInt8} (h : Lead d) : cnt d ≠ [] := by
  obtain ⟨x, t, e, _⟩ := h.big
  rw [e]; simp
theorem cnt_nil : cnt [] = [] := rfl
/-- The digits, with as many noughts as the power says. -/
theorem worth_text {d : List UInt8} {n : Int} (hn : ¬ n < -(zR d : Int)) : (if n < 0 then d.take ((d.length : Int) + n).toNat else d ++ List.replicate n.toNat 48) = cnt d ++ List.replicate (n + zR d).toNat 48 := by
  have e := cnt_rep d
  have hl := cnt_len d
  by_cases h0 : n < 0
  · rw [if_pos h0]
    obtain ⟨j, hj⟩ : ∃ j : Nat, (j : Int) = n + zR d := ⟨(n + zR d).toNat, by omega⟩
    rw [show ((d.length : Int) + n).toNat = (cnt d).length + j by omega, show (n + zR d).toNat = j by omega]
    have h1 : d.take ((cnt d).length + j) = (cnt d ++ List.replicate (zR d) 48).take ((cnt d).length + j) := by rw [← e]
    rw [h1, List.take_length_add_append, List.take_replicate, Nat.min_eq_left (by omega)]
  · rw [if_neg h0]
    have h1 : d ++ List.replicate n.toNat 48 = (cnt d ++ List.replicate (zR d) 48) ++ List.replicate n.toNat 48 := by rw [← e]
    rw [h1, List.append_assoc, List.replicate_append_replicate, show zR d + n.toNat = (n + zR d).toNat by omega]
theorem sEnd_far {sg l : List UInt8} {x : UInt8} {t : List UInt8} (hs : sg = [] ∨ sg = [45]) (hl : l = x :: t) (hx : 49 ≤ x.toNat) (ha : l.all dIs = true) (ht : 19 ≤ t.length) : sEnd (sg ++ l) = (0, 4) := by
  have h1 := dV_ge x t hx
  have h2 : 10 ^ 19 ≤ 10 ^ t.length := Nat.pow_le_pow_right (by decide) ht
  have h3 : (10 : Nat) ^ 19 = 10000000000000000000 := by decide
  have hd : DOK l := ⟨by rw [hl]; simp, ha, fun e => by
    rw [hl, List.head?_cons] at e
    rw [Option.some.inj e] at hx
    exact absurd hx (by decide)⟩
  rw [← hl] at h1
  rcases hs with rfl | rfl
  · rw [List.nil_append]
    unfold sEnd
    rw [if_neg (not45 ha)]
    unfold iEnd
    rw [if_pos hd, if_neg (by omega)]
  · unfold sEnd
    rw [if_pos (show (([45] : List UInt8) ++ l).head? = some 45 from rfl)]
    show (if l = [48] then ((0 : Int), (3 : Int)) else nEnd l) = (0, 4)
    rw [if_neg (fun e => by rw [e] at hl; have := congrArg List.length (List.cons.inj hl).2; rw [List.length_nil] at this; omega)]
    unfold nEnd
    rw [if_pos hd, if_neg (by omega)]
/-- What the program tells, in its own way. -/
theorem dWorth_prog {sg d : List UInt8} {n p : Int} (hs : sg = [] ∨ sg = [45]) (h : Lead d) (hp : p = n + d.length - (cnt d).length) :
    dWorth sg d n = if p < 0 then (0, 7) else if 19 - ((cnt d).length : Int) < p then (0, 4) else sEnd (sg ++ (cnt d ++ List.replicate p.toNat 48)) := by
  have hl := cnt_len d
  have hpz : p = n + zR d := by omega
  unfold dWorth
  rw [if_neg h.1]
  by_cases h1 : n < -(zR d : Int)
  · rw [if_pos h1, if_pos (by omega)]
  · rw [if_neg h1, if_neg (show ¬ p < 0 by omega), worth_text h1, ← hpz]
    by_cases h2 : 30 < (d.length : Int) + n
    · rw [if_pos h2, if_pos (by omega)]
    · rw [if_neg h2]
      by_cases h3 : 19 - ((cnt d).length : Int) < p
      · rw [if_pos h3]
        obtain ⟨x, t, hc, hx⟩ := h.big
        have hcl : (cnt d).length = t.length + 1 := by rw [hc, List.length_cons]
        refine sEnd_far (x := x) (t := t ++ List.replicate p.toNat 48) hs (by rw [hc]; rfl) hx ?_ (by rw [List.length_append, List.length_replicate]; omega)
        rw [List.all_append, Bool.and_eq_true]
        refine ⟨List.all_eq_true.mpr fun y hy => List.all_eq_true.mp h.2.1 y (by rw [cnt_rep d]; exact List.mem_append_left _ hy), List.all_eq_true.mpr fun y hy => ?_⟩
        rw [List.eq_of_mem_replicate hy]; decide
      · rw [if_neg h3]
theorem dWorth_up {sg d : List UInt8} {n : Int} (h : d ≠ []) (hn : 31 ≤ n) : dWorth sg d n = (0, 4) := by
  unfold dWorth
  rw [if_neg h, if_neg (by omega), if_pos (by omega)]
theorem dWorth_down {sg d : List UInt8} {n : Int} (h : d ≠ []) (hn : n < -(d.length : Int)) : dWorth sg d n = (0, 7) := by
  have := cnt_len d
  unfold dWorth
  rw [if_neg h, if_pos (by omega)]
theorem nWorth_cap {sg W B P : List UInt8} (m : Nat) (hm : 4294967296 ≤ m) (hl : W.length + B.length ≤ 1073741824) : nWorth sg W B (capV m P) = nWorth sg W B (pwV P) := by
  unfold nWorth
  by_cases h0 : lz (W ++ B) = []
  · unfold dWorth; rw [if_pos h0, if_pos h0]
  · have hd := lz_len (W ++ B)
    rw [List.length_append] at hd
    unfold capV pwV
    generalize dV (P.filter dIs) = v
    by_cases hv : v ≤ m
    · rw [Nat.min_eq_right hv]
    · rw [Nat.min_eq_left (by omega)]
      split
      · rw [dWorth_down h0 (by omega), dWorth_down h0 (by omega)]
      · rw [dWorth_up h0 (by omega), dWorth_up h0 (by omega)]
theorem wEnd_form {L sg W F B X P : List UInt8} (h : NForm L sg W F B X P) : wEnd L = nWorth sg W B (pwV P) := by
  obtain ⟨h1, h2, h3, h4, h5, h6, _⟩ := form_to h
  unfold wEnd
  rw [if_pos ⟨h1, h2⟩, h3, h4, h5, h6]
theorem wEnd_no {L : List UInt8} (h : ¬ (nCode L = 0 ∧ nE L = L.length)) : wEnd L = (0, 3) := by unfold wEnd; rw [if_neg h]
end Go.Proofs.YtemmeoikenbmgaaDoor
