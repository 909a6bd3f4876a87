/- A whole number's digits, with noughts behind a dot, or with a power and noughts that make up for it, are worth it. Of no program. -/
import Derived.Test.YtemmeoikenbmgaaDoorJnWor
namespace Go.Proofs.YtemmeoikenbmgaaDoor
open Go Go.RowKit
set_option linter.unusedVariables false

theorem zR_rep (l : List UInt8) (c : Nat) : c ≤ zR (l ++ List.replicate c 48) := by
  unfold zR
  rw [List.reverse_append, List.reverse_replicate, List.takeWhile_append_of_pos (fun x hx => by rw [List.eq_of_mem_replicate hx]; decide), List.length_append, List.length_replicate]
  omega
theorem lz_lead {d : List UInt8} (h : ∃ x t, d = x :: t ∧ x ≠ 48) (r : List UInt8) : lz (d ++ r) = d ++ r := by
  obtain ⟨x, t, rfl, hx⟩ := h
  unfold lz
  rw [List.cons_append, List.dropWhile_cons, if_neg (by simpa using hx)]
theorem lz_rep : ∀ c : Nat, lz (List.replicate c 48) = []
  | 0 => rfl
  | c + 1 => lz_rep c
theorem dec_lead {m : Nat} (h : m ≠ 0) : ∃ x t, Lib.decDigits m = x :: t ∧ x ≠ 48 := by
  obtain ⟨x, t, hx⟩ := List.exists_cons_of_ne_nil (dec_ne m)
  refine ⟨x, t, hx, fun e => h (dec_head m ?_)⟩
  rw [hx, List.head?_cons, e]
theorem rep_all (c : Nat) : (List.replicate c (48 : UInt8)).all dIs = true := List.all_eq_true.mpr fun x hx => by rw [List.eq_of_mem_replicate hx]; decide
/-- The digits of a number that is not 0, with noughts, a power taking them back. -/
theorem dWorth_same {sg : List UInt8} {m c : Nat} {n : Int} (hm : m ≠ 0) (hl : (Lib.decDigits m).length ≤ 20) (hs : sEnd (sg ++ Lib.decDigits m) = (n, 0)) : dWorth sg (Lib.decDigits m ++ List.replicate c 48) (-(c : Int)) = (n, 0) := by
  have hz := zR_rep (Lib.decDigits m) c
  have hlen : (Lib.decDigits m ++ List.replicate c 48).length = (Lib.decDigits m).length + c := by rw [List.length_append, List.length_replicate]
  unfold dWorth
  rw [if_neg (fun e => dec_ne m (List.append_eq_nil_iff.mp e).1), if_neg (by omega), if_neg (by omega)]
  by_cases hc : c = 0
  · subst hc
    rw [if_neg (by decide), List.replicate_zero, List.append_nil]
    show sEnd (sg ++ (Lib.decDigits m ++ List.replicate 0 48)) = _
    rw [List.replicate_zero, List.append_nil]; exact hs
  · rw [if_pos (by omega), hlen, show (((Lib.decDigits m).length + c : Nat) : Int) + -(c : Int) = ((Lib.decDigits m).length : Int) by omega, Int.toNat_natCast, List.take_left']
    · exact hs
    · rfl
theorem itoa_parts (n : Int) : ∃ sg : List UInt8, (sg = [] ∨ sg = [45]) ∧ Lib.itoa n = sg ++ Lib.decDigits n.natAbs := by
  unfold Lib.itoa
  by_cases h : n < 0
  · rw [if_pos h]; exact ⟨[45], .inr rfl, rfl⟩
  · rw [if_neg h]; exact ⟨[], .inl rfl, by rw [List.nil_append, show n.toNat = n.natAbs by omega]⟩
theorem same_wEnd {n : Int} {a b : Nat} {F X P : List UInt8} (h0 : -9223372036854775808 ≤ n) (h1 : n ≤ 9223372036854775807) (hF : (F = [] ∧ List.replicate b (48 : UInt8) = []) ∨ (F = 46 :: List.replicate b 48 ∧ List.replicate b (48 : UInt8) ≠ [] ∧ (List.replicate b (48 : UInt8)).all dIs = true))
    (hX : (X = [] ∧ P = []) ∨ ∃ e s D, (e = (101 : UInt8) ∨ e = 69) ∧ X = e :: P ∧ P = s ++ D ∧ (s = [] ∨ s = [(43 : UInt8)] ∨ s = [45]) ∧ D ≠ [] ∧ D.all dIs = true) (hp : pwV P = -(a : Int)) (hna : n ≠ 0 ∨ a = 0) : wEnd (Lib.itoa n ++ (List.replicate a 48 ++ (F ++ X))) = (n, 0) := by
  by_cases hn : n = 0
  · subst hn
    have ha : a = 0 := hna.resolve_left (fun h => h rfl)
    subst ha
    have hf : NForm (Lib.itoa 0 ++ (List.replicate 0 48 ++ (F ++ X))) [] [48] F (List.replicate b 48) X P := ⟨by rw [show Lib.itoa 0 = [48] by decide +kernel]; rfl, .inl rfl, by decide, .inl rfl, hF, hX⟩
    rw [wEnd_form hf]
    unfold nWorth dWorth
    rw [if_pos (show lz ([48] ++ List.replicate b 48) = [] from lz_rep (b + 1))]
  · obtain ⟨sg, hs, hi⟩ := itoa_parts n
    have hm : n.natAbs ≠ 0 := by omega
    have hsE := sEnd_itoa h0 h1
    rw [hi] at hsE
    have hl : (Lib.decDigits n.natAbs).length ≤ 20 := dec_len _ (by omega)
    have hlead := dec_lead hm
    have hf : NForm (Lib.itoa n ++ (List.replicate a 48 ++ (F ++ X))) sg (Lib.decDigits n.natAbs ++ List.replicate a 48) F (List.replicate b 48) X P := by
      refine ⟨by rw [hi]; simp only [List.append_assoc], hs, by rw [List.all_append, dec_all, rep_all]; rfl, .inr ?_, hF, hX⟩
      obtain ⟨x, t, hx, hx2⟩ := hlead
      exact ⟨x, t ++ List.replicate a 48, by rw [hx]; rfl, hx2⟩
    rw [wEnd_form hf, hp]
    unfold nWorth
    rw [List.append_assoc, List.replicate_append_replicate, lz_lead hlead, List.length_replicate, show -(a : Int) - (b : Nat) = -((a + b : Nat) : Int) by omega]
    exact dWorth_same hm hl hsE
theorem pw_minus (k : Nat) : pwV ([45] ++ Lib.decDigits k) = -(k : Int) := by
  unfold pwV
  rw [if_pos (show (([45] : List UInt8) ++ Lib.decDigits k).head? = some 45 from rfl), List.filter_append, show ([45] : List UInt8).filter dIs = [] from rfl, List.nil_append, List.filter_eq_self.mpr (fun x hx => List.all_eq_true.mp (dec_all k) x hx), dV_dec]
end Go.Proofs.YtemmeoikenbmgaaDoor
