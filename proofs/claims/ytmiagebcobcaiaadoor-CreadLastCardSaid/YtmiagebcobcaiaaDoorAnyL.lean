/- A list out of what stands at each place; a list of bytes that the call made, as it is handed on. Of no package. -/
import Derived.Test.YtmiagebcobcaiaaDoorBts
namespace Go.Proofs.YtmiagebcobcaiaaDoor
open Go Go.RowKit
set_option linter.unusedVariables false

theorem any_list {α : Type} {Q : Nat → α → Prop} : ∀ n : Nat, (∀ i, i < n → ∃ o, Q i o) → ∃ L : List α, L.length = n ∧ ∀ i (h : i < L.length), Q i L[i]
  | 0, _ => ⟨[], rfl, fun i h => by simp at h⟩
  | n + 1, h => by
    obtain ⟨L, hl, hq⟩ := any_list n (fun i hi => h i (by omega))
    obtain ⟨o, ho⟩ := h n (by omega)
    refine ⟨L ++ [o], by rw [List.length_append, hl]; rfl, fun i hi => ?_⟩
    by_cases e : i < L.length
    · rw [List.getElem_append_left e]; exact hq i e
    · have : i = n := by rw [List.length_append, List.length_singleton] at hi; omega
      subst this
      rw [List.getElem_append_right (by omega)]
      simp only [hl, Nat.sub_self, List.getElem_cons_zero]; exact ho
theorem add_zero_at (ad : Addr) : ad.add 0 = ad := by unfold Addr.add; split <;> simp_all
/-- A list of bytes that the call made, as it is handed on. -/
theorem Bts.inn {t : TypeId} {w : World} {B : Nat} {v : Value} {l : List UInt8} (h : Bts t w B v l) : ∃ a cap, v = .slice a l.length cap ∧ BIn w a l := by
  rcases h.2 with ⟨rfl, hn⟩ | ⟨g, cap, cur, rfl, _, hg, _⟩
  · have h0 : l = [] := List.eq_nil_of_length_eq_zero hn
    subst h0
    exact ⟨none, 0, rfl, fun j hj => by simp at hj⟩
  · refine ⟨_, cap, rfl, fun j hj => ⟨g, 0, rfl, lt_of_block hg, ?_⟩⟩
    rw [Nat.zero_add, World.ownsRow.cellAt h j (by omega)]
    unfold bV
    rw [List.getElem?_map, List.getElem?_eq_getElem hj]; rfl
end Go.Proofs.YtmiagebcobcaiaaDoor
