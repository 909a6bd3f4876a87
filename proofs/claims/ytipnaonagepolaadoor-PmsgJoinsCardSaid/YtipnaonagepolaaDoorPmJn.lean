/- A message that comes in parts within another one, over lists. Of no program. -/
import Derived.Test.YtipnaonagepolaaDoorPmTg
namespace Go.Proofs.YtipnaonagepolaaDoor
open Go Go.RowKit
set_option linter.unusedVariables false

/-- Each part's bytes; as fields of number k; what all its fields are. -/
def jT (P : List (List FD)) : List ByteArray := P.map fun p => bA (fBs p)
def jB (k : Int) (P : List (List FD)) : List UInt8 := P.flatMap fun p => fB k 2 0 (bA (fBs p))
def jA (P : List (List FD)) : List FD := P.flatMap fun p => (fAll (fBs p)).1
def jOk (P : List (List FD)) : Prop := ∀ p ∈ P, p.length ≤ 8 ∧ ∀ x ∈ p, fOk x ∧ x.2.2.2.size ≤ 100
theorem jOk.le {P : List (List FD)} (h : jOk P) {p : List FD} (hp : p ∈ P) : (fBs p).length ≤ 960 ∧ (fAll (fBs p)).2 = 0 := by
  obtain ⟨h1, h2⟩ := h p hp
  have h3 := fBs_le p h2
  exact ⟨by omega, fBs_good p fun x hx => ⟨(h2 x hx).1, by have := (h2 x hx).2; omega⟩⟩
theorem jB_snoc (k : Int) (P : List (List FD)) (p : List FD) : jB k (P ++ [p]) = jB k P ++ fB k 2 0 (bA (fBs p)) := by simp [jB]
theorem jA_snoc (P : List (List FD)) (p : List FD) : jA (P ++ [p]) = jA P ++ (fAll (fBs p)).1 := by simp [jA]
theorem jA_le : ∀ P : List (List FD), jOk P → (jA P).length ≤ P.length * 960
  | [], _ => Nat.le_refl _
  | p :: P, h => by
    have h1 := (h.le (p := p) (by simp)).1
    have h2 := fAll_len (fBs p)
    have h3 := jA_le P (fun q hq => h q (by simp [hq]))
    show ((fAll (fBs p)).1 ++ jA P).length ≤ _
    rw [List.length_append, List.length_cons]; omega
theorem jB_le (k : Int) : ∀ P : List (List FD), jOk P → (jB k P).length ≤ P.length * 980
  | [], _ => Nat.le_refl _
  | p :: P, h => by
    have h1 := (h.le (p := p) (by simp)).1
    have h2 := fB_le k 2 0 (bA (fBs p)) (by omega) (by rw [bA_size]; omega)
    have h3 := jB_le k P (fun q hq => h q (by simp [hq]))
    rw [bA_size] at h2
    show (fB k 2 0 (bA (fBs p)) ++ jB k P).length ≤ _
    rw [List.length_append, List.length_cons]; omega
theorem jB_read {k : Int} (hk : tagB k 2 = true) : ∀ P : List (List FD), jOk P → fAll (jB k P) = (P.map fun p => (k, 2, 0, bA (fBs p)), 0)
  | [], _ => rfl
  | p :: P, h => by
    have h1 := (h.le (p := p) (by simp)).1
    have h2 := fAll_back hk 0 (bA (fBs p)) (by omega) (by rw [bA_size]; omega)
    have h3 := jB_read hk P (fun q hq => h q (by simp [hq]))
    show fAll (fB k 2 0 (bA (fBs p)) ++ jB k P) = _
    rw [fAll_app _ _ (by rw [h2]), if_neg (by rw [h3]; simp), h2, h3]
    rfl
theorem jEach (k : Int) : ∀ P : List (List FD), fEach (P.map fun p => ((k, 2, 0, bA (fBs p)) : FD)) k = jT P
  | [] => rfl
  | p :: P => by
    have ih := jEach k P
    unfold fEach fOf jT at ih ⊢
    rw [List.map_cons, List.filter_cons, if_pos (by simp [tHas]), List.map_cons, List.map_cons, ih]
theorem jJoin_read : ∀ P : List (List FD), jOk P → fAll (fJoin (jT P)) = (jA P, 0)
  | [], _ => rfl
  | p :: P, h => by
    have h1 := h.le (p := p) (by simp)
    have h3 := jJoin_read P (fun q hq => h q (by simp [hq]))
    show fAll (fBs p ++ fJoin (jT P)) = _
    rw [fAll_app _ _ h1.2, if_neg (by rw [h3]; simp), h3]
    rfl
theorem jJoin_le : ∀ P : List (List FD), jOk P → (fJoin (jT P)).length ≤ P.length * 960
  | [], _ => Nat.le_refl _
  | p :: P, h => by
    have h1 := (h.le (p := p) (by simp)).1
    have h3 := jJoin_le P (fun q hq => h q (by simp [hq]))
    show (fBs p ++ fJoin (jT P)).length ≤ _
    rw [List.length_append, List.length_cons]; omega
theorem jT_len (P : List (List FD)) : (jT P).length = P.length := List.length_map _
end Go.Proofs.YtipnaonagepolaaDoor
