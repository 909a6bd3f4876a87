/- Two faults' texts: of no program. -/
import Derived.Test.YtnnkpeafhjokjaaDoorFtC
namespace Go.Proofs.YtnnkpeafhjokjaaDoor
open Go Go.RowKit
set_option linter.unusedVariables false

theorem itoa_noCol (c : Int) : (58 : UInt8) ∉ Lib.itoa c := by
  have hd : ∀ u, (58 : UInt8) ∉ Lib.decDigits u := fun u h => by
    have := dIs_iff.mp (List.all_eq_true.mp (dec_all u) _ h)
    exact absurd this.2 (by decide)
  unfold Lib.itoa
  split
  · intro h
    rcases List.mem_cons.mp h with e | e
    · exact absurd e (by decide)
    · exact hd _ e
  · exact hd _
theorem split_first {a : UInt8} : ∀ {l m r s : List UInt8}, a ∉ l → a ∉ m → l ++ a :: r = m ++ a :: s → l = m ∧ r = s
  | [], [], r, s, _, _, h => by simpa using h
  | [], y :: m, r, s, _, hm, h => by
    simp only [List.nil_append, List.cons_append, List.cons.injEq] at h
    exact absurd (h.1 ▸ List.mem_cons_self) hm
  | x :: l, [], r, s, hl, _, h => by
    simp only [List.nil_append, List.cons_append, List.cons.injEq] at h
    exact absurd (h.1 ▸ List.mem_cons_self) hl
  | x :: l, y :: m, r, s, hl, hm, h => by
    simp only [List.cons_append, List.cons.injEq] at h
    obtain ⟨h1, h2⟩ := split_first (fun e => hl (List.mem_cons_of_mem _ e)) (fun e => hm (List.mem_cons_of_mem _ e)) h.2
    exact ⟨by rw [h.1, h1], h2⟩
theorem ftx_nil (c : Int) : ftx c [] = Lib.itoa c := rfl
theorem ftx_cons (c : Int) (p : ByteArray) (ps : List ByteArray) : ftx c (p :: ps) = p.data.toList ++ 58 :: 32 :: ftx c ps := by
  unfold ftx fpre
  rw [List.flatMap_cons, List.append_assoc, List.append_assoc]
  rfl
def NoCol (ps : List ByteArray) : Prop := ∀ p ∈ ps, (58 : UInt8) ∉ p.data.toList
theorem ftx_inj {c d : Int} (h0 : -9223372036854775808 ≤ c) (h1 : c ≤ 9223372036854775807) (h2 : -9223372036854775808 ≤ d) (h3 : d ≤ 9223372036854775807) : ∀ {ps qs : List ByteArray}, NoCol ps → NoCol qs → ftx c ps = ftx d qs → c = d ∧ ps = qs
  | [], [], _, _, h => by
    rw [ftx_nil, ftx_nil] at h
    have e := sEnd_itoa h0 h1
    rw [h, sEnd_itoa h2 h3] at e
    exact ⟨(congrArg Prod.fst e).symm, rfl⟩
  | [], q :: qs, _, hq, h => by
    rw [ftx_nil, ftx_cons] at h
    exact absurd (show (58 : UInt8) ∈ Lib.itoa c by rw [h]; simp) (itoa_noCol c)
  | p :: ps, [], hp, _, h => by
    rw [ftx_nil, ftx_cons] at h
    exact absurd (show (58 : UInt8) ∈ Lib.itoa d by rw [← h]; simp) (itoa_noCol d)
  | p :: ps, q :: qs, hp, hq, h => by
    rw [ftx_cons, ftx_cons] at h
    obtain ⟨e1, e2⟩ := split_first (hp p List.mem_cons_self) (hq q List.mem_cons_self) h
    obtain ⟨e3, e4⟩ := ftx_inj h0 h1 h2 h3 (fun x hx => hp x (List.mem_cons_of_mem _ hx)) (fun x hx => hq x (List.mem_cons_of_mem _ hx)) (List.cons.inj e2).2
    have e5 : p = q := ByteArray.ext (Array.toList_inj.mp e1)
    exact ⟨e3, by rw [e5, e4]⟩
end Go.Proofs.YtnnkpeafhjokjaaDoor
