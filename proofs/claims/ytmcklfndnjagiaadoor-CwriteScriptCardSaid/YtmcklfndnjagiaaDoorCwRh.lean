/- The document's writer (package truchmanref23): Do. -/
import Derived.Test.YtmcklfndnjagiaaDoorCwRg
import Derived.Test.YtmcklfndnjagiaaDoorCwLaw
namespace Go.Proofs.YtmcklfndnjagiaaDoor
open Go Go.RowKit
set_option linter.unusedVariables false

theorem begun_er (s : WT) (o : WO) : (wBegun s o).er = s.er := by
  unfold wBegun
  split
  · rfl
  split <;> rfl
theorem rwcont_any (s : WT) (o : WO) (li : Bool) (hkn : VKn o) (ha : wAlone s o = 0) (ho : OpOk o) (ht : o.tx.length ≤ 1099511627776) (w : World) :
    Calls Tryd.prog 28 #[opV o, .bool li] w fun e w' => e = .returned (.string (bA (wCont o li))) ∧ Below w.heap.size w w' := by
  unfold wCont
  rcases hkn with h | h | h | h | h | h
  · rw [if_pos h]; exact rwcont_str o w h li
  · rw [if_neg (by omega), if_pos h]; exact rwcont_lst o w h li
  · rw [if_neg (by omega), if_neg (by omega), if_pos h]
    cases li with
    | true => rw [if_pos rfl]; exact rwcont_flgy o w h _ rfl
    | false => rw [if_neg (by decide)]; exact rwcont_flgn o w h
  · rw [if_neg (by omega), if_neg (by omega), if_neg (by omega), if_pos h]
    by_cases h3 : o.wh = 3
    · rw [if_pos h3]
      refine rwcont_byte o w h li h3 ⟨ho.2.1, ho.2.2.1⟩ ?_ _ rfl
      unfold wAlone at ha
      rw [if_neg (by omega), if_neg (by omega), if_pos h, h3, if_neg (by decide)] at ha
      exact ha
    · rw [if_neg h3]; exact rwcont_who o w h li h3 ⟨ho.2.1, ho.2.2.1⟩
  · rw [if_neg (by omega), if_neg (by omega), if_neg (by omega), if_neg (by omega), if_pos h]; exact rwcont_dbl o w h li ho.2.2.2.2
  · rw [if_neg (by omega), if_neg (by omega), if_neg (by omega), if_neg (by omega), if_neg (by omega)]; exact rwcont_txt o w h li ht
theorem rwdo_any {M : Nat} (s : WT) (v : Value) (o : WO) (w : World) (h : PIn w v s.l.reverse) (hw : OkW M s) (hM : M ≤ 1099511627776) (ho : OpOk o) (hk : o.k = 101 ∨ VKn o) (ht : o.tx.length ≤ 1099511627776) :
    Calls Tryd.prog 9 #[stV (bA s.out) v s.er, opV o] w fun e w' => ∃ v', e = .returned (stV (bA (wDo s o).out) v' (wDo s o).er) ∧ PIn w' v' (wDo s o).l.reverse ∧ Below w.heap.size w w' := by
  obtain ⟨a, cap, rfl⟩ := h.form
  by_cases he : s.er = 0
  · obtain ⟨w1, w2, w3⟩ := hw he
    have hl : s.l.length ≤ 1099511627776 := by omega
    by_cases h1 : o.k = 101
    · rw [wDo_end he h1]; exact rwdo_end s _ he h1 h hl (by omega)
    have hkn : VKn o := hk.resolve_left h1
    have hA := fun w => rwalone_any s a cap o ho w
    rw [he] at hA ⊢
    rw [List.length_reverse] at h ⊢
    by_cases hal : wAlone s o = 0
    · match hsl : s.l with
      | [] =>
        rw [hsl] at hA h
        by_cases h2 : o.k = 123
        · have hd : wDo s o = wBegun s o := by
            unfold wDo
            rw [if_neg (fun x => x he), if_neg h1, if_neg (fun x => x hal), hsl]
            simp only
            rw [if_neg (fun e => e h2)]
          have hB : ∀ w1, Below w.heap.size w w1 → Calls Tryd.prog 23 #[stV (bA s.out) (.slice a ([] : List WP).length cap) 0, opV o] w1 fun e w' => ∃ a n c, e = .returned (stV (bA s.out) (.slice a n c) 0) ∧ PIn w' (.slice a n c) (wBegun s o).l.reverse ∧ Below w1.heap.size w1 w' := fun w1 hb => by
            have := rwbegun_any s (.slice a ([] : List WP).length cap) o w1 (by rw [hsl]; exact h.below hb) hl
            rw [he] at this; exact this
          refine (rwdo_begin h1 hA hal rfl h2 hB).mono ?_
          rintro e w' ⟨a', n', c', e1, e2, e3⟩
          have e4 : (wDo s o).out = s.out ∧ (wDo s o).er = 0 := ⟨by rw [hd, begun_out], by rw [hd, begun_er, he]⟩
          exact ⟨_, by rw [e4.1, e4.2]; exact e1, by rw [hd]; exact e2, e3⟩
        · have hd : wDo s o = s.bad 12 := by
            unfold wDo
            rw [if_neg (fun x => x he), if_neg h1, if_neg (fun x => x hal), hsl]
            simp only
            rw [if_pos h2]
          rw [hd]
          refine (rwdo_first h1 hA hal rfl h2).mono ?_
          rintro e w' ⟨e1, e2⟩
          exact ⟨_, e1, by show PIn w' _ s.l.reverse; rw [hsl]; exact h.below e2, e2⟩
      | p :: ps =>
        rw [hsl] at hA h
        obtain ⟨g, cap', hv, hcap, htop⟩ := h.topF
        simp only [Value.slice.injEq] at hv
        obtain ⟨rfl, hn, rfl⟩ := hv
        have hp := w1 p (by rw [hsl]; exact List.mem_cons_self)
        have hps : ps.length ≤ 1099511627776 := by rw [hsl] at hl; simp at hl; omega
        have h0 := h
        rw [List.reverse_cons] at h
        have hlen : (p :: ps).length = ps.length + 1 := rfl
        rw [hlen] at hA h h0 ⊢
        have hrev : ps.reverse.length ≤ 1099511627776 := by rw [List.length_reverse]; exact hps
        have bg : ∀ (out : List UInt8) (r : WP) w1 a n c, PIn w1 (.slice a n c) (ps.reverse ++ [r]) → Calls Tryd.prog 23 #[stV (bA out) (.slice a n c) 0, opV o] w1 fun e w' => ∃ a n c, e = .returned (stV (bA out) (.slice a n c) 0) ∧ PIn w' (.slice a n c) (wBegun ⟨out, r :: ps, 0⟩ o).l.reverse ∧ Below w1.heap.size w1 w' := fun out r w1 a n c hpi =>
          rwbegun_any ⟨out, r :: ps, 0⟩ (.slice a n c) o w1 (by show PIn w1 _ (r :: ps).reverse; rw [List.reverse_cons]; exact hpi) (by show (r :: ps).length ≤ _; rw [hsl] at hl; exact hl)
        have bo : ∀ t : WT, (wBegun t o).out = t.out ∧ (wBegun t o).er = t.er := fun t => ⟨begun_out t o, begun_er t o⟩
        cases hli : p.li with
        | true =>
          by_cases hx : p.left = 0 ∨ sameB p.kd (oKd o) = false
          · have hd : wDo s o = s.bad 12 := by
              unfold wDo
              rw [if_neg (fun x => x he), if_neg h1, if_neg (fun x => x hal), hsl]
              simp only
              rw [if_pos hli, if_pos hx]
            rw [hd]
            have fin : ∀ (e : Ending) (w' : World), (e = .returned (stV (bA s.out) (.slice (some ⟨g, 0, none⟩) (ps.length + 1) cap) 12) ∧ Below w.heap.size w w') → ∃ v', e = .returned (stV (bA (s.bad 12).out) v' (s.bad 12).er) ∧ PIn w' v' (s.bad 12).l.reverse ∧ Below w.heap.size w w' := by
              rintro e w' ⟨e1, e2⟩
              exact ⟨_, e1, by show PIn w' _ s.l.reverse; rw [hsl]; exact h0.below e2, e2⟩
            by_cases hz : p.left = 0
            · exact (rwdo_full w _ g ps.length cap o p ps.reverse h htop hps hrev h1 hA hal hli hz).mono fin
            · exact (rwdo_unlike w _ g ps.length cap o p ps.reverse h htop hps hrev h1 hA hal hkn hli hz (hx.resolve_left hz)).mono fin
          · have hz : ¬ p.left = 0 := fun e => hx (.inl e)
            have hs : sameB p.kd (oKd o) = true := by
              cases hs : sameB p.kd (oKd o) with
              | true => rfl
              | false => exact absurd (.inr hs) hx
            have hd : wDo s o = wBegun ⟨s.out ++ wCont o true, { p with left := p.left - 1 } :: ps, s.er⟩ o := by
              unfold wDo
              rw [if_neg (fun x => x he), if_neg h1, if_neg (fun x => x hal), hsl]
              simp only
              rw [if_pos hli, if_neg hx]
            have hc := cont_le o true ho (by omega)
            refine (rwdo_list w _ g ps.length cap o p ps.reverse h htop hps hrev h1 hA hal hkn { p with left := p.left - 1 } (C := bA (wCont o true)) (fun w => by show Calls _ _ #[_, .bool p.li] _ _; rw [hli]; exact rwcont_any s o true hkn hal ho ht w) (by rw [bA_size, bA_size]; omega) (lf := (wBegun ⟨s.out ++ wCont o true, { p with left := p.left - 1 } :: ps, 0⟩ o).l.reverse) (fun w1 a n c hpi => by rw [bA_append]; exact bg _ _ w1 a n c hpi) hli hz hs rfl ⟨by have := hp.1; omega, by have := hp.2.1; omega⟩).mono ?_
            rintro e w' ⟨a', n', c', e1, e2, e3⟩
            rw [hd, he]
            exact ⟨_, by rw [(bo _).1, (bo _).2, ← bA_append]; exact e1, e2, e3⟩
        | false =>
          have hli' : ¬ p.li = true := by rw [hli]; decide
          cases hx : (numB o.id && kB (oKd o)) with
          | false =>
            have hd : wDo s o = s.bad 4 := by
              unfold wDo
              rw [if_neg (fun x => x he), if_neg h1, if_neg (fun x => x hal), hsl]
              simp only
              rw [if_neg hli', if_pos hx]
            rw [hd]
            have hE : (bA (hdB p.last o.id (oKd o))).toList.isEmpty = true := by
              rw [empty_bytes]
              have := hdB_len p.last o.id (oKd o)
              rw [hx] at this
              exact decide_eq_true (List.eq_nil_of_length_eq_zero (by have := of_decide_eq_false this; omega))
            refine (rwdo_far w _ g ps.length cap o p ps.reverse h htop hps hrev h1 hA hal hkn hli rfl hE).mono ?_
            rintro e w' ⟨e1, e2⟩
            exact ⟨_, e1, by show PIn w' _ s.l.reverse; rw [hsl]; exact h0.below e2, e2⟩
          | true =>
            have hd : wDo s o = wBegun ⟨s.out ++ (hdB p.last o.id (oKd o) ++ wCont o false), { p with last := o.id } :: ps, s.er⟩ o := by
              unfold wDo
              rw [if_neg (fun x => x he), if_neg h1, if_neg (fun x => x hal), hsl]
              simp only
              rw [if_neg hli', if_neg (by rw [hx]; decide)]
            have hE : (bA (hdB p.last o.id (oKd o))).toList.isEmpty = false := by
              rw [empty_bytes]
              have := hdB_len p.last o.id (oKd o)
              rw [hx] at this
              have := of_decide_eq_true this
              exact decide_eq_false (fun e => by rw [e] at this; simp at this)
            have hc := cont_le o false ho (by omega)
            have hh := hdB_le p.last o.id (oKd o)
            refine (rwdo_field w _ g ps.length cap o p ps.reverse h htop hps hrev h1 hA hal rfl hE (by rw [bA_size, bA_size]; omega) hkn { p with last := o.id } (C := bA (wCont o false)) (fun w => by show Calls _ _ #[_, .bool p.li] _ _; rw [hli]; exact rwcont_any s o false hkn hal ho ht w) (by rw [bA_append, bA_size, bA_size, List.length_append]; omega) (lf := (wBegun ⟨s.out ++ (hdB p.last o.id (oKd o) ++ wCont o false), { p with last := o.id } :: ps, 0⟩ o).l.reverse) (fun w1 a n c hpi => by rw [bA_append, bA_append, List.append_assoc]; exact bg _ _ w1 a n c hpi) hli rfl).mono ?_
            rintro e w' ⟨a', n', c', e1, e2, e3⟩
            rw [hd, he]
            exact ⟨_, by rw [(bo _).1, (bo _).2, ← List.append_assoc, ← bA_append, ← bA_append]; exact e1, e2, e3⟩
    · rw [wDo_bad he h1 hal]
      refine (rwdo_bad h1 hA hal).mono ?_
      rintro e w' ⟨e1, e2⟩
      exact ⟨_, e1, h.below e2, e2⟩
  · rw [wDo_er he]
    refine (rwdo_err he).mono ?_
    rintro e w' ⟨e1, e2⟩
    exact ⟨_, e1, h.below e2, e2⟩
end Go.Proofs.YtmcklfndnjagiaaDoor
