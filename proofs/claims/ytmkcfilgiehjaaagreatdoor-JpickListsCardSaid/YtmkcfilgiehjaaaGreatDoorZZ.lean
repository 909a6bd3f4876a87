/- Several texts in one (JpOwn, JpLaw): each begins with its own words. -/
import Derived.Test.YtmkcfilgiehjaaaGreatDoorZT
import Derived.Laws.StructEq
import Derived.OrdersHeld
import Derived.BigQuiet
import Derived.Deep.QuietTactic
import Derived.Test.YtmkcfilgiehjaaaGreatDoorZS
import Derived.Test.YtmkcfilgiehjaaaGreatDoorZY
/- Law 13's Own: nodes as the program has them. -/
namespace Go.Proofs.YtmkcfilgiehjaaaGreatDoor
open Go Go.RowKit
set_option linter.unusedVariables false

theorem nown_nil (a : Option Addr) (cap : Nat) (w : World) :
    Calls Tryz.prog 8 #[.slice a 0 cap] w fun e w' => ∃ v, e = .returned v ∧ NRow 62 w' w.heap.size v [] ∧ Below w.heap.size w w' := by
  go_enter Tryz.func8, Tryz.ntmps8
  go_wp2_with fail
  refine wp_loop_once ?_
  go_wp2
  go_ret
  exact ⟨_, rfl, nrow_nil _ _ _, Below.refl _ _⟩
theorem nd_cellO {w : World} {g : Nat} {l : List ND} (hin : NIn w (some ⟨g, 0, none⟩) l) : ∀ j (h : j < l.length), w.cell? ⟨g, j * 4, none⟩ = some (.int .u8 (l[j].1.toNat : Int)) ∧ w.cell? ⟨g, j * 4 + 1, none⟩ = some (.string (bA l[j].2.1)) ∧ w.cell? ⟨g, j * 4 + 2, none⟩ = some (.string (bA l[j].2.2.1)) ∧ w.cell? ⟨g, j * 4 + 3, none⟩ = some (.int .i64 (l[j].2.2.2 : Nat)) := fun j h => by
  obtain ⟨g', e, _, hc⟩ := hin j h
  obtain rfl : g = g' := by simpa using e
  exact hc
def NOwnRel (W : World) (l : List ND) (v i : Value) (wr : World) : Prop := ∃ j : Nat, j ≤ l.length ∧ i = .int .i64 (j : Nat) ∧ NRow 62 wr W.heap.size v (l.take j) ∧ Below W.heap.size W wr
set_option maxRecDepth 20000 in
set_option maxHeartbeats 1000000 in
theorem nown_any (a : Option Addr) (cap : Nat) (l : List ND) (w : World) (hl : l.length ≤ 1099511627775) (hin : NIn w a l) :
    Calls Tryz.prog 8 #[.slice a l.length cap] w fun e w' => ∃ v, e = .returned v ∧ NRow 62 w' w.heap.size v l ∧ Below w.heap.size w w' := by
  by_cases h0 : l = []
  · subst h0; exact nown_nil a cap w
  · obtain ⟨g, rfl, hg, -⟩ := hin 0 (Nat.pos_of_ne_zero (fun e => h0 (List.eq_nil_of_length_eq_zero e)))
    have HC := Lib.hid (nd_cellO hin)
    clear hin
    go_enter Tryz.func8, Tryz.ntmps8
    go_wp2_with fail
    go_loopw [3, 4] (fun v i wr => NOwnRel w l v i wr) (fun _ i _ => l.length - (intOf i).toNat)
    case atStart => exact ⟨0, Nat.zero_le _, rfl, nrow_nil _ _ _, Below.refl _ _⟩
    case round =>
      obtain ⟨j, hj, rfl, hrow, hbel⟩ := hrel
      by_cases hlt : j < l.length
      · have p1 : decide ((j : Int) < (l.length : Int)) = true := decide_eq_true (by omega)
        have p2 : (j : Int) < (l.length : Int) := by omega
        have hc0 := (hbel.cell (p := ⟨g, j * 4, none⟩) hg).trans (HC.out j hlt).1
        have hc1 := (hbel.cell (p := ⟨g, j * 4 + 1, none⟩) hg).trans (HC.out j hlt).2.1
        have hc2 := (hbel.cell (p := ⟨g, j * 4 + 2, none⟩) hg).trans (HC.out j hlt).2.2.1
        have hc3 := (hbel.cell (p := ⟨g, j * 4 + 3, none⟩) hg).trans (HC.out j hlt).2.2.2
        have HQ := Lib.hid (show (l.take (j + 1)) = l.take j ++ [l[j]] from List.take_succ_eq_append_getElem hlt)
        have hsz := hbel.size
        have hpl : (l.take j).length + 1 ≤ 1099511627776 := by rw [List.length_take]; omega
        have HC2 := Lib.hid HC.out
        clear HC
        generalize l[j] = y at *
        have hN := Lib.hid (heap_alloc_new wr (.cells (ndC y).toArray 62))
        have bN := Lib.hid (alloc_below wr (.cells (ndC y).toArray 62))
        have RN := Lib.hid (nrow_one hN.out)
        have RW := Lib.hid (hrow.below bN.out (Nat.le_refl _))
        have hszN : w.heap.size ≤ (wr.alloc (.cells (ndC y).toArray 62)).heap.size := Nat.le_trans hsz bN.out.size
        go_wp2_with (at_builtin; go_loud (refine wpList_append_nds rfl (.tmp 11) (.tmp 16) 27 rfl 62 Tryz.underlying27 infoN _ w.heap.size (l.take j) RW.out hszN rfl _ _ [y] RN.out rfl hpl ?_; intro v5 w5 hv5 hb5))
        have hbel5 := (hbel.trans (bN.out.mono hsz)).trans hb5
        go_roundw
        case rel => exact ⟨j + 1, by omega, by go_num, by rw [HQ.out]; exact hv5, hbel5⟩
        case measure => simp [intOf]; omega
      · have p1 : decide ((j : Int) < (l.length : Int)) = false := decide_eq_false (by omega)
        have HR := Lib.hid (show l.take j = l from List.take_of_length_le (by omega))
        have HW := Lib.hid (And.intro hrow hbel)
        clear hrow hbel
        go_wp2
        go_ret
        exact ⟨_, rfl, by have := HW.out.1; rw [HR.out] at this; exact this, HW.out.2⟩
theorem known_any {w : World} (a : Option Addr) (cap : Nat) (l : List ND) (hl : l.length ≤ 1099511627775) (hin : NIn w a l) :
    Calls Tryz.prog 8 #[.slice a l.length cap] w fun e w' => ∃ d k, e = .returned (.slice d l.length k) ∧ NIn w' d l ∧ Below w.heap.size w w' := by
  refine (nown_any a cap l w hl hin).mono ?_
  rintro e w' ⟨v, he, hrow, hb⟩
  obtain ⟨d, k, hv, hi⟩ := hrow.inn
  rw [hv] at he
  exact ⟨d, k, he, hi, hb⟩
end Go.Proofs.YtmkcfilgiehjaaaGreatDoor
/- What the three laws of layer 14 begin with: a text's nodes, as the document and as the program have them. -/
namespace Go.Proofs.YtmkcfilgiehjaaaGreatDoor
open Go Go.RowKit
set_option linter.unusedVariables false

theorem wf_txt {o : Option (Bool × Bool)} {key : List UInt8} {l : List ND} {tk : List TK} (h : Wf o key l tk) : ∀ x ∈ l, x.2.2.1 = [] ∨ ∃ t ∈ tk, x.2.2.1 = t.2 := by
  induction h with
  | leaf key t _ =>
    intro x hx
    have : x = (t.1, key, t.2, 1) := by simpa using hx
    subst this
    exact .inr ⟨t, by simp, rfl⟩
  | node ob key l tk _ ih =>
    intro x hx
    rcases List.mem_cons.mp hx with rfl | hx
    · exact .inl rfl
    · rcases ih x hx with e | ⟨t, ht, e⟩
      · exact .inl e
      · exact .inr ⟨t, List.mem_cons_of_mem _ (List.mem_append_left _ ht), e⟩
  | none => intro x hx; simp at hx
  | cons ob fst key l1 l2 k1 k2 _ _ _ ih1 ih2 =>
    intro x hx
    rcases List.mem_append.mp hx with hx | hx
    · rcases ih1 x hx with e | ⟨t, ht, e⟩
      · exact .inl e
      · exact .inr ⟨t, List.mem_append_right _ (List.mem_append_right _ (List.mem_append_left _ ht)), e⟩
    · rcases ih2 x hx with e | ⟨t, ht, e⟩
      · exact .inl e
      · exact .inr ⟨t, List.mem_append_right _ (List.mem_append_right _ (List.mem_append_right _ ht)), e⟩
theorem rdT_szok {ts : List TK} {la : Option Int} (hs : SgE ts) : SzOk (rdT ts la).1 := by
  by_cases h : (rdT ts la).2 = 0
  · exact wf_sz (rdT_good hs h).2
  · rw [rdT_bad h]; intro i hi; simp at hi
theorem rdT_txt {ts : List TK} {la : Option Int} (hs : SgE ts) {n : Nat} (hn : tsz ts ≤ n) : ∀ k, k < (rdT ts la).1.length → (txL (rdT ts la).1 k).length ≤ n := by
  intro k hk
  by_cases h : (rdT ts la).2 = 0
  · rw [tx_at hk]
    rcases wf_txt (rdT_good hs h).2 _ (List.getElem_mem hk) with e | ⟨t, ht, e⟩
    · rw [e]; exact Nat.zero_le _
    · rw [e]; exact Nat.le_trans (tsz_mem ht) hn
  · rw [rdT_bad h] at hk; simp at hk
theorem l14_set (s : ByteArray) (hs : s.size ≤ 300) : ∃ (L : List ND) (C : Int), SzOk L ∧ L.length ≤ 300 ∧ (∀ k, k < L.length → (txL L k).length ≤ 1048576) ∧
    ∀ w, Calls Tryz.prog 7 #[.string s] w fun e w' => ∃ a k, e = .returned (.tuple #[.slice a L.length k, .int .i64 C]) ∧ NIn w' a L ∧ Below w.heap.size w w' := by
  obtain ⟨ts, la, hsf, hsg, _, hl, hz⟩ := text_toks s (by omega)
  have h1 := rdT_len (la := some la) hsg
  exact ⟨_, _, rdT_szok hsg, by omega, rdT_txt hsg (by omega), fun w => kread_ref s w ts la (by omega) hsf hsg⟩
/-- .. and the program's own. -/
theorem l14_own (a : Option Addr) (cap : Nat) (L : List ND) (hl : L.length ≤ 300) (w : World) (hin : NIn w a L) :
    Calls Tryz.prog 8 #[.slice a L.length cap] w fun e w' => ∃ d k, e = .returned (.slice d L.length k) ∧ NIn w' d L ∧ Below w.heap.size w w' := known_any a cap L (by omega) hin
end Go.Proofs.YtmkcfilgiehjaaaGreatDoor
