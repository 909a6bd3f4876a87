/- Several texts in one (JsTxt, JsKeep): each begins with its own words. -/
import Derived.Test.YtfighopfgllneaaGreatDoorZE
import Derived.Test.YtfighopfgllneaaGreatDoorZC
import Derived.Test.YtfighopfgllneaaGreatDoorURefB
import Derived.Test.YtfighopfgllneaaGreatDoorJsPl
/- The document's own jstring (package truchmanref10): Text. -/
namespace Go.Proofs.YtfighopfgllneaaGreatDoor
open Go Go.RowKit
set_option linter.unusedVariables false

theorem one_at (s : ByteArray) (k : Nat) (h : k < s.size) : (s.extract k (k + 1)).data.toList = [s[k]] := by
  rw [ext_toList, show k + 1 - k = 1 by omega, drop_at s k h]; rfl
theorem one_size (s : ByteArray) (k : Nat) (h : k < s.size) : (s.extract k (k + 1)).size = 1 := by
  rw [← toList_size, one_at s k h]; rfl
theorem one_is (s : ByteArray) (k : Nat) (h : k < s.size) (b : UInt8) : ((s.extract k (k + 1)).toList == [b]) = decide (s[k].toNat = b.toNat) := by
  rw [lit_is, one_at s k h]
  by_cases e : s[k].toNat = b.toNat
  · rw [decide_eq_true e, decide_eq_true]
    rw [UInt8.toNat_inj.mp e]
  · rw [decide_eq_false e, decide_eq_false]
    intro h2
    exact e (by rw [List.cons.injEq] at h2; rw [h2.1])
theorem jT_more (l : List UInt8) (k : Nat) (h : k < l.length) : (jT (l.take k)).length + (jTb l[k]).length ≤ (jT l).length := by
  have h1 := jT_take l k h
  have h2 := congrArg List.length (congrArg jT (List.take_append_drop (k + 1) l))
  rw [jT_append, List.length_append, h1, List.length_append] at h2
  omega
theorem jTb_quote {b : UInt8} (h : b.toNat = 34 ∨ b.toNat = 92) : jTb b = [92, b] := by unfold jTb; rw [if_pos h]
theorem jTb_low {b : UInt8} (h : b.toNat < 32) : jTb b = [92, 117, 48, 48] ++ hx [b] := by unfold jTb; rw [if_neg (by omega), if_pos h, hx_one]; rfl
theorem jTb_self {b : UInt8} (h : ¬ (b.toNat = 34 ∨ b.toNat = 92)) (h2 : ¬ b.toNat < 32) : jTb b = [b] := by unfold jTb; rw [if_neg h, if_neg h2]
def RTxRel (s : ByteArray) (W : World) (t i : Value) (wr : World) : Prop :=
  ∃ k : Nat, k ≤ s.size ∧ i = .int .i64 k ∧ t = .string (bA (34 :: jT (s.data.toList.take k))) ∧ Below W.heap.size W wr
set_option maxRecDepth 20000 in
set_option maxHeartbeats 1000000 in
theorem rjtext_any (s : ByteArray) (w : World) (hs : s.size ≤ 1099511627776) :
    Calls Tryz.prog 36 #[.string s] w fun e w' => e = .returned (.string (bA (jText s.data.toList))) ∧ Below w.heap.size w w' := by
  go_enter Tryz.func36, Tryz.ntmps36
  go_wp2_with fail
  go_loopw [3, 4] (fun t i wr => RTxRel s w t i wr) (fun _ i _ => s.size - (intOf i).toNat)
  case atStart => exact ⟨0, Nat.zero_le _, rfl, rfl, Below.refl _ _⟩
  case round =>
    obtain ⟨k, hk, rfl, rfl, hbe⟩ := hrel
    have hTs : (bA (34 :: jT (s.data.toList.take k))).size ≤ 6597069766657 := by
      have := (jT_len (s.data.toList.take k)).2
      rw [List.length_take] at this
      rw [bA_size, List.length_cons]; omega
    by_cases hlt : k < s.size
    · have p1 : decide (k < s.size) = true := decide_eq_true hlt
      have p1' : decide ((k : Int) < (s.size : Int)) = true := decide_eq_true (by omega)
      have hk0 : (0 : Int) ≤ (k : Int) := by omega
      have hk1 : (k : Int) < (s.size : Int) := by omega
      have hk2 : (k : Int) ≤ (k : Int) + 1 := by omega
      have hk3 : (k : Int) + 1 ≤ (s.size : Int) := by omega
      have zk : IntKind.i64.wrap ((k : Int) + 1) = (k : Int) + 1 := i64_small (by omega) (by omega)
      have h' : k < s.data.toList.length := by rw [toList_size]; exact hlt
      have hO := one_size s k hlt
      have hOl := one_at s k hlt
      have hTk := jT_take s.data.toList k h'
      rw [byte_at s k hlt h'] at hTk
      have hOb : bA [s[k]] = s.extract k (k + 1) := by rw [← hOl, bA_of]
      obtain ⟨X, hXe⟩ : ∃ X, X = s[k].toNat := ⟨_, rfl⟩
      have hXi : (s[k].toNat : Int) = (X : Int) := by omega
      have hXl := s[k].toNat_lt
      by_cases hq : X = 34 ∨ X = 92
      · have HT := Lib.hid (show bA (34 :: jT (s.data.toList.take (k + 1))) = bA (34 :: jT (s.data.toList.take k)) ++ ⟨#[92]⟩ ++ s.extract k (k + 1) by
          rw [hTk, jTb_quote (by rw [← hXe]; exact hq), ← hOb, show (ByteArray.mk #[92]) = bA [92] from rfl, bA_append, bA_append]
          simp)
        have q3 : decide ((X : Int) < 32) = false := decide_eq_false (by omega)
        generalize bA (34 :: jT (s.data.toList.take k)) = T at *
        clear hTk hOl hOb hXe hXl
        by_cases h34 : X = 34
        · have q1 : ((X : Int) == 34) = true := beq_iff_eq.mpr (by omega)
          clear hq h34
          go_wp2
          go_roundw
          case rel => exact ⟨k + 1, by omega, by go_num, by rw [HT.out], hbe⟩
          case measure => simp [intOf]; omega
        · have q1 : ((X : Int) == 34) = false := beq_eq_false_iff_ne.mpr (by omega)
          have q2 : ((X : Int) == 92) = true := beq_iff_eq.mpr (by omega)
          clear hq h34
          go_wp2
          go_roundw
          case rel => exact ⟨k + 1, by omega, by go_num, by rw [HT.out], hbe⟩
          case measure => simp [intOf]; omega
      · have q1 : ((X : Int) == 34) = false := beq_eq_false_iff_ne.mpr (by omega)
        have q2 : ((X : Int) == 92) = false := beq_eq_false_iff_ne.mpr (by omega)
        by_cases hlow : X < 32
        · have q3 : decide ((X : Int) < 32) = true := decide_eq_true (by omega)
          have HT := Lib.hid (show bA (34 :: jT (s.data.toList.take (k + 1))) = bA (34 :: jT (s.data.toList.take k)) ++ ⟨#[92, 117, 48, 48]⟩ ++ bA (hx [s[k]]) by
            rw [hTk, jTb_low (by rw [← hXe]; exact hlow), show (ByteArray.mk #[92, 117, 48, 48]) = bA [92, 117, 48, 48] from rfl, bA_append, bA_append]
            simp)
          have HX0 := fun w => rtext_any (s.extract k (k + 1)) w (by rw [hO]; decide)
          rw [hOl] at HX0
          have hxs : (bA (hx [s[k]])).size = 2 := by rw [bA_size, hx_length]; rfl
          have HX := Lib.hid HX0
          generalize bA (hx [s[k]]) = U at *
          generalize bA (34 :: jT (s.data.toList.take k)) = T at *
          clear hTk hOl hOb hXe hXl hq hlow HX0
          go_wp2_with fail
          with_reducible refine (HX.out _).mono ?_
          rintro e w1 ⟨rfl, hb1⟩
          have hbe2 := grown_then hbe hb1
          clear hb1 hbe
          go_wp2
          go_roundw
          case rel => exact ⟨k + 1, by omega, by go_num, by rw [HT.out], hbe2⟩
          case measure => simp [intOf]; omega
        · have q3 : decide ((X : Int) < 32) = false := decide_eq_false (by omega)
          have HT := Lib.hid (show bA (34 :: jT (s.data.toList.take (k + 1))) = bA (34 :: jT (s.data.toList.take k)) ++ s.extract k (k + 1) by
            rw [hTk, jTb_self (by rw [← hXe]; exact hq) (by rw [← hXe]; exact hlow), ← hOb, bA_append]
            simp)
          generalize bA (34 :: jT (s.data.toList.take k)) = T at *
          clear hTk hOl hOb hXe hXl hq hlow
          go_wp2
          go_roundw
          case rel => exact ⟨k + 1, by omega, by go_num, by rw [HT.out], hbe⟩
          case measure => simp [intOf]; omega
    · have p1 : decide (k < s.size) = false := decide_eq_false hlt
      have p1' : decide ((k : Int) < (s.size : Int)) = false := decide_eq_false (by omega)
      have hkn : k = s.size := by omega
      subst hkn
      have HT := Lib.hid (show bA (jText s.data.toList) = bA (34 :: jT (s.data.toList.take s.size)) ++ ⟨#[34]⟩ by
        rw [List.take_of_length_le (by rw [toList_size]; exact Nat.le_refl _), show (ByteArray.mk #[34]) = bA [34] from rfl, bA_append]
        rfl)
      generalize bA (34 :: jT (s.data.toList.take s.size)) = T at *
      go_wp2
      go_ret
      exact ⟨by rw [HT.out]; rfl, hbe⟩
end Go.Proofs.YtfighopfgllneaaGreatDoor
/- The two closures that keep what package jstring's tell tells. -/
namespace Go.Proofs.YtfighopfgllneaaGreatDoor
open Go Go.RowKit
set_option linter.unusedVariables false

/-- 'append(list, s...)' of a text, on a list that the call itself made, beside a block of another type, that stays. -/
theorem wpList_append_text_beside {P : Program} {ops : Array Oper} {rest : List Oper} {o : Oper} {a : Act} {Q : Exit → Act → World → Prop} (hgd : o.guard = none) (sl x : Operand) (t u : TypeId)
    (ho : o.op = .call { callee := .builtin .append, args := #[sl, x], argTypes := #[t, u] })
    (e : TypeId) (i : TypeInfo) (ht : P.underlying t = some (.slice e)) (hu : P.underlying u = some .string) (hi : P.info? e = some i) (hz : i.zero = some (.int .u8 0)) (hsize : i.size = 1) (hby : i.bytes = 1)
    (v : Value) (w : World) (B g : Nat) (cs : Array Value) (tg : TypeId) (l : List UInt8) (s : ByteArray) (hb : Bts e w B v l) (hg : w.heap[g]? = some (.cells cs tg (0, 0))) (hne : tg ≠ e) (hB : B ≤ w.heap.size) (hs : a.eval sl = v) (hx : a.eval x = .string s) (hlen : l.length + s.size ≤ 140737488355328)
    (h : ∀ (ad : Option Addr) (n c : Nat) w', Bts e w' B (.slice ad n c) (l ++ s.data.toList) → Below B w w' → w'.heap[g]? = some (.cells cs tg (0, 0)) → wpList P ops Q rest (a.put o.dst (.slice ad n c)) w') :
    wpList P ops Q (o :: rest) a w := by
  refine Lib.wpList_append_own_string w hgd sl x t u ho B e i ht hu hi hz hsize hby v l.length (bV l) hs hb s hx (by unfold maxLen; omega) hlen hB ?_
  intro v' w' hown hgr _
  obtain ⟨ad, n, c, rfl⟩ : ∃ ad n c, v' = .slice ad n c := by
    rcases hown.2 with ⟨rfl, _⟩ | ⟨G, cap, cur, rfl, _⟩
    · exact ⟨_, _, _, rfl⟩
    · exact ⟨_, _, _, rfl⟩
  refine h ad n c w' ?_ ?_ ?_
  · unfold Bts
    rw [bV_append, List.length_append, toList_size]
    exact hown
  · refine ⟨hgr.os, hgr.tape, hgr.output, hgr.size, fun k hk => ?_⟩
    have hne : some k ≠ v.ownBlock := fun hk' => by
      have := (World.ownsRow.lt hb k hk'.symm).1
      omega
    exact hgr.block k (by omega) hne
  · rw [hgr.block g (lt_of_block hg) ?_]
    · exact hg
    · intro e1
      rcases hb.2 with ⟨rfl, _⟩ | ⟨G, cap, cur, rfl, _, hG, _⟩
      · simp [Value.ownBlock] at e1
      · simp [Value.ownBlock] at e1
        subst e1
        rw [hg] at hG
        simp only [Option.some.injEq, Obj.cells.injEq] at hG
        exact hne hG.2.1
theorem Bts.setOther {t tg : TypeId} {w : World} {B g o : Nat} {v : Value} {l : List UInt8} {cs : Array Value} (h : Bts t w B v l) (hg : w.heap[g]? = some (.cells cs tg (0, 0))) (hne : tg ≠ t) (u : Value) : Bts t (w.setCell ⟨g, o, none⟩ u) B v l := by
  refine ownsRow_setCell_other h ?_ u
  intro e1
  rcases h.2 with ⟨rfl, _⟩ | ⟨G, cap, cur, rfl, _, hG, _⟩
  · simp [Value.ownBlock] at e1
  · simp [Value.ownBlock] at e1
    subst e1
    rw [hg] at hG
    simp only [Option.some.injEq, Obj.cells.injEq] at hG
    exact hne hG.2.1

/-- What is kept of what was told so far: how many bytes. -/
def SizeSt (g : Nat) (W w : World) (L : List UInt8) : Prop := w.heap[g]? = some (.cells #[.int .i64 (L.length : Nat)] 3 (0, 0)) ∧ Below g W w
/-- .. or the bytes, behind those of l, in a list. -/
def PutSt (N B g : Nat) (l : List UInt8) (W w : World) (L : List UInt8) : Prop := (∃ v, w.heap[g]? = some (.cells #[v] 32 (0, 0)) ∧ Bts 5 w B v (l ++ L)) ∧ Below N W w ∧ N ≤ B ∧ B ≤ g
theorem SizeSt.below {g : Nat} {W w w' : World} {L : List UInt8} (h : SizeSt g W w L) (hb : Below w.heap.size w w') : SizeSt g W w' L :=
  ⟨(hb.block g (lt_of_block h.1)).trans h.1, h.2.trans (hb.mono (Nat.le_of_lt (lt_of_block h.1)))⟩
theorem PutSt.below {N B g : Nat} {l : List UInt8} {W w w' : World} {L : List UInt8} (h : PutSt N B g l W w L) (hb : Below w.heap.size w w') : PutSt N B g l W w' L := by
  obtain ⟨⟨v, h1, h2⟩, h3, h4, h5⟩ := h
  have hlt := lt_of_block h1
  exact ⟨⟨v, (hb.block g hlt).trans h1, h2.below hb (Nat.le_refl _)⟩, h3.trans (hb.mono (by omega)), h4, h5⟩

theorem jsize1_any (g : Nat) (W w : World) (p : ByteArray) (L : List UInt8) (h : SizeSt g W w L) (hn : L.length + p.size ≤ 1125899906842624) :
    Calls Tryz.prog 65 #[.string p, .pointer (some ⟨g, 0, none⟩)] w fun e w' => e = .returned (.tuple #[]) ∧ SizeSt g W w' (L ++ p.data.toList) := by
  obtain ⟨h1, h2⟩ := h
  have c1 := cell_of_one h1
  have f1 := free_of_one h1
  have zw : IntKind.i64.wrap ((L.length : Int) + (p.size : Int)) = (L.length : Int) + (p.size : Int) := i64_small (by omega) (by omega)
  have H1 := Lib.hid h1
  clear h1
  go_enter Tryz.func65, Tryz.ntmps65
  go_wp2
  go_end0
  refine ⟨rfl, ?_, h2.setCell (Nat.le_refl _) _⟩
  have := one_setCell H1.out (u := .int .i64 ((L.length : Int) + (p.size : Int)))
  rw [List.length_append, toList_size]
  exact this
theorem jput1_any (N B g : Nat) (l : List UInt8) (W w : World) (p : ByteArray) (L : List UInt8) (h : PutSt N B g l W w L) (hn : l.length + L.length + p.size ≤ 140737488355328) :
    Calls Tryz.prog 52 #[.string p, .pointer (some ⟨g, 0, none⟩)] w fun e w' => e = .returned (.tuple #[]) ∧ PutSt N B g l W w' (L ++ p.data.toList) := by
  obtain ⟨i0, hi, hz0, hz1, hz2⟩ := info_parts info8
  obtain ⟨⟨v, h1, h2⟩, h3, h4, h5⟩ := h
  have hlt := lt_of_block h1
  have c1 := cell_of_one h1
  have hl : (l ++ L).length + p.size ≤ 140737488355328 := by rw [List.length_append]; omega
  have H1 := Lib.hid h1
  clear h1
  go_enter Tryz.func52, Tryz.ntmps52
  go_wp2_with (at_builtin; go_loud (refine wpList_append_text_beside rfl (.tmp 3) (.tmp 4) 32 9 rfl 5 i0 Tryz.underlying32 Tryz.underlying9 hi hz0 hz1 hz2 v w B g #[v] 32 (l ++ L) p h2 H1.out (by decide) (by omega) rfl rfl hl ?_; intro ad2 n2 cp2 w2 hb2 hbe2 hg2; have c2 := cell_of_one hg2; have f2 := free_of_one hg2; have HG2 := Lib.hid hg2; clear hg2))
  go_end0
  refine ⟨rfl, ⟨.slice ad2 n2 cp2, one_setCell HG2.out, ?_⟩, ?_, h4, h5⟩
  · have := hb2.setOther (o := 0) HG2.out (by decide) (.slice ad2 n2 cp2)
    rw [List.append_assoc] at this; exact this
  · exact (h3.trans (hbe2.mono h4)).setCell (by show N ≤ g; omega) _
end Go.Proofs.YtfighopfgllneaaGreatDoor
