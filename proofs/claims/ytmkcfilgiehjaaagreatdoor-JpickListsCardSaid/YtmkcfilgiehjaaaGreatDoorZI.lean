/- Several texts in one (URefB, App, JsPl, HPut): each begins with its own words. -/
import Derived.Test.YtmkcfilgiehjaaaGreatDoorZH
import Derived.Test.YtmkcfilgiehjaaaGreatDoorZA
import Derived.Lib.AppendStr
import Derived.Test.YtmkcfilgiehjaaaGreatDoorZG
import Derived.Test.YtmkcfilgiehjaaaGreatDoorZF
import Derived.Deep.RegionHeld3
import Derived.Deep.AppendLies
import Derived.Deep.DrawnRows
/- The document's own utf (package truchmanref05): Rune, walk, Check, Count, Cut. -/
namespace Go.Proofs.YtmkcfilgiehjaaaGreatDoor
open Go Go.RowKit
set_option linter.unusedVariables false

theorem text_is (s : ByteArray) (k L : Nat) (l : List UInt8) : s.extract k (k + L) = bA l ↔ (s.data.toList.drop k).take L = l := by
  have e := ext_toList s k (k + L)
  rw [show k + L - k = L by omega] at e
  constructor
  · intro h
    rw [h] at e
    rw [← e]; rfl
  · intro h
    rw [h] at e
    rw [← bA_of (s.extract k (k + L)), e]
set_option maxRecDepth 20000 in
set_option maxHeartbeats 1000000 in
theorem rrune_any (s : ByteArray) (a : Int) (w : World) (hs : s.size ≤ 1125899906842624) (ha1 : -9223372036854775808 ≤ a) (ha2 : a ≤ 9223372036854775807) :
    Calls Tryz.prog 128 #[.string s, .int .i64 a] w fun e w' => e = .returned (.tuple #[.int .i32 ((uR s a).1 : Nat), .int .i64 ((uR s a).2 : Nat)]) ∧ Below w.heap.size w w' := by
  by_cases h0 : a < 0
  · have p1 : decide (a < 0) = true := decide_eq_true h0
    have HR := Lib.hid (show uR s a = (0, 0) by unfold uR; rw [if_neg (by omega)])
    clear h0
    go_enter Tryz.func128, Tryz.ntmps128
    go_wp2
    go_ret2
    exact ⟨uR_none HR.out, Below.refl _ _⟩
  · obtain ⟨k, rfl⟩ := Int.eq_ofNat_of_zero_le (show 0 ≤ a by omega)
    have p1 : decide ((k : Int) < 0) = false := decide_eq_false h0
    rw [uR_at]
    by_cases h1 : s.size ≤ k
    · have p2 : decide (s.size ≤ k) = true := decide_eq_true h1
      have HR := Lib.hid (dAt_out h1)
      clear h0 h1
      go_enter Tryz.func128, Tryz.ntmps128
      go_wp2
      go_ret2
      exact ⟨by rw [HR.out]; rfl, Below.refl _ _⟩
    · have hlt : k < s.size := by omega
      have p2 : decide (s.size ≤ k) = false := decide_eq_false h1
      have ik0 : (0 : Int) ≤ (k : Int) := by omega
      have ik1 : (k : Int) < (s.size : Int) := by omega
      have ik2 : (k : Int) ≤ (s.size : Int) := by omega
      have hsz : (s.extract k s.size).size = s.size - k := by rw [ByteArray.size_extract]; omega
      have HG := Lib.hid (fun w => rguess_any (s.extract k s.size) w (by omega) (by omega))
      rw [back_toList] at HG
      have hno := Lib.hid (gs_no (l := s.data.toList.drop k))
      have hyes := Lib.hid (fun r h1 h2 => gs_yes (l := s.data.toList.drop k) (r := r) h1 h2)
      have HD := Lib.hid (show dAt s k = uDec (s.data.toList.drop k) from rfl)
      rw [← HD.out] at hno hyes
      obtain ⟨G, hGe⟩ : ∃ G, G = uGs (s.data.toList.drop k) := ⟨_, rfl⟩
      rw [← hGe] at HG hno
      by_cases hG0 : G < 0
      · have p3 : decide (G < 0) = true := decide_eq_true hG0
        have HR := Lib.hid (hno.out (fun h => by have := (uIs_iff.mp h.1).1; omega))
        clear h0 h1 hG0 hno hyes hGe HD
        go_enter Tryz.func128, Tryz.ntmps128
        go_wp2_with fail
        with_reducible refine (HG.out _).mono ?_
        rintro e w' ⟨rfl, hw⟩
        rw [hw]; clear hw
        go_wp2
        go_ret2
        exact ⟨by rw [HR.out]; rfl, Below.refl _ _⟩
      · have p3 : decide (G < 0) = false := decide_eq_false hG0
        by_cases hG1 : 1114111 < G
        · have p4 : decide (1114111 < G) = true := decide_eq_true hG1
          have HR := Lib.hid (hno.out (fun h => by have := (uIs_iff.mp h.1).2.1; omega))
          clear h0 h1 hG0 hG1 hno hyes hGe HD
          go_enter Tryz.func128, Tryz.ntmps128
          go_wp2_with fail
          with_reducible refine (HG.out _).mono ?_
          rintro e w' ⟨rfl, hw⟩
          rw [hw]; clear hw
          go_wp2
          go_ret2
          exact ⟨by rw [HR.out]; rfl, Below.refl _ _⟩
        · have p4 : decide (1114111 < G) = false := decide_eq_false hG1
          obtain ⟨g, rfl⟩ := Int.eq_ofNat_of_zero_le (show 0 ≤ G by omega)
          have zg : IntKind.i32.wrap (g : Int) = (g : Int) := IntWalk.i32_in _ (by omega)
          have HI := Lib.hid (fun w => ruis_any (g : Int) w)
          by_cases hI : uIs (g : Int) = true
          · rw [hI] at HI
            have HB := Lib.hid (fun w => rbytes_any g w (by omega))
            obtain ⟨L, hL⟩ : ∃ L, L = (uB g).length := ⟨_, rfl⟩
            have hLs : (bA (uB g)).size = L := by rw [bA_size]; exact hL.symm
            have hL4 := uB_pos g
            rw [← hL] at hL4
            have z1 : IntKind.i64.wrap ((s.size : Int) - (k : Int)) = (s.size : Int) - (k : Int) := IntWalk.i64_in _ (by omega)
            have z2 : IntKind.i64.wrap ((k : Int) + (L : Int)) = (k : Int) + (L : Int) := IntWalk.i64_in _ (by omega)
            by_cases h2 : s.size - k < L
            · have p5 : decide ((s.size : Int) - (k : Int) < (L : Int)) = true := decide_eq_true (by omega)
              have HR := Lib.hid (hno.out (fun h => by
                have := congrArg List.length h.2
                rw [Int.toNat_natCast, List.length_take, List.length_drop, toList_size] at this
                omega))
              clear h0 h1 hG0 hG1 hno hyes hGe HD h2 hL hI
              generalize bA (uB g) = X at *
              go_enter Tryz.func128, Tryz.ntmps128
              go_wp2_with fail
              with_reducible refine (HG.out _).mono ?_
              rintro e w' ⟨rfl, hw⟩
              rw [hw]; clear hw
              go_wp2_with fail
              with_reducible refine (HI.out _).mono ?_
              rintro e w' ⟨rfl, hw⟩
              rw [hw]; clear hw
              go_wp2_with fail
              with_reducible refine (HB.out _).mono ?_
              rintro e w' ⟨rfl, hbe⟩
              go_wp2
              go_ret2
              exact ⟨by rw [HR.out]; rfl, hbe⟩
            · have p5 : decide ((s.size : Int) - (k : Int) < (L : Int)) = false := decide_eq_false (by omega)
              have hin : k + L ≤ s.size := by omega
              have jk1 : (k : Int) ≤ (k : Int) + (L : Int) := by omega
              have jk2 : (k : Int) + (L : Int) ≤ (s.size : Int) := by omega
              have hX := text_eq (s.extract k (k + L)) (bA (uB g))
              by_cases h3 : s.extract k (k + L) = bA (uB g)
              · have q1 : ((s.extract k (k + L)).toList == (bA (uB g)).toList) = true := by rw [hX]; simp [h3]
                have HR := Lib.hid (hyes.out g hI (by rw [← hL]; exact (text_is s k L (uB g)).mp h3))
                rw [← hL] at HR
                clear h0 h1 hG0 hG1 hno hyes hGe HD h2 hL hI h3 hX
                generalize bA (uB g) = X at *
                go_enter Tryz.func128, Tryz.ntmps128
                go_wp2_with fail
                with_reducible refine (HG.out _).mono ?_
                rintro e w' ⟨rfl, hw⟩
                rw [hw]; clear hw
                go_wp2_with fail
                with_reducible refine (HI.out _).mono ?_
                rintro e w' ⟨rfl, hw⟩
                rw [hw]; clear hw
                go_wp2_with fail
                with_reducible refine (HB.out _).mono ?_
                rintro e w' ⟨rfl, hbe⟩
                go_wp2
                go_ret2
                exact ⟨by rw [HR.out]; rfl, hbe⟩
              · have q1 : ((s.extract k (k + L)).toList == (bA (uB g)).toList) = false := by rw [hX]; simp [h3]
                have HR := Lib.hid (hno.out (fun h => by
                  rw [Int.toNat_natCast, ← hL] at h
                  exact h3 ((text_is s k L (uB g)).mpr h.2)))
                clear h0 h1 hG0 hG1 hno hyes hGe HD h2 hL hI h3 hX
                generalize bA (uB g) = X at *
                go_enter Tryz.func128, Tryz.ntmps128
                go_wp2_with fail
                with_reducible refine (HG.out _).mono ?_
                rintro e w' ⟨rfl, hw⟩
                rw [hw]; clear hw
                go_wp2_with fail
                with_reducible refine (HI.out _).mono ?_
                rintro e w' ⟨rfl, hw⟩
                rw [hw]; clear hw
                go_wp2_with fail
                with_reducible refine (HB.out _).mono ?_
                rintro e w' ⟨rfl, hbe⟩
                go_wp2
                go_ret2
                exact ⟨by rw [HR.out]; rfl, hbe⟩
          · have HR := Lib.hid (hno.out (fun h => hI h.1))
            rw [show uIs (g : Int) = false by simpa using hI] at HI
            clear h0 h1 hG0 hG1 hno hyes hGe HD hI
            go_enter Tryz.func128, Tryz.ntmps128
            go_wp2_with fail
            with_reducible refine (HG.out _).mono ?_
            rintro e w' ⟨rfl, hw⟩
            rw [hw]; clear hw
            go_wp2_with fail
            with_reducible refine (HI.out _).mono ?_
            rintro e w' ⟨rfl, hw⟩
            rw [hw]; clear hw
            go_wp2
            go_ret2
            exact ⟨by rw [HR.out]; rfl, Below.refl _ _⟩

def RWalkRel (s : ByteArray) (W : World) (x y e c : Value) (wr : World) : Prop :=
  ∃ E C : Nat, x = .int .i64 0 ∧ y = .int .i64 0 ∧ e = .int .i64 (E : Nat) ∧ c = .int .i64 (C : Nat) ∧ WPre s s.size E C ∧ Below W.heap.size W wr


theorem uCheck_ok {s : ByteArray} : uCheck s = -1 ↔ uOk s := by
  unfold uCheck uOk
  by_cases h : (wk s s.size).1 = s.size
  · rw [if_pos h]; exact ⟨fun _ => h, fun _ => rfl⟩
  · rw [if_neg h]; exact ⟨fun e => by omega, fun e => absurd e h⟩
def RCutRel (s : ByteArray) (n : Int) (W : World) (x k : Value) (wr : World) : Prop :=
  ∃ K : Int, x = .string ⟨#[]⟩ ∧ k = .int .i64 K ∧ K ≤ n ∧ K ≤ s.size ∧ -9223372036854775808 ≤ K ∧ Hid ((wk s n).1 ≤ K ∨ (wk s n).1 = 0) ∧ Below W.heap.size W wr
end Go.Proofs.YtmkcfilgiehjaaaGreatDoor
/- 'append' of a text, or of a list, to a list that the call itself made. Of no package. -/
namespace Go.Proofs.YtmkcfilgiehjaaaGreatDoor
open Go Go.RowKit
set_option linter.unusedVariables false

/-- 'append(list, s...)' of a text, on a list that the call itself made. -/
theorem wpList_append_text {P : Program} {ops : Array Oper} {rest : List Oper} {o : Oper} {a : Act} {Q : Exit → Act → World → Prop} (hgd : o.guard = none) (sl x : Operand) (t u : TypeId)
    (ho : o.op = .call { callee := .builtin .append, args := #[sl, x], argTypes := #[t, u] })
    (e : TypeId) (i : TypeInfo) (ht : P.underlying t = some (.slice e)) (hu : P.underlying u = some .string) (hi : P.info? e = some i) (hz : i.zero = some (.int .u8 0)) (hsize : i.size = 1) (hby : i.bytes = 1)
    (v : Value) (W w : World) (B : Nat) (l : List UInt8) (s : ByteArray) (hb : Bts e w B v l) (hbel : Below B W w) (hB : B ≤ w.heap.size) (hs : a.eval sl = v) (hx : a.eval x = .string s) (hlen : l.length + s.size ≤ 140737488355328)
    (h : ∀ v' w', Bts e w' B v' (l ++ s.data.toList) → Below B W w' → wpList P ops Q rest (a.put o.dst v') w') :
    wpList P ops Q (o :: rest) a w := by
  refine Lib.wpList_append_own_string w hgd sl x t u ho B e i ht hu hi hz hsize hby v l.length (bV l) hs hb s hx (by unfold maxLen; omega) hlen hB ?_
  intro v' w' hown hgr _
  refine h v' w' ?_ ?_
  · unfold Bts
    rw [bV_append, List.length_append, toList_size]
    exact hown
  · refine hbel.trans ⟨hgr.os, hgr.tape, hgr.output, hgr.size, fun k hk => ?_⟩
    have hne : some k ≠ v.ownBlock := fun hk' => by
      have := (World.ownsRow.lt hb k hk'.symm).2
      have := (World.ownsRow.lt hb k hk'.symm).1
      omega
    exact hgr.block k (by omega) hne

/-- 'append(list, m...)' of another list. -/
theorem wpList_append_bytes {P : Program} {ops : Array Oper} {rest : List Oper} {o : Oper} {a : Act} {Q : Exit → Act → World → Prop} (hgd : o.guard = none) (s x : Operand) (t : TypeId)
    (ho : o.op = .call { callee := .builtin .append, args := #[s, x], argTypes := #[t, t] })
    (e : TypeId) (i : TypeInfo) (ht : P.underlying t = some (.slice e)) (hi : P.info? e = some i) (hz : i.zero = some (.int .u8 0)) (hsize : i.size = 1) (hby : i.bytes = 1)
    (v v2 : Value) (W w : World) (B B2 : Nat) (l m : List UInt8) (hb : Bts e w B v l) (hb2 : Bts e w B2 v2 m) (hm : m ≠ []) (hbel : Below B W w) (hB : B ≤ w.heap.size) (hs : a.eval s = v) (hx : a.eval x = v2) (hlen : l.length + m.length ≤ 140737488355328)
    (h : ∀ v' w', Bts e w' B v' (l ++ m) → Below B W w' → wpList P ops Q rest (a.put o.dst v') w') :
    wpList P ops Q (o :: rest) a w := by
  rcases hb2.2 with ⟨_, hn⟩ | ⟨g, cap, cur, rfl, _, hg, _⟩
  · exact absurd (List.eq_nil_of_length_eq_zero hn) hm
  · refine wpList_append_own w hgd s x t ho B e i (.int .u8 0) 1 1 ht hi hz hsize hby rfl (by decide) v l.length (bV l) hs hb ⟨g, 0, none⟩ m.length cap (bV m) hx (by rw [bV_length, Nat.mul_one]) ?_ (bV_one m) (by unfold maxLen; omega) (by omega) hB ?_
    · intro j u hj
      have hjl : j < m.length := by
        have := (List.getElem?_eq_some_iff.1 hj).1
        rwa [bV_length] at this
      have e1 : (Addr.mk g 0 none).add j = ⟨g, j, none⟩ := by unfold Addr.add; split <;> simp_all
      rw [e1, World.ownsRow.cellAt hb2 j (by omega)]
      exact hj
    · intro v' w' hown hgr _
      refine h v' w' ?_ ?_
      · unfold Bts
        rw [bV_append, List.length_append]
        exact hown
      · refine hbel.trans ⟨hgr.os, hgr.tape, hgr.output, hgr.size, fun k hk => ?_⟩
        have hne : some k ≠ v.ownBlock := fun hk' => by
          have := (World.ownsRow.lt hb k hk'.symm).1
          omega
        exact hgr.block k (by omega) hne
end Go.Proofs.YtmkcfilgiehjaaaGreatDoor
/- Package jstring's plain. -/
namespace Go.Proofs.YtmkcfilgiehjaaaGreatDoor
open Go Go.RowKit
set_option linter.unusedVariables false

def JPlainRel (c : CS) (b : Nat) (W : World) (v : Value) (wr : World) : Prop :=
  ∃ k, k ≤ c.bs.length ∧ Hid (∀ x ∈ c.bs.take k, jPl x = true) ∧ Bts 5 wr W.heap.size v (c.bs.take k) ∧ CurT 110 wr b (c.past k) ∧ Only b W wr
set_option maxRecDepth 20000 in
set_option maxHeartbeats 1000000 in
theorem jplain_run {b : Nat} {c : CS} {w : World} (h : CurT 110 w b c) (hc : c.ok) (h0 : c.er = 0) (hs : c.s.size ≤ 140737488352256) (ht : Hds w) (hg : 3 ≠ b) :
    Calls Tryz.prog 142 #[.pointer (some ⟨b, 0, none⟩)] w fun e w' => ∃ k, k ≤ c.bs.length ∧ (∀ x ∈ c.bs.take k, jPl x = true) ∧ (∀ x t, c.bs.drop k = x :: t → jPl x = false) ∧
      ((UOk (c.bs.take k) ∧ e = .returned (.string (bA (c.bs.take k))) ∧ CurT 110 w' b (c.past k)) ∨ (¬ UOk (c.bs.take k) ∧ e = .returned (.string ⟨#[]⟩) ∧ CurT 110 w' b ((c.past k).bad 5))) ∧ Only b w w' := by
  obtain ⟨i0, hi, hz0, hz1, hz2⟩ := info_parts info8
  have HC := Lib.hid (And.intro hc h0)
  have hbl := h.lt
  have hlen := CS.bs_length hc
  have hmax : c.bs.length ≤ 140737488352256 := by have := hc.2.1; omega
  have HT := Lib.hid (And.intro ht hg)
  clear hc h0 hlen ht hg
  go_enter Tryz.func142, Tryz.ntmps142
  go_wp2_with fail
  go_loopw [3] (fun v wr => JPlainRel c b w v wr) (fun _ wr => c.en + 1 - atOf b wr)
  case atStart => exact ⟨0, Nat.zero_le _, Lib.hid (fun x hx => by simp at hx), World.ownsRow_nil _ _ _ _, h, Only.refl _ _⟩
  case round =>
    obtain ⟨k, hk, hall, hb, hq, ho⟩ := hrel
    have hok := Lib.hid (CS.past_fine HC.out.1 hk)
    have hat := Lib.hid (atOf_cur hq)
    have hbp := CS.bs_past c k
    have hsz := ho.size
    by_cases hgo : ∃ x t, c.bs.drop k = x :: t ∧ jPl x = true
    · obtain ⟨x, t, hd, hx⟩ := hgo
      have HP := Lib.hid (peek_next hq hok.out HC.out.2 (hbp.trans hd))
      have HB := Lib.hid (fun w h => byte_next (w := w) (b := b) h hok.out HC.out.2 (hbp.trans hd))
      rw [CS.past_past] at HB
      have hlt : k < c.bs.length := by
        have := congrArg List.length hd
        rw [List.length_drop, List.length_cons] at this; omega
      have hget : c.bs.take (k + 1) = c.bs.take k ++ [x] := by
        rw [List.take_succ_eq_append_getElem hlt]
        congr 1
        have := List.drop_eq_getElem_cons hlt
        rw [hd] at this
        rw [(List.cons.inj this).1]
      have hx2 := jPl_iff.mp hx
      have HG := Lib.hid hget
      have hall2 := Lib.hid (show ∀ y ∈ c.bs.take (k + 1), jPl y = true by
        intro y hy
        rw [hget, List.mem_append] at hy
        rcases hy with hy | hy
        · exact hall.out y hy
        · rw [List.mem_singleton.mp hy]; exact hx)
      have hl2 : (c.bs.take k).length + 1 ≤ 140737488355328 := by rw [List.length_take]; omega
      obtain ⟨X, hXe⟩ : ∃ X, X = x.toNat := ⟨_, rfl⟩
      have hXz := Lib.hid (show ((X : Nat) : Int) = (x.toNat : Int) by rw [hXe])
      rw [← hXe] at HP HB hx2
      have q1 : decide ((X : Int) < 32) = false := decide_eq_false (by omega)
      have q2 : ((X : Int) == 34) = false := beq_eq_false_iff_ne.mpr (by omega)
      have q3 : ((X : Int) == 92) = false := beq_eq_false_iff_ne.mpr (by omega)
      have hkw : IntKind.i64.wrap ((k : Int) + 1) = (k : Int) + 1 := i64_small (by omega) (by omega)
      have HEN := Lib.hid (CS.bs_length HC.out.1)
      clear hget hd hx hx2 hXe hbp hall
      go_wp2_with fail
      with_reducible refine HP.out.mono ?_
      rintro e w1 ⟨rfl, hq1, hb1⟩
      have ho1 := only_then ho hb1 hsz
      have hv1 := hb.below hb1 (Nat.le_refl _)
      clear hb1 hb hq
      go_wp2_with fail
      with_reducible refine (HB.out _ hq1).mono ?_
      rintro e w2 ⟨rfl, hq2, ho2⟩
      have hv2 := hv1.only ho2 hbl
      have ho3 := ho1.trans ho2
      have hs3 := ho3.size
      have HQ := Lib.hid (fun w3 (h : Below w.heap.size w2 w3) => And.intro (Below.cur h hq2 hbl) (only_then ho3 h (Nat.le_refl _)))
      clear hv1 hq1 ho1 ho2
      go_wp2_with (at_builtin; go_loud (refine wpList_append_byte rfl (.tmp 25) (.tmp 28) 93 rfl 5 i0 Tryz.underlying93 hi hz0 hz1 hz2 _ w2 w2 w.heap.size (c.bs.take k) hv2 (Below.refl _ _) hs3 rfl _ _ hXz.out rfl hl2 ?_; intro v4 w4 hv4 hb4))
      have hq4 := (HQ.out _ hb4).1
      have ho4 := (HQ.out _ hb4).2
      go_roundw
      case rel => exact ⟨k + 1, by omega, hall2, by rw [HG.out]; exact hv4, hq4, ho4⟩
      case measure =>
        have := HEN.out
        have h1 := HC.out.1.1
        rw [atOf_cur hq4, hat.out]
        show c.en + 1 - (c.at_ + (k + 1)) < c.en + 1 - (c.at_ + k)
        omega
    · have hstop := Lib.hid (show ∀ x t, c.bs.drop k = x :: t → jPl x = false from fun x t e => by
        cases hx : jPl x with
        | false => rfl
        | true => exact absurd ⟨x, t, e, hx⟩ hgo)
      have hP : ∃ (X : Nat) (I : Bool), (I = false ∨ (I = true ∧ X < 32) ∨ (I = true ∧ X = 34) ∨ (I = true ∧ X = 92)) ∧ (Calls Tryz.prog 98 #[.pointer (some ⟨b, 0, none⟩)] wr fun e w' => e = .returned (.tuple #[.int .u8 (X : Int), .bool I]) ∧ CurT 110 w' b (c.past k) ∧ Below wr.heap.size wr w') := by
        match hd : c.bs.drop k with
        | [] => exact ⟨0, false, .inl rfl, peek_none hq hok.out (hbp.trans hd)⟩
        | x :: t =>
          refine ⟨x.toNat, true, .inr ?_, peek_next hq hok.out HC.out.2 (hbp.trans hd)⟩
          have h1 : ¬ jPl x = true := fun h => hgo ⟨x, t, hd, h⟩
          rw [jPl_iff] at h1
          rcases Nat.lt_or_ge x.toNat 32 with h2 | h2
          · exact .inl ⟨rfl, h2⟩
          · rcases Nat.decEq x.toNat 34 with h3 | h3
            · exact .inr (.inr ⟨rfl, by omega⟩)
            · exact .inr (.inl ⟨rfl, h3⟩)
      obtain ⟨X, I, hXI, HP0⟩ := hP
      have HP := Lib.hid HP0
      have HK := Lib.hid (fun (w1 : World) (hb1 : Below wr.heap.size wr w1) => (hb.below hb1 (Nat.le_refl _)).text (P := Tryz.prog) (d := 9) Tryz.underlying93 Tryz.underlying5 Tryz.underlying9)
      have HO := Lib.hid (show ∀ (w1 : World), Below wr.heap.size wr w1 → Only b w w1 from fun w1 hb1 => only_then ho hb1 hsz)
      have HH := Lib.hid (show ∀ (w1 : World), Only b w w1 → Hds w1 from fun w1 h => HT.out.1.only h HT.out.2)
      have hRs : (bA (c.bs.take k)).size ≤ 1125899906842624 := by rw [bA_size, List.length_take]; omega
      have HU := Lib.hid (fun w ht => ucheck_any (bA (c.bs.take k)) w hRs ht)
      have HE := Lib.hid (show (c.past k).er = 0 from HC.out.2)
      have HF := Lib.hid (And.intro hk hall.out)
      clear hgo hbp HP0 hb hq ho hall hk hRs
      by_cases hu : UOk (c.bs.take k)
      · have HUo := Lib.hid hu
        rw [uCheck_ok.mpr ((uOk_bA _).mpr hu)] at HU
        clear hu
        rcases hXI with hI | ⟨hI, hX⟩ | ⟨hI, hX⟩ | ⟨hI, hX⟩
        · subst hI
          go_wp2_with fail
          with_reducible refine HP.out.mono ?_
          rintro e w1 ⟨rfl, hq1, hb1⟩
          have ho1 := Lib.hid (HO.out _ hb1)
          have hk1 := Lib.hid (HK.out _ hb1)
          go_wp2_with fail
          rw [hk1.out]
          go_wp2_with fail
          with_reducible refine (HU.out _ (HH.out _ ho1.out)).mono ?_
          rintro e w2 ⟨rfl, m, hw⟩
          have hb2 := Lib.hid (show Below wr.heap.size wr w2 by rw [hw]; exact Below.drewN hb1 m)
          have hq2 := Lib.hid (show CurT 110 w2 b (c.past k) by rw [hw]; exact hq1.drewN m)
          have hk2 := Lib.hid (HK.out _ hb2.out)
          clear hw hb1 hq1
          go_wp2_with fail
          rw [hk2.out]
          go_wp2
          go_ret
          exact ⟨k, HF.out.1, HF.out.2, hstop.out, .inl ⟨HUo.out, rfl, hq2.out⟩, HO.out _ hb2.out⟩
        · subst hI
          have q1 : decide ((X : Int) < 32) = true := decide_eq_true (by omega)
          clear hX
          go_wp2_with fail
          with_reducible refine HP.out.mono ?_
          rintro e w1 ⟨rfl, hq1, hb1⟩
          have ho1 := Lib.hid (HO.out _ hb1)
          have hk1 := Lib.hid (HK.out _ hb1)
          go_wp2_with fail
          rw [hk1.out]
          go_wp2_with fail
          with_reducible refine (HU.out _ (HH.out _ ho1.out)).mono ?_
          rintro e w2 ⟨rfl, m, hw⟩
          have hb2 := Lib.hid (show Below wr.heap.size wr w2 by rw [hw]; exact Below.drewN hb1 m)
          have hq2 := Lib.hid (show CurT 110 w2 b (c.past k) by rw [hw]; exact hq1.drewN m)
          have hk2 := Lib.hid (HK.out _ hb2.out)
          clear hw hb1 hq1
          go_wp2_with fail
          rw [hk2.out]
          go_wp2
          go_ret
          exact ⟨k, HF.out.1, HF.out.2, hstop.out, .inl ⟨HUo.out, rfl, hq2.out⟩, HO.out _ hb2.out⟩
        · subst hI
          have q1 : decide ((X : Int) < 32) = false := decide_eq_false (by omega)
          have q2 : ((X : Int) == 34) = true := beq_iff_eq.mpr (by omega)
          clear hX
          go_wp2_with fail
          with_reducible refine HP.out.mono ?_
          rintro e w1 ⟨rfl, hq1, hb1⟩
          have ho1 := Lib.hid (HO.out _ hb1)
          have hk1 := Lib.hid (HK.out _ hb1)
          go_wp2_with fail
          rw [hk1.out]
          go_wp2_with fail
          with_reducible refine (HU.out _ (HH.out _ ho1.out)).mono ?_
          rintro e w2 ⟨rfl, m, hw⟩
          have hb2 := Lib.hid (show Below wr.heap.size wr w2 by rw [hw]; exact Below.drewN hb1 m)
          have hq2 := Lib.hid (show CurT 110 w2 b (c.past k) by rw [hw]; exact hq1.drewN m)
          have hk2 := Lib.hid (HK.out _ hb2.out)
          clear hw hb1 hq1
          go_wp2_with fail
          rw [hk2.out]
          go_wp2
          go_ret
          exact ⟨k, HF.out.1, HF.out.2, hstop.out, .inl ⟨HUo.out, rfl, hq2.out⟩, HO.out _ hb2.out⟩
        · subst hI
          have q1 : decide ((X : Int) < 32) = false := decide_eq_false (by omega)
          have q2 : ((X : Int) == 34) = false := beq_eq_false_iff_ne.mpr (by omega)
          have q3 : ((X : Int) == 92) = true := beq_iff_eq.mpr (by omega)
          clear hX
          go_wp2_with fail
          with_reducible refine HP.out.mono ?_
          rintro e w1 ⟨rfl, hq1, hb1⟩
          have ho1 := Lib.hid (HO.out _ hb1)
          have hk1 := Lib.hid (HK.out _ hb1)
          go_wp2_with fail
          rw [hk1.out]
          go_wp2_with fail
          with_reducible refine (HU.out _ (HH.out _ ho1.out)).mono ?_
          rintro e w2 ⟨rfl, m, hw⟩
          have hb2 := Lib.hid (show Below wr.heap.size wr w2 by rw [hw]; exact Below.drewN hb1 m)
          have hq2 := Lib.hid (show CurT 110 w2 b (c.past k) by rw [hw]; exact hq1.drewN m)
          have hk2 := Lib.hid (HK.out _ hb2.out)
          clear hw hb1 hq1
          go_wp2_with fail
          rw [hk2.out]
          go_wp2
          go_ret
          exact ⟨k, HF.out.1, HF.out.2, hstop.out, .inl ⟨HUo.out, rfl, hq2.out⟩, HO.out _ hb2.out⟩
      · have HUo := Lib.hid hu
        have hz : (uCheck (bA (c.bs.take k)) != -1) = true := bne_iff_ne.mpr (fun e => hu ((uOk_bA _).mp (uCheck_ok.mp e)))
        generalize uCheck (bA (c.bs.take k)) = Z at *
        clear hu
        rcases hXI with hI | ⟨hI, hX⟩ | ⟨hI, hX⟩ | ⟨hI, hX⟩
        · subst hI
          go_wp2_with fail
          with_reducible refine HP.out.mono ?_
          rintro e w1 ⟨rfl, hq1, hb1⟩
          have ho1 := Lib.hid (HO.out _ hb1)
          have hk1 := Lib.hid (HK.out _ hb1)
          go_wp2_with fail
          rw [hk1.out]
          go_wp2_with fail
          with_reducible refine (HU.out _ (HH.out _ ho1.out)).mono ?_
          rintro e w2 ⟨rfl, m, hw⟩
          have hb2 := Lib.hid (show Below wr.heap.size wr w2 by rw [hw]; exact Below.drewN hb1 m)
          have hq2 := show CurT 110 w2 b (c.past k) by rw [hw]; exact hq1.drewN m
          clear hw hb1 hq1
          go_wp2_with fail
          with_reducible refine (fail_fresh hq2 HE.out 5).mono ?_
          rintro e w3 ⟨rfl, hq3, ho3⟩
          go_wp2
          go_ret
          exact ⟨k, HF.out.1, HF.out.2, hstop.out, .inr ⟨HUo.out, rfl, hq3⟩, (HO.out _ hb2.out).trans ho3⟩
        · subst hI
          have q1 : decide ((X : Int) < 32) = true := decide_eq_true (by omega)
          clear hX
          go_wp2_with fail
          with_reducible refine HP.out.mono ?_
          rintro e w1 ⟨rfl, hq1, hb1⟩
          have ho1 := Lib.hid (HO.out _ hb1)
          have hk1 := Lib.hid (HK.out _ hb1)
          go_wp2_with fail
          rw [hk1.out]
          go_wp2_with fail
          with_reducible refine (HU.out _ (HH.out _ ho1.out)).mono ?_
          rintro e w2 ⟨rfl, m, hw⟩
          have hb2 := Lib.hid (show Below wr.heap.size wr w2 by rw [hw]; exact Below.drewN hb1 m)
          have hq2 := show CurT 110 w2 b (c.past k) by rw [hw]; exact hq1.drewN m
          clear hw hb1 hq1
          go_wp2_with fail
          with_reducible refine (fail_fresh hq2 HE.out 5).mono ?_
          rintro e w3 ⟨rfl, hq3, ho3⟩
          go_wp2
          go_ret
          exact ⟨k, HF.out.1, HF.out.2, hstop.out, .inr ⟨HUo.out, rfl, hq3⟩, (HO.out _ hb2.out).trans ho3⟩
        · subst hI
          have q1 : decide ((X : Int) < 32) = false := decide_eq_false (by omega)
          have q2 : ((X : Int) == 34) = true := beq_iff_eq.mpr (by omega)
          clear hX
          go_wp2_with fail
          with_reducible refine HP.out.mono ?_
          rintro e w1 ⟨rfl, hq1, hb1⟩
          have ho1 := Lib.hid (HO.out _ hb1)
          have hk1 := Lib.hid (HK.out _ hb1)
          go_wp2_with fail
          rw [hk1.out]
          go_wp2_with fail
          with_reducible refine (HU.out _ (HH.out _ ho1.out)).mono ?_
          rintro e w2 ⟨rfl, m, hw⟩
          have hb2 := Lib.hid (show Below wr.heap.size wr w2 by rw [hw]; exact Below.drewN hb1 m)
          have hq2 := show CurT 110 w2 b (c.past k) by rw [hw]; exact hq1.drewN m
          clear hw hb1 hq1
          go_wp2_with fail
          with_reducible refine (fail_fresh hq2 HE.out 5).mono ?_
          rintro e w3 ⟨rfl, hq3, ho3⟩
          go_wp2
          go_ret
          exact ⟨k, HF.out.1, HF.out.2, hstop.out, .inr ⟨HUo.out, rfl, hq3⟩, (HO.out _ hb2.out).trans ho3⟩
        · subst hI
          have q1 : decide ((X : Int) < 32) = false := decide_eq_false (by omega)
          have q2 : ((X : Int) == 34) = false := beq_eq_false_iff_ne.mpr (by omega)
          have q3 : ((X : Int) == 92) = true := beq_iff_eq.mpr (by omega)
          clear hX
          go_wp2_with fail
          with_reducible refine HP.out.mono ?_
          rintro e w1 ⟨rfl, hq1, hb1⟩
          have ho1 := Lib.hid (HO.out _ hb1)
          have hk1 := Lib.hid (HK.out _ hb1)
          go_wp2_with fail
          rw [hk1.out]
          go_wp2_with fail
          with_reducible refine (HU.out _ (HH.out _ ho1.out)).mono ?_
          rintro e w2 ⟨rfl, m, hw⟩
          have hb2 := Lib.hid (show Below wr.heap.size wr w2 by rw [hw]; exact Below.drewN hb1 m)
          have hq2 := show CurT 110 w2 b (c.past k) by rw [hw]; exact hq1.drewN m
          clear hw hb1 hq1
          go_wp2_with fail
          with_reducible refine (fail_fresh hq2 HE.out 5).mono ?_
          rintro e w3 ⟨rfl, hq3, ho3⟩
          go_wp2
          go_ret
          exact ⟨k, HF.out.1, HF.out.2, hstop.out, .inr ⟨HUo.out, rfl, hq3⟩, (HO.out _ hb2.out).trans ho3⟩
theorem jplain_good {b : Nat} {c : CS} {w : World} (h : CurT 110 w b c) (hc : c.ok) (h0 : c.er = 0) (hs : c.s.size ≤ 140737488352256) (ht : Hds w) (hg : 3 ≠ b) (hu : UOk (c.bs.takeWhile jPl)) :
    Calls Tryz.prog 142 #[.pointer (some ⟨b, 0, none⟩)] w fun e w' => e = .returned (.string (bA (c.bs.takeWhile jPl))) ∧ CurT 110 w' b (c.past (c.bs.takeWhile jPl).length) ∧ Only b w w' := by
  refine (jplain_run h hc h0 hs ht hg).mono ?_
  rintro e w' ⟨k, hk, h1, h2, h3, ho⟩
  obtain ⟨e1, e2⟩ := tw_eq hk h1 h2
  rw [e2]
  rw [e1] at hu ⊢
  rcases h3 with ⟨_, h3, h4⟩ | ⟨h3, _⟩
  · exact ⟨h3, h4, ho⟩
  · exact absurd hu h3
theorem jplain_bad {b : Nat} {c : CS} {w : World} (h : CurT 110 w b c) (hc : c.ok) (h0 : c.er = 0) (hs : c.s.size ≤ 140737488352256) (ht : Hds w) (hg : 3 ≠ b) (hu : ¬ UOk (c.bs.takeWhile jPl)) :
    Calls Tryz.prog 142 #[.pointer (some ⟨b, 0, none⟩)] w fun e w' => e = .returned (.string ⟨#[]⟩) ∧ (∃ k, k ≤ c.bs.length ∧ CurT 110 w' b ((c.past k).bad 5)) ∧ Only b w w' := by
  refine (jplain_run h hc h0 hs ht hg).mono ?_
  rintro e w' ⟨k, hk, h1, h2, h3, ho⟩
  obtain ⟨e1, e2⟩ := tw_eq hk h1 h2
  rw [e1] at hu
  rcases h3 with ⟨h3, _⟩ | ⟨_, h3, h4⟩
  · exact absurd h3 hu
  · exact ⟨h3, ⟨k, hk, h4⟩, ho⟩
end Go.Proofs.YtmkcfilgiehjaaaGreatDoor
/- Package hexa's Put, Text. -/
namespace Go.Proofs.YtmkcfilgiehjaaaGreatDoor
open Go Go.RowKit
set_option linter.unusedVariables false

theorem bV_two (a b : UInt8) : bV [a, b] = [.int .u8 (a.toNat : Int), .int .u8 (b.toNat : Int)] := rfl
def HPutRel (t : TypeId) (W : World) (l : List UInt8) (s : ByteArray) (v i : Value) (wr : World) : Prop :=
  ∃ k : Nat, k ≤ s.size ∧ i = .int .i64 k ∧ Bts t wr W.heap.size v (l ++ hx (s.data.toList.take k)) ∧ Below W.heap.size W wr
/-- Behind an append to a list that the call made nothing turns but that list's block, and what is new. -/
theorem grown_below {t : TypeId} {W wr w1 : World} {B : Nat} {v : Value} {l : List UInt8} {o : Obj} (hb : Bts t wr B v l) (hbel : Below B W wr) (hB : B ≤ wr.heap.size) (hgr : ((wr.alloc o).drew).grownBy w1 v.ownBlock) : Below B W w1 := by
  have hs : (wr.alloc o).drew.heap.size = wr.heap.size + 1 := by simp
  refine hbel.trans ⟨hgr.os, hgr.tape, hgr.output, by have := hgr.size; omega, fun k hk => ?_⟩
  have hne : some k ≠ v.ownBlock := fun hk' => by
    have := (World.ownsRow.lt hb k hk'.symm).1
    omega
  rw [hgr.block k (by omega) hne]
  exact Below.heap_alloc _ _ _ (by omega)
theorem bts_more {t : TypeId} {w : World} {B n : Nat} {v : Value} {L M : List UInt8} (h : w.ownsRow B t 1 v n (bV L ++ bV M)) (hn : n = (L ++ M).length) : Bts t w B v (L ++ M) := by
  unfold Bts
  rw [bV_append, ← hn]; exact h
attribute [local go_sem ↓] Go.wp_at_zero Go.wp_at_succ

theorem bin_none (w : World) : BIn w none [] := fun j h => by simp at h
end Go.Proofs.YtmkcfilgiehjaaaGreatDoor
