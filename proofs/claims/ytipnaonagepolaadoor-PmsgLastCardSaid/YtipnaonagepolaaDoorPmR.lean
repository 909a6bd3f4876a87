/- The document's answers for what a message's fields say together: Of, Num, Text, Each, Joined. -/
import Derived.Test.YtipnaonagepolaaDoorZH
import Derived.Test.YtipnaonagepolaaDoorPrR
import Derived.Test.YtipnaonagepolaaDoorPrU
import Derived.Test.YtipnaonagepolaaDoorFtM
namespace Go.Proofs.YtipnaonagepolaaDoor
open Go Go.RowKit
set_option linter.unusedVariables false

def FoRel (W : World) (l : List FD) (t : TG) (v i : Value) (wr : World) : Prop := ∃ j : Nat, j ≤ l.length ∧ i = .int .i64 (j : Nat) ∧ FRow 45 wr W.heap.size v (fOf (l.take j) t) ∧ Below W.heap.size W wr
theorem fOf_le (l : List FD) (t : TG) : (fOf l t).length ≤ l.length := List.length_filter_le _ _
theorem rof_nil (a : Option Addr) (cap : Nat) (t : TG) (w : World) :
    Calls Tryd.prog 28 #[.slice a 0 cap, .int .i64 t.1, .int .i64 t.2] w fun e w' => ∃ v, e = .returned v ∧ FRow 45 w' w.heap.size v [] ∧ Below w.heap.size w w' := by
  go_enter Tryd.func28, Tryd.ntmps28
  go_wp2_with fail
  refine wp_loop_once ?_
  go_wp2
  go_ret
  exact ⟨_, rfl, frow_nil _ _ _, Below.refl _ _⟩
set_option maxRecDepth 20000 in
set_option maxHeartbeats 1000000 in
theorem rof_any (a : Option Addr) (cap : Nat) (l : List FD) (t : TG) (w : World) (hl : l.length ≤ 1099511627776) (hin : FIn w a l) :
    Calls Tryd.prog 28 #[.slice a l.length cap, .int .i64 t.1, .int .i64 t.2] w fun e w' => ∃ v, e = .returned v ∧ FRow 45 w' w.heap.size v (fOf l t) ∧ Below w.heap.size w w' := by
  by_cases h0 : l = []
  · subst h0; exact rof_nil a cap t w
  · obtain ⟨g, rfl, hg, hc⟩ := hin.block h0
    obtain ⟨tn, tv⟩ := t
    dsimp only
    have HC := Lib.hid hc
    clear hin hc
    go_enter Tryd.func28, Tryd.ntmps28
    go_wp2_with fail
    go_loopw [7, 8] (fun v i wr => FoRel w l (tn, tv) v i wr) (fun _ i _ => l.length - (intOf i).toNat)
    case atStart => exact ⟨0, Nat.zero_le _, rfl, frow_nil _ _ _, Below.refl _ _⟩
    case round =>
      obtain ⟨j, hj, rfl, hrow, hbel⟩ := hrel
      by_cases hlt : j < l.length
      · have p1 : decide ((j : Int) < (l.length : Int)) = true := decide_eq_true (by omega)
        have p2 : (j : Int) < (l.length : Int) := by omega
        obtain ⟨k0, k1, k2, k3⟩ := (HC.out j hlt).below hbel hg
        have HQ := Lib.hid (show fOf (l.take (j + 1)) (tn, tv) = fOf (l.take j) (tn, tv) ++ (if tHas (tn, tv) l[j] then [l[j]] else []) by rw [List.take_succ_eq_append_getElem hlt, fOf_snoc])
        have hsz := hbel.size
        have hpl : (fOf (l.take j) (tn, tv)).length ≤ 1099511627776 := Nat.le_trans (fOf_le _ _) (by rw [List.length_take]; omega)
        have HC2 := Lib.hid HC.out
        clear HC
        generalize l[j] = y at *
        obtain ⟨y0, y1, y2, y3⟩ := y
        dsimp only at k0 k1 k2 k3
        by_cases e1 : y0 = tn
        · have b1 : (y0 == tn) = true := beq_iff_eq.2 e1
          by_cases e2 : y1 = tv
          · have b2 : (y1 == tv) = true := beq_iff_eq.2 e2
            have HT := Lib.hid (show tHas (tn, tv) (y0, y1, y2, y3) = true by simp [tHas, e1, e2])
            have HB := Lib.hid hbel
            have HRow := Lib.hid hrow
            clear e1 e2 hbel hrow
            go_wp2_with (at_builtin; go_loud (refine wpList_append_fd rfl (.tmp 31) (.tmp 36) 27 rfl 45 Tryd.underlying27 infoRf _ wr w.heap.size (fOf (l.take j) (tn, tv)) HRow.out hsz rfl _ _ _ _ (y0, y1, y2, y3) rfl rfl rfl rfl rfl hpl ?_; intro v5 w5 hv5 hb5))
            have hbel5 := HB.out.trans hb5
            go_roundw
            case rel => exact ⟨j + 1, by omega, by go_num, by rw [HQ.out, HT.out]; exact hv5, hbel5⟩
            case measure => simp [intOf]; omega
          · have b2 : (y1 == tv) = false := beq_eq_false_iff_ne.2 e2
            have HT := Lib.hid (show tHas (tn, tv) (y0, y1, y2, y3) = false by simp [tHas, e2])
            have HB := Lib.hid hbel
            have HRow := Lib.hid hrow
            clear e1 e2 hbel hrow
            go_wp2
            go_roundw
            case rel => exact ⟨j + 1, by omega, by go_num, by rw [HQ.out, HT.out]; simpa using HRow.out, HB.out⟩
            case measure => simp [intOf]; omega
        · have b1 : (y0 == tn) = false := beq_eq_false_iff_ne.2 e1
          have HT := Lib.hid (show tHas (tn, tv) (y0, y1, y2, y3) = false by simp [tHas, e1])
          have HB := Lib.hid hbel
          have HRow := Lib.hid hrow
          clear e1 hbel hrow
          go_wp2
          go_roundw
          case rel => exact ⟨j + 1, by omega, by go_num, by rw [HQ.out, HT.out]; simpa using HRow.out, HB.out⟩
          case measure => simp [intOf]; omega
      · have p1 : decide ((j : Int) < (l.length : Int)) = false := decide_eq_false (by omega)
        have HR := Lib.hid (show l.take j = l from List.take_of_length_le (by omega))
        have HW := Lib.hid (And.intro hrow hbel)
        clear hrow hbel
        go_wp2
        go_ret
        exact ⟨_, rfl, by have := HW.out.1; rw [HR.out] at this; exact this, HW.out.2⟩

theorem last_of {l : List FD} {t : TG} {m : List FD} (h : fOf l t = m) {L : Nat} (hL : Hid (m.length = L + 1)) : fLast l (tHas t) = m[L]'(by have := hL.out; omega) ∧ fIs l (tHas t) = true := by
  subst h
  have hL := hL.out
  have h1 : fIs l (tHas t) = true := by rw [fIs_of]; exact decide_eq_true (by unfold fOf at hL; omega)
  refine ⟨?_, h1⟩
  rw [fLast_of, List.getLast?_eq_getElem?, List.getElem?_eq_getElem (show (fOf l t).length - 1 < (fOf l t).length by omega)]
  simp only [Option.getD_some, hL, Nat.add_sub_cancel]
theorem last_nil {l : List FD} {t : TG} (h : fOf l t = []) : fLast l (tHas t) = fZ ∧ fIs l (tHas t) = false := by
  refine ⟨by rw [fLast_of, h]; rfl, ?_⟩
  rw [fIs_of, show l.filter (tHas t) = fOf l t from rfl, h]; rfl
set_option maxRecDepth 20000 in
theorem rnum_any (a : Option Addr) (cap : Nat) (l : List FD) (n v : Int) (w : World) (hl : l.length ≤ 1099511627776) (hin : FIn w a l) :
    Calls Tryd.prog 10 #[.slice a l.length cap, .int .i64 n, .int .i64 v] w fun e w' => e = .returned (.tuple #[.int .u64 (fNum l n v : Nat), .bool (fNis l n v)]) ∧ Below w.heap.size w w' := by
  have HO := Lib.hid (rof_any a cap l (n, v) w hl hin)
  have hle := fOf_le l (n, v)
  obtain ⟨m, hm⟩ : ∃ m, m = fOf l (n, v) := ⟨_, rfl⟩
  rw [← hm] at HO hle
  dsimp only at HO
  by_cases h2 : v = 2
  · have b1 : (v == 2) = true := beq_iff_eq.2 h2
    have HR := Lib.hid (show (.tuple #[.int .u64 (fNum l n v : Nat), .bool (fNis l n v)] : Value) = .tuple #[.int .u64 0, .bool false] by unfold fNum fNis; rw [if_pos h2, if_pos h2]; rfl)
    clear h2 hm hin
    go_enter Tryd.func10, Tryd.ntmps10
    go_wp2_with (go_at_call 28; refine HO.out.mono ?_; rintro e w1 ⟨v1, rfl, hr, hb⟩; obtain ⟨a1, c1, rfl, hin1⟩ := hr.inn; have HB := Lib.hid hb; clear hr hin1 hb)
    go_ret2
    exact ⟨by rw [HR.out]; rfl, HB.out⟩
  · have b1 : (v == 2) = false := beq_eq_false_iff_ne.2 h2
    rcases Nat.eq_zero_or_pos m.length with h0 | h0
    · have h0' := List.eq_nil_of_length_eq_zero h0
      subst h0'
      obtain ⟨z1, z2⟩ := last_nil hm.symm
      have HR := Lib.hid (show (.tuple #[.int .u64 (fNum l n v : Nat), .bool (fNis l n v)] : Value) = .tuple #[.int .u64 0, .bool false] by unfold fNum fNis; rw [if_neg h2, if_neg h2, z1, z2]; rfl)
      clear h2 hm hin z1 z2
      go_enter Tryd.func10, Tryd.ntmps10
      go_wp2_with (go_at_call 28; refine HO.out.mono ?_; rintro e w1 ⟨v1, rfl, hr, hb⟩; obtain ⟨a1, c1, rfl, hin1⟩ := hr.inn; have HB := Lib.hid hb; clear hr hin1 hb)
      go_ret2
      exact ⟨by rw [HR.out]; rfl, HB.out⟩
    · obtain ⟨L, hL⟩ : ∃ L, m.length = L + 1 := ⟨m.length - 1, by omega⟩
      have HL := Lib.hid hL
      have q1 : ((m.length : Int) == 0) = false := beq_eq_false_iff_ne.2 (by omega)
      have q2 : (m.length : Int) - 1 = (L : Int) := by omega
      have hlt : L < m.length := by omega
      clear hL
      obtain ⟨z1, z2⟩ := last_of hm.symm HL
      have HR := Lib.hid (show (.tuple #[.int .u64 (fNum l n v : Nat), .bool (fNis l n v)] : Value) = .tuple #[.int .u64 ((m[L]'hlt).2.2.1 : Nat), .bool true] by unfold fNum fNis; rw [if_neg h2, if_neg h2, z1, z2])
      have q3 : (L : Int) < (m.length : Int) := by omega
      clear h2 hm hin z1 z2 h0
      go_enter Tryd.func10, Tryd.ntmps10
      go_wp2_with (go_at_call 28; refine HO.out.mono ?_; rintro e w1 ⟨v1, rfl, hr, hb⟩; obtain ⟨a1, c1, rfl, hin1⟩ := hr.inn; obtain ⟨g, rfl, hg, k0, k1, k2, k3⟩ := hin1 L hlt; have HB := Lib.hid hb; clear hr hin1 hb hg)
      go_ret2
      exact ⟨by rw [HR.out]; rfl, HB.out⟩
set_option maxRecDepth 20000 in
theorem rtext_any (a : Option Addr) (cap : Nat) (l : List FD) (n : Int) (w : World) (hl : l.length ≤ 1099511627776) (hin : FIn w a l) :
    Calls Tryd.prog 12 #[.slice a l.length cap, .int .i64 n] w fun e w' => e = .returned (.tuple #[.string (fLast l (tHas (n, 2))).2.2.2, .bool (fIs l (tHas (n, 2)))]) ∧ Below w.heap.size w w' := by
  have HO := Lib.hid (rof_any a cap l (n, 2) w hl hin)
  have hle := fOf_le l (n, 2)
  obtain ⟨m, hm⟩ : ∃ m, m = fOf l (n, 2) := ⟨_, rfl⟩
  rw [← hm] at HO hle
  dsimp only at HO
  rcases Nat.eq_zero_or_pos m.length with h0 | h0
  · have h0' := List.eq_nil_of_length_eq_zero h0
    subst h0'
    obtain ⟨z1, z2⟩ := last_nil hm.symm
    have HR := Lib.hid (show (.tuple #[.string (fLast l (tHas (n, 2))).2.2.2, .bool (fIs l (tHas (n, 2)))] : Value) = .tuple #[.string ⟨#[]⟩, .bool false] by rw [z1, z2]; rfl)
    clear hm hin z1 z2
    go_enter Tryd.func12, Tryd.ntmps12
    go_wp2_with (go_at_call 28; refine HO.out.mono ?_; rintro e w1 ⟨v1, rfl, hr, hb⟩; obtain ⟨a1, c1, rfl, hin1⟩ := hr.inn; have HB := Lib.hid hb; clear hr hin1 hb)
    go_ret2
    exact ⟨by rw [HR.out]; rfl, HB.out⟩
  · obtain ⟨L, hL⟩ : ∃ L, m.length = L + 1 := ⟨m.length - 1, by omega⟩
    have HL := Lib.hid hL
    have q1 : ((m.length : Int) == 0) = false := beq_eq_false_iff_ne.2 (by omega)
    have q2 : (m.length : Int) - 1 = (L : Int) := by omega
    have hlt : L < m.length := by omega
    clear hL
    obtain ⟨z1, z2⟩ := last_of hm.symm HL
    have HR := Lib.hid (show (.tuple #[.string (fLast l (tHas (n, 2))).2.2.2, .bool (fIs l (tHas (n, 2)))] : Value) = .tuple #[.string (m[L]'hlt).2.2.2, .bool true] by rw [z1, z2])
    have q3 : (L : Int) < (m.length : Int) := by omega
    clear hm hin z1 z2 h0
    go_enter Tryd.func12, Tryd.ntmps12
    go_wp2_with (go_at_call 28; refine HO.out.mono ?_; rintro e w1 ⟨v1, rfl, hr, hb⟩; obtain ⟨a1, c1, rfl, hin1⟩ := hr.inn; obtain ⟨g, rfl, hg, k0, k1, k2, k3⟩ := hin1 L hlt; have HB := Lib.hid hb; clear hr hin1 hb hg)
    go_ret2
    exact ⟨by rw [HR.out]; rfl, HB.out⟩

def ReRel (W : World) (B : Nat) (L : List ByteArray) (v i : Value) (wr : World) : Prop := ∃ j : Nat, j ≤ L.length ∧ i = .int .i64 (j : Nat) ∧ SBts wr B v (L.take j) ∧ Below B W wr
set_option maxRecDepth 20000 in
set_option maxHeartbeats 1000000 in
theorem reach_any (a : Option Addr) (cap : Nat) (l : List FD) (n : Int) (w : World) (hl : l.length ≤ 1000000) (hin : FIn w a l) :
    Calls Tryd.prog 17 #[.slice a l.length cap, .int .i64 n] w fun e w' => ∃ v, e = .returned v ∧ SBts w' w.heap.size v (fEach l n) ∧ Below w.heap.size w w' := by
  have HO := Lib.hid (rof_any a cap l (n, 2) w (by omega) hin)
  have hle := fOf_le l (n, 2)
  have HE := Lib.hid (show fEach l n = (fOf l (n, 2)).map fun x => x.2.2.2 from rfl)
  generalize fOf l (n, 2) = m at *
  dsimp only at HO
  clear hin
  go_enter Tryd.func17, Tryd.ntmps17
  go_wp2_with (go_at_call 28; refine HO.out.mono ?_; rintro e w1 ⟨v1, rfl, hr, hb⟩; obtain ⟨a1, c1, rfl, hin1⟩ := hr.inn; have HB := Lib.hid hb; have HI := Lib.hid hin1; clear hr hin1 hb)
  go_loopw [6, 7] (fun v i wr => ReRel w1 w1.heap.size (m.map fun x => x.2.2.2) v i wr) (fun _ i _ => m.length - (intOf i).toNat)
  case atStart => exact ⟨0, Nat.zero_le _, rfl, sbts_nil _ _, Below.refl _ _⟩
  case round =>
    obtain ⟨j, hj, rfl, hrow, hbel⟩ := hrel
    rw [List.length_map] at hj
    by_cases hlt : j < m.length
    · have p1 : decide ((j : Int) < (m.length : Int)) = true := decide_eq_true (by omega)
      have p2 : (j : Int) < (m.length : Int) := by omega
      obtain ⟨g, rfl, hg, k0, k1, k2, k3⟩ := HI.out.below hbel (Nat.le_refl _) j hlt
      have HQ := Lib.hid (show (m.map fun x => x.2.2.2).take (j + 1) = (m.map fun x => x.2.2.2).take j ++ [(m[j]).2.2.2] by
        rw [List.take_succ_eq_append_getElem (by rw [List.length_map]; exact hlt), List.getElem_map])
      have hsz := hbel.size
      have hpl : ((m.map fun x => x.2.2.2).take j).length ≤ 1000000 := by rw [List.length_take, List.length_map]; omega
      have HRow := Lib.hid hrow
      have HB2 := Lib.hid hbel
      clear hrow hbel hg
      generalize (m[j]) = y at *
      obtain ⟨y0, y1, y2, y3⟩ := y
      dsimp only at k0 k1 k2 k3
      go_wp2_with (at_builtin; go_loud (refine wpList_append_str rfl (.tmp 17) (.tmp 23) rfl _ wr w1.heap.size ((m.map fun x => x.2.2.2).take j) HRow.out hsz rfl y3 rfl hpl ?_; intro v5 w5 hv5 hb5))
      have hbel5 := HB2.out.trans hb5
      go_roundw
      case rel => exact ⟨j + 1, by rw [List.length_map]; omega, by go_num, by rw [HQ.out]; exact hv5, hbel5⟩
      case measure => simp [intOf]; omega
    · have p1 : decide ((j : Int) < (m.length : Int)) = false := decide_eq_false (by omega)
      have HR := Lib.hid (show (m.map fun x => x.2.2.2).take j = (m.map fun x => x.2.2.2) from List.take_of_length_le (by rw [List.length_map]; omega))
      have HW := Lib.hid (And.intro hrow hbel)
      clear hrow hbel
      go_wp2
      go_ret
      exact ⟨_, rfl, by have := HW.out.1; rw [HR.out, ← HE.out] at this; exact this.base HB.out.size, below_on HB.out HW.out.2 HB.out.size⟩

theorem fJoin_snoc (L : List ByteArray) (s : ByteArray) : fJoin (L ++ [s]) = fJoin L ++ s.data.toList := by simp [fJoin]
theorem fJoin_take (L : List ByteArray) (k : Nat) : (fJoin (L.take k)).length ≤ (fJoin L).length := by
  have h : fJoin L = fJoin (L.take k) ++ fJoin (L.drop k) := by unfold fJoin; rw [← List.flatMap_append, List.take_append_drop]
  rw [h, List.length_append]; omega
def RjRel (W : World) (L : List ByteArray) (v i : Value) (wr : World) : Prop := ∃ j : Nat, j ≤ L.length ∧ i = .int .i64 (j : Nat) ∧ v = .string (bA (fJoin (L.take j))) ∧ Below W.heap.size W wr
set_option maxRecDepth 20000 in
set_option maxHeartbeats 1000000 in
theorem rjoined_any (a : Option Addr) (cap : Nat) (l : List FD) (n : Int) (w : World) (hl : l.length ≤ 1000000) (hin : FIn w a l) (hjl : (fJoin (fEach l n)).length ≤ 140737488355328) :
    Calls Tryd.prog 14 #[.slice a l.length cap, .int .i64 n] w fun e w' => e = .returned (.tuple #[.string (bA (fJoin (fEach l n))), .bool (decide (0 < (fEach l n).length))]) ∧ Below w.heap.size w w' := by
  have HO := Lib.hid (reach_any a cap l n w hl hin)
  have hle := fEach_le l n
  generalize fEach l n = m at *
  have HJ := Lib.hid hjl
  clear hin hjl
  go_enter Tryd.func14, Tryd.ntmps14
  go_wp2_with (go_at_call 17; refine HO.out.mono ?_; rintro e w1 ⟨v1, rfl, hr, hb⟩; obtain ⟨a1, c1, rfl, hin1⟩ := hr.inn; have HB := Lib.hid hb; have HI := Lib.hid hin1; clear hr hin1 hb)
  go_loopw [7, 8] (fun v i wr => RjRel w1 m v i wr) (fun _ i _ => m.length - (intOf i).toNat)
  case atStart => exact ⟨0, Nat.zero_le _, rfl, rfl, Below.refl _ _⟩
  case round =>
    obtain ⟨j, hj, rfl, rfl, hbel⟩ := hrel
    by_cases hlt : j < m.length
    · have p1 : decide ((j : Int) < (m.length : Int)) = true := decide_eq_true (by omega)
      have p2 : (j : Int) < (m.length : Int) := by omega
      obtain ⟨g, off, rfl, hg, k0⟩ := HI.out.below hbel j hlt
      have HQ := Lib.hid (show bA (fJoin (m.take (j + 1))) = bA (fJoin (m.take j)) ++ m[j] by
        rw [List.take_succ_eq_append_getElem hlt, fJoin_snoc, ← bA_append, bA_of])
      have HB2 := Lib.hid hbel
      have hfit : ¬ 9223372036854775807 < (bA (fJoin (m.take j))).size + (m[j]).size := by
        have h1 := fJoin_take m (j + 1)
        rw [List.take_succ_eq_append_getElem hlt, fJoin_snoc, List.length_append] at h1
        have h2 := HJ.out
        have h3 : (m[j]).data.toList.length = (m[j]).size := by rw [Array.length_toList]; rfl
        rw [bA_size]; omega
      clear hbel hg
      generalize m[j] = y at *
      generalize bA (fJoin (m.take j)) = z at *
      go_wp2
      go_roundw
      case rel => exact ⟨j + 1, by omega, by go_num, by rw [HQ.out], HB2.out⟩
      case measure => simp [intOf]; omega
    · have p1 : decide ((j : Int) < (m.length : Int)) = false := decide_eq_false (by omega)
      have HR := Lib.hid (show m.take j = m from List.take_of_length_le (by omega))
      have HW := Lib.hid hbel
      clear hbel
      rw [HR.out]
      go_wp2
      go_ret2
      exact ⟨by simp, below_on HB.out HW.out HB.out.size⟩
end Go.Proofs.YtipnaonagepolaaDoor
