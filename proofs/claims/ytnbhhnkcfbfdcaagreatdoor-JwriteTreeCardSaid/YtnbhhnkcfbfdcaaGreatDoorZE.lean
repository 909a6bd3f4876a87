/- Several texts in one (HWorth, HPut, Iter, HRead, HRef): each begins with its own words. -/
import Derived.Test.YtnbhhnkcfbfdcaaGreatDoorZA
import Derived.Test.YtnbhhnkcfbfdcaaGreatDoorZB
import Derived.Deep.RegionHeld3
import Derived.Deep.AppendLies
import Derived.Deep.DrawnRows
import Derived.Lib.OthersKept
import Derived.Deep.QuietTactic
/- Package hexa's worth, Nibble, and the document's own Nibble. -/
namespace Go.Proofs.YtnbhhnkcfbfdcaaGreatDoor
open Go Go.RowKit
set_option linter.unusedVariables false

theorem ret_two {a c : Int} {b d : Bool} (h : a = c) (k : b = d) : Ending.returned (.tuple #[.int .i64 a, .bool b]) = .returned (.tuple #[.int .i64 c, .bool d]) := by rw [h, k]

theorem worth_any (r : Nat) (w : World) (hr : r ≤ 2147483647) :
    Calls Tryz.prog 141 #[.int .i32 r] w fun e w' => e = .returned (.tuple #[.int .i64 (nibV r : Nat), .bool (nibIs r)]) ∧ w' = w := by
  by_cases h1 : 48 ≤ r ∧ r ≤ 57
  · have p1 : decide ((48 : Int) ≤ (r : Int)) = true := decide_eq_true (by omega)
    have p2 : decide ((r : Int) ≤ 57) = true := decide_eq_true (by omega)
    have hV := Lib.hid (show nibV r = r - 48 by unfold nibV; rw [if_pos h1])
    have hI := Lib.hid (show nibIs r = true from decide_eq_true (.inl h1))
    go_enter Tryz.func141, Tryz.ntmps141
    go_wp2
    go_ret2
    exact ⟨ret_two (by rw [hV.out]; go_num) hI.out.symm, rfl⟩
  · by_cases h2 : 97 ≤ r ∧ r ≤ 102
    · have p1 : decide ((48 : Int) ≤ (r : Int)) = true := decide_eq_true (by omega)
      have p2 : decide ((r : Int) ≤ 57) = false := decide_eq_false (by omega)
      have p3 : decide ((97 : Int) ≤ (r : Int)) = true := decide_eq_true (by omega)
      have p4 : decide ((r : Int) ≤ 102) = true := decide_eq_true (by omega)
      have hV := Lib.hid (show nibV r = r - 87 by unfold nibV; rw [if_neg h1, if_pos h2])
      have hI := Lib.hid (show nibIs r = true from decide_eq_true (.inr h2))
      go_enter Tryz.func141, Tryz.ntmps141
      go_wp2
      go_ret2
      exact ⟨ret_two (by rw [hV.out]; go_num) hI.out.symm, rfl⟩
    · have hV := Lib.hid (show nibV r = 0 by unfold nibV; rw [if_neg h1, if_neg h2])
      have hI := Lib.hid (show nibIs r = false from decide_eq_false (by omega))
      by_cases h3 : 48 ≤ r
      · have p1 : decide ((48 : Int) ≤ (r : Int)) = true := decide_eq_true (by omega)
        have p2 : decide ((r : Int) ≤ 57) = false := decide_eq_false (by omega)
        by_cases h4 : 97 ≤ r
        · have p3 : decide ((97 : Int) ≤ (r : Int)) = true := decide_eq_true (by omega)
          have p4 : decide ((r : Int) ≤ 102) = false := decide_eq_false (by omega)
          clear h1 h2
          go_enter Tryz.func141, Tryz.ntmps141
          go_wp2
          go_ret2
          exact ⟨ret_two (by rw [hV.out]; rfl) hI.out.symm, rfl⟩
        · have p3 : decide ((97 : Int) ≤ (r : Int)) = false := decide_eq_false (by omega)
          clear h1 h2
          go_enter Tryz.func141, Tryz.ntmps141
          go_wp2
          go_ret2
          exact ⟨ret_two (by rw [hV.out]; rfl) hI.out.symm, rfl⟩
      · have p1 : decide ((48 : Int) ≤ (r : Int)) = false := decide_eq_false (by omega)
        have p3 : decide ((97 : Int) ≤ (r : Int)) = false := decide_eq_false (by omega)
        clear h1 h2
        go_enter Tryz.func141, Tryz.ntmps141
        go_wp2
        go_ret2
        exact ⟨ret_two (by rw [hV.out]; rfl) hI.out.symm, rfl⟩

theorem nibble_any (c : Nat) (w : World) (hc : c < 256) :
    Calls Tryz.prog 136 #[.int .u8 c] w fun e w' => e = .returned (.tuple #[.int .i64 (nibV c : Nat), .bool (nibIs c)]) ∧ w' = w := by
  have hw := Lib.hid (fun w => worth_any c w (by omega))
  go_enter Tryz.func136, Tryz.ntmps136
  go_wp2_with fail
  with_reducible refine (hw.out _).mono ?_
  rintro e w' ⟨rfl, hww⟩
  rw [hww]
  clear hww
  go_wp2
  go_ret2
  exact ⟨rfl, rfl⟩

theorem rnibble_any (r : Nat) (w : World) (hr : r < 256) :
    Calls Tryz.prog 126 #[.int .u8 r] w fun e w' => e = .returned (.tuple #[.int .i64 (nibV r : Nat), .bool (nibIs r)]) ∧ w' = w := by
  by_cases h1 : 48 ≤ r ∧ r ≤ 57
  · have p1 : decide ((48 : Int) ≤ (r : Int)) = true := decide_eq_true (by omega)
    have p2 : decide ((r : Int) ≤ 57) = true := decide_eq_true (by omega)
    have hV := Lib.hid (show nibV r = r - 48 by unfold nibV; rw [if_pos h1])
    have hI := Lib.hid (show nibIs r = true from decide_eq_true (.inl h1))
    go_enter Tryz.func126, Tryz.ntmps126
    go_wp2
    go_ret2
    exact ⟨ret_two (by rw [hV.out]; go_num) hI.out.symm, rfl⟩
  · by_cases h2 : 97 ≤ r ∧ r ≤ 102
    · have p1 : decide ((48 : Int) ≤ (r : Int)) = true := decide_eq_true (by omega)
      have p2 : decide ((r : Int) ≤ 57) = false := decide_eq_false (by omega)
      have p3 : decide ((97 : Int) ≤ (r : Int)) = true := decide_eq_true (by omega)
      have p4 : decide ((r : Int) ≤ 102) = true := decide_eq_true (by omega)
      have hV := Lib.hid (show nibV r = r - 87 by unfold nibV; rw [if_neg h1, if_pos h2])
      have hI := Lib.hid (show nibIs r = true from decide_eq_true (.inr h2))
      go_enter Tryz.func126, Tryz.ntmps126
      go_wp2
      go_ret2
      exact ⟨ret_two (by rw [hV.out]; go_num) hI.out.symm, rfl⟩
    · have hV := Lib.hid (show nibV r = 0 by unfold nibV; rw [if_neg h1, if_neg h2])
      have hI := Lib.hid (show nibIs r = false from decide_eq_false (by omega))
      by_cases h3 : 48 ≤ r
      · have p1 : decide ((48 : Int) ≤ (r : Int)) = true := decide_eq_true (by omega)
        have p2 : decide ((r : Int) ≤ 57) = false := decide_eq_false (by omega)
        by_cases h4 : 97 ≤ r
        · have p3 : decide ((97 : Int) ≤ (r : Int)) = true := decide_eq_true (by omega)
          have p4 : decide ((r : Int) ≤ 102) = false := decide_eq_false (by omega)
          clear h1 h2
          go_enter Tryz.func126, Tryz.ntmps126
          go_wp2
          go_ret2
          exact ⟨ret_two (by rw [hV.out]; rfl) hI.out.symm, rfl⟩
        · have p3 : decide ((97 : Int) ≤ (r : Int)) = false := decide_eq_false (by omega)
          clear h1 h2
          go_enter Tryz.func126, Tryz.ntmps126
          go_wp2
          go_ret2
          exact ⟨ret_two (by rw [hV.out]; rfl) hI.out.symm, rfl⟩
      · have p1 : decide ((48 : Int) ≤ (r : Int)) = false := decide_eq_false (by omega)
        have p3 : decide ((97 : Int) ≤ (r : Int)) = false := decide_eq_false (by omega)
        clear h1 h2
        go_enter Tryz.func126, Tryz.ntmps126
        go_wp2
        go_ret2
        exact ⟨ret_two (by rw [hV.out]; rfl) hI.out.symm, rfl⟩
end Go.Proofs.YtnbhhnkcfbfdcaaGreatDoor
/- Package hexa's Put, Text. -/
namespace Go.Proofs.YtnbhhnkcfbfdcaaGreatDoor
open Go Go.RowKit
set_option linter.unusedVariables false

theorem bV_two (a b : UInt8) : bV [a, b] = [.int .u8 (a.toNat : Int), .int .u8 (b.toNat : Int)] := rfl
def HPutRel (t : TypeId) (W : World) (l : List UInt8) (s : ByteArray) (v i : Value) (wr : World) : Prop :=
  ∃ k : Nat, k ≤ s.size ∧ i = .int .i64 k ∧ Bts t wr W.heap.size v (l ++ hx (s.data.toList.take k)) ∧ Below W.heap.size W wr
/-- Behind an append to a list that the call made nothing turns but that list's block, and what is new. -/
theorem grown_below {t : TypeId} {W wr w1 : World} {B : Nat} {v : Value} {l : List UInt8} {o : Obj} (hb : Bts t wr B v l) (hbel : Below B W wr) (hB : B ≤ wr.heap.size) (hgr : ((wr.alloc o).drew).grownBy w1 v.ownBlock) : Below B W w1 := by
  have hs : (wr.alloc o).drew.heap.size = wr.heap.size + 1 := by simp
  refine hbel.trans ⟨hgr.os, hgr.tape, hgr.output, by have := hgr.size; omega, fun k hk => ?_⟩
  have hne : some k ≠ v.ownBlock := fun hk' => by
    have := (World.ownsRow.lt hb k hk'.symm).1
    omega
  rw [hgr.block k (by omega) hne]
  exact Below.heap_alloc _ _ _ (by omega)
theorem bts_more {t : TypeId} {w : World} {B n : Nat} {v : Value} {L M : List UInt8} (h : w.ownsRow B t 1 v n (bV L ++ bV M)) (hn : n = (L ++ M).length) : Bts t w B v (L ++ M) := by
  unfold Bts
  rw [bV_append, ← hn]; exact h
attribute [local go_sem ↓] Go.wp_at_zero Go.wp_at_succ
set_option maxRecDepth 20000 in
theorem hput_any (a : Option Addr) (cap : Nat) (l : List UInt8) (s : ByteArray) (w : World) (hl : l.length + 2 * s.size ≤ 140737488351232) (hin : BIn w a l) :
    Calls Tryz.prog 83 #[.slice a l.length cap, .string s] w fun e w' => ∃ v, e = .returned v ∧ Bts 5 w' w.heap.size v (l ++ hx s.data.toList) ∧ Below w.heap.size w w' := by
  obtain ⟨i0, hi, hz0, hz1, hz2⟩ := info_parts info8
  obtain ⟨m, hm⟩ : ∃ m, m = 2 * s.size := ⟨_, rfl⟩
  have hmk := Lib.hid (fun w => make_bytes l.length m w (by omega))
  obtain ⟨w2, hcp0, hbt, hbel⟩ := copy_fact Tryz.prog 43 5 3 i0 Tryz.underlying43 size8 w a cap m l hin (by unfold maxLen; omega)
  have hcp := Lib.hid hcp0
  clear hin hcp0
  have hw1 : IntKind.i64.wrap (2 * (s.size : Int)) = (m : Int) := by rw [IntWalk.i64_in _ (by omega)]; omega
  have hw : IntKind.i64.wrap ((l.length : Int) + (m : Int)) = (l.length : Int) + (m : Int) := IntWalk.i64_in _ (by omega)
  have hM := Lib.hid hm
  clear hm
  go_enter Tryz.func83, Tryz.ntmps83
  go_wp2_with fail
  rw [hmk.out]
  go_wp2_with fail
  rw [hcp.out]
  go_wp2_with fail
  go_loopw [5, 21] (fun v i wr => HPutRel 5 w l s v i wr) (fun _ i _ => s.size - (intOf i).toNat)
  case atStart => exact ⟨0, Nat.zero_le _, rfl, by simpa [hx] using hbt, hbel⟩
  case round =>
    obtain ⟨k, hk, rfl, hb, hbe⟩ := hrel
    by_cases hlt : k < s.size
    · have p1 : decide ((k : Int) < (s.size : Int)) = true := decide_eq_true (by omega)
      have hk0 : (0 : Int) ≤ (k : Int) := by omega
      have hk1 : (k : Int) < (s.size : Int) := by omega
      have hT := Lib.hid (show hx (s.data.toList.take (k + 1)) = hx (s.data.toList.take k) ++ [hd (s[k].toNat / 16), hd (s[k].toNat % 16)] by
        have h' : k < s.data.toList.length := by rw [toList_size]; exact hlt
        rw [hx_take _ k h', byte_at s k hlt h'])
      have hlen : (l ++ hx (s.data.toList.take k)).length + 2 ≤ 140737488351232 := by
        have := hM.out
        rw [List.length_append, hx_length, List.length_take, Nat.min_eq_left (by rw [toList_size]; omega)]; omega
      have hB := s[k].toNat_lt
      obtain ⟨B, hBe⟩ : ∃ B, B = s[k].toNat := ⟨_, rfl⟩
      rw [← hBe] at hT hB
      obtain ⟨q, hq⟩ : ∃ q, q = B / 16 := ⟨_, rfl⟩
      obtain ⟨r, hr⟩ : ∃ r, r = B % 16 := ⟨_, rfl⟩
      rw [← hq, ← hr] at hT
      have m1 : (B : Int) / 16 = (q : Int) := by omega
      have m2 : (B : Int).tmod 16 = (r : Int) := by rw [Int.tmod_eq_emod_of_nonneg (by omega)]; omega
      have m3 : (B : Int).tdiv 16 = (q : Int) := by rw [Int.tdiv_eq_ediv_of_nonneg (by omega)]; omega
      have m4 : (B : Int) % 16 = (r : Int) := by omega
      have q16 : q < 16 := by omega
      have r16 : r < 16 := by omega
      have m5 : IntKind.u8.wrap (q : Int) = (q : Int) := IntWalk.u8_in _ (by omega)
      have m6 : IntKind.u8.wrap (r : Int) = (r : Int) := IntWalk.u8_in _ (by omega)
      have hBe' : (s[k].toNat : Int) = (B : Int) := by omega
      have iq0 : (0 : Int) ≤ (q : Int) := by omega
      have ir0 : (0 : Int) ≤ (r : Int) := by omega
      have iq1 : (q : Int) < 16 := by omega
      have ir1 : (r : Int) < 16 := by omega
      clear hq hr hBe
      have dq := digit_at q q16
      have dr := digit_at r r16
      have hsz := hbe.size
      go_wp2_with fail
      go_region_held3 (fun w' => True)
        (exact trivial)
        ((refine step_append_lies _ (by rfl) _ _ _ (by rfl) w.heap.size 5 i0 (.int .u8 0) 1 1 Tryz.underlying43 hi hz0 hz1 hz2 rfl (by omega) u5 _ _ (by rfl) ((World.ownsRow.alloc hb _).drew)
            ⟨wr.heap.size, 0, none⟩ 2 2 (bV [hd q, hd r]) (by rfl) (by rfl) (World.news_of_block (cs := #[.int .u8 ((hd q).toNat : Int), .int .u8 ((hd r).toNat : Int)]) (t := 5) (fr := (0, 0)) (heap_alloc_new wr _)) (bV_one _)
            (by omega) (by unfold maxLen; omega) (by omega) (by simp; omega) (wr.heap.size + 1) (by simp) ?_; intro g2 cap2 w1 hown1 hgrow hat hltg))
      all_goals (
        have hb2 := bts_more hown1 (by simp only [List.length_append]; rfl)
        have hbe2 := grown_below hb hbe hsz hgrow
        clear hown1 hgrow
        go_wp2
        go_roundw
        case rel => exact ⟨k + 1, by omega, by go_num, by rw [hT.out, ← List.append_assoc]; simpa using hb2, hbe2⟩
        case measure => simp [intOf]; omega)
    · have p1 : decide ((k : Int) < (s.size : Int)) = false := decide_eq_false (by omega)
      have hkn : k = s.size := by omega
      subst hkn
      have hall := Lib.hid (show s.data.toList.take s.size = s.data.toList by rw [List.take_of_length_le]; rw [toList_size]; exact Nat.le_refl _)
      go_wp2
      go_ret
      exact ⟨_, rfl, by rw [← hall.out]; exact hb, hbe⟩

theorem bin_none (w : World) : BIn w none [] := fun j h => by simp at h
set_option maxRecDepth 100000 in
theorem htext_any (s : ByteArray) (w : World) (hs : 2 * s.size ≤ 140737488351232) :
    Calls Tryz.prog 70 #[.string s] w fun e w' => e = .returned (.string (bA (hx s.data.toList))) ∧ Below w.heap.size w w' := by
  have hp := Lib.hid (show ∀ w, Calls Tryz.prog 83 #[.slice none 0 0, .string s] w fun e w' => ∃ v, e = .returned v ∧ Bts 5 w' w.heap.size v (hx s.data.toList) ∧ Below w.heap.size w w' from
    fun w => hput_any none 0 [] s w (by simpa using hs) (bin_none w))
  go_enter Tryz.func70, Tryz.ntmps70
  go_wp2_with fail
  with_reducible refine (hp.out _).mono ?_
  rintro e w1 ⟨v, rfl, hbt, hbel⟩
  have hcv := Lib.hid (hbt.text (P := Tryz.prog) Tryz.underlying43 Tryz.underlying5 Tryz.underlying9)
  clear hbt
  go_wp2_with fail
  rw [hcv.out]
  go_wp2
  go_ret
  exact ⟨rfl, hbel⟩
end Go.Proofs.YtnbhhnkcfbfdcaaGreatDoor
/- A range over a string beside a list that the call itself made (of no package): the iterator is a block of its own; an append keeps it, a step of it keeps the list. -/
namespace Go.Proofs.YtnbhhnkcfbfdcaaGreatDoor
open Go Go.RowKit
set_option linter.unusedVariables false

theorem byte_ofNat {b : Nat} (h : b < 256) : (b : Int) = ((UInt8.ofNat b).toNat : Int) := by
  have : (UInt8.ofNat b).toNat = b := by rw [UInt8.toNat_ofNat']; omega
  rw [this]
/-- Block k is the iterator of s, and stands at p. -/
def ItAt (w : World) (k : Nat) (s : ByteArray) (p : Nat) : Prop := w.heap[k]? = some (.stringIter s p)
theorem ItAt.pos {w : World} {k : Nat} {s : ByteArray} {p : Nat} (h : ItAt w k s p) : w.iterPos k = p := by unfold ItAt at h; simp [World.iterPos, h]
theorem ItAt.lt {w : World} {k : Nat} {s : ByteArray} {p : Nat} (h : ItAt w k s p) : k < w.heap.size := lt_of_block h
theorem ItAt.step {w : World} {k : Nat} {s : ByteArray} {p : Nat} (h : ItAt w k s p) (p' : Nat) : ItAt (w.iterAt k s p') k s p' := Lib.iterAt_heap w k s p p' h
theorem ItAt.made {w : World} {k : Nat} {s : ByteArray} (h : w.heap.size = k) : ItAt (w.iter s 0) k s 0 := by subst h; exact World.iter_heap w s 0
theorem Bts.alloc {t : TypeId} {w : World} {B : Nat} {v : Value} {l : List UInt8} (h : Bts t w B v l) (o : Obj) : Bts t (w.alloc o) B v l := World.ownsRow.alloc h o
theorem Bts.step {t : TypeId} {w : World} {B k p : Nat} {v : Value} {l : List UInt8} {s : ByteArray} (h : Bts t w B v l) (hk : ItAt w k s p) (p' : Nat) : Bts t (w.iterAt k s p') B v l := by
  obtain ⟨h1, h2⟩ := h
  refine ⟨h1, ?_⟩
  rcases h2 with h2 | ⟨g, cap, cur, a, b, c, d⟩
  · exact .inl h2
  · have hg : g ≠ k := fun e => by
      unfold ItAt at hk
      rw [← e, c] at hk
      cases hk
    exact .inr ⟨g, cap, cur, a, b, by rw [Lib.iterAt_other _ _ _ _ _ hg]; exact c, d⟩
/-- 'next' where a character of one byte stands. -/
theorem next_ascii {P : Program} {w : World} {k : Nat} {s : ByteArray} {p : Nat} (hk : ItAt w k s p) (h : p < s.size) (ha : (s[p]'h).toNat < 128) (ty : TypeId) :
    (Instr.next (.pointer (some ⟨k, 0, none⟩)) true ty).run P w = .ok (.tuple #[.bool true, .int .i64 p, .int .i32 (s[p]'h).toNat]) (w.iterAt k s (p + 1)) := Lib.run_next_ascii_at w k s p ty hk h ha
theorem next_any {P : Program} {w : World} {k : Nat} {s : ByteArray} {p : Nat} (hk : ItAt w k s p) (h : p < s.size) (ty : TypeId) :
    (Instr.next (.pointer (some ⟨k, 0, none⟩)) true ty).run P w = .ok (.tuple #[.bool true, .int .i64 p, .int .i32 (Utf8.decode s p).1]) (w.iterAt k s (p + (Utf8.decode s p).2)) := Lib.run_next_any_at w k s p ty hk h
theorem next_end {P : Program} {w : World} {k : Nat} {s : ByteArray} {p : Nat} (hk : ItAt w k s p) (h : ¬ p < s.size) (ty : TypeId) :
    (Instr.next (.pointer (some ⟨k, 0, none⟩)) true ty).run P w = .ok (.tuple #[.bool false]) w := Lib.run_next_end_at w k s p ty hk h
/-- 'append(list, b)' on a list that the call itself made, an iterator beside it. -/
theorem wpList_append_byte_it {P : Program} {ops : Array Oper} {rest : List Oper} {o : Oper} {a : Act} {Q : Exit → Act → World → Prop} (hgd : o.guard = none) (s x : Operand) (t : TypeId)
    (ho : o.op = .call { callee := .builtin .append, args := #[s, x], argTypes := #[t, t] })
    (e : TypeId) (i : TypeInfo) (ht : P.underlying t = some (.slice e)) (hi : P.info? e = some i) (hz : i.zero = some (.int .u8 0)) (hsize : i.size = 1) (hby : i.bytes = 1)
    (v : Value) (W wr : World) (B : Nat) (l : List UInt8) (hb : Bts e wr B v l) (hbel : Below B W wr) (hB : B ≤ wr.heap.size) (hs : a.eval s = v)
    (z : Int) (b : UInt8) (hzb : z = (b.toNat : Int)) (hx : a.eval x = .slice (some ⟨wr.heap.size, 0, none⟩) 1 1) (hlen : l.length + 1 ≤ 140737488355328)
    (k : Nat) (str : ByteArray) (p : Nat) (hk : ItAt wr k str p)
    (h : ∀ v' w', Bts e w' B v' (l ++ [b]) → Below B W w' → ItAt w' k str p → wpList P ops Q rest (a.put o.dst v') w') :
    wpList P ops Q (o :: rest) a (wr.alloc (.cells #[.int .u8 z] e)) := by
  subst hzb
  refine wpList_append_own _ hgd s x t ho B e i (.int .u8 0) 1 1 ht hi hz hsize hby rfl (by decide) v l.length (bV l) hs (World.ownsRow.alloc hb _) ⟨wr.heap.size, 0, none⟩ 1 1 [.int .u8 (b.toNat : Int)] hx rfl ?_ ?_ (by unfold maxLen; omega) (by omega) (by simp; omega) ?_
  · intro j u hj
    match j, hj with
    | 0, hj =>
      simp at hj
      subst hj
      have h1 := heap_alloc_new wr (.cells #[.int .u8 (b.toNat : Int)] e)
      show World.cell? _ ⟨wr.heap.size, 0 + 0, none⟩ = _
      simp only [World.cell?]
      rw [h1]; rfl
  · intro u hu; simp at hu; subst hu; rfl
  · intro v' w' hown hgr _
    refine h v' w' ?_ ?_ ?_
    · unfold Bts
      rw [bV_append, List.length_append]
      exact hown
    · refine hbel.trans ⟨hgr.os, hgr.tape, hgr.output, by have := hgr.size; simp at this; omega, fun k hk => ?_⟩
      have hne : some k ≠ v.ownBlock := fun hk' => by
        have := (World.ownsRow.lt hb k hk'.symm).1
        omega
      rw [hgr.block k (by simp; omega) hne]
      exact Below.heap_alloc _ _ _ (by omega)
    · have hlt := hk.lt
      unfold ItAt
      rw [hgr.block k (by simp; omega) ?_]
      · exact (Below.heap_alloc _ _ _ hlt).trans hk
      · intro e1
        rcases hb.2 with ⟨rfl, _⟩ | ⟨g, cap, cur, rfl, _, hg, _⟩
        · simp [Value.ownBlock] at e1
        · simp [Value.ownBlock] at e1
          subst e1
          unfold ItAt at hk
          rw [hg] at hk
          cases hk
end Go.Proofs.YtnbhhnkcfbfdcaaGreatDoor
/- Package hexa's Read. -/
namespace Go.Proofs.YtnbhhnkcfbfdcaaGreatDoor
open Go Go.RowKit
set_option linter.unusedVariables false

/-- The bytes of digits, and what is wrong with these. -/
def hT (s : ByteArray) : ByteArray := if hOK s.data.toList then bA (uh s.data.toList) else ⟨#[]⟩
def hC (s : ByteArray) : Int := if hOK s.data.toList then 0 else 3
theorem hT_no {s : ByteArray} (h : ¬ hOK s.data.toList = true) : hT s = ⟨#[]⟩ := by unfold hT; rw [if_neg h]
theorem hC_no {s : ByteArray} (h : ¬ hOK s.data.toList = true) : hC s = 3 := by unfold hC; rw [if_neg h]
theorem hT_yes {s : ByteArray} (h : hOK s.data.toList = true) : hT s = bA (uh s.data.toList) := by unfold hT; rw [if_pos h]
theorem hC_yes {s : ByteArray} (h : hOK s.data.toList = true) : hC s = 0 := by unfold hC; rw [if_pos h]
theorem ret_read {a c : ByteArray} {b d : Int} (h : a = c) (k : b = d) : Ending.returned (.tuple #[.string a, .int .i64 b]) = .returned (.tuple #[.string c, .int .i64 d]) := by rw [h, k]
theorem hOK_no {s : ByteArray} {p : Nat} (h : p < s.size) (hn : nibIs s[p].toNat = false) : ¬ hOK s.data.toList = true := by
  intro h1
  unfold hOK at h1
  rw [Bool.and_eq_true, List.all_eq_true] at h1
  have hp : p < s.data.toList.length := by rw [toList_size]; exact h
  have h2 := h1.2 _ (List.getElem_mem hp)
  rw [byte_at s p h hp, hn] at h2
  cases h2

def HReadRel (t : TypeId) (W : World) (s : ByteArray) (v f : Value) (wr : World) : Prop :=
  ∃ pos F : Nat, pos ≤ s.size ∧ f = .int .i64 F ∧ F < 16 ∧ (pos % 2 = 1 → ∀ x, s.data.toList[pos - 1]? = some x → F = nibV x.toNat) ∧ Hid ((s.data.toList.take pos).all (fun b => nibIs b.toNat) = true) ∧
    Bts t wr W.heap.size v (uh (s.data.toList.take pos)) ∧ ItAt wr (W.heap.size + 1) s pos ∧ Below W.heap.size W wr

theorem make_bytes0 (n : Nat) (w : World) (hl : n ≤ 140737488355000) :
    (Instr.makeSlice 43 (.int .i64 0) (.int .i64 (n : Int))).run Tryz.prog w = .ok (.slice (some ⟨w.heap.size, 0, none⟩) 0 n) (w.alloc (.cells (Array.replicate n (.int .u8 0)) 5)) := by
  have := make_bytes 0 n w (by omega)
  simpa using this
theorem bts_made (t : TypeId) (n : Nat) (w : World) (hl : n ≤ maxLen) : Bts t (w.alloc (.cells (Array.replicate n (.int .u8 0)) t)) w.heap.size (.slice (some ⟨w.heap.size, 0, none⟩) 0 n) [] :=
  ⟨rfl, .inr ⟨_, _, _, rfl, Nat.le_refl _, heap_alloc_new w _, Nat.zero_le _, hl, by simp, by simp [bV]⟩⟩

end Go.Proofs.YtnbhhnkcfbfdcaaGreatDoor
/- The document's own hexa (package truchmanref04): Text, Read. -/
namespace Go.Proofs.YtnbhhnkcfbfdcaaGreatDoor
open Go Go.RowKit
set_option linter.unusedVariables false

def RTextRel (s : ByteArray) (W : World) (t i : Value) (wr : World) : Prop :=
  ∃ k : Nat, k ≤ s.size ∧ i = .int .i64 k ∧ t = .string (bA (hx (s.data.toList.take k))) ∧ Below W.heap.size W wr
theorem digit_cut (n : Nat) (h : n < 16) : (ByteArray.mk #[48, 49, 50, 51, 52, 53, 54, 55, 56, 57, 97, 98, 99, 100, 101, 102]).extract n (n + 1) = bA [hd n] := by
  have : ∀ m : Fin 16, (ByteArray.mk #[48, 49, 50, 51, 52, 53, 54, 55, 56, 57, 97, 98, 99, 100, 101, 102]).extract m.val (m.val + 1) = bA [hd m.val] := by decide +kernel
  exact this ⟨n, h⟩
theorem bA_nil : bA [] = ⟨#[]⟩ := rfl
set_option maxRecDepth 20000 in
theorem rtext_any (s : ByteArray) (w : World) (hs : s.size ≤ 140737488351232) :
    Calls Tryz.prog 78 #[.string s] w fun e w' => e = .returned (.string (bA (hx s.data.toList))) ∧ Below w.heap.size w w' := by
  go_enter Tryz.func78, Tryz.ntmps78
  go_wp2_with fail
  go_loopw [3, 4] (fun t i wr => RTextRel s w t i wr) (fun _ i _ => s.size - (intOf i).toNat)
  case atStart => exact ⟨0, Nat.zero_le _, rfl, rfl, Below.refl _ _⟩
  case round =>
    obtain ⟨k, hk, rfl, rfl, hbe⟩ := hrel
    by_cases hlt : k < s.size
    · have p1 : decide ((k : Int) < (s.size : Int)) = true := decide_eq_true (by omega)
      have hk0 : (0 : Int) ≤ (k : Int) := by omega
      have hk1 : (k : Int) < (s.size : Int) := by omega
      have h' : k < s.data.toList.length := by rw [toList_size]; exact hlt
      have HT := Lib.hid (show bA (hx (s.data.toList.take (k + 1))) = bA (hx (s.data.toList.take k)) ++ bA [hd (s[k].toNat / 16)] ++ bA [hd (s[k].toNat % 16)] by
        rw [hx_take _ k h', byte_at s k hlt h', bA_append, bA_append, List.append_assoc]; rfl)
      have hlen : (bA (hx (s.data.toList.take k))).size + 2 ≤ 9223372036854775807 := by
        rw [bA_size, hx_length, List.length_take, Nat.min_eq_left (by omega)]; omega
      have hB := s[k].toNat_lt
      obtain ⟨B, hBe⟩ : ∃ B, B = s[k].toNat := ⟨_, rfl⟩
      rw [← hBe] at HT hB
      obtain ⟨q, hq⟩ : ∃ q, q = B / 16 := ⟨_, rfl⟩
      obtain ⟨r, hr⟩ : ∃ r, r = B % 16 := ⟨_, rfl⟩
      rw [← hq, ← hr] at HT
      have m1 : (B : Int) / 16 = (q : Int) := by omega
      have m2 : (B : Int).tmod 16 = (r : Int) := by rw [Int.tmod_eq_emod_of_nonneg (by omega)]; omega
      have m3 : (B : Int).tdiv 16 = (q : Int) := by rw [Int.tdiv_eq_ediv_of_nonneg (by omega)]; omega
      have m4 : (B : Int) % 16 = (r : Int) := by omega
      have q16 : q < 16 := by omega
      have r16 : r < 16 := by omega
      have m5 : IntKind.u8.wrap (q : Int) = (q : Int) := IntWalk.u8_in _ (by omega)
      have m6 : IntKind.u8.wrap (r : Int) = (r : Int) := IntWalk.u8_in _ (by omega)
      have m7 : IntKind.u8.wrap ((q : Int) + 1) = (q : Int) + 1 := IntWalk.u8_in _ (by omega)
      have m8 : IntKind.u8.wrap ((r : Int) + 1) = (r : Int) + 1 := IntWalk.u8_in _ (by omega)
      have hBe' : (s[k].toNat : Int) = (B : Int) := by omega
      have iq0 : (0 : Int) ≤ (q : Int) := by omega
      have ir0 : (0 : Int) ≤ (r : Int) := by omega
      have iq1 : (q : Int) < 16 := by omega
      have ir1 : (r : Int) < 16 := by omega
      have dq := digit_cut q q16
      have dr := digit_cut r r16
      have sq : (bA [hd q]).size = 1 := rfl
      have sr : (bA [hd r]).size = 1 := rfl
      clear hq hr hBe
      generalize bA [hd q] = X at *
      generalize bA [hd r] = Y at *
      generalize bA (hx (s.data.toList.take k)) = T at *
      go_wp2
      go_quiet (fail)
      go_wp2
      go_roundw
      case rel => exact ⟨k + 1, by omega, by go_num, by rw [HT.out], Below.drewN hbe _⟩
      case measure => simp [intOf]; omega
    · have p1 : decide ((k : Int) < (s.size : Int)) = false := decide_eq_false (by omega)
      have hkn : k = s.size := by omega
      subst hkn
      have hall := Lib.hid (show s.data.toList.take s.size = s.data.toList by rw [List.take_of_length_le]; rw [toList_size]; exact Nat.le_refl _)
      go_wp2
      go_ret
      exact ⟨by rw [hall.out]; rfl, hbe⟩

theorem bytes_bA (l : List UInt8) : (bA l).data.toList = l := rfl
def RReadRel (t : TypeId) (W : World) (s : ByteArray) (v i : Value) (wr : World) : Prop :=
  ∃ k : Nat, 2 * k ≤ s.size ∧ i = .int .i64 ((2 * k : Nat) : Int) ∧ Bts t wr W.heap.size v (uh (s.data.toList.take (2 * k))) ∧ Below W.heap.size W wr
end Go.Proofs.YtnbhhnkcfbfdcaaGreatDoor
