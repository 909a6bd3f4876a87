/- Package ident: Halves. -/
import Derived.Test.YtjoafbapffdneaaDoorIdA
namespace Go.Proofs.YtjoafbapffdneaaDoor
open Go Go.RowKit
set_option linter.unusedVariables false

theorem bA_cut (l : List UInt8) (a b : Nat) : (bA l).extract a b = bA ((l.drop a).take (b - a)) := by
  apply ByteArray.ext
  apply Array.toList_inj.mp
  rw [ext_toList]; rfl
theorem take_front (l : List UInt8) (h : l.length = 16) : (CS.new (bA l)).takeS ((8 : Nat) : Int) = bA (l.take 8) ∧ (CS.new (bA l)).take ((8 : Nat) : Int) = ⟨bA l, 8, 16, 0⟩ := by
  have hy : (CS.new (bA l)).why ((8 : Nat) : Int) = 0 := CS.why_mk rfl (by omega) (by show ((8 : Nat) : Int) ≤ ((bA l).size : Int) - (0 : Nat); rw [bA_size]; omega)
  constructor
  · rw [takeS_yes hy]
    show (bA l).extract 0 (0 + 8) = _
    rw [bA_cut]; rfl
  · unfold CS.take; rw [if_pos hy]
    unfold CS.new; rw [bA_size, h]; rfl
theorem take_back (l : List UInt8) (h : l.length = 16) : (CS.mk (bA l) 8 16 0).takeS ((8 : Nat) : Int) = bA (l.drop 8) := by
  have hy : (CS.mk (bA l) 8 16 0).why ((8 : Nat) : Int) = 0 := CS.why_mk rfl (by omega) (by show ((8 : Nat) : Int) ≤ ((16 : Nat) : Int) - (8 : Nat); omega)
  rw [takeS_yes hy]
  show (bA l).extract 8 (8 + 8) = _
  rw [bA_cut, List.take_of_length_le (by rw [List.length_drop]; omega)]

theorem halves_any (l : List UInt8) (w : World) (hl : l.length = 16) (ht : Tab w) :
    Calls Tryd.prog 13 #[.agg (aC l)] w fun e w' => e = .returned (.tuple #[.int .u64 (beV (l.take 8) : Nat), .int .u64 (beV (l.drop 8) : Nat)]) ∧ Below w.heap.size w w' := by
  have hsz : (bA l).size = 16 := by rw [bA_size, hl]
  have hN := Lib.hid (fun w => new_cur (bA l) w (by omega))
  have hcv := Lib.hid ((blk_alloc 23 w l).at0.text (P := Tryd.prog) (cap := 16) hl Tryd.underlying55 Tryd.underlying5 Tryd.underlying9)
  have hb := Lib.hid (below_alloc w (.cells (aC l) 23))
  have HT := Lib.hid ht
  have hpos := ht.lt
  obtain ⟨e1, e2⟩ := take_front l hl
  have e3 := take_back l hl
  have E1 := Lib.hid e1
  have E2 := Lib.hid e2
  have E3 := Lib.hid e3
  clear ht e1 e2 e3
  go_enter Tryd.func13, Tryd.ntmps13
  go_wp2_with fail
  rw [hcv.out]
  go_wp2_with fail
  with_reducible refine (hN.out _).mono ?_
  rintro e w1 ⟨b, rfl, hle, hcur, h1⟩
  have hsz1 : w.heap.size < b := by simp at hle; omega
  have h2 := Lib.hid (grown_then hb.out h1)
  have t1 : Tab w1 := HT.out.below h2.out hpos
  have hR := Lib.hid (readHigh64_any hcur (CS.new_ok (by omega)) t1 (by omega))
  rw [E1.out, E2.out] at hR
  clear h1 hb t1 hcur
  go_wp2_with fail
  with_reducible refine hR.out.mono ?_
  rintro e w2 ⟨rfl, hcur, ho⟩
  have h3 := Lib.hid (h2.out.trans (ho.below (by omega) h2.out.size))
  have t2 : Tab w2 := HT.out.below h3.out hpos
  have hok : (CS.mk (bA l) 8 16 0).ok := ⟨by show 8 ≤ 16; omega, by show 16 ≤ (bA l).size; omega, by show (bA l).size ≤ 9223372036854775807; omega⟩
  have hR2 := Lib.hid (readHigh64_any hcur hok t2 (by omega))
  rw [E3.out] at hR2
  clear ho h2 hR hcur t2 hok
  go_wp2_with fail
  with_reducible refine hR2.out.mono ?_
  rintro e w3 ⟨rfl, _, ho⟩
  have h4 := Lib.hid (h3.out.trans (ho.below (by omega) h3.out.size))
  clear ho h3 hR2
  go_wp2
  go_ret2
  exact ⟨rfl, h4.out⟩

end Go.Proofs.YtjoafbapffdneaaDoor
