/- Package ident: TraceText, SpanText, Number, Halves. -/
import Derived.Test.YtjoafbapffdneaaDoorArr
import Derived.Test.YtjoafbapffdneaaDoorHPut
import Derived.Test.YtjoafbapffdneaaDoorReadB
import Derived.Test.YtjoafbapffdneaaDoorLayC
namespace Go.Proofs.YtjoafbapffdneaaDoor
open Go Go.RowKit
set_option linter.unusedVariables false

theorem blk_alloc (t : TypeId) (w : World) (l : List UInt8) : ABlk t (w.alloc (.cells (aC l) t)) w.heap.size l := heap_alloc_new w _
theorem below_alloc (w : World) (o : Obj) : Below w.heap.size w (w.alloc o) := (Below.refl _ _).alloc (Nat.le_refl _) _
/-- The number of bytes, the highest first. -/
def beV (l : List UInt8) : Nat := valL l.reverse
theorem beV_lt (l : List UInt8) (h : l.length = 8) : beV l < 18446744073709551616 := by
  have := valL_lt l.reverse
  rw [List.length_reverse, h] at this
  unfold beV; omega

theorem tracetext_any (l : List UInt8) (w : World) (hl : l.length = 16) :
    Calls Tryd.prog 10 #[.agg (aC l)] w fun e w' => e = .returned (.string (bA (hx l))) ∧ Below w.heap.size w w' := by
  have hp := Lib.hid (fun w => htext_any (bA l) w (by rw [bA_size, hl]; omega))
  have hcv := Lib.hid ((blk_alloc 23 w l).at0.text (P := Tryd.prog) (cap := 16) hl Tryd.underlying55 Tryd.underlying5 Tryd.underlying9)
  have hb := Lib.hid (below_alloc w (.cells (aC l) 23))
  go_enter Tryd.func10, Tryd.ntmps10
  go_wp2_with fail
  rw [hcv.out]
  go_wp2_with fail
  with_reducible refine (hp.out _).mono ?_
  rintro e w1 ⟨rfl, h1⟩
  have h2 := Lib.hid (grown_then hb.out h1)
  clear h1 hb
  go_wp2
  go_ret
  exact ⟨rfl, h2.out⟩

theorem spantext_any (l : List UInt8) (w : World) (hl : l.length = 8) :
    Calls Tryd.prog 11 #[.agg (aC l)] w fun e w' => e = .returned (.string (bA (hx l))) ∧ Below w.heap.size w w' := by
  have hp := Lib.hid (fun w => htext_any (bA l) w (by rw [bA_size, hl]; omega))
  have hcv := Lib.hid ((blk_alloc 28 w l).at0.text (P := Tryd.prog) (cap := 8) hl Tryd.underlying55 Tryd.underlying5 Tryd.underlying9)
  have hb := Lib.hid (below_alloc w (.cells (aC l) 28))
  go_enter Tryd.func11, Tryd.ntmps11
  go_wp2_with fail
  rw [hcv.out]
  go_wp2_with fail
  with_reducible refine (hp.out _).mono ?_
  rintro e w1 ⟨rfl, h1⟩
  have h2 := Lib.hid (grown_then hb.out h1)
  clear h1 hb
  go_wp2
  go_ret
  exact ⟨rfl, h2.out⟩

theorem take8 (s : ByteArray) (h : s.size = 8) (hs : s.size ≤ 9223372036854775807) : (CS.new s).takeS ((8 : Nat) : Int) = s := by
  have hy : (CS.new s).why ((8 : Nat) : Int) = 0 := CS.why_mk rfl (by omega) (by show ((8 : Nat) : Int) ≤ (s.size : Int) - (0 : Nat); omega)
  rw [takeS_yes hy]
  show s.extract 0 (0 + 8) = s
  rw [Nat.zero_add, ← h]; exact ByteArray.extract_zero_size

theorem number_any (l : List UInt8) (w : World) (hl : l.length = 8) (ht : Tab w) :
    Calls Tryd.prog 17 #[.agg (aC l)] w fun e w' => e = .returned (.int .u64 (beV l : Nat)) ∧ Below w.heap.size w w' := by
  have hsz : (bA l).size = 8 := by rw [bA_size, hl]
  have hN := Lib.hid (fun w => new_cur (bA l) w (by omega))
  have hcv := Lib.hid ((blk_alloc 28 w l).at0.text (P := Tryd.prog) (cap := 8) hl Tryd.underlying55 Tryd.underlying5 Tryd.underlying9)
  have hb := Lib.hid (below_alloc w (.cells (aC l) 28))
  have HT := Lib.hid ht
  have hpos := ht.lt
  clear ht
  go_enter Tryd.func17, Tryd.ntmps17
  go_wp2_with fail
  rw [hcv.out]
  go_wp2_with fail
  with_reducible refine (hN.out _).mono ?_
  rintro e w1 ⟨b, rfl, hle, hcur, h1⟩
  have hsz1 : w.heap.size < b := by simp at hle; omega
  have h2 := Lib.hid (grown_then hb.out h1)
  have t1 : Tab w1 := HT.out.below h2.out hpos
  have hR := Lib.hid (readHigh64_any hcur (CS.new_ok (by omega)) t1 (by omega))
  rw [take8 _ hsz (by omega)] at hR
  clear h1 hb t1 hcur
  go_wp2_with fail
  with_reducible refine hR.out.mono ?_
  rintro e w2 ⟨rfl, _, ho⟩
  have h3 := Lib.hid (h2.out.trans (ho.below (by omega) h2.out.size))
  clear ho h2 hR
  go_wp2
  go_ret
  exact ⟨rfl, h3.out⟩

end Go.Proofs.YtjoafbapffdneaaDoor
