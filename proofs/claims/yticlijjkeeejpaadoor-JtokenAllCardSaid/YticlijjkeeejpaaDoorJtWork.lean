/- Law 12's example. -/
import Derived.Test.YticlijjkeeejpaaDoorJtJ
import Derived.Test.YticlijjkeeejpaaDoorJtE
import Derived.Lib.SlBytesConst
namespace Go.Proofs.YticlijjkeeejpaaDoor
open Go Go.RowKit
set_option linter.unusedVariables false

theorem btsIn {t : TypeId} {w : World} {B : Nat} {v : Value} {l : List UInt8} (h : Bts t w B v l) : ∃ a cap, v = .slice a l.length cap ∧ BIn w a l := by
  rcases h.2 with ⟨rfl, hn⟩ | ⟨g, cap, cur, rfl, _, hg, _⟩
  · have h0 : l = [] := List.eq_nil_of_length_eq_zero hn
    subst h0
    exact ⟨none, 0, rfl, fun j hj => by simp at hj⟩
  · refine ⟨_, cap, rfl, fun j hj => ⟨g, 0, rfl, lt_of_block hg, ?_⟩⟩
    rw [Nat.zero_add, World.ownsRow.cellAt h j (by omega), bV_get l j hj]
def t12a : ByteArray := ⟨#[91, 49, 44, 32, 34, 97, 34, 93]⟩
theorem t12a_all : tAll t12a.data.toList = ([(91, []), (110, [49]), (44, []), (115, [97]), (93, [])], 0) := by decide +kernel
theorem w12_a (w : World) (ht : Hds w) :
    Calls Tryd.prog 7 #[.string ⟨#[91, 49, 44, 32, 34, 97, 34, 93]⟩] w fun e w' => ∃ g cap, e = .returned (.tuple #[.slice (some ⟨g, 0, none⟩) 5 cap, .int .i64 0]) ∧ g < w'.heap.size ∧ w'.cell? ⟨g, 2, none⟩ = some (.int .u8 110) ∧ w'.cell? ⟨g, 3, none⟩ = some (.string ⟨#[49]⟩) ∧ w'.cell? ⟨g, 6, none⟩ = some (.int .u8 115) ∧ w'.cell? ⟨g, 7, none⟩ = some (.string ⟨#[97]⟩) ∧ Below w.heap.size w w' := by
  refine (all_any t12a w (by decide) ht).mono ?_
  rw [t12a_all]
  rintro e w' ⟨v, he, hrow, hb⟩
  obtain ⟨a, cap, hv, hin⟩ := hrow.inn
  obtain ⟨g, ha, hg, h2, h3⟩ := hin 1 (by decide)
  obtain ⟨g2, ha2, _, h6, h7⟩ := hin 3 (by decide)
  have hgg : g2 = g := by rw [ha] at ha2; simpa using ha2.symm
  subst hgg
  rw [hv, ha] at he
  exact ⟨_, cap, he, hg, h2, h3, h6, h7, hb⟩
theorem w12_b (w : World) (ht : Hds w) :
    Calls Tryd.prog 7 #[.string ⟨#[116, 114, 117]⟩] w fun e w' => ∃ v, e = .returned (.tuple #[v, .int .i64 1]) ∧ Below w.heap.size w w' := by
  refine (all_any ⟨#[116, 114, 117]⟩ w (by decide) ht).mono ?_
  rw [show tAll (ByteArray.mk #[116, 114, 117]).data.toList = ([], 1) by decide +kernel]
  rintro e w' ⟨v, he, _, hb⟩
  exact ⟨v, he, hb⟩
theorem w12_c (w : World) (ht : Hds w) :
    Calls Tryd.prog 7 #[.string ⟨#[116, 114, 117, 112]⟩] w fun e w' => ∃ v, e = .returned (.tuple #[v, .int .i64 3]) ∧ Below w.heap.size w w' := by
  refine (all_any ⟨#[116, 114, 117, 112]⟩ w (by decide) ht).mono ?_
  rw [show tAll (ByteArray.mk #[116, 114, 117, 112]).data.toList = ([], 3) by decide +kernel]
  rintro e w' ⟨v, he, _, hb⟩
  exact ⟨v, he, hb⟩
theorem w12_put1 (w : World) :
    Calls Tryd.prog 17 #[.slice (some ⟨w.heap.size, 0, none⟩) 1 1, .agg #[.int .u8 122, .string ⟨#[]⟩]] (w.alloc (.cells #[.int .u8 112] 5 (1, 2))) fun e w' => ∃ v, e = .returned v ∧ (convert 46 9 v).run Tryd.prog w' = .ok (.string (bA [112, 110, 117, 108, 108])) w' ∧ Below w.heap.size w w' := by
  have hin : BIn (w.alloc (.cells #[.int .u8 112] 5 (1, 2))) (some ⟨w.heap.size, 0, none⟩) [112] := by
    intro j hj
    have h0 : j = 0 := by simpa using hj
    subst h0
    have h1 := heap_alloc_new w (.cells #[.int .u8 112] 5 (1, 2))
    refine ⟨w.heap.size, 0, rfl, by simp, ?_⟩
    simp only [World.cell?]
    rw [h1]; rfl
  refine (put_any (some ⟨w.heap.size, 0, none⟩) 1 [112] (122, []) _ (by decide) (by decide) hin).mono ?_
  rw [show [112] ++ tPut (122, []) = [112, 110, 117, 108, 108] by decide +kernel]
  rintro e w' ⟨v, he, hb, hbe⟩
  exact ⟨v, he, hb.text Tryd.underlying46 Tryd.underlying5 Tryd.underlying9, (alloc_below w _).trans (hbe.mono (alloc_below w _).size)⟩
theorem w12_put2 (w : World) :
    Calls Tryd.prog 17 #[.slice none 0 0, .agg #[.int .u8 116, .string ⟨#[]⟩]] w fun e w' => ∃ a cap, e = .returned (.slice a 4 cap) ∧ BIn w' a [116, 114, 117, 101] ∧ Below w.heap.size w w' := by
  refine (put_any none 0 [] (116, []) _ (by decide) (by decide) (bin_none w)).mono ?_
  rw [show [] ++ tPut (116, []) = [116, 114, 117, 101] by decide +kernel]
  rintro e w' ⟨v, he, hb, hbe⟩
  obtain ⟨a, cap, hv, hin⟩ := btsIn hb
  rw [hv] at he
  exact ⟨a, cap, he, hin, hbe⟩
theorem w12_put3 (a : Option Addr) (cap : Nat) (w : World) (hin : BIn w a [116, 114, 117, 101]) :
    Calls Tryd.prog 17 #[.slice a 4 cap, .agg #[.int .u8 102, .string ⟨#[]⟩]] w fun e w' => ∃ v, e = .returned v ∧ (convert 46 9 v).run Tryd.prog w' = .ok (.string (bA [116, 114, 117, 101, 102, 97, 108, 115, 101])) w' ∧ Below w.heap.size w w' := by
  refine (put_any a cap [116, 114, 117, 101] (102, []) _ (by decide) (by decide) hin).mono ?_
  rw [show [116, 114, 117, 101] ++ tPut (102, []) = [116, 114, 117, 101, 102, 97, 108, 115, 101] by decide +kernel]
  rintro e w' ⟨v, he, hb, hbe⟩
  exact ⟨v, he, hb.text Tryd.underlying46 Tryd.underlying5 Tryd.underlying9, hbe⟩
set_option maxRecDepth 100000 in
set_option maxHeartbeats 4000000 in
theorem works12_any (w : World) (ht : Hds w) : Calls Tryd.prog 6 #[] w fun e w' => e = .returned (.bool true) ∧ Below w.heap.size w w' := by
  have HT := Lib.hid (show ∀ w', Below w.heap.size w w' → Hds w' from fun w' h => ht.below h ht.lt)
  have HA := Lib.hid (w12_a w ht)
  have kc := fun (w : World) (C : Array Value) (n c : Nat) => Lib.run_convert_bytes_const (P := Tryd.prog) w 46 5 C n c Tryd.underlying46 Tryd.underlying5
  have q1 : ((bA [112, 110, 117, 108, 108]).toList == [112, 110, 117, 108, 108]) = true := by decide +kernel
  have q2 : ((bA [116, 114, 117, 101, 102, 97, 108, 115, 101]).toList == [116, 114, 117, 101, 102, 97, 108, 115, 101]) = true := by decide +kernel
  clear ht
  go_enter Tryd.func6, Tryd.ntmps6
  go_wp2_with fail
  refine HA.out.mono ?_
  rintro e w1 ⟨g, cap, rfl, hg, c2, c3, c6, c7, b1⟩
  have t1 := Lib.hid (HT.out _ b1)
  go_wp2_with fail
  refine (w12_b _ t1.out).mono ?_
  rintro e w2 ⟨v2, rfl, h2⟩
  have b2 := grown_then b1 h2
  have t2 := Lib.hid (HT.out _ b2)
  have hg2 : g < w2.heap.size := Nat.lt_of_lt_of_le hg h2.size
  have c2 := (h2.cell (p := ⟨g, 2, none⟩) hg).trans c2
  have c3 := (h2.cell (p := ⟨g, 3, none⟩) hg).trans c3
  have c6 := (h2.cell (p := ⟨g, 6, none⟩) hg).trans c6
  have c7 := (h2.cell (p := ⟨g, 7, none⟩) hg).trans c7
  clear b1 t1 h2
  go_wp2_with fail
  refine (w12_c _ t2.out).mono ?_
  rintro e w3 ⟨v3, rfl, h3⟩
  have b3 := grown_then b2 h3
  have t3 := Lib.hid (HT.out _ b3)
  have hg3 : g < w3.heap.size := Nat.lt_of_lt_of_le hg2 h3.size
  have d2 := (h3.cell (p := ⟨g, 2, none⟩) hg2).trans c2
  have d3 := (h3.cell (p := ⟨g, 3, none⟩) hg2).trans c3
  have d6 := (h3.cell (p := ⟨g, 6, none⟩) hg2).trans c6
  have d7 := (h3.cell (p := ⟨g, 7, none⟩) hg2).trans c7
  clear b2 t2 h3 c2 c3 c6 c7 hg hg2
  go_wp2_with fail
  refine (w12_put1 _).mono ?_
  rintro e w4 ⟨v4, rfl, hv4, h4⟩
  have b4 := grown_then b3 h4
  clear b3 t3 h4 d2 d3 d6 d7 hg3
  go_wp2_with fail
  refine (w12_put2 _).mono ?_
  rintro e w5 ⟨a5, cap5, rfl, hin5, h5⟩
  have b5 := grown_then b4 h5
  clear b4 h5 hv4
  go_wp2_with fail
  refine (w12_put3 a5 cap5 _ hin5).mono ?_
  rintro e w6 ⟨v6, rfl, hv6, h6⟩
  have b6 := Lib.hid (grown_then b5 h6)
  clear b5 h6 hin5
  go_wp2
  go_ret
  exact ⟨rfl, b6.out⟩
end Go.Proofs.YticlijjkeeejpaaDoor
