/- The document's own names: ReadSpan, ReadTrace. -/
import Derived.Test.YtjoafbapffdneaaDoorIdI
namespace Go.Proofs.YtjoafbapffdneaaDoor
open Go Go.RowKit
set_option linter.unusedVariables false

def rbL (k : Nat) (s : ByteArray) : List UInt8 := if nmC k s = 0 then nmL k s else []
theorem rbT_is (k : Nat) (s : ByteArray) : rbT k s = bA (rbL k s) := by
  unfold rbT rbL
  split <;> rfl
theorem pad_rbL (k : Nat) (s : ByteArray) : pad k (rbL k s) = nmL k s := by
  unfold rbL
  by_cases h : nmC k s = 0
  · rw [if_pos h, pad_full (nmL_length k s)]
  · rw [if_neg h, pad_nil]
    by_cases hy : nmIs k s = true
    · by_cases hz : nmL k s = zs k
      · exact hz.symm
      · exact absurd ((nmC_is k s).mpr ⟨hy, hz⟩) h
    · exact (nm_no hy).1.symm
theorem rbL_le (k : Nat) (s : ByteArray) : (rbL k s).length ≤ k := by
  unfold rbL
  split
  · rw [nmL_length]; exact Nat.le_refl _
  · exact Nat.zero_le _

theorem rreadspan_any (s : ByteArray) (w : World) (hs : s.size ≤ 140737488351232) :
    Calls Tryd.prog 9 #[.string s] w fun e w' => e = .returned (.tuple #[.agg (aC (nmL 8 s)), .int .i64 (nmC 8 s)]) ∧ Below w.heap.size w w' := by
  have ha := Lib.hid (show ABlk 28 (w.alloc (.cells z8 28)) w.heap.size (zs 8) from blk_alloc 28 w (zs 8))
  have hb := Lib.hid (below_alloc w (.cells z8 28))
  have H := Lib.hid (show ∀ w, Calls Tryd.prog 30 #[.string s, .int .i64 8] w fun e w' => e = .returned (.tuple #[.string (bA (rbL 8 s)), .int .i64 (nmC 8 s)]) ∧ Below w.heap.size w w' from fun w => by have := rbytes_any 8 s w hs (by omega); rwa [rbT_is] at this)
  have S := Lib.hid (show ∀ w, Calls Tryd.prog 32 #[.string (bA (rbL 8 s))] w fun e w' => e = .returned (.agg (aC (nmL 8 s))) ∧ Below w.heap.size w w' from fun w => by
    have := rspan_any (rbL 8 s) w (rbL_le 8 s); rwa [pad_rbL] at this)
  have hn := nmL_length 8 s
  generalize nmL 8 s = L at *
  generalize nmC 8 s = c at *
  generalize bA (rbL 8 s) = B at *
  go_enter Tryd.func9, Tryd.ntmps9
  go_wp2_with fail
  with_reducible refine (H.out _).mono ?_
  rintro e w1 ⟨rfl, h1⟩
  have a1 := Lib.hid (ha.out.below h1 (by simp))
  have b1 := Lib.hid (grown_then hb.out h1)
  have hlt : w.heap.size < w1.heap.size := a1.out.lt
  clear h1 ha hb
  go_wp2_with fail
  with_reducible refine (S.out _).mono ?_
  rintro e w2 ⟨rfl, h2⟩
  have a2 := Lib.hid (a1.out.below h2 hlt)
  have E4 := Lib.hid (setRow_blk a2.out (l := L))
  have K2 := Lib.hid (setRow_below (cs := aC L) (b := w.heap.size) (below_on b1.out h2 (by omega)) (Nat.le_refl _))
  clear h2
  go_wp2_with (refine wl_store (l := L) spanT (by rfl) (by rfl) (by rfl) hn (zs_length 8) a2.out ?_)
  exact bodyPost_ret (spanT.result2 Tryd.results9 E4.out hn rfl rfl) rfl ⟨rfl, K2.out⟩

abbrev o16 : ByteArray := ByteArray.mk #[48, 48, 48, 48, 48, 48, 48, 48, 48, 48, 48, 48, 48, 48, 48, 48]
theorem uh_o16 (l : List UInt8) : uh (o16.data.toList ++ l) = zs 8 ++ uh l := rfl
theorem hOK_o16 (l : List UInt8) : hOK (o16.data.toList ++ l) = hOK l := by
  unfold hOK
  rw [List.length_append, List.all_append]
  have h1 : o16.data.toList.length = 16 := rfl
  have h2 : o16.data.toList.all (fun b => nibIs b.toNat) = true := by decide
  rw [h1, h2, Bool.true_and, show (16 + l.length) % 2 = l.length % 2 by omega]
theorem nm_o16 (s : ByteArray) (h : s.size = 16) : nmL 16 (o16 ++ s) = zs 8 ++ nmL 8 s ∧ nmC 16 (o16 ++ s) = nmC 8 s := by
  have hi : nmIs 16 (o16 ++ s) = nmIs 8 s := by
    unfold nmIs
    rw [toList_append, hOK_o16, ByteArray.size_append, h]
    rfl
  unfold nmL nmC
  rw [hi, toList_append, uh_o16]
  by_cases hy : nmIs 8 s = true
  · simp only [hy, if_true]
    refine ⟨trivial, ?_⟩
    have : (zs 8 ++ uh s.data.toList = zs 16) ↔ uh s.data.toList = zs 8 := by
      rw [show zs 16 = zs 8 ++ zs 8 from rfl]; exact ⟨fun h => List.append_cancel_left h, fun h => by rw [h]⟩
    by_cases hz : uh s.data.toList = zs 8
    · rw [if_pos (this.mpr hz), if_pos hz]
    · rw [if_neg (fun h => hz (this.mp h)), if_neg hz]
  · simp only [hy]; exact ⟨rfl, rfl⟩

set_option maxHeartbeats 1000000 in
theorem rreadtrace_any (s : ByteArray) (w : World) (hs : s.size ≤ 140737488351232) :
    Calls Tryd.prog 7 #[.string s] w fun e w' => e = .returned (.tuple #[.agg (aC (trL s)), .int .i64 (trC s)]) ∧ Below w.heap.size w w' := by
  have ha := Lib.hid (show ABlk 23 (w.alloc (.cells z16 23)) w.heap.size (zs 16) from blk_alloc 23 w (zs 16))
  have hb := Lib.hid (below_alloc w (.cells z16 23))
  have hG : ∀ (d : ByteArray), d.size ≤ 140737488351232 → nmL 16 d = trL s → nmC 16 d = trC s → (∀ w, Calls Tryd.prog 30 #[.string d, .int .i64 16] w fun e w' => e = .returned (.tuple #[.string (bA (rbL 16 d)), .int .i64 (trC s)]) ∧ Below w.heap.size w w') ∧
      (∀ w, Calls Tryd.prog 31 #[.string (bA (rbL 16 d))] w fun e w' => e = .returned (.agg (aC (trL s))) ∧ Below w.heap.size w w') := by
    intro d hd e1 e2
    constructor
    · intro w
      have := rbytes_any 16 d w hd (by omega); rwa [rbT_is, e2] at this
    · intro w
      have := rtrace_any (rbL 16 d) w (rbL_le 16 d); rwa [pad_rbL, e1] at this
  have hn := trL_length s
  by_cases h16 : s.size = 16
  · have p1 : ((s.size : Int) == (16 : Int)) = true := by simp; omega
    have hG2 := hG (o16 ++ s) (by rw [ByteArray.size_append, h16]; decide) (by rw [(nm_o16 s h16).1]; unfold trL; rw [if_pos h16]) (by rw [(nm_o16 s h16).2]; unfold trC; rw [if_pos h16])
    have H := Lib.hid hG2.1
    have S := Lib.hid hG2.2
    have hsz : o16.size + s.size ≤ 9223372036854775807 := by rw [h16]; decide
    clear h16 hG hG2
    generalize trL s = L at *
    generalize trC s = c at *
    generalize bA (rbL 16 (o16 ++ s)) = B at *
    go_enter Tryd.func7, Tryd.ntmps7
    go_wp2_with fail
    with_reducible refine (H.out _).mono ?_
    rintro e w1 ⟨rfl, h1⟩
    have a1 := Lib.hid (ha.out.below h1 (by simp))
    have b1 := Lib.hid (grown_then hb.out h1)
    have hlt : w.heap.size < w1.heap.size := a1.out.lt
    clear h1 ha hb
    go_wp2_with fail
    with_reducible refine (S.out _).mono ?_
    rintro e w2 ⟨rfl, h2⟩
    have a2 := Lib.hid (a1.out.below h2 hlt)
    have E4 := Lib.hid (setRow_blk a2.out (l := L))
    have K2 := Lib.hid (setRow_below (cs := aC L) (b := w.heap.size) (below_on b1.out h2 (by omega)) (Nat.le_refl _))
    clear h2
    go_wp2_with (refine wl_store (l := L) traceT (by rfl) (by rfl) (by rfl) hn (zs_length 16) a2.out ?_)
    exact bodyPost_ret (traceT.result2 Tryd.results7 E4.out hn rfl rfl) rfl ⟨rfl, K2.out⟩
  · have p1 : ((s.size : Int) == (16 : Int)) = false := by simp; omega
    have hG2 := hG s hs (by unfold trL; rw [if_neg h16]) (by unfold trC; rw [if_neg h16])
    have H := Lib.hid hG2.1
    have S := Lib.hid hG2.2
    clear h16 hG hG2
    generalize trL s = L at *
    generalize trC s = c at *
    generalize bA (rbL 16 s) = B at *
    go_enter Tryd.func7, Tryd.ntmps7
    go_wp2_with fail
    with_reducible refine (H.out _).mono ?_
    rintro e w1 ⟨rfl, h1⟩
    have a1 := Lib.hid (ha.out.below h1 (by simp))
    have b1 := Lib.hid (grown_then hb.out h1)
    have hlt : w.heap.size < w1.heap.size := a1.out.lt
    clear h1 ha hb
    go_wp2_with fail
    with_reducible refine (S.out _).mono ?_
    rintro e w2 ⟨rfl, h2⟩
    have a2 := Lib.hid (a1.out.below h2 hlt)
    have E4 := Lib.hid (setRow_blk a2.out (l := L))
    have K2 := Lib.hid (setRow_below (cs := aC L) (b := w.heap.size) (below_on b1.out h2 (by omega)) (Nat.le_refl _))
    clear h2
    go_wp2_with (refine wl_store (l := L) traceT (by rfl) (by rfl) (by rfl) hn (zs_length 16) a2.out ?_)
    exact bodyPost_ret (traceT.result2 Tryd.results7 E4.out hn rfl rfl) rfl ⟨rfl, K2.out⟩

end Go.Proofs.YtjoafbapffdneaaDoor
