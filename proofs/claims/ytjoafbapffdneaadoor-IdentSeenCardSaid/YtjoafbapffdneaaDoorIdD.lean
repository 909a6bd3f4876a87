/- Package ident: bytesOf, ReadSpan, ReadTrace. -/
import Derived.Test.YtjoafbapffdneaaDoorIdC
import Derived.Test.YtjoafbapffdneaaDoorHRead
namespace Go.Proofs.YtjoafbapffdneaaDoor
open Go Go.RowKit
set_option linter.unusedVariables false

/-- Is s the digits of k bytes? -/
def nmIs (k : Nat) (s : ByteArray) : Bool := decide (s.size = 2 * k) && hOK s.data.toList
/-- The name of k bytes whose digits s is, and its code. -/
def nmL (k : Nat) (s : ByteArray) : List UInt8 := if nmIs k s then uh s.data.toList else zs k
def nmC (k : Nat) (s : ByteArray) : Int := if nmIs k s then (if uh s.data.toList = zs k then 10 else 0) else 3
theorem nmL_length (k : Nat) (s : ByteArray) : (nmL k s).length = k := by
  unfold nmL
  by_cases h : nmIs k s = true
  · rw [if_pos h]
    simp only [nmIs, Bool.and_eq_true, decide_eq_true_eq] at h
    have := uh_even s.data.toList
    rw [toList_size] at this
    omega
  · rw [if_neg h]; exact zs_length k
theorem nm_no {k : Nat} {s : ByteArray} (h : ¬ nmIs k s = true) : nmL k s = zs k ∧ nmC k s = 3 := by unfold nmL nmC; rw [if_neg h, if_neg h]; exact ⟨rfl, rfl⟩
theorem nm_yes {k : Nat} {s : ByteArray} (h : nmIs k s = true) : nmL k s = uh s.data.toList ∧ nmC k s = if nmL k s = zs k then 10 else 0 := by unfold nmL nmC; simp only [if_pos h]; exact ⟨trivial, trivial⟩

/-- 'copy(a[:], s)', a an array of so many bytes, s a text of as many. -/
theorem copy_arr_text (P : Program) (t st e ty T : TypeId) (ht : P.underlying t = some (.slice e)) (hi : (P.info? e).map (·.size) = some 1) (w : World) (b n : Nat) (l m : List UInt8)
    (hb : ABlk T w b m) (hl : l.length = n) (hm : m.length = n) :
    (Builtin.copy_ #[t, st] ty #[.slice (some ⟨b, 0, none⟩) n n, .string (bA l)]).run P w = .ok (goInt n) (w.setRow b (aC l)) := by
  have h := Lib.run_copy_row_string (P := P) w t st ty e b 0 n n (bA l) (aC m) T ht hi hb (by rw [bA_size]; omega) (by rw [bA_size, aC_size]; omega)
  rw [bA_size, hl] at h
  rw [h]
  have e1 : (aC m).toList.drop (0 + n) = [] := List.drop_of_length_le (by rw [aC_toList, bV_length]; omega)
  rw [e1, List.take_zero, List.nil_append, List.append_nil]
  rfl

def bofT (s : ByteArray) (n : Nat) : ByteArray := if s.size = n then hT s else ⟨#[]⟩
def bofC (s : ByteArray) (n : Nat) : Int := if s.size = n then hC s else 3
theorem bof_any (s : ByteArray) (n : Nat) (w : World) (hs : s.size ≤ 140737488351232) :
    Calls Tryd.prog 29 #[.string s, .int .i64 n] w fun e w' => e = .returned (.tuple #[.string (bofT s n), .int .i64 (bofC s n)]) ∧ Below w.heap.size w w' := by
  by_cases h : s.size = n
  · have q1 : ((s.size : Int) != (n : Int)) = false := by simp; omega
    have e1 := Lib.hid (show bofT s n = hT s by unfold bofT; rw [if_pos h])
    have e2 := Lib.hid (show bofC s n = hC s by unfold bofC; rw [if_pos h])
    have R := Lib.hid (hread_any s w hs)
    clear h
    go_enter Tryd.func29, Tryd.ntmps29
    go_wp2_with fail
    with_reducible refine R.out.mono ?_
    rintro e w1 ⟨rfl, h1⟩
    go_wp2
    go_ret2
    exact ⟨ret_read e1.out.symm e2.out.symm, h1⟩
  · have q1 : ((s.size : Int) != (n : Int)) = true := by simp; omega
    have e1 := Lib.hid (show bofT s n = ⟨#[]⟩ by unfold bofT; rw [if_neg h])
    have e2 := Lib.hid (show bofC s n = 3 by unfold bofC; rw [if_neg h])
    clear h
    go_enter Tryd.func29, Tryd.ntmps29
    go_wp2
    go_ret2
    exact ⟨ret_read e1.out.symm e2.out.symm, Below.refl _ _⟩
theorem bof_no {k : Nat} {s : ByteArray} (h : ¬ nmIs k s = true) : bofC s (2 * k) = 3 := by
  unfold bofC
  by_cases h1 : s.size = 2 * k
  · rw [if_pos h1]
    refine hC_no fun h2 => h ?_
    simp [nmIs, h1, h2]
  · rw [if_neg h1]
theorem bof_yes {k : Nat} {s : ByteArray} (h : nmIs k s = true) : bofC s (2 * k) = 0 ∧ bofT s (2 * k) = bA (nmL k s) := by
  obtain ⟨e1, _⟩ := nm_yes h
  rw [e1]
  simp only [nmIs, Bool.and_eq_true, decide_eq_true_eq] at h
  unfold bofC bofT
  rw [if_pos h.1, if_pos h.1]
  exact ⟨hC_yes h.2, hT_yes h.2⟩

theorem ret_name {a c : List UInt8} {b d : Int} (h : a = c) (k : b = d) : Ending.returned (.tuple #[.agg (aC a), .int .i64 b]) = .returned (.tuple #[.agg (aC c), .int .i64 d]) := by rw [h, k]
/-- Two results, the first of which is such a value. -/
theorem BytesT.result2 {P : Program} {T : TypeId} {n : Nat} (hT : BytesT P T n) {fn : Func} {p u : Tmp} (h : fn.results = #[.cell p T, .tmp u]) {tmps : Array Value} {w : World} {g : Nat} {t : TypeId} {l : List UInt8} {v : Value} (hg : ABlk t w g l) (hl : l.length = n) (hp : tmps.getD p undef = .pointer (some ⟨g, 0, none⟩)) (hv : tmps.getD u undef = v) :
    (results fn tmps).run P w = .ok (.tuple #[.agg (aC l), v]) w := by
  obtain ⟨d, hd, hr⟩ := hT.row
  have hq := run_loadVar_row (P := P) w g t T (aC l) (0, 0) d hg hd (by cases d <;> first | rfl | (simp [TypeDesc.isRow] at hr)) (by rw [hT.size, aC_size, hl])
  have hp' : tmps[p]?.getD undef = .pointer (some ⟨g, 0, none⟩) := by simpa using hp
  have hv' : tmps[u]?.getD undef = v := by simpa using hv
  simp [results, h, hp', hv', asAddr, hq]

set_option maxHeartbeats 1000000 in
theorem readspan_any (s : ByteArray) (w : World) (hs : s.size ≤ 140737488351232) :
    Calls Tryd.prog 8 #[.string s] w fun e w' => e = .returned (.tuple #[.agg (aC (nmL 8 s)), .int .i64 (nmC 8 s)]) ∧ Below w.heap.size w w' := by
  have R := Lib.hid (show ∀ w, Calls Tryd.prog 29 #[.string s, .int .i64 16] w fun e w' => e = .returned (.tuple #[.string (bofT s 16), .int .i64 (bofC s 16)]) ∧ Below w.heap.size w w' from fun w => bof_any s 16 w hs)
  have hn := nmL_length 8 s
  have hb := Lib.hid (below_alloc w (.cells z8 28))
  have ha := Lib.hid (show ABlk 28 (w.alloc (.cells z8 28)) w.heap.size (zs 8) from blk_alloc 28 w (zs 8))
  by_cases hy : nmIs 8 s = true
  · obtain ⟨b1, b2⟩ := bof_yes hy
    have c2 := (nm_yes hy).2
    have C2 := Lib.hid c2
    rw [show (2 * 8 : Nat) = 16 from rfl] at b1 b2
    rw [b1, b2] at R
    clear hy b1 b2 c2
    generalize nmL 8 s = L at *
    go_enter Tryd.func8, Tryd.ntmps8
    go_wp2_with fail
    with_reducible refine (R.out _).mono ?_
    rintro e w1 ⟨rfl, h1⟩
    have ha1 := Lib.hid (ha.out.below h1 (by simp))
    have hb1 := Lib.hid (grown_then hb.out h1)
    have hlt : w.heap.size < w1.heap.size := ha1.out.lt
    have hcp := Lib.hid (copy_arr_text Tryd.prog 55 9 5 3 28 Tryd.underlying55 size8 (w1.alloc (.cells z8 28)) w1.heap.size 8 L (zs 8) (blk_alloc 28 w1 (zs 8)) hn (zs_length 8))
    clear h1
    go_wp2_with fail
    rw [hcp.out]
    have k0 : ABlk 28 ((w1.alloc (.cells z8 28)).setRow w1.heap.size (aC L)) w.heap.size (zs 8) := (ha1.out.below (below_alloc w1 _) hlt).setRow_ne (by omega)
    have k1 : ABlk 28 ((w1.alloc (.cells z8 28)).setRow w1.heap.size (aC L)) w1.heap.size L := setRow_blk (blk_alloc 28 w1 (zs 8))
    have k2 : Below w.heap.size w ((w1.alloc (.cells z8 28)).setRow w1.heap.size (aC L)) := setRow_below (below_on hb1.out (below_alloc w1 _) (by omega)) (by omega)
    generalize (w1.alloc (.cells z8 28)).setRow w1.heap.size (aC L) = w2 at k0 k1 k2 ⊢
    have E1 := Lib.hid k1.at0
    have E2 := Lib.hid k0
    have E3 := Lib.hid (setRow_blk k0 (l := L))
    have E4 := Lib.hid (setRow_blk k0 (l := zs 8))
    have K2 := Lib.hid (setRow_below (cs := aC L) (b := w.heap.size) k2 (Nat.le_refl _))
    have K3 := Lib.hid (setRow_below (cs := aC (zs 8)) (b := w.heap.size) k2 (Nat.le_refl _))
    clear k0 k1 k2 hcp ha1 hb1 ha hb R
    by_cases hz : L = zs 8
    · have d1 : decide (L = zs 8) = true := decide_eq_true hz
      have HZ := Lib.hid hz
      clear hz
      go_wp2_with (first | refine wl_load spanT (by rfl) (by rfl) hn E1.out ?_ | refine wl_eql (m := zs 8) spanT (by kernel_rfl) (by rfl) (by rfl) (by rfl) hn (zs_length 8) ?_ | refine wl_store (l := zs 8) spanT (by rfl) (by rfl) (by rfl) (zs_length 8) (zs_length 8) E2.out ?_)
      exact bodyPost_ret (spanT.result2 Tryd.results8 E4.out (zs_length 8) rfl rfl) rfl ⟨ret_name HZ.out.symm (by rw [C2.out, if_pos HZ.out]), K3.out⟩
    · have d1 : decide (L = zs 8) = false := decide_eq_false hz
      have HZ := Lib.hid hz
      clear hz
      go_wp2_with (first | refine wl_load spanT (by rfl) (by rfl) hn E1.out ?_ | refine wl_eql (m := zs 8) spanT (by kernel_rfl) (by rfl) (by rfl) (by rfl) hn (zs_length 8) ?_ | refine wl_store (l := L) spanT (by rfl) (by rfl) (by rfl) hn (zs_length 8) E2.out ?_)
      exact bodyPost_ret (spanT.result2 Tryd.results8 E3.out hn rfl rfl) rfl ⟨ret_name rfl (by rw [C2.out, if_neg HZ.out]), K2.out⟩
  · have b1 := bof_no hy
    obtain ⟨c1, c2⟩ := nm_no hy
    rw [show (2 * 8 : Nat) = 16 from rfl] at b1
    rw [b1] at R
    have C1 := Lib.hid c1
    have C2 := Lib.hid c2
    clear hy b1 c1 c2
    go_enter Tryd.func8, Tryd.ntmps8
    go_wp2_with fail
    with_reducible refine (R.out _).mono ?_
    rintro e w1 ⟨rfl, h1⟩
    have ha1 := Lib.hid (ha.out.below h1 (by simp))
    have E4 := Lib.hid (setRow_blk ha1.out (l := zs 8))
    have K3 := Lib.hid (setRow_below (cs := aC (zs 8)) (b := w.heap.size) (grown_then hb.out h1) (Nat.le_refl _))
    clear h1
    go_wp2_with (refine wl_store (l := zs 8) spanT (by rfl) (by rfl) (by rfl) (zs_length 8) (zs_length 8) ha1.out ?_)
    exact bodyPost_ret (spanT.result2 Tryd.results8 E4.out (zs_length 8) rfl rfl) rfl ⟨ret_name C1.out.symm C2.out.symm, K3.out⟩

end Go.Proofs.YtjoafbapffdneaaDoor
