/- The library's errors.as and errors.As, asked of a fault within parts for a bare fault, and for one within. -/
import Derived.Test.YtnnkpeafhjokjaaDoorFtV
namespace Go.Proofs.YtnnkpeafhjokjaaDoor
open Go Go.RowKit Go.Extern.Stop Go.Stop Go.Extern
set_option linter.unusedVariables false

theorem unwrap_any (p : ByteArray) (e : Value) (w : World) :
    Calls Tryd.prog 68 #[.agg #[.string p, e]] w fun r w' => r = .returned e ∧ Below w.heap.size w w' := by
  have hb := Lib.hid (show Below w.heap.size w (w.alloc (.cells #[.string p, e] 42)) from (Below.refl _ _).alloc (Nat.le_refl _) _)
  go_enter Tryd.func68, Tryd.ntmps68
  go_wp2
  go_ret
  exact ⟨rfl, hb.out⟩
theorem eV_iface (c : Int) (ps : List ByteArray) : ∃ t v, eV c ps = .iface t v := by cases ps <;> exact ⟨_, _, rfl⟩
theorem BareAt.lt {w : World} {b : Nat} {c : Int} (h : BareAt w b c) : b < w.heap.size := lt_of_block h
theorem BareAt.at0 {w : World} {b : Nat} {c : Int} (h : BareAt w b c) : w.cell? ⟨b, 0, none⟩ = some (.int .i64 c) := by unfold BareAt at h; simp [World.cell?, h]
theorem BareAt.fr {w : World} {b : Nat} {c : Int} (h : BareAt w b c) (o : Nat) : w.frozen? ⟨b, o, none⟩ = false := by unfold BareAt at h; simp [World.frozen?, h]
theorem BareAt.set {w : World} {b : Nat} {c : Int} (h : BareAt w b c) (d : Int) : BareAt (w.setCell ⟨b, 0, none⟩ (.int .i64 d)) b d := heap_setCell_block h _
theorem BareAt.below {w w' : World} {b N : Nat} {c : Int} (h : BareAt w b c) (hb : Below N w w') (hN : b < N) : BareAt w' b c := (hb.block b hN).trans h
theorem WithAt.lt {w : World} {b : Nat} {p : ByteArray} {e : Value} (h : WithAt w b p e) : b < w.heap.size := lt_of_block h
theorem WithAt.at0 {w : World} {b : Nat} {p : ByteArray} {e : Value} (h : WithAt w b p e) : w.cell? ⟨b, 0, none⟩ = some (.string p) := by unfold WithAt at h; simp [World.cell?, h]
theorem WithAt.at1 {w : World} {b : Nat} {p : ByteArray} {e : Value} (h : WithAt w b p e) : w.cell? ⟨b, 1, none⟩ = some e := by unfold WithAt at h; simp [World.cell?, h]
theorem WithAt.fr {w : World} {b : Nat} {p : ByteArray} {e : Value} (h : WithAt w b p e) (o : Nat) : w.frozen? ⟨b, o, none⟩ = false := by unfold WithAt at h; simp [World.frozen?, h]
theorem WithAt.set0 {w : World} {b : Nat} {p : ByteArray} {e : Value} (h : WithAt w b p e) (q : ByteArray) : WithAt (w.setCell ⟨b, 0, none⟩ (.string q)) b q e := heap_setCell_block h _
theorem WithAt.set1 {w : World} {b : Nat} {p : ByteArray} {e : Value} (h : WithAt w b p e) (d : Value) : WithAt (w.setCell ⟨b, 1, none⟩ d) b p d := heap_setCell_block h _
theorem WithAt.below {w w' : World} {b N : Nat} {p : ByteArray} {e : Value} (h : WithAt w b p e) (hb : Below N w w') (hN : b < N) : WithAt w' b p e := (hb.block b hN).trans h
theorem cell_lt {w : World} {b o : Nat} {v : Value} (h : w.cell? ⟨b, o, none⟩ = some v) : b < w.heap.size := by
  rcases Nat.lt_or_ge b w.heap.size with h' | h'
  · exact h'
  · simp [World.cell?, Array.getElem?_eq_none h'] at h

/-- A round of errors.as' loop: what is asked is a fault still, the world has grown. -/
def AsRel (c : Int) (w : World) (e : Value) (wr : World) : Prop := ∃ qs, e = eV c qs ∧ Below w.heap.size w wr

set_option maxHeartbeats 4000000 in
set_option maxRecDepth 100000 in
theorem asin_bare (c x : Int) (ps : List ByteArray) (t vb : Nat) (w : World) (hv : w.cell? ⟨vb, 0, none⟩ = some (.pointer (some ⟨t, 0, none⟩))) (ht : BareAt w t x) :
    Calls Tryd.prog 27 #[eV c ps, .iface 47 (.pointer (some ⟨t, 0, none⟩)), .agg #[hT 47, .pointer (some ⟨vb, 0, none⟩), .int .u64 150], .iface 78 (.agg #[hT 46])] w fun e w' => e = .returned (.bool true) ∧ BareAt w' t c ∧ Only t w w' := by
  have f1 := @run_callFunc_extern Tryd.prog 32 _ ReflectliteType.typeOf Tryd.func32 (by kernel_rfl) (by kernel_rfl) (by kernel_rfl) (by kernel_rfl)
  have f2 := @run_callFunc_extern Tryd.prog 75 _ (ReflectliteType.relation "AssignableTo" ReflectliteType.assignableTo) Tryd.func75 (by kernel_rfl) (by kernel_rfl) (by kernel_rfl) (by kernel_rfl)
  have f3 := @run_callFunc_extern Tryd.prog 34 _ (ReflectliteValue.method (ReflectliteValue.valueError "reflectlite.Value.Elem" 0) ReflectliteValue.elem) Tryd.func34 (by kernel_rfl) (by kernel_rfl) (by kernel_rfl) (by kernel_rfl)
  have f4 := @run_callFunc_extern Tryd.prog 24 _ (fun args => ReflectliteValue.unpack (args.getD 0 (.tuple #[]))) Tryd.func24 (by kernel_rfl) (by kernel_rfl) (by kernel_rfl) (by kernel_rfl)
  have f5 := @run_callFunc_extern Tryd.prog 35 _ ReflectliteValue.set Tryd.func35 (by kernel_rfl) (by kernel_rfl) (by kernel_rfl) (by kernel_rfl)
  have g1 := typeOfB
  have g2 := typeOfW
  have g3 := mAssignableTo
  have g4 := assignBB
  have g5 := assignWB
  have g6 := valueOfB
  have n1 := noAsW
  have n2 := hasUnwrapW
  have n3 := mUnwrap
  have n4 := eql_nil_right
  have hU := Lib.hid unwrap_any
  obtain ⟨W, hW⟩ : ∃ W, W = w.alloc (.cells #[hT 47, .pointer (some ⟨vb, 0, none⟩), .int .u64 150] 62) := ⟨_, rfl⟩
  have hbW : Below w.heap.size w W := by rw [hW]; exact (Below.refl _ _).alloc (Nat.le_refl _) _
  have hWs : W.heap.size = w.heap.size + 1 := by rw [hW]; simp
  have k0 : W.cell? ⟨w.heap.size, 0, none⟩ = some (hT 47) := by rw [hW]; simp
  have k1 : W.cell? ⟨w.heap.size, 1, none⟩ = some (.pointer (some ⟨vb, 0, none⟩)) := by rw [hW]; simp
  have k2 : W.cell? ⟨w.heap.size, 2, none⟩ = some (.int .u64 150) := by rw [hW]; simp
  have hvW : W.cell? ⟨vb, 0, none⟩ = some (.pointer (some ⟨t, 0, none⟩)) := (hbW.cell (p := ⟨vb, 0, none⟩) (cell_lt hv)).trans hv
  have htW := ht.below hbW ht.lt
  have hvl := cell_lt hv
  have htl := ht.lt
  have HW := Lib.hid hW
  have HB := Lib.hid hbW
  clear hv ht hW hbW
  go_enter Tryd.func27, Tryd.ntmps27
  go_wp2
  rw [← HW.out]
  go_loopw [0, 8, 9, 10, 11] (fun e r a b x wr => AsRel c W e wr) (fun e _ _ _ _ _ => SizeOf.sizeOf e)
  case atStart => exact ⟨ps, rfl, Below.refl _ _⟩
  case round =>
    obtain ⟨qs, rfl, hbe⟩ := hrel
    have q0 := (hbe.cell (p := ⟨w.heap.size, 0, none⟩) (show w.heap.size < W.heap.size by omega)).trans k0
    have q1 := (hbe.cell (p := ⟨w.heap.size, 1, none⟩) (show w.heap.size < W.heap.size by omega)).trans k1
    have q2 := (hbe.cell (p := ⟨w.heap.size, 2, none⟩) (show w.heap.size < W.heap.size by omega)).trans k2
    have qv := (hbe.cell (p := ⟨vb, 0, none⟩) (show vb < W.heap.size by omega)).trans hvW
    have qt := htW.below hbe (by omega)
    have el := elemVB ⟨vb, 0, none⟩ ⟨t, 0, none⟩ wr qv
    have hbs := hbe.size
    cases qs with
    | nil =>
      have qt2 : BareAt (wr.alloc (.cells #[.int .i64 c] 46)) t x := qt.below ((Below.refl wr.heap.size _).alloc (Nat.le_refl _) _) qt.lt
      have st := setB t wr.heap.size c (.int .i64 x) (wr.alloc (.cells #[.int .i64 c] 46)) (by simp) qt2.at0 (qt2.fr 0)
      have HE := Lib.hid (qt2.set c)
      have HO := Lib.hid ((((Only.of_below (b := t) HB.out).trans (Only.mk hbe.os hbe.tape hbe.output hbe.size fun k hk _ => hbe.block k hk)).alloc (.cells #[.int .i64 c] 46)).setCell 0 (.int .i64 c))
      clear qt2 qt hbe k0 k1 k2 hvW htW
      rw [eV_nil]
      unfold eB
      go_wp2
      go_ret
      exact ⟨rfl, HE.out, HO.out⟩
    | cons p qs =>
      obtain ⟨ti, vi, hti⟩ := eV_iface c qs
      have hsz := Lib.hid (eW_size p (eV c qs))
      have hq := Lib.hid (show ∀ w1, Below wr.heap.size wr w1 → AsRel c W (eV c qs) w1 from fun w1 h1 => ⟨qs, rfl, hbe.trans (h1.mono hbe.size)⟩)
      clear qt hbe k0 k1 k2 hvW htW
      rw [eV_cons]
      unfold eW
      rw [hti]
      rw [hti] at hq hsz
      go_wp2_with (go_at_call 68; refine (hU.out _ _ _).mono ?_; rintro r w1 ⟨rfl, hb1⟩)
      go_roundw
      case rel => exact hq.out _ hb1
      case measure => exact hsz.out
end Go.Proofs.YtnnkpeafhjokjaaDoor
