/- The document's writer (package truchmanref15): bad, last, comma, value, Done. -/
import Derived.Test.YtnbhhnkcfbfdcaaDoorJwF
import Derived.Test.YtnbhhnkcfbfdcaaDoorJsTxt
import Derived.Test.YtnbhhnkcfbfdcaaDoorDRefA
import Derived.Deep.RegionHeld3
namespace Go.Proofs.YtnbhhnkcfbfdcaaDoor
open Go Go.RowKit
set_option linter.unusedVariables false

/-- A state as a value, and in block g. -/
def rcV (A P : ByteArray) (k f : Bool) (c : Int) : Value := .agg #[.string A, .string P, .bool k, .bool f, .int .i64 c]
def rsV (r : RfS) : Value := rcV (bA r.out) (bA r.op) r.kd r.af r.c
def RcT (w : World) (g : Nat) (A P : ByteArray) (k f : Bool) (c : Int) : Prop := w.heap[g]? = some (.cells #[.string A, .string P, .bool k, .bool f, .int .i64 c] 28 (0, 0))
section
variable {w w' : World} {g : Nat} {A P : ByteArray} {k f : Bool} {c : Int}
theorem RcT.c0 (h : RcT w g A P k f c) : w.cell? ⟨g, 0, none⟩ = some (.string A) := by rw [cell_of_row w g 0 _ _ _ h]; rfl
theorem RcT.c1 (h : RcT w g A P k f c) : w.cell? ⟨g, 1, none⟩ = some (.string P) := by rw [cell_of_row w g 1 _ _ _ h]; rfl
theorem RcT.c2 (h : RcT w g A P k f c) : w.cell? ⟨g, 2, none⟩ = some (.bool k) := by rw [cell_of_row w g 2 _ _ _ h]; rfl
theorem RcT.c3 (h : RcT w g A P k f c) : w.cell? ⟨g, 3, none⟩ = some (.bool f) := by rw [cell_of_row w g 3 _ _ _ h]; rfl
theorem RcT.c4 (h : RcT w g A P k f c) : w.cell? ⟨g, 4, none⟩ = some (.int .i64 c) := by rw [cell_of_row w g 4 _ _ _ h]; rfl
theorem RcT.fr (h : RcT w g A P k f c) (o : Nat) : w.frozen? ⟨g, o, none⟩ = false := by unfold RcT at h; simp [World.frozen?, h]
theorem RcT.below (h : RcT w g A P k f c) (hb : Below w.heap.size w w') : RcT w' g A P k f c := (hb.block g (lt_of_block h)).trans h
theorem RcT.setAll (h : RcT w g A P k f c) (A' P' : ByteArray) (k' f' : Bool) (c' : Int) :
    RcT (((((w.setCell ⟨g, 0, none⟩ (.string A')).setCell ⟨g, 1, none⟩ (.string P')).setCell ⟨g, 2, none⟩ (.bool k')).setCell ⟨g, 3, none⟩ (.bool f')).setCell ⟨g, 4, none⟩ (.int .i64 c')) g A' P' k' f' c' :=
  heap_setCell_block (heap_setCell_block (heap_setCell_block (heap_setCell_block (heap_setCell_block h _) _) _) _) _
theorem set5_below {N : Nat} {W : World} (h : Below N W w) (hg : N ≤ g) (a b c d e : Value) : Below N W (((((w.setCell ⟨g, 0, none⟩ a).setCell ⟨g, 1, none⟩ b).setCell ⟨g, 2, none⟩ c).setCell ⟨g, 3, none⟩ d).setCell ⟨g, 4, none⟩ e) :=
  ((((h.setCell hg _).setCell hg _).setCell hg _).setCell hg _).setCell hg _
theorem set5_lt (w : World) (g : Nat) (a b c d e : Value) : ∀ k, k ≠ g → (((((w.setCell ⟨g, 0, none⟩ a).setCell ⟨g, 1, none⟩ b).setCell ⟨g, 2, none⟩ c).setCell ⟨g, 3, none⟩ d).setCell ⟨g, 4, none⟩ e).heap[k]? = w.heap[k]? := fun k hk => by
  rw [RowKit.Below.heap_setCell _ _ _ _ hk, RowKit.Below.heap_setCell _ _ _ _ hk, RowKit.Below.heap_setCell _ _ _ _ hk, RowKit.Below.heap_setCell _ _ _ _ hk, RowKit.Below.heap_setCell _ _ _ _ hk]
theorem rc_result {fn : Func} {p : Tmp} (h : fn.results = #[.cell p 28]) {tmps : Array Value} (hg : RcT w g A P k f c) (hp : tmps.getD p undef = .pointer (some ⟨g, 0, none⟩)) :
    (results fn tmps).run Tryd.prog w = .ok (rcV A P k f c) w := by
  have hq := run_loadVar_row (P := Tryd.prog) w g 28 28 #[.string A, .string P, .bool k, .bool f, .int .i64 c] (0, 0) _ hg Tryd.underlying28 rfl (by kernel_rfl)
  have hp' : tmps[p]?.getD undef = .pointer (some ⟨g, 0, none⟩) := by simpa using hp
  simp [results, h, hp', asAddr, hq, rcV]
end
theorem new_rc (w : World) (A P : ByteArray) (k f : Bool) (c : Int) : RcT (w.alloc (.cells #[.string A, .string P, .bool k, .bool f, .int .i64 c] 28)) w.heap.size A P k f c := heap_alloc_new w _
/-- The state that came in, and the one to tell. -/
structure BdB (w : World) (A P : ByteArray) (k f : Bool) (c : Int) (wx : World) : Prop where
  s : RcT wx w.heap.size A P k f c
  q : RcT wx (w.heap.size + 1) ⟨#[]⟩ ⟨#[]⟩ false false 0
  b : Below w.heap.size w wx
theorem bdb_new (w : World) (A P : ByteArray) (k f : Bool) (c : Int) : BdB w A P k f c ((w.alloc (.cells #[.string A, .string P, .bool k, .bool f, .int .i64 c] 28)).alloc (.cells #[.string ⟨#[]⟩, .string ⟨#[]⟩, .bool false, .bool false, .int .i64 0] 28)) := by
  have h1 := new_rc w A P k f c
  have b1 := new_blw w (.cells #[.string A, .string P, .bool k, .bool f, .int .i64 c] 28)
  have h2 := new_rc (w.alloc (.cells #[.string A, .string P, .bool k, .bool f, .int .i64 c] 28)) ⟨#[]⟩ ⟨#[]⟩ false false 0
  have b2 := new_blw (w.alloc (.cells #[.string A, .string P, .bool k, .bool f, .int .i64 c] 28)) (.cells #[.string ⟨#[]⟩, .string ⟨#[]⟩, .bool false, .bool false, .int .i64 0] 28)
  rw [World.size_alloc] at h2
  exact ⟨h1.below b2, h2, grown_then b1 b2⟩
set_option maxRecDepth 20000 in
theorem rfbad_any (A P : ByteArray) (k f : Bool) (c d : Int) (w : World) : Calls Tryd.prog 19 #[rcV A P k f c, .int .i64 d] w fun e w' => e = .returned (rcV A P k f d) ∧ Below w.heap.size w w' := by
  have N0 := bdb_new w A P k f c
  unfold rcV
  go_enter Tryd.func19, Tryd.ntmps19
  go_upto_region 1 with fail
  generalize ((w.alloc (.cells #[.string A, .string P, .bool k, .bool f, .int .i64 c] 28)).alloc (.cells #[.string ⟨#[]⟩, .string ⟨#[]⟩, .bool false, .bool false, .int .i64 0] 28)) = W at *
  have a4 := N0.s.c4; have af := N0.s.fr 4
  have hS : RcT (W.setCell ⟨w.heap.size, 4, none⟩ (.int .i64 d)) w.heap.size A P k f d := heap_setCell_block N0.s _
  have hQ : RcT (W.setCell ⟨w.heap.size, 4, none⟩ (.int .i64 d)) (w.heap.size + 1) ⟨#[]⟩ ⟨#[]⟩ false false 0 := (RowKit.Below.heap_setCell _ _ _ _ (show w.heap.size + 1 ≠ w.heap.size by omega)).trans N0.q
  have hB : Below w.heap.size w (W.setCell ⟨w.heap.size, 4, none⟩ (.int .i64 d)) := N0.b.setCell (Nat.le_refl _) _
  go_upto_region 2 with fail
  generalize W.setCell ⟨w.heap.size, 4, none⟩ (.int .i64 d) = W1 at *
  clear a4 af N0
  have a0 := hS.c0; have a1 := hS.c1; have a2 := hS.c2; have a3 := hS.c3; have a4 := hS.c4
  have q0 := hQ.c0; have q1 := hQ.c1; have q2 := hQ.c2; have q3 := hQ.c3; have q4 := hQ.c4; have qf := hQ.fr
  have HQ := Lib.hid hQ
  have HB := Lib.hid hB
  clear hS hQ hB
  go_wp2
  refine bodyPost_ret (rc_result Tryd.results19 (HQ.out.setAll _ _ _ _ _) rfl) rfl ?_
  exact ⟨rfl, set5_below HB.out (Nat.le_succ _) _ _ _ _ _⟩
/-- The last sign. -/
def lstP (P : ByteArray) : Nat := if h : 0 < P.size then (P[P.size - 1]'(by omega)).toNat else 0
theorem lstP_of (r : RfS) : lstP (bA r.op) = r.lst.toNat := by
  unfold lstP RfS.lst
  by_cases h : 0 < (bA r.op).size
  · have h' : 0 < r.op.length := by rwa [bA_size] at h
    rw [dif_pos h, List.getLastD_eq_getLast?, List.getLast?_eq_getElem?, List.getElem?_eq_getElem (by omega)]
    have : (bA r.op)[(bA r.op).size - 1]'(by omega) = r.op[r.op.length - 1]'(by omega) := by
      simp only [bA_size]
      rfl
    rw [this]; rfl
  · have h' : r.op = [] := List.eq_nil_of_length_eq_zero (by rw [bA_size] at h; omega)
    rw [dif_neg h, h']; rfl
theorem rflast_any (A P : ByteArray) (k f : Bool) (c : Int) (w : World) (hp : P.size ≤ 32) : Calls Tryd.prog 20 #[rcV A P k f c] w fun e w' => e = .returned (.int .u8 (lstP P : Nat)) ∧ Below w.heap.size w w' := by
  have B0 := Lib.hid (new_blw w (.cells #[.string A, .string P, .bool k, .bool f, .int .i64 c] 28))
  have c1 := (new_rc w A P k f c).c1
  unfold rcV
  by_cases h : 0 < P.size
  · have p1 : P.toList.isEmpty = false := by rw [isEmpty_of]; exact decide_eq_false (by omega)
    obtain ⟨K, hK⟩ : ∃ K, K = P.size - 1 := ⟨_, rfl⟩
    have hKl : K < P.size := by omega
    have HL := Lib.hid (show lstP P = (P[K]'hKl).toNat by unfold lstP; rw [dif_pos h]; simp only [hK])
    have zw : IntKind.i64.wrap ((P.size : Int) - 1) = (K : Int) := by rw [i64_small (by omega) (by omega)]; omega
    have z0 : (0 : Int) ≤ (K : Int) := by omega
    have z1 : (K : Int) < (P.size : Int) := by omega
    clear hK h
    go_enter Tryd.func20, Tryd.ntmps20
    go_wp2
    go_ret
    exact ⟨by rw [HL.out]; rfl, B0.out⟩
  · have HL := Lib.hid (show lstP P = 0 by unfold lstP; rw [dif_neg h])
    have p1 : P.toList.isEmpty = true := by rw [isEmpty_of]; exact decide_eq_true (by omega)
    go_enter Tryd.func20, Tryd.ntmps20
    go_wp2
    go_ret
    exact ⟨by rw [HL.out]; rfl, B0.out⟩
theorem rfcomma_any (A P : ByteArray) (k f : Bool) (c : Int) (w : World) : Calls Tryd.prog 21 #[rcV A P k f c] w fun e w' => e = .returned (.string (if f = true then ⟨#[44]⟩ else ⟨#[]⟩)) ∧ Below w.heap.size w w' := by
  have B0 := Lib.hid (new_blw w (.cells #[.string A, .string P, .bool k, .bool f, .int .i64 c] 28))
  have c3 := (new_rc w A P k f c).c3
  unfold rcV
  cases f
  all_goals (
    go_enter Tryd.func21, Tryd.ntmps21
    go_wp2
    go_ret
    exact ⟨rfl, B0.out⟩)
theorem rfdone_any (r : RfS) (w : World) : Calls Tryd.prog 9 #[rsV r] w fun e w' => e = .returned (.tuple #[.string (bA (rDone r).1), .int .i64 (rDone r).2]) ∧ Below w.heap.size w w' := by
  have HD := Lib.hid (show rDone r = if r.c = 0 then (if r.out = [] ∨ r.op ≠ [] then ([], 1) else (r.out, 0)) else ([], r.c) from rfl)
  generalize rDone r = V at *
  obtain ⟨out, op, kd, af, c⟩ := r
  have N0 := new_rc w (bA out) (bA op) kd af c
  have B0 := Lib.hid (new_blw w (.cells #[.string (bA out), .string (bA op), .bool kd, .bool af, .int .i64 c] 28))
  have c0 := N0.c0; have c1 := N0.c1; have c4 := N0.c4
  have e1 : (bA out).toList.isEmpty = decide (out = []) := by rw [isEmpty_of, bA_size]; simp
  have e2 : (bA op).toList.isEmpty = decide (op = []) := by rw [isEmpty_of, bA_size]; simp
  unfold rsV rcV
  clear N0
  simp only at HD
  by_cases hc : c = 0
  · subst hc
    by_cases h1 : out = []
    · have HV := Lib.hid (show V = ([], 1) by rw [HD.out, if_pos rfl, if_pos (.inl h1)])
      have p1 : (bA out).toList.isEmpty = true := by rw [e1]; exact decide_eq_true h1
      generalize bA out = S at *
      generalize bA op = Q at *
      clear HD h1 e1 e2
      go_enter Tryd.func9, Tryd.ntmps9
      go_wp2
      go_ret2
      exact ⟨by rw [HV.out]; rfl, B0.out⟩
    · have p1 : (bA out).toList.isEmpty = false := by rw [e1]; exact decide_eq_false h1
      by_cases h2 : op = []
      · have HV := Lib.hid (show V = (out, 0) by rw [HD.out, if_pos rfl, if_neg (fun e => e.elim h1 (fun e => e h2))])
        have p2 : (bA op).toList.isEmpty = true := by rw [e2]; exact decide_eq_true h2
        generalize hS : bA out = S at *
        have HS := Lib.hid hS
        generalize bA op = Q at *
        clear HD h1 h2 e1 e2 hS
        go_enter Tryd.func9, Tryd.ntmps9
        go_wp2
        go_ret2
        exact ⟨by rw [HV.out, HS.out]; rfl, B0.out⟩
      · have HV := Lib.hid (show V = ([], 1) by rw [HD.out, if_pos rfl, if_pos (.inr h2)])
        have p2 : (bA op).toList.isEmpty = false := by rw [e2]; exact decide_eq_false h2
        generalize bA out = S at *
        generalize bA op = Q at *
        clear HD h1 h2 e1 e2
        go_enter Tryd.func9, Tryd.ntmps9
        go_wp2
        go_ret2
        exact ⟨by rw [HV.out]; rfl, B0.out⟩
  · have HV := Lib.hid (show V = ([], c) by rw [HD.out, if_neg hc])
    have p1 : (c != 0) = true := bne_iff_ne.mpr hc
    generalize bA out = S at *
    generalize bA op = Q at *
    clear HD hc e1 e2
    go_enter Tryd.func9, Tryd.ntmps9
    go_wp2_with fail
    go_quiet (fail)
    go_wp2
    go_ret2
    exact ⟨by rw [HV.out]; rfl, Below.drewN B0.out _⟩
end Go.Proofs.YtnbhhnkcfbfdcaaDoor
