/- What comes in: a slice of what a writer of Thrift's compact form is told; What the laws of layer 23 begin with: what a writer was told step by step; law 23's example. -/
import Derived.Test.YtmcklfndnjagiaaDoorCwDo
import Derived.Test.YtmcklfndnjagiaaDoorRows
import Derived.ProofKit
import Derived.OpenShut
import Derived.Test.YtmcklfndnjagiaaDoorCwNum
namespace Go.Proofs.YtmcklfndnjagiaaDoor
open Go Go.RowKit
set_option linter.unusedVariables false

section
open Go Go.RowKit Go.ChangeShapes Go.WideShapes Go.WideMaps Go.WideElems
theorem cw_list {α : Type} {Q : Nat → α → Prop} : ∀ n : Nat, (∀ i, i < n → ∃ o, Q i o) → ∃ L : List α, L.length = n ∧ ∀ i (h : i < L.length), Q i L[i]
  | 0, _ => ⟨[], rfl, fun i h => by simp at h⟩
  | n + 1, h => by
    obtain ⟨L, hl, hq⟩ := cw_list n (fun i hi => h i (by omega))
    obtain ⟨o, ho⟩ := h n (by omega)
    refine ⟨L ++ [o], by rw [List.length_append, hl]; rfl, fun i hi => ?_⟩
    by_cases e : i < L.length
    · rw [List.getElem_append_left e]; exact hq i e
    · have : i = n := by rw [List.length_append, List.length_singleton] at hi; omega
      subst this
      rw [List.getElem_append_right (by omega)]
      simp only [hl, Nat.sub_self, List.getElem_cons_zero]; exact ho
theorem cw_zero_at (ad : Addr) : ad.add 0 = ad := by unfold Addr.add; split <;> simp_all
/-- The slice at a, of so many, is what a writer is told. -/
def OIn (w : World) (a : Option Addr) (l : List WO) : Prop :=
  ∀ j (h : j < l.length), ∃ b off, a = some ⟨b, off, none⟩ ∧ b < w.heap.size ∧ w.cell? ⟨b, off + j * 6, none⟩ = some (.int .u8 (l[j].k : Nat)) ∧ w.cell? ⟨b, off + j * 6 + 1, none⟩ = some (.int .i64 l[j].id) ∧ w.cell? ⟨b, off + j * 6 + 2, none⟩ = some (.int .i64 l[j].n) ∧ w.cell? ⟨b, off + j * 6 + 3, none⟩ = some (.int .u8 (l[j].wh : Nat)) ∧ w.cell? ⟨b, off + j * 6 + 4, none⟩ = some (.int .u64 (l[j].bt : Nat)) ∧ w.cell? ⟨b, off + j * 6 + 5, none⟩ = some (.string (bA l[j].tx))
theorem OIn.below {w w' : World} {a : Option Addr} {l : List WO} {N : Nat} (h : OIn w a l) (hb : Below N w w') (hN : w.heap.size ≤ N) : OIn w' a l := fun j hj => by
  obtain ⟨b, off, e, hlt, h0, h1, h2, h3, h4, h5⟩ := h j hj
  have hl : b < N := Nat.lt_of_lt_of_le hlt hN
  exact ⟨b, off, e, Nat.lt_of_lt_of_le hlt hb.size, (hb.cell (p := ⟨b, off + j * 6, none⟩) hl).trans h0, (hb.cell (p := ⟨b, off + j * 6 + 1, none⟩) hl).trans h1, (hb.cell (p := ⟨b, off + j * 6 + 2, none⟩) hl).trans h2, (hb.cell (p := ⟨b, off + j * 6 + 3, none⟩) hl).trans h3, (hb.cell (p := ⟨b, off + j * 6 + 4, none⟩) hl).trans h4, (hb.cell (p := ⟨b, off + j * 6 + 5, none⟩) hl).trans h5⟩
section
variable {H : Type} {enc : TypeId × Value → H} {W : World} {base : Nat} {sp : Nat → Bool} {held : Bool} {d : DataW H} {p : List MemPlace}
set_option maxRecDepth 100000 in
theorem open_wops {a : Option Addr} {len cap : Nat} (h : DataW.Trod enc Tryd.prog W base sp held 22 (.slice a len cap) d p) : ∃ L : List WO, L.length = len ∧ OIn W a L ∧ ∀ o ∈ L, OpOk o := by
  obtain ⟨fuel, hf⟩ := h
  have hc6 : Tryd.prog.cellsOf 32 = 6 := by kernel_rfl
  have c1 : Tryd.prog.cellsOf 3 = 1 := by kernel_rfl
  have c2 : Tryd.prog.cellsOf 9 = 1 := by kernel_rfl
  have c3 : Tryd.prog.cellsOf 30 = 1 := by kernel_rfl
  have c4 : Tryd.prog.cellsOf 5 = 1 := by kernel_rfl
  rcases DataW.trod_slice Tryd.underlying22 hf with ⟨hcs, _⟩ | ⟨ad, l, c, elems, rest, n, _, hcs, hx, _, _, _, hel, hcell, _⟩
  · simp [Value.cells] at hcs
    obtain ⟨rfl, rfl, rfl⟩ := hcs
    exact ⟨[], rfl, fun j h => by simp at h, fun q h => by simp at h⟩
  · simp [Value.cells] at hcs
    obtain ⟨rfl, rfl, rfl⟩ := hcs
    have hone : ∀ i, i < len → ∃ o : WO, W.cell? (ad.add (i * 6)) = some (.int .u8 (o.k : Nat)) ∧ W.cell? ((ad.add (i * 6)).add 1) = some (.int .i64 o.id) ∧ W.cell? ((ad.add (i * 6)).add 2) = some (.int .i64 o.n) ∧ W.cell? ((ad.add (i * 6)).add 3) = some (.int .u8 (o.wh : Nat)) ∧ W.cell? ((ad.add (i * 6)).add 4) = some (.int .u64 (o.bt : Nat)) ∧ W.cell? ((ad.add (i * 6)).add 5) = some (.string (bA o.tx)) ∧ OpOk o := by
      intro i hi
      have h1 := hcell i hi
      rw [hc6, List.getElem?_eq_getElem (by omega)] at h1
      obtain ⟨cs, e1, e2⟩ := Option.bind_eq_some_iff.mp h1
      obtain ⟨_, hlen, hcl⟩ := World.cells?_some e1
      obtain ⟨xs, m, rfl, hy, _, hxn, hfl⟩ := DataW.trod_struct Tryd.underlying32 e2
      have hx6 : xs.length = 6 := hxn
      have g0 := hfl 0 _ rfl
      have g1 := hfl 1 _ rfl
      have g2 := hfl 2 _ rfl
      have g3 := hfl 3 _ rfl
      have g4 := hfl 4 _ rfl
      have g5 := hfl 5 _ rfl
      match cs, hlen, xs, hx6, g0, g1, g2, g3, g4, g5 with
      | [v0, v1, v2, v3, v4, v5], _, [y0, y1, y2, y3, y4, y5], _, g0, g1, g2, g3, g4, g5 =>
        obtain ⟨z0, f0, x0, w0⟩ := DataW.trod_int Tryd.underlying5 g0
        obtain ⟨z1, f1, x1, w1⟩ := DataW.trod_int Tryd.underlying3 g1
        obtain ⟨z2, f2, x2, w2⟩ := DataW.trod_int Tryd.underlying3 g2
        obtain ⟨z3, f3, x3, w3⟩ := DataW.trod_int Tryd.underlying5 g3
        obtain ⟨z4, f4, x4, w4⟩ := DataW.trod_int Tryd.underlying30 g4
        obtain ⟨t5, f5, x5, _⟩ := DataW.trod_string Tryd.underlying9 g5
        have k0 := hcl 0 (by decide)
        have k1 := hcl 1 (by decide)
        have k2 := hcl 2 (by decide)
        have k3 := hcl 3 (by decide)
        have k4 := hcl 4 (by decide)
        have k5 := hcl 5 (by decide)
        have hz0 : 0 ≤ z0 ∧ z0 ≤ 255 := by simpa [Lit.wf, IntKind.min, IntKind.max, IntKind.signed, IntKind.bits] using w0
        have hz2 : -9223372036854775808 ≤ z2 ∧ z2 ≤ 9223372036854775807 := by simpa [Lit.wf, IntKind.min, IntKind.max, IntKind.signed, IntKind.bits] using w2
        have hz3 : 0 ≤ z3 ∧ z3 ≤ 255 := by simpa [Lit.wf, IntKind.min, IntKind.max, IntKind.signed, IntKind.bits] using w3
        have hz4 : 0 ≤ z4 ∧ z4 ≤ 18446744073709551615 := by simpa [Lit.wf, IntKind.min, IntKind.max, IntKind.signed, IntKind.bits] using w4
        have v0e : v0 = .int .u8 z0 := by simpa [c4] using f0
        have v1e : v1 = .int .i64 z1 := by simpa [c1, c4] using f1
        have v2e : v2 = .int .i64 z2 := by simpa [c1, c4] using f2
        have v3e : v3 = .int .u8 z3 := by simpa [c1, c3, c4] using f3
        have v4e : v4 = .int .u64 z4 := by simpa [c1, c2, c3, c4] using f4
        have v5e : v5 = .string t5 := by simpa [c1, c2, c3, c4] using f5
        subst v0e v1e v2e v3e v4e v5e
        refine ⟨⟨z0.toNat, z1, z2, z3.toNat, z4.toNat, t5.data.toList⟩, ?_, by simpa using k1, by simpa using k2, ?_, ?_, ?_, by unfold OpOk; dsimp only; omega⟩
        · rw [cw_zero_at] at k0
          dsimp only
          rw [Int.toNat_of_nonneg hz0.1]; simpa using k0
        · dsimp only
          rw [Int.toNat_of_nonneg hz3.1]; simpa using k3
        · dsimp only
          rw [Int.toNat_of_nonneg hz4.1]; simpa using k4
        · dsimp only
          rw [bA_of]; simpa using k5
    obtain ⟨L, hn, hq⟩ := cw_list len hone
    refine ⟨L, hn, fun j hj => ?_, fun o ho => ?_⟩
    · obtain ⟨b, off, spot⟩ := ad
      obtain ⟨h0, h1, h2, h3, h4, h5, _⟩ := hq j hj
      have hspot : spot = none := by have := World.cell?_spot (hq 0 (by omega)).1; simpa [Addr.add] using this
      subst hspot
      rw [Addr.add_mid] at h0 h1 h2 h3 h4 h5
      rw [Addr.add_mid] at h1 h2 h3 h4 h5
      exact ⟨b, off, rfl, World.block_lt_of_cell? W _ h0, h0, h1, h2, h3, h4, h5⟩
    · obtain ⟨i, hi, rfl⟩ := List.mem_iff_getElem.mp ho
      exact (hq i hi).2.2.2.2.2.2
end
end
theorem vB_le {u : Nat} (h : u < 18446744073709551616) : (vB u).length ≤ 10 := vB_le10 h
theorem cont_le (o : WO) (li : Bool) (ho : OpOk o) (ht : o.tx.length < 18446744073709551616) : (wCont o li).length ≤ 11 + o.tx.length := by
  unfold wCont
  split
  · simp
  split
  · have := lsB_le o.n o.wh; omega
  split
  · split <;> simp
    omega
  split
  · split
    · simp; omega
    · have : 0 ≤ zigI o.n ∧ zigI o.n < 18446744073709551616 := by have := ho.2.1; have := ho.2.2.1; unfold zigI; split <;> omega
      have := vB_le (u := (zigI o.n).toNat) (by omega); omega
  split
  · rw [lowL_length]; omega
  · rw [List.length_append]
    have := vB_le ht; omega
theorem begun_out (s : WT) (o : WO) : (wBegun s o).out = s.out := by
  unfold wBegun
  split
  · rfl
  split <;> rfl
theorem out_do (s : WT) (o : WO) (ho : OpOk o) (ht : o.tx.length < 18446744073709551616) : (wDo s o).out.length ≤ s.out.length + 22 + o.tx.length := by
  unfold wDo
  split
  · omega
  split
  · unfold wEnd
    split
    · show s.out.length ≤ _; omega
    · split
      · show s.out.length ≤ _; omega
      · show (if _ then s.out else s.out ++ [0]).length ≤ _
        split
        · omega
        · rw [List.length_append]; simp; omega
  split
  · show s.out.length ≤ _; omega
  split
  · split
    · show s.out.length ≤ _; omega
    · rw [begun_out]; omega
  · split
    · split
      · show s.out.length ≤ _; omega
      · rw [begun_out]
        show (s.out ++ wCont o true).length ≤ _
        rw [List.length_append]
        have := cont_le o true ho ht; omega
    · split
      · show s.out.length ≤ _; omega
      · rw [begun_out]
        show (s.out ++ (hdB _ _ _ ++ wCont o false)).length ≤ _
        rw [List.length_append, List.length_append]
        have := cont_le o false ho ht
        rename_i p ps _ _ _
        have := hdB_le p.last o.id (oKd o); omega
theorem ok_do {M : Nat} {s : WT} (h : OkW M s) (o : WO) (ho : OpOk o) (ht : o.tx.length < 18446744073709551616) : OkW (M + 22 + o.tx.length) (wDo s o) := by
  intro he
  have h0 : s.er = 0 := by
    by_cases e : s.er = 0
    · exact e
    · rw [wDo_er e] at he; exact absurd he e
  obtain ⟨h1, h2, h3⟩ := h h0
  obtain ⟨a1, a2⟩ := wf_do (s := s) (fun _ => ⟨h1, h2⟩) (o := o) ho.2.2.2.1 he
  have := out_do s o ho ht
  exact ⟨a1, a2, by omega⟩
theorem ok_wf {M : Nat} {s : WT} (h : OkW M s) : WfW s := fun he => ⟨(h he).1, (h he).2.1⟩
/-- What was told so far, and one more. -/
theorem all_take (l : List WO) (j : Nat) (hj : j < l.length) : wAll (l.take (j + 1)) = wDo (wAll (l.take j)) l[j] := by
  unfold wAll
  rw [List.take_succ_eq_append_getElem hj, List.foldl_append]; rfl
theorem all_ok (l : List WO) (hn : ∀ o ∈ l, OpOk o) : ∀ j, j ≤ l.length → (∀ i (h : i < j) (h2 : i < l.length), (l[i]'h2).tx.length ≤ 200) → OkW (j * 222) (wAll (l.take j))
  | 0, _, _ => fun _ => ⟨fun p hp => by simp [wAll] at hp, by simp [wAll], by simp [wAll]⟩
  | j + 1, hj, ht => by
    have ih := all_ok l hn j (by omega) (fun i h h2 => ht i (by omega) h2)
    have hjl : j < l.length := by omega
    rw [all_take l j hjl]
    have htx := ht j (by omega) hjl
    have := ok_do ih l[j] (hn _ (List.getElem_mem hjl)) (by omega)
    intro he
    obtain ⟨a1, a2, a3⟩ := this he
    exact ⟨a1, a2, by omega⟩
theorem pdo_of (s : WT) (M : Nat) (h : OkW M s) (o : WO) (ho : OpOk o) (ht : o.tx.length < 18446744073709551616) : OkW (M + 22 + o.tx.length) (pDo s o) := by
  by_cases he : s.er = 0
  · exact ok_rel (ok_do h o ho ht) (pDo_same he (ok_wf h) o)
  · rw [pDo_er he]
    exact fun e => absurd e he
def w0s : WT := ⟨[], [], 0⟩
def w1s : WT := pDo w0s ⟨123, 0, 0, 0, 0, []⟩
def w2s : WT := pDo w1s ⟨110, 1, 5, 6, 0, []⟩
def w3s : WT := pDo w2s ⟨91, 2, 1, 1, 0, []⟩
def w4s : WT := pDo w3s ⟨102, 0, 1, 0, 0, []⟩
def w5s : WT := pDo w4s ⟨101, 0, 0, 0, 0, []⟩
def w6s : WT := pDo w5s ⟨101, 0, 0, 0, 0, []⟩
def w7s : WT := pDo w6s ⟨115, 1, 0, 0, 0, [97]⟩
theorem d5s : doneW w5s = ([], 1) := by decide +kernel
theorem d6s : doneW w6s = ([22, 10, 25, 17, 1, 0], 0) := by decide +kernel
theorem d7s : doneW w7s = ([], 12) := by decide +kernel
theorem o0s : OkW 0 w0s := fun _ => ⟨fun p hp => by simp [w0s] at hp, by simp [w0s], by simp [w0s]⟩
theorem o1s : OkW 22 w1s := pdo_of _ _ o0s _ (by unfold OpOk; decide) (by decide)
theorem o2s : OkW 44 w2s := pdo_of _ _ o1s _ (by unfold OpOk; decide) (by decide)
theorem o3s : OkW 66 w3s := pdo_of _ _ o2s _ (by unfold OpOk; decide) (by decide)
theorem o4s : OkW 88 w4s := pdo_of _ _ o3s _ (by unfold OpOk; decide) (by decide)
theorem o5s : OkW 110 w5s := pdo_of _ _ o4s _ (by unfold OpOk; decide) (by decide)
theorem o6s : OkW 132 w6s := pdo_of _ _ o5s _ (by unfold OpOk; decide) (by decide)
theorem Kb {b B : Nat} {w w1 : World} {vb vh vb' vh' : Value} {s : WT} (k : Ky b w w1 vb vh vb' vh') (h : WrE B b w vb vh s) : Below B w w1 := (k.kt h).below h.hB
set_option maxRecDepth 20000 in
set_option maxHeartbeats 1000000 in
theorem works23_any (w : World) (ht : Tab w) : Calls Tryd.prog 6 #[] w fun e w' => e = .returned (.bool true) ∧ Below w.heap.size w w' := by
  have HT := Lib.hid (show ∀ w', Below w.heap.size w w' → Tab w' from fun w' hb => ht.below hb ht.lt)
  have HN := Lib.hid (cwnew_any w)
  have H1 := Lib.hid (fun w1 vb vh (h : WrE w.heap.size w.heap.size w1 vb vh w0s) => cwstruct_any h o0s (by decide) 0)
  have H2 := Lib.hid (fun w1 vb vh (h : WrE w.heap.size w.heap.size w1 vb vh w1s) => cwwhole_any h o1s (by decide) 1 6 (by decide) 5 (by decide))
  have H3 := Lib.hid (fun w1 vb vh (h : WrE w.heap.size w.heap.size w1 vb vh w2s) => cwlist_any h o2s (by decide) 2 1 1)
  have H4 := Lib.hid (fun w1 vb vh (h : WrE w.heap.size w.heap.size w1 vb vh w3s) => cwflag_is h o3s (by decide) 0 true 1 rfl)
  have H5 := Lib.hid (fun w1 vb vh (h : WrE w.heap.size w.heap.size w1 vb vh w4s) => cwend_any h o4s (by decide))
  have H6 := Lib.hid (fun w1 vb vh (h : WrE w.heap.size w.heap.size w1 vb vh w5s) => cwdone_any h)
  have H7 := Lib.hid (fun w1 vb vh (h : WrE w.heap.size w.heap.size w1 vb vh w5s) => cwend_any h o5s (by decide))
  have H8 := Lib.hid (fun w1 vb vh (h : WrE w.heap.size w.heap.size w1 vb vh w6s) => cwdone_any h)
  have H9 := Lib.hid (fun w1 vb vh (h : WrE w.heap.size w.heap.size w1 vb vh w6s) => cwtext_any h o6s 1 ⟨#[97]⟩ (by decide))
  have H10 := Lib.hid (fun w1 vb vh (h : WrE w.heap.size w.heap.size w1 vb vh w7s) => cwdone_any h)
  have H11 := Lib.hid (fun w (t : Tab w) => cwdouble_nil w 1 0 (by decide) t)
  have H12 := Lib.hid (fun w => cwdone_nil w)
  rw [d5s] at H6
  rw [d6s] at H8
  rw [d7s] at H10
  rw [show strW w0s 0 = w1s from rfl] at H1
  rw [show whoW w1s 1 6 5 = w2s from rfl] at H2
  rw [show lstW w2s 2 1 1 = w3s from rfl] at H3
  rw [show flgW w3s 0 1 = w4s from rfl] at H4
  rw [show endW w4s = w5s from rfl] at H5
  rw [show endW w5s = w6s from rfl] at H7
  rw [show txtW w6s 1 (⟨#[97]⟩ : ByteArray).data.toList = w7s from rfl] at H9
  have H0 : (⟨[], [], 0⟩ : WT) = w0s := rfl
  rw [H0] at HN
  have T1 : (bA [22, 10, 25, 17, 1, 0]) = ⟨#[22, 10, 25, 17, 1, 0]⟩ := rfl
  have T2 : (bA []) = ⟨#[]⟩ := rfl
  simp only [T1, T2] at H6 H8 H10
  generalize w0s = s0 at *
  generalize w1s = s1 at *
  generalize w2s = s2 at *
  generalize w3s = s3 at *
  generalize w4s = s4 at *
  generalize w5s = s5 at *
  generalize w6s = s6 at *
  generalize w7s = s7 at *
  clear ht H0 T1 T2
  go_enter Tryd.func6, Tryd.ntmps6
  go_wp2_with fail
  refine HN.out.mono ?_
  rintro e u0 ⟨rfl, ⟨vb, vh, h0⟩, b0⟩
  have A0 := Lib.hid (And.intro h0 b0)
  clear h0 b0
  go_wp2_with fail
  refine (H1.out _ _ _ A0.out.1).mono ?_
  rintro e u1 ⟨rfl, vb1, vh1, h1, k1⟩
  have A1 := Lib.hid (And.intro h1 (A0.out.2.trans (Kb k1 A0.out.1)))
  clear h1 k1
  go_wp2_with fail
  refine (H2.out _ _ _ A1.out.1).mono ?_
  rintro e u2 ⟨rfl, vb2, vh2, h2, k2⟩
  have A2 := Lib.hid (And.intro h2 (A1.out.2.trans (Kb k2 A1.out.1)))
  clear h2 k2
  go_wp2_with fail
  refine (H3.out _ _ _ A2.out.1).mono ?_
  rintro e u3 ⟨rfl, vb3, vh3, h3, k3⟩
  have A3 := Lib.hid (And.intro h3 (A2.out.2.trans (Kb k3 A2.out.1)))
  clear h3 k3
  go_wp2_with fail
  refine (H4.out _ _ _ A3.out.1).mono ?_
  rintro e u4 ⟨rfl, vb4, vh4, h4, k4⟩
  have A4 := Lib.hid (And.intro h4 (A3.out.2.trans (Kb k4 A3.out.1)))
  clear h4 k4
  go_wp2_with fail
  refine (H5.out _ _ _ A4.out.1).mono ?_
  rintro e u5 ⟨rfl, vb5, vh5, h5, k5⟩
  have A5 := Lib.hid (And.intro h5 (A4.out.2.trans (Kb k5 A4.out.1)))
  clear h5 k5
  go_wp2_with fail
  refine (H6.out _ _ _ A5.out.1).mono ?_
  rintro e u6 ⟨rfl, b6⟩
  have A6 := Lib.hid (And.intro (A5.out.1.next b6) (grown_then A5.out.2 b6))
  clear b6
  go_wp2_with fail
  refine (H7.out _ _ _ A6.out.1).mono ?_
  rintro e u7 ⟨rfl, vb7, vh7, h7, k7⟩
  have A7 := Lib.hid (And.intro h7 (A6.out.2.trans (Kb k7 A6.out.1)))
  clear h7 k7
  go_wp2_with fail
  refine (H8.out _ _ _ A7.out.1).mono ?_
  rintro e u8 ⟨rfl, b8⟩
  have A8 := Lib.hid (And.intro (A7.out.1.next b8) (grown_then A7.out.2 b8))
  clear b8
  go_wp2_with fail
  refine (H9.out _ _ _ A8.out.1).mono ?_
  rintro e u9 ⟨rfl, vb9, vh9, h9, k9⟩
  have A9 := Lib.hid (And.intro h9 (A8.out.2.trans (Kb k9 A8.out.1)))
  clear h9 k9
  go_wp2_with fail
  refine (H10.out _ _ _ A9.out.1).mono ?_
  rintro e u10 ⟨rfl, b10⟩
  have A10 := Lib.hid (And.intro (A9.out.1.next b10) (grown_then A9.out.2 b10))
  clear b10
  go_wp2_with fail
  refine (H11.out _ (HT.out _ A10.out.2)).mono ?_
  rintro e u11 ⟨rfl, b11⟩
  have B11 := Lib.hid (grown_then A10.out.2 b11)
  clear b11
  go_wp2_with fail
  refine (H12.out _).mono ?_
  rintro e u12 ⟨rfl, b12⟩
  have B12 := Lib.hid (grown_then B11.out b12)
  clear b12
  go_wp2
  go_ret
  exact ⟨rfl, B12.out⟩
end Go.Proofs.YtmcklfndnjagiaaDoor
