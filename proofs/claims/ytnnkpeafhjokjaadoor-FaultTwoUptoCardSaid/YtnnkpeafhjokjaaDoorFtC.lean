/- Package fault's Text; the document's Text. -/
import Derived.Test.YtnnkpeafhjokjaaDoorFtB
import Derived.Test.YtnnkpeafhjokjaaDoorBld
import Derived.Test.YtnnkpeafhjokjaaDoorDPut
import Derived.Test.YtnnkpeafhjokjaaDoorDRefA
namespace Go.Proofs.YtnnkpeafhjokjaaDoor
open Go Go.RowKit
set_option linter.unusedVariables false

/-- The parts, a colon and a blank behind each; the text of a fault. -/
def fpre (ps : List ByteArray) : List UInt8 := ps.flatMap fun p => p.data.toList ++ [58, 32]
def ftx (c : Int) (ps : List ByteArray) : List UInt8 := fpre ps ++ Lib.itoa c
theorem fpre_append (ps qs : List ByteArray) : fpre (ps ++ qs) = fpre ps ++ fpre qs := List.flatMap_append
theorem fpre_take (ps : List ByteArray) (k : Nat) (hk : k < ps.length) : fpre (ps.take (k + 1)) = fpre (ps.take k) ++ ps[k].data.toList ++ [58, 32] := by
  rw [List.take_succ_eq_append_getElem hk, fpre_append]
  simp [fpre]
theorem fpre_le (ps : List ByteArray) (k : Nat) : (fpre (ps.take k)).length ≤ (fpre ps).length := by
  have h := fpre_append (ps.take k) (ps.drop k)
  rw [List.take_append_drop] at h
  rw [h, List.length_append]; omega
theorem strCells_eq (s : ByteArray) : Lib.strCells s = Lib.byteCells s.data.toList := rfl
theorem byteCells_app (l m : List UInt8) : Lib.byteCells l ++ Lib.byteCells m = Lib.byteCells (l ++ m) := by simp [Lib.byteCells]
theorem byteCells_bV (l : List UInt8) : Lib.byteCells l = bV l := rfl
theorem itoa_ne (c : Int) : Lib.itoa c ≠ [] := by
  unfold Lib.itoa
  split
  · simp
  · intro h
    have := congrArg List.length h
    have h2 := Lib.decDigits_length c.toNat
    rw [show Lib.decDigits c.toNat = [] from h] at h2
    have h3 : 1 ≤ Lib.nDigits c.toNat := by unfold Lib.nDigits; split <;> omega
    simp at h2; omega

theorem BldAt.below {B b : Nat} {p : Value} {bs : List Value} {w w' : World} (h : BldAt B b p bs w) (hb : Below w.heap.size w w') : BldAt B b p bs w' := by
  obtain ⟨hB, v, hbk, hown, hne⟩ := h
  refine ⟨hB, v, (hb.block b (lt_of_block hbk)).trans hbk, ?_, hne⟩
  refine World.ownsRow.kept (row := none) hown ⟨hb.os, hb.tape, hb.output, hb.size, fun k hk _ => hb.block k hk⟩ ?_
  cases v.ownBlock <;> simp
theorem IsBld.below {B b : Nat} {bs : List Value} {w w' : World} (h : IsBld B b bs w) (hb : Below w.heap.size w w') : IsBld B b bs w' :=
  h.elim (fun x => .inl (BldAt.below x hb)) (fun x => .inr (BldAt.below x hb))
theorem IsBld.lt {B b : Nat} {bs : List Value} {w : World} (h : IsBld B b bs w) : b < w.heap.size := h.elim (fun x => x.lt) (fun x => x.lt)
theorem SBts.kept {w w' : World} {B b : Nat} {v : Value} {l : List ByteArray} (h : SBts w B v l) (ho : Lib.OthersKept 5 (some b) w w') (hb : b < B) : SBts w' B v l := by
  obtain ⟨hl, h⟩ := h
  refine ⟨hl, ?_⟩
  rcases h with h | ⟨g, cap, cur, h1, h2, h3, h4⟩
  · exact .inl h
  · refine .inr ⟨g, cap, cur, h1, h2, ho g _ h3 (fun e => ?_) (fun c fz e => ?_), h4⟩
    · have := Option.some.inj e; omega
    · simp only [Obj.cells.injEq] at e
      exact absurd e.2.1 (by decide)
theorem SBts.inn' {w : World} {B n : Nat} {a : Option Addr} {cap : Nat} {l : List ByteArray} (h : SBts w B (.slice a n cap) l) : SIn w a l := by
  obtain ⟨a', cap', e, hi⟩ := h.inn
  simp only [Value.slice.injEq] at e
  rw [e.1]; exact hi

theorem ftext_nil (w : World) : Calls Tryd.prog 10 #[.nilIface] w fun e w' => e = .returned (.string ⟨#[]⟩) ∧ w' = w := by
  go_enter Tryd.func10, Tryd.ntmps10
  go_wp2
  go_ret
  exact ⟨rfl, rfl⟩
def FTextRel (ps : List ByteArray) (v : Value) (w : World) (i : Value) (wr : World) : Prop :=
  ∃ k : Nat, k ≤ ps.length ∧ i = .int .i64 k ∧ IsBld w.heap.size w.heap.size (Lib.byteCells (fpre (ps.take k))) wr ∧ SBts wr (w.heap.size + 1) v ps ∧ Below w.heap.size w wr
set_option maxRecDepth 100000 in
set_option maxHeartbeats 2000000 in
theorem ftext_any (c : Int) (ps : List ByteArray) (w : World) (h0 : -9223372036854775808 ≤ c) (h1 : c ≤ 9223372036854775807) (hg : ErrT w) (hp : P10 w) (hps : ps.length ≤ 1000000) (hlen : (fpre ps).length ≤ 100000000000000) :
    Calls Tryd.prog 10 #[eV c ps] w fun e w' => e = .returned (.string (bA (ftx c ps))) ∧ Below w.heap.size w w' := by
  obtain ⟨W, hW⟩ : ∃ W, W = w.alloc (.cells #[.pointer none, .slice none 0 0] 51) := ⟨_, rfl⟩
  have hb : Below w.heap.size w W := by rw [hW]; exact (Below.refl _ _).alloc (Nat.le_refl _) _
  have hWs : W.heap.size = w.heap.size + 1 := by rw [hW]; simp
  have hbl : IsBld w.heap.size w.heap.size [] W := by rw [hW]; exact Lib.fresh_isBuilder _ _ w
  have HPa := Lib.hid (fpath_any c ps W (hg.below hb) hps)
  have HB := Lib.hid hb
  have HW := Lib.hid hW
  have HG := Lib.hid hg
  have HP := Lib.hid hp
  have HS := Lib.hid hWs
  have HI := Lib.hid hbl
  have HL := Lib.hid hlen
  have HC := Lib.hid (And.intro h0 h1)
  have n := eql_nil_right
  obtain ⟨ti, vi, hti⟩ := eV_iface c ps
  have HOf := Lib.hid (fof_any c ps)
  rw [hti] at HPa HOf
  rw [hti]
  clear hg hp hb hW hWs hbl hlen hti h0 h1
  go_enter Tryd.func10, Tryd.ntmps10
  go_wp2_with fail
  rw [← HW.out]
  refine HPa.out.mono ?_
  rintro r w1 ⟨v, rfl, hv, hb1⟩
  obtain ⟨a, cap, rfl, _⟩ := hv.inn
  have HV1 := Lib.hid hv
  have HB1 := Lib.hid hb1
  clear hv hb1
  go_wp2
  go_loopw [5, 11] (fun x i wr => FTextRel ps (.slice a ps.length cap) w i wr) (fun _ i _ => ps.length - (intOf i).toNat)
  case atStart => exact ⟨0, Nat.zero_le _, rfl, by rw [List.take_zero]; exact HI.out.below HB1.out, HV1.out.base (by have := HS.out; omega), HB.out.trans (HB1.out.mono (by have := HS.out; omega))⟩
  case round =>
    obtain ⟨k, hk, rfl, hbd, hsb, hbe⟩ := hrel
    by_cases hlt : k < ps.length
    · obtain ⟨g, off, ha, hgl, hc⟩ := hsb.inn' k hlt
      subst ha
      have HK := Lib.hid (fpre_take ps k hlt)
      have HKl := Lib.hid (fpre_le ps (k + 1))
      have hl1 := congrArg List.length HK.out
      rw [List.length_append, List.length_append, toList_size] at hl1
      have hl2 := HKl.out
      have hl3 := HL.out
      have hlt' : k < ps.length := hlt
      generalize hP : ps[k] = P at *
      have p1 : decide ((k : Int) < (ps.length : Int)) = true := decide_eq_true (by omega)
      have i0 : (0 : Int) ≤ (k : Int) := by omega
      have i1 : (k : Int) < (ps.length : Int) := by omega
      have wk : IntKind.i64.wrap ((k : Int) + 1) = (k : Int) + 1 := i64_small (by omega) (by omega)
      have H1 := Lib.hid (bws_any w.heap.size w.heap.size (Lib.byteCells (fpre (ps.take k))) P wr hbd (by rw [Lib.byteCells_length]; simp at hl1; omega) hbe.size)
      have H2 := Lib.hid (fun w2 (hb2 : IsBld w.heap.size w.heap.size (Lib.byteCells (fpre (ps.take k)) ++ Lib.strCells P) w2) (hbe2 : w.heap.size ≤ w2.heap.size) => bws_any w.heap.size w.heap.size (Lib.byteCells (fpre (ps.take k)) ++ Lib.strCells P) ⟨#[58, 32]⟩ w2 hb2 (by rw [List.length_append, Lib.byteCells_length, Lib.strCells_length, show (⟨#[58, 32]⟩ : ByteArray).size = 2 from rfl]; rw [show ([58, 32] : List UInt8).length = 2 from rfl] at hl1; omega) hbe2)
      have HR := Lib.hid (show ∀ w3, BldAt w.heap.size w.heap.size (.pointer (some ⟨w.heap.size, 0, none⟩)) (Lib.byteCells (fpre (ps.take k)) ++ Lib.strCells P ++ Lib.strCells ⟨#[58, 32]⟩) w3 → IsBld w.heap.size w.heap.size (Lib.byteCells (fpre (ps.take (k + 1)))) w3 from fun w3 h3 => .inr (by
        rw [HK.out, Lib.byteCells_append, Lib.byteCells_append]; exact h3))
      have HSB := Lib.hid hsb
      have HBE := Lib.hid hbe
      clear hl1 hl2 hl3 hlt hlt' hP hsb hbe hbd
      go_wp2_with fail
      refine H1.out.mono ?_
      rintro r w2 ⟨rfl, hb2, hbe2, hk2⟩
      have HS2 := Lib.hid (HBE.out.trans hbe2)
      have HK2 := Lib.hid (HSB.out.kept hk2 (Nat.lt_succ_self _))
      have HB2 := Lib.hid hb2
      clear hb2 hbe2 hk2
      go_wp2_with fail
      refine (H2.out w2 (.inr HB2.out) HS2.out.size).mono ?_
      rintro r w3 ⟨rfl, hb3, hbe3, hk3⟩
      have HS3 := Lib.hid (HS2.out.trans hbe3)
      have HK3 := Lib.hid (HK2.out.kept hk3 (Nat.lt_succ_self _))
      have HB3 := Lib.hid (HR.out w3 hb3)
      clear hb3 hbe3 hk3
      go_wp2
      go_roundw
      case rel => exact ⟨k + 1, by omega, by go_num, HB3.out, HK3.out, HS3.out⟩
      case measure => simp [intOf]; omega
    · have hke : k = ps.length := by omega
      subst hke
      have p1 : decide ((ps.length : Int) < (ps.length : Int)) = false := by simp
      rw [List.take_length] at hbd
      have HBD := Lib.hid hbd
      have HBE := Lib.hid hbe
      clear hlt hbd hsb hbe
      go_wp2_with fail
      refine (HOf.out wr (HG.out.below HBE.out)).mono ?_
      rintro r w2 ⟨rfl, hb2⟩
      have HB2 := Lib.hid hb2
      clear hb2
      go_wp2_with fail
      refine (dput_any none 0 [] c w2 HC.out.1 HC.out.2 (by simp) (fun j hj => by simp at hj) ((HP.out.below HBE.out).below HB2.out)).mono ?_
      rintro r w3 ⟨v, rfl, hv, hb3⟩
      rw [List.nil_append] at hv
      obtain ⟨g, cp, cur, hvv, hgs, hgb, hgc⟩ : ∃ g cp cur, v = .slice (some ⟨g, 0, none⟩) (Lib.itoa c).length cp ∧ w2.heap.size ≤ g ∧ w3.heap[g]? = some (.cells cur 5 (0, 0)) ∧ True := by
        rcases hv.2 with ⟨_, hn⟩ | ⟨g, cp, cur, h1, h2, h3, _⟩
        · exact absurd (List.eq_nil_of_length_eq_zero hn) (itoa_ne c)
        · exact ⟨g, cp, cur, h1, h2, h3, trivial⟩
      subst hvv
      have hcells : ∀ j u, (Lib.byteCells (Lib.itoa c))[j]? = some u → w3.cell? ⟨g, j, none⟩ = some u := fun j u hj => by
        have hjl : j < (Lib.itoa c).length := by
          have := (List.getElem?_eq_some_iff.1 hj).1
          rwa [Lib.byteCells_length] at this
        rw [World.ownsRow.cellAt hv j (by omega)]; exact hj
      have hbd3 := (HBD.out.below HB2.out).below hb3
      have hlt3 := HBD.out.lt
      have HW2 := Lib.hid (bw_any w.heap.size w.heap.size g cp (Lib.byteCells (fpre ps)) (Lib.byteCells (Lib.itoa c)) w3 hbd3 (by have := HB2.out.size; omega) (lt_of_block hgb) hcells (bV_one _) (by rw [Lib.byteCells_length, Lib.byteCells_length]; have := HL.out; have := itoa_len c HC.out.1 HC.out.2; omega) (by have := HB2.out.size; have := hb3.size; have := HBE.out.size; omega))
      rw [Lib.byteCells_length] at HW2
      have HBW := Lib.hid (HBE.out.trans ((HB2.out.mono HBE.out.size).trans (hb3.mono (Nat.le_trans HBE.out.size HB2.out.size))))
      clear hv hgs hgb hgc hcells hbd3 hlt3 hb3
      go_wp2_with fail
      refine HW2.out.mono ?_
      rintro r w4 ⟨rfl, hb4, hbe4, _⟩
      have HS4 := Lib.hid (bstr_any w.heap.size w.heap.size (ftx c ps) w4 (.inr (by rw [ftx, Lib.byteCells_append]; exact hb4)) (fun h => itoa_ne c (List.append_eq_nil_iff.mp h).2))
      have HE4 := Lib.hid (HBW.out.trans hbe4)
      clear hb4 hbe4
      go_wp2_with fail
      refine HS4.out.mono ?_
      rintro r w5 ⟨rfl, hb5⟩
      go_wp2
      go_ret
      exact ⟨rfl, HE4.out.trans hb5⟩
end Go.Proofs.YtnnkpeafhjokjaaDoor
