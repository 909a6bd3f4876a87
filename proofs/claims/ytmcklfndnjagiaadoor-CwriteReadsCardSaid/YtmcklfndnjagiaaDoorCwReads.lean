/- CwriteReads, walked. -/
import Derived.Test.YtmcklfndnjagiaaDoorCwLaw
import Derived.Test.YtmcklfndnjagiaaDoorCrD
namespace Go.Proofs.YtmcklfndnjagiaaDoor
open Go Go.RowKit
set_option linter.unusedVariables false

theorem done_rel {p d : WT} (h : RelW p d) : doneW p = doneW d := by
  by_cases hd : d.er = 0
  · rw [h.2 hd]
  · unfold doneW
    rw [h.1, if_pos hd, if_pos hd]
theorem cwr_long (a : Option Addr) (cap : Nat) (l : List WO) (w : World) (h : 60 < l.length) (ht : Tab w) :
    Calls Tryd.prog 4 #[.slice a l.length cap] w fun e w' => e = .returned (.bool true) ∧ Below w.heap.size w w' := by
  have p1 : decide (60 < (l.length : Int)) = true := decide_eq_true (by omega)
  have p2 : decide (60 < l.length) = true := decide_eq_true h
  have HX := Lib.hid (works23_any w ht)
  clear ht h
  go_enter Tryd.func4, Tryd.ntmps4
  go_wp2_with fail
  refine HX.out.mono ?_
  rintro e w2 ⟨rfl, hb⟩
  go_wp2
  go_ret
  exact ⟨rfl, hb⟩
theorem cut_front (v r : List UInt8) : (bA (v ++ r)).extract v.length (bA (v ++ r)).size = bA r := by
  apply ByteArray.ext
  apply Array.toList_inj.mp
  rw [sub_list, bA_size, List.length_append, Nat.add_sub_cancel_left]
  simp [bA]
/-- The writer behind the first j of what it is told. -/
def CdRel (W : World) (l : List WO) (i : Value) (wr : World) : Prop :=
  ∃ j : Nat, j ≤ l.length ∧ i = .int .i64 (j : Nat) ∧ (∀ i (h : i < j) (h2 : i < l.length), (l[i]'h2).tx.length ≤ 200) ∧ (∃ vb vh s, WrE W.heap.size W.heap.size wr vb vh s ∧ RelW s (wAll (l.take j))) ∧ Below W.heap.size W wr
def CeRel (W : World) (L : List (List UInt8)) (s i : Value) (wr : World) : Prop :=
  ∃ j : Nat, j ≤ L.length ∧ i = .int .i64 (j : Nat) ∧ s = .string (bA (L.drop j).flatten) ∧ Below W.heap.size W wr
theorem OIn.at {w : World} {g off : Nat} {L : List WO} (h : OIn w (some ⟨g, off, none⟩) L) (j : Nat) (hj : j < L.length) : w.cell? ⟨g, off + j * 6, none⟩ = some (.int .u8 (L[j].k : Nat)) ∧ w.cell? ⟨g, off + j * 6 + 1, none⟩ = some (.int .i64 L[j].id) ∧ w.cell? ⟨g, off + j * 6 + 2, none⟩ = some (.int .i64 L[j].n) ∧ w.cell? ⟨g, off + j * 6 + 3, none⟩ = some (.int .u8 (L[j].wh : Nat)) ∧ w.cell? ⟨g, off + j * 6 + 4, none⟩ = some (.int .u64 (L[j].bt : Nat)) ∧ w.cell? ⟨g, off + j * 6 + 5, none⟩ = some (.string (bA L[j].tx)) := by
  obtain ⟨g', off', e, _, h0, h1, h2, h3, h4, h5⟩ := h j hj
  simp only [Option.some.injEq, Addr.mk.injEq, and_true] at e
  obtain ⟨rfl, rfl⟩ := e
  exact ⟨h0, h1, h2, h3, h4, h5⟩
theorem done_two (s : WT) : (∃ c, ¬ c = 0 ∧ doneW s = ([], c)) ∨ (s.er = 0 ∧ s.l = [] ∧ doneW s = (s.out, 0)) := by
  unfold doneW
  by_cases he : s.er = 0
  · rw [if_neg (fun e => e he)]
    by_cases hl : s.l = []
    · rw [if_pos hl]; exact .inr ⟨he, hl, rfl⟩
    · rw [if_neg hl]; exact .inl ⟨1, by decide, rfl⟩
  · rw [if_pos he]; exact .inl ⟨_, he, rfl⟩
set_option maxRecDepth 100000 in
set_option maxHeartbeats 4000000 in
theorem cwr_short (a : Option Addr) (cap : Nat) (l : List WO) (w : World) (h : l.length ≤ 60) (hin : OIn w a l) (hn : ∀ o ∈ l, OpOk o) (ht : Tab w) :
    Calls Tryd.prog 4 #[.slice a l.length cap] w fun e w' => e = .returned (.bool true) ∧ Below w.heap.size w w' := by
  have p1 : decide (60 < (l.length : Int)) = false := decide_eq_false (by omega)
  have p2 : decide (60 < l.length) = false := decide_eq_false (by omega)
  have HT := Lib.hid (show ∀ w', Below w.heap.size w w' → Tab w' from fun w' hb => ht.below hb ht.lt)
  have HIN := Lib.hid (show ∀ w', Below w.heap.size w w' → OIn w' a l from fun w' hb => hin.below hb (Nat.le_refl _))
  have HN := Lib.hid hn
  have HNW := Lib.hid (cwnew_any w)
  have HL := Lib.hid h
  clear h hin hn ht
  go_enter Tryd.func4, Tryd.ntmps4
  go_wp2_with fail
  refine HNW.out.mono ?_
  rintro e w1 ⟨rfl, ⟨vb1, vh1, hw1⟩, hb1⟩
  have R0 := Lib.hid (And.intro hw1 hb1)
  clear hw1 hb1
  go_wp2_with fail
  go_loopw [4] (fun i wr => CdRel w l i wr) (fun i _ => l.length - (intOf i).toNat)
  case atStart => exact ⟨0, Nat.zero_le _, rfl, fun i h _ => by omega, ⟨_, _, _, R0.out.1, RelW.refl _⟩, R0.out.2⟩
  case round =>
    clear R0 HNW
    obtain ⟨j, hj, rfl, htx, ⟨vb, vh, s, hw, hrl⟩, hbel⟩ := hrel
    have hdok := all_ok l HN.out j hj htx
    have hl60 := HL.out
    by_cases hlt : j < l.length
    · have q1 : decide (j < l.length) = true := decide_eq_true hlt
      have q2 : (j : Int) < (l.length : Int) := by omega
      have q3 : (0 : Int) ≤ (j : Int) := by omega
      obtain ⟨g, off, rfl, hg, m0, m1, m2, m3, m4, m5⟩ := HIN.out wr hbel j hlt
      have ho := HN.out _ (List.getElem_mem hlt)
      have hz : (bA l[j].tx).size = l[j].tx.length := bA_size _
      by_cases hlong : 200 < l[j].tx.length
      · have r1 : decide ((200 : Int) < ((bA l[j].tx).size : Int)) = true := decide_eq_true (by omega)
        have r2 : decide (200 < (bA l[j].tx).size) = true := decide_eq_true (by omega)
        have HX := Lib.hid (works23_any wr (HT.out wr hbel))
        have HB := Lib.hid hbel
        generalize bA l[j].tx = T at *
        generalize l[j] = o at *
        clear hz hlong ho hw hrl hdok htx hbel
        go_wp2_with fail
        refine HX.out.mono ?_
        rintro e w2 ⟨rfl, hb⟩
        have B2 := Lib.hid (grown_then HB.out hb)
        clear hb
        go_wp2
        go_ret
        exact ⟨rfl, B2.out⟩
      · have r1 : decide ((200 : Int) < ((bA l[j].tx).size : Int)) = false := decide_eq_false (by omega)
        have r2 : decide (200 < (bA l[j].tx).size) = false := decide_eq_false (by omega)
        have HD := Lib.hid (cwdo_any hw (ok_rel hdok hrl) l[j] ho (by omega) (fun w' hb => HT.out w' (hbel.trans hb)))
        have HNX := Lib.hid (fun (w' : World) vb' vh' (h : WrE w.heap.size w.heap.size w' vb' vh' (pDo s l[j])) (k : Ky w.heap.size wr w' vb vh vb' vh') => (show CdRel w l (.int .i64 ((j + 1 : Nat) : Int)) w' from
          ⟨j + 1, hlt, rfl, fun i hi h2 => by
            by_cases e : i = j
            · subst e; omega
            · exact htx i (by omega) h2, ⟨_, _, _, h, by rw [all_take l j hlt]; exact pDo_rel hrl (ok_wf hdok) _⟩, hbel.trans (Kb k hw)⟩))
        unfold opV opC at HD
        generalize bA l[j].tx = T at *
        generalize pDo s l[j] = s' at *
        generalize l[j] = o at *
        clear hz hlong ho hw hrl hdok htx hbel
        go_wp2_with fail
        refine HD.out.mono ?_
        rintro e w2 ⟨rfl, vb2, vh2, h2, k2⟩
        have R2 := Lib.hid (HNX.out w2 vb2 vh2 h2 k2)
        clear h2 k2 HD HNX
        go_wp2_with fail
        go_roundw
        case rel =>
          obtain ⟨j1, h1, h2, h3⟩ := R2.out
          exact ⟨j1, h1, by rw [← h2]; go_num, h3⟩
        case measure => simp [intOf]; omega
    · have q1 : decide (j < l.length) = false := decide_eq_false hlt
      have q2 : ¬ (j : Int) < (l.length : Int) := by omega
      have hjl : j = l.length := by omega
      have htk : l.take j = l := List.take_of_length_le (by omega)
      rw [htk] at hrl hdok
      have HD := Lib.hid (cwdone_any hw)
      rw [done_rel hrl] at HD
      have HB := Lib.hid hbel
      have htl : ∀ o ∈ l, wOk o := fun o ho => by
        obtain ⟨i, hi, rfl⟩ := List.mem_iff_getElem.mp ho
        have h1 := htx i (by omega) hi
        have h2 := HN.out _ ho
        exact ⟨by omega, h2.2.1, h2.2.2.1⟩
      rcases done_two (wAll l) with ⟨c, hc, hV⟩ | ⟨he, hll, hV⟩
      · rw [hV] at HD
        have p3 : (c != 0) = true := bne_iff_ne.mpr hc
        have HX := Lib.hid (fun w2 (hb : Below wr.heap.size wr w2) => works23_any w2 (HT.out w2 (grown_then HB.out hb)))
        have T2 : (bA []) = ⟨#[]⟩ := rfl
        simp only [T2] at HD
        clear htl hc hV hw hrl hdok htx hbel T2
        go_wp2_with fail
        refine HD.out.mono ?_
        rintro e w2 ⟨rfl, hb2⟩
        have X2 := Lib.hid (HX.out w2 hb2)
        have B2 := Lib.hid (grown_then HB.out hb2)
        clear hb2
        go_wp2_with fail
        refine X2.out.mono ?_
        rintro e w3 ⟨rfl, hb3⟩
        have B3 := Lib.hid (grown_then B2.out hb3)
        clear hb3
        go_wp2
        go_ret
        exact ⟨rfl, B3.out⟩
      · obtain ⟨L, hL1, hL2, hL3⟩ := wj_tops l htl he hll
        have hout := (hdok he).2.2
        rw [hV, hL1] at HD
        have HL3 := Lib.hid hL3
        have hflat : L.flatten.length ≤ 1099511627776 := by rw [← hL1]; omega
        have HFL := Lib.hid hflat
        have HL2 := Lib.hid hL2
        clear hL1 hL2 hL3 hout he hll hV hw hrl hdok htx htl hbel hflat
        go_wp2_with fail
        refine HD.out.mono ?_
        rintro e w2 ⟨rfl, hb2⟩
        have B2 := Lib.hid (grown_then HB.out hb2)
        clear hb2 HB HD
        go_wp2_with fail
        go_loopw [5, 7] (fun s i wr => CeRel w L s i wr) (fun _ i _ => l.length - (intOf i).toNat)
        case atStart => exact ⟨0, Nat.zero_le _, rfl, rfl, B2.out⟩
        case round =>
          clear B2
          obtain ⟨i, hi, rfl, rfl, hbel⟩ := hrel
          have hll := HL2.out
          by_cases hil : i < L.length
          · have q1 : decide (i < l.length) = true := decide_eq_true (by omega)
            have q1' : (i : Int) < (l.length : Int) := by omega
            obtain ⟨v, hv⟩ : ∃ v, v = L[i] := ⟨_, rfl⟩
            have hdr : (L.drop i).flatten = v ++ (L.drop (i + 1)).flatten := by rw [hv, List.drop_eq_getElem_cons hil, List.flatten_cons]
            have hle : (L.drop i).flatten.length ≤ L.flatten.length := by
              have : L.flatten = (L.take i).flatten ++ (L.drop i).flatten := by rw [← List.flatten_append, List.take_append_drop]
              rw [this, List.length_append]; omega
            have hfl := HFL.out
            obtain ⟨t1, t2, t3⟩ := top_read (r := (L.drop (i + 1)).flatten) (HL3.out v (by rw [hv]; exact List.getElem_mem hil)) (by rw [← hdr]; omega)
            rw [← hdr] at t1 t2
            obtain ⟨T, hT⟩ : ∃ T, T = bA (L.drop i).flatten := ⟨_, rfl⟩
            have hTz : T.size = v.length + (L.drop (i + 1)).flatten.length := by rw [hT, bA_size, hdr, List.length_append]
            have hNX : T.extract v.length T.size = bA (L.drop (i + 1)).flatten := by
              rw [hT, hdr]; exact cut_front _ _
            have hTl : T.size ≤ 1099511627776 := by rw [hT, bA_size]; omega
            have HS := Lib.hid (struct_any T 0 wr hTl (by omega) (HT.out wr hbel))
            rw [← hT] at t1 t2 ⊢
            rw [t1, t2] at HS
            have HNX := Lib.hid (fun w' (hb : Below w.heap.size w w') => (show CeRel w L (.string (T.extract v.length T.size)) (.int .i64 ((i + 1 : Nat) : Int)) w' from ⟨i + 1, hil, rfl, by rw [hNX], hb⟩))
            have e1 : T.toList.isEmpty = false := by rw [isEmpty_of]; exact decide_eq_false (by omega)
            have e2 : decide ((v.length : Int) < 1) = false := decide_eq_false (by omega)
            have e3 : decide ((T.size : Int) < (v.length : Int)) = false := decide_eq_false (by omega)
            have e3' : decide (T.size < v.length) = false := decide_eq_false (by omega)
            have e4 : (0 : Int) ≤ (v.length : Int) := by omega
            have e5 : (v.length : Int) ≤ (T.size : Int) := by omega
            have e6 : v.length ≤ T.size := by omega
            have HB := Lib.hid hbel
            clear hT hdr hle hfl hNX t1 t2 t3 hv hTl hbel hTz
            generalize v.length = n at *
            go_wp2_with fail
            refine HS.out.mono ?_
            rintro e w3 ⟨v3, rfl, -, hb3⟩
            have R3 := Lib.hid (HNX.out w3 (grown_then HB.out hb3))
            clear hb3 HS HNX
            go_wp2_with fail
            go_roundw
            case rel =>
              obtain ⟨j1, h1, h2, h3⟩ := R3.out
              exact ⟨j1, h1, by rw [← h2]; go_num, h3⟩
            case measure => simp [intOf]; omega
          · have hd : (L.drop i).flatten = [] := by rw [List.drop_eq_nil_of_le (by omega)]; rfl
            rw [hd]
            have T2 : (bA []) = ⟨#[]⟩ := rfl
            rw [T2]
            have HX := Lib.hid (works23_any wr (HT.out wr hbel))
            have HB := Lib.hid hbel
            clear hbel T2 hd
            by_cases hin : i < l.length
            · have q1 : decide (i < l.length) = true := decide_eq_true (by omega)
              have q1' : (i : Int) < (l.length : Int) := by omega
              go_wp2_with fail
              refine HX.out.mono ?_
              rintro e w3 ⟨rfl, hb3⟩
              have B3 := Lib.hid (grown_then HB.out hb3)
              clear hb3
              go_wp2
              go_ret
              exact ⟨rfl, B3.out⟩
            · have q1 : decide (i < l.length) = false := decide_eq_false (by omega)
              have q1' : ¬ (i : Int) < (l.length : Int) := by omega
              go_wp2_with fail
              refine HX.out.mono ?_
              rintro e w3 ⟨rfl, hb3⟩
              have B3 := Lib.hid (grown_then HB.out hb3)
              clear hb3
              go_wp2
              go_ret
              exact ⟨rfl, B3.out⟩
theorem cwr_law (a : Option Addr) (cap : Nat) (l : List WO) (w : World) (hin : OIn w a l) (hn : ∀ o ∈ l, OpOk o) (ht : Tab w) :
    Calls Tryd.prog 4 #[.slice a l.length cap] w fun e w' => e = .returned (.bool true) ∧ Below w.heap.size w w' := by
  by_cases h : 60 < l.length
  · exact cwr_long a cap l w h ht
  · exact cwr_short a cap l w (by omega) hin hn ht
end Go.Proofs.YtmcklfndnjagiaaDoor
