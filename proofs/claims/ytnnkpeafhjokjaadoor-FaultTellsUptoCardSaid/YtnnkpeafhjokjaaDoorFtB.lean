/- Package fault's Path; Class, the document's Class; the law's made. -/
import Derived.Test.YtnnkpeafhjokjaaDoorFtA
namespace Go.Proofs.YtnnkpeafhjokjaaDoor
open Go Go.RowKit
set_option linter.unusedVariables false

theorem eV_one (c : Int) (ps : List ByteArray) : (eV c ps).oneCell' = true := by cases ps <;> rfl
theorem fpath_nil (w : World) : Calls Tryd.prog 8 #[.nilIface] w fun e w' => e = .returned (.slice none 0 0) ∧ Below w.heap.size w w' := by
  have hb := Lib.hid (show Below w.heap.size w (w.alloc (.cells #[.string ⟨#[]⟩, .nilIface] 42)) from (Below.refl _ _).alloc (Nat.le_refl _) _)
  go_enter Tryd.func8, Tryd.ntmps8
  go_wp2
  refine wp_loop_rounds 1 ?_
  rw [rounds_succ]
  go_wp2_with (go_at_call 17; refine (as_nil _ _).mono ?_; rintro r w1 ⟨rfl, hw⟩; rw [hw]; clear hw)
  go_ret
  exact ⟨rfl, hb.out⟩
/-- Path's loop: the parts that were met are in the list, the error within them is left. -/
def PathRel (c : Int) (ps : List ByteArray) (w : World) (e v : Value) (wr : World) : Prop :=
  ∃ ms qs p d, ps = ms ++ qs ∧ e = eV c qs ∧ SBts wr (w.heap.size + 1) v ms ∧ WithAt wr w.heap.size p d ∧ Below w.heap.size w wr
set_option maxRecDepth 100000 in
set_option maxHeartbeats 1000000 in
theorem fpath_any (c : Int) (ps : List ByteArray) (w : World) (hg : ErrT w) (hps : ps.length ≤ 1000000) :
    Calls Tryd.prog 8 #[eV c ps] w fun e w' => ∃ v, e = .returned v ∧ SBts w' (w.heap.size + 1) v ps ∧ Below w.heap.size w w' := by
  obtain ⟨W, hW⟩ : ∃ W, W = w.alloc (.cells #[.string ⟨#[]⟩, .nilIface] 42) := ⟨_, rfl⟩
  have hb : Below w.heap.size w W := by rw [hW]; exact (Below.refl _ _).alloc (Nat.le_refl _) _
  have hwith : WithAt W w.heap.size ⟨#[]⟩ .nilIface := by rw [hW]; exact heap_alloc_new w _
  have HB := Lib.hid hb
  have HW := Lib.hid hW
  have HG := Lib.hid hg
  clear hg hb hW
  go_enter Tryd.func8, Tryd.ntmps8
  go_wp2
  rw [← HW.out]
  go_loopw [0, 3] (fun e v wr => PathRel c ps w e v wr) (fun e _ _ => SizeOf.sizeOf e)
  case atStart => exact ⟨[], ps, _, _, rfl, rfl, sbts_nil _ _, hwith, HB.out⟩
  case round =>
    obtain ⟨ms, qs, p, d, rfl, rfl, hv, hwi, hbe⟩ := hrel
    have hgr := HG.out.below hbe
    have hlt := hwi.lt
    cases qs with
    | nil =>
      have HA := Lib.hid (as_miss c w.heap.size wr hgr)
      have HR := Lib.hid (show ∀ w1, Below wr.heap.size wr w1 → SBts w1 (w.heap.size + 1) u3 (ms ++ []) ∧ Below w.heap.size w w1 from fun w1 h1 => ⟨by rw [List.append_nil]; exact hv.below h1 (Nat.le_refl _), hbe.trans (h1.mono hbe.size)⟩)
      clear hbe hgr hv hwi hlt hwith
      rw [eV_nil]
      go_wp2_with (go_at_call 17; refine HA.out.mono ?_; rintro r w1 ⟨rfl, h1⟩)
      go_ret
      exact ⟨_, rfl, HR.out _ h1⟩
    | cons q qs =>
      have HA := Lib.hid (as_hit q p (eV c qs) d (eV_one c qs) w.heap.size wr hgr hwi)
      have hsz := Lib.hid (eW_size q (eV c qs))
      have HV := Lib.hid hv
      have HE := Lib.hid hbe
      have HL := Lib.hid hps
      clear hbe hgr hv hwi hwith hps
      rw [eV_cons]
      go_wp2_with fail
      refine HA.out.mono ?_
      rintro r w1 ⟨rfl, h1, h2⟩
      have c0 := h1.at0
      have c1 := h1.at1
      have hv1 := Lib.hid (HV.out.only h2 (Nat.lt_succ_self _))
      have hs1 : w.heap.size + 1 ≤ w1.heap.size := h1.lt
      have hb1 := Lib.hid (HE.out.trans (h2.below (Nat.le_refl _) HE.out.size))
      have HS1 := Lib.hid h1
      have HS2 := Lib.hid hs1
      clear h1 h2 hs1
      go_wp2_with (at_builtin; go_loud (refine wpList_append_str rfl (.tmp 8) (.tmp 11) rfl _ w1 (w.heap.size + 1) ms hv1.out HS2.out rfl q rfl (by have := HL.out; rw [List.length_append] at this; omega) ?_; intro v' w2 hv' hb'; have c1' : w2.cell? ⟨w.heap.size, 1, none⟩ = some (eV c qs) := (hb'.cell (p := ⟨w.heap.size, 1, none⟩) (Nat.lt_succ_self _)).trans c1))
      go_roundw
      case rel => exact ⟨ms ++ [q], qs, q, eV c qs, by simp, rfl, hv', HS1.out.below hb' (Nat.lt_succ_self _), hb1.out.trans (hb'.mono (Nat.le_succ _))⟩
      case measure => exact hsz.out

/-- A code's class, by the number. -/
def clsI (c : Int) : Int := if c = 0 then 0 else if c = 16 then 3 else if 32 ≤ c ∧ c ≤ 36 then 2 else 1
theorem fclass_any (c : Int) (w : World) : Calls Tryd.prog 13 #[.int .i64 c] w fun e w' => e = .returned (.int .i64 (clsI c)) ∧ w' = w := by
  by_cases h0 : c = 0
  · subst h0
    go_enter Tryd.func13, Tryd.ntmps13
    go_wp2
    go_ret
    exact ⟨rfl, rfl⟩
  · by_cases h1 : c = 16
    · subst h1
      go_enter Tryd.func13, Tryd.ntmps13
      go_wp2
      go_ret
      exact ⟨rfl, rfl⟩
    · have p0 : (c == 0) = false := by simp [h0]
      have p1 : (c == 16) = false := by simp [h1]
      by_cases h2 : 32 ≤ c
      · have p2 : decide (32 ≤ c) = true := decide_eq_true h2
        by_cases h3 : c ≤ 36
        · have p3 : decide (c ≤ 36) = true := decide_eq_true h3
          have HR := Lib.hid (show clsI c = 2 by unfold clsI; rw [if_neg h0, if_neg h1, if_pos ⟨h2, h3⟩])
          clear h0 h1 h2 h3
          go_enter Tryd.func13, Tryd.ntmps13
          go_wp2
          go_ret
          exact ⟨by rw [HR.out]; rfl, rfl⟩
        · have p3 : decide (c ≤ 36) = false := decide_eq_false h3
          have HR := Lib.hid (show clsI c = 1 by unfold clsI; rw [if_neg h0, if_neg h1, if_neg (fun h => h3 h.2)])
          clear h0 h1 h2 h3
          go_enter Tryd.func13, Tryd.ntmps13
          go_wp2
          go_ret
          exact ⟨by rw [HR.out]; rfl, rfl⟩
      · have p2 : decide (32 ≤ c) = false := decide_eq_false h2
        have HR := Lib.hid (show clsI c = 1 by unfold clsI; rw [if_neg h0, if_neg h1, if_neg (fun h => h2 h.1)])
        clear h0 h1 h2
        go_enter Tryd.func13, Tryd.ntmps13
        go_wp2
        go_ret
        exact ⟨by rw [HR.out]; rfl, rfl⟩
theorem rclass_any (c : Int) (w : World) : Calls Tryd.prog 14 #[.int .i64 c] w fun e w' => e = .returned (.int .i64 (clsI c)) ∧ w' = w := by
  by_cases h0 : c = 0
  · subst h0
    go_enter Tryd.func14, Tryd.ntmps14
    go_wp2
    go_ret
    exact ⟨rfl, rfl⟩
  · have p0 : (c == 0) = false := by simp [h0]
    by_cases h1 : c = 16
    · subst h1
      go_enter Tryd.func14, Tryd.ntmps14
      go_wp2
      go_ret
      exact ⟨rfl, rfl⟩
    · have p1 : (c == 16) = false := by simp [h1]
      by_cases h2 : 32 ≤ c
      · have p2 : decide (32 ≤ c) = true := decide_eq_true h2
        by_cases h3 : c ≤ 36
        · have p3 : decide (c ≤ 36) = true := decide_eq_true h3
          have HR := Lib.hid (show clsI c = 2 by unfold clsI; rw [if_neg h0, if_neg h1, if_pos ⟨h2, h3⟩])
          clear h0 h1 h2 h3
          go_enter Tryd.func14, Tryd.ntmps14
          go_wp2
          go_ret
          exact ⟨by rw [HR.out]; rfl, rfl⟩
        · have p3 : decide (c ≤ 36) = false := decide_eq_false h3
          have HR := Lib.hid (show clsI c = 1 by unfold clsI; rw [if_neg h0, if_neg h1, if_neg (fun h => h3 h.2)])
          clear h0 h1 h2 h3
          go_enter Tryd.func14, Tryd.ntmps14
          go_wp2
          go_ret
          exact ⟨by rw [HR.out]; rfl, rfl⟩
      · have p2 : decide (32 ≤ c) = false := decide_eq_false h2
        have HR := Lib.hid (show clsI c = 1 by unfold clsI; rw [if_neg h0, if_neg h1, if_neg (fun h => h2 h.1)])
        clear h0 h1 h2
        go_enter Tryd.func14, Tryd.ntmps14
        go_wp2
        go_ret
        exact ⟨by rw [HR.out]; rfl, rfl⟩

/-- The law's made: nil of OK, else the fault. -/
def mkV (c : Int) (ps : List ByteArray) : Value := if c = 0 then .nilIface else eV c ps
def MadeRel (c : Int) (ps : List ByteArray) (w : World) (e i : Value) (wr : World) : Prop :=
  ∃ k : Nat, k ≤ ps.length ∧ i = .int .i64 ((k : Int) - 1) ∧ e = mkV c (ps.drop k) ∧ wr = w
theorem fin_mk (c : Int) (p : ByteArray) (ps : List ByteArray) (w : World) : Calls Tryd.prog 15 #[.string p, mkV c ps] w fun e w' => e = .returned (mkV c (p :: ps)) ∧ w' = w := by
  unfold mkV
  split
  · exact fin_nil p w
  · exact fin_any p c ps w
theorem fnew_mk (c : Int) (w : World) : Calls Tryd.prog 16 #[.int .i64 c] w fun e w' => e = .returned (mkV c []) ∧ w' = w := by
  unfold mkV
  split
  · next h => subst h; exact fnew_ok w
  · next h => exact fnew_any c h w
theorem made_any (c : Int) (a : Option Addr) (cap : Nat) (ps : List ByteArray) (w : World) (hin : SIn w a ps) (hps : ps.length ≤ 1000000) :
    Calls Tryd.prog 7 #[.int .i64 c, .slice a ps.length cap] w fun e w' => e = .returned (mkV c ps) ∧ w' = w := by
  have HN := Lib.hid (fnew_mk c w)
  have w1 : IntKind.i64.wrap ((ps.length : Int) - 1) = (ps.length : Int) - 1 := i64_small (by omega) (by omega)
  have HS := Lib.hid hin
  clear hin
  go_enter Tryd.func7, Tryd.ntmps7
  go_wp2_with (go_at_call 16; refine HN.out.mono ?_; rintro r w1 ⟨rfl, hw⟩; rw [hw]; clear hw)
  go_loopw [5, 6] (fun e i wr => MadeRel c ps w e i wr) (fun _ i _ => (intOf i + 1).toNat)
  case atStart => exact ⟨ps.length, Nat.le_refl _, rfl, by rw [List.drop_length], rfl⟩
  case round =>
    obtain ⟨k, hk, rfl, rfl, rfl⟩ := hrel
    by_cases h0 : k = 0
    · subst h0
      have p1 : decide ((0 : Int) ≤ ((0 : Nat) : Int) - 1) = false := by decide
      rw [List.drop_zero]
      go_wp2
      go_ret
      exact ⟨rfl, rfl⟩
    · obtain ⟨m, rfl⟩ : ∃ m, k = m + 1 := ⟨k - 1, by omega⟩
      have hm : m < ps.length := by omega
      obtain ⟨b, off, rfl, hbl, hc⟩ := HS.out m hm
      have HI := Lib.hid (fin_mk c ps[m] (ps.drop (m + 1)) wr)
      have e1 : ((m + 1 : Nat) : Int) - 1 = (m : Int) := by omega
      have p1 : decide ((0 : Int) ≤ (m : Int)) = true := decide_eq_true (by omega)
      have p2 : (0 : Int) ≤ (m : Int) := by omega
      have p3 : (m : Int) < (ps.length : Int) := by omega
      have w2 : IntKind.i64.wrap ((m : Int) - 1) = (m : Int) - 1 := i64_small (by omega) (by omega)
      have HD := Lib.hid (show ps.drop m = ps[m] :: ps.drop (m + 1) from List.drop_eq_getElem_cons hm)
      rw [e1]
      generalize ps[m] = P at *
      generalize mkV c (ps.drop (m + 1)) = E at *
      go_wp2_with (go_at_call 15; refine HI.out.mono ?_; rintro r w1 ⟨rfl, hw⟩; rw [hw]; clear hw)
      go_roundw
      case rel => exact ⟨m, by omega, rfl, by rw [HD.out], rfl⟩
      case measure => simp [intOf]
end Go.Proofs.YtnnkpeafhjokjaaDoor
