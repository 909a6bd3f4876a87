/- Package cwrite: New, Struct, List, End, Flag, Whole, Double, Text, Done; a nil writer; Package cwrite: End, Flag, Whole, Done, New; a nil writer; Package cwrite: Whole, Done, New; a nil writer; Law 23's 'do': a writer is told an op. -/
import Derived.Test.YtmcklfndnjagiaaDoorCwB
import Derived.Test.YtmcklfndnjagiaaDoorLayC
import Derived.Test.YtmcklfndnjagiaaDoorFoldB
namespace Go.Proofs.YtmcklfndnjagiaaDoor
open Go Go.RowKit
set_option linter.unusedVariables false

theorem sl_one (w : World) (b : UInt8) {z : Int} (hz : z = (b.toNat : Int)) : SlB (w.alloc (.cells #[.int .u8 z] 5)) (.slice (some ⟨w.heap.size, 0, none⟩) 1 1) [b] := by
  subst hz
  refine ⟨_, 1, rfl, Nat.le_refl _, fun j hj => ⟨w.heap.size, 0, rfl, by simp, ?_⟩⟩
  have h0 : j = 0 := by simpa using hj
  subst h0
  rw [cell_of_row _ _ _ _ _ _ (heap_alloc_new w _)]; rfl
theorem new_grow (w : World) (o : Obj) : Below w.heap.size w (w.alloc o) := (Below.refl _ w).alloc (Nat.le_refl _) _
section
variable {B b : Nat} {w : World} {vb vh : Value} {s : WT}
theorem cwstruct_any {M : Nat} (h : WrE B b w vb vh s) (hw : OkW M s) (hM : M ≤ 140737488355200) (id : Int) :
    Calls Tryd.prog 13 #[.pointer (some ⟨b, 0, none⟩), .int .i64 id] w fun e w' => e = .returned (.tuple #[]) ∧ ∃ vb' vh', WrE B b w' vb' vh' (strW s id) ∧ Ky b w w' vb vh vb' vh' := by
  have HR := Lib.hid (cwroom_any h)
  have HE := Lib.hid (fun w1 (h1 : WrE B b w1 vb vh (roomW s)) => cwenter_any h1 (ok_room hw) (by omega) id 12 (by decide) (K := 12) rfl)
  have HB := Lib.hid (fun w1 vb1 (h1 : WrE B b w1 vb1 vh (entW (roomW s) id 12)) => cwbegin_any h1 ⟨false, 0, 0, 0⟩ (fun he => by have := (ok_ent (ok_room hw) id 12 he).2.1; omega))
  have HX := Lib.hid (show strW s id = begW (entW (roomW s) id 12) ⟨false, 0, 0, 0⟩ from rfl)
  clear h hw hM
  unfold hpV at HB
  go_enter Tryd.func13, Tryd.ntmps13
  go_wp2_with fail
  refine HR.out.mono ?_
  rintro e w1 ⟨rfl, h1, k1⟩
  have H1 := Lib.hid h1
  have K1 := Lib.hid k1
  clear h1 k1
  go_wp2_with fail
  refine (HE.out w1 H1.out).mono ?_
  rintro e w2 ⟨rfl, vb2, h2, k2⟩
  have H2 := Lib.hid h2
  have K2 := Lib.hid (K1.out.trans k2)
  clear h2 k2
  go_wp2_with fail
  refine (HB.out w2 vb2 H2.out).mono ?_
  rintro e w3 ⟨rfl, vh3, h3, k3⟩
  have H3 := Lib.hid h3
  have K3 := Lib.hid (K2.out.trans k3)
  clear h3 k3
  go_wp2
  go_end0
  exact ⟨rfl, _, _, by rw [HX.out]; exact H3.out, K3.out⟩
theorem cwlist_any {M : Nat} (h : WrE B b w vb vh s) (hw : OkW M s) (hM : M ≤ 140737488355200) (id n : Int) (k : Nat) :
    Calls Tryd.prog 19 #[.pointer (some ⟨b, 0, none⟩), .int .i64 id, .int .i64 n, .int .u8 (k : Nat)] w fun e w' => e = .returned (.tuple #[]) ∧ ∃ vb' vh', WrE B b w' vb' vh' (lstW s id n k) ∧ Ky b w w' vb vh vb' vh' := by
  have HR := Lib.hid (cwroom_any h)
  obtain ⟨x, hx⟩ : ∃ x, x = decide (0 < (lsB n k).length) := ⟨_, rfl⟩
  have HP := Lib.hid (fun w => putl_any (sl_nil w) (by simp) n k)
  have HW := Lib.hid (fun w1 (h1 : WrE B b w1 vb vh (roomW s)) => cwwant_any h1 x 4)
  have HE := Lib.hid (fun w1 (h1 : WrE B b w1 vb vh (wantW (roomW s) x 4)) => cwenter_any h1 (ok_want (ok_room hw) x (by decide)) (by omega) id 9 (by decide) (K := 9) rfl)
  have hlen := Lib.hid (fun he => (ok_ent (ok_want (ok_room hw) x (c := 4) (by decide)) id 9 he).2.2)
  have hL := lsB_le n k
  have HB := Lib.hid (fun w1 vb1 (h1 : WrE B b w1 vb1 vh (layW (entW (wantW (roomW s) x 4) id 9) (lsB n k))) => cwbegin_any h1 ⟨true, 0, n, k⟩ (fun he => by have := (ok_lay (ok_ent (ok_want (ok_room hw) x (by decide)) id 9) (lsB n k) he).2.1; omega))
  have HX := Lib.hid (show lstW s id n k = begW (layW (entW (wantW (roomW s) x 4) id 9) (lsB n k)) ⟨true, 0, n, k⟩ by rw [hx]; rfl)
  clear h hw
  generalize lsB n k = L at *
  unfold hpV at HB
  go_enter Tryd.func19, Tryd.ntmps19
  go_wp2_with fail
  refine HR.out.mono ?_
  rintro e w1 ⟨rfl, h1, k1⟩
  have H1 := Lib.hid h1
  have K1 := Lib.hid k1
  clear h1 k1
  go_wp2_with fail
  with_reducible refine (HP.out _).mono ?_
  rintro e w2 ⟨v2, rfl, hv2, hb2⟩
  rw [List.nil_append] at hv2
  have hsl := hv2.slB
  obtain ⟨a2, c2, rfl, hc2, hi2⟩ := hsl
  have p1 : decide (0 < (L.length : Int)) = x := by rw [hx]; apply decide_eq_decide.mpr; omega
  have p2 : decide (0 < L.length) = x := hx.symm
  have H2 := Lib.hid (H1.out.next hb2)
  have K2 := Lib.hid (K1.out.trans (Ky.of_below hb2))
  have HA := Lib.hid (And.intro hv2 (H1.out.apart (Nat.le_refl _) hv2))
  clear hv2 hc2 hi2 hx hb2
  go_wp2_with fail
  refine (HW.out _ H2.out).mono ?_
  rintro e w3 ⟨rfl, h3, k3⟩
  have H3 := Lib.hid h3
  have K3 := Lib.hid (K2.out.trans k3)
  have HA3 := Lib.hid (And.intro (k3.bts HA.out.2 HA.out.1) (k3.apart HA.out.2))
  clear h3 k3
  go_wp2_with fail
  refine (HE.out _ H3.out).mono ?_
  rintro e w4 ⟨rfl, vb4, h4, k4⟩
  have HY := Lib.hid (cwlay_any h4 _ L (k4.bts HA3.out.2 HA3.out.1).slB (fun he => by have := hlen.out he; omega))
  have K4 := Lib.hid (K3.out.trans k4)
  clear h4 k4
  go_wp2_with fail
  with_reducible refine HY.out.mono ?_
  rintro e w5 ⟨rfl, vb5, h5, k5⟩
  have H5 := Lib.hid h5
  have K5 := Lib.hid (K4.out.trans k5)
  clear h5 k5
  go_wp2_with fail
  refine (HB.out _ vb5 H5.out).mono ?_
  rintro e w6 ⟨rfl, vh6, h6, k6⟩
  have H6 := Lib.hid h6
  have K6 := Lib.hid (K5.out.trans k6)
  clear h6 k6
  go_wp2
  go_end0
  exact ⟨rfl, _, _, by rw [HX.out]; exact H6.out, K6.out⟩
theorem cwdouble_any {M : Nat} (h : WrE B b w vb vh s) (hw : OkW M s) (hM : M ≤ 140737488355200) (id : Int) (u : Nat) (hu : u < 18446744073709551616) (ht : ∀ w', Below B w w' → Tab w') :
    Calls Tryd.prog 15 #[.pointer (some ⟨b, 0, none⟩), .int .i64 id, .int .u64 (u : Nat)] w fun e w' => e = .returned (.tuple #[]) ∧ ∃ vb' vh', WrE B b w' vb' vh' (dblW s id u) ∧ Ky b w w' vb vh vb' vh' := by
  have HE := Lib.hid (cwenter_any h hw (by omega) id 7 (by decide) (K := 7) rfl)
  have HT := Lib.hid (fun w1 vb1 (k : Ky b w w1 vb vh vb1 vh) => ht w1 ((k.kt h).below h.hB))
  have HP := Lib.hid (fun w (t : Tab w) => low64_any none 0 [] u w (by simp) hu (fun j hj => by simp at hj) t)
  have hlen := Lib.hid (fun he => (ok_ent hw id 7 he).2.2)
  have HX := Lib.hid (show dblW s id u = layW (entW s id 7) (lowL u 8) from rfl)
  have hL : (lowL u 8).length = 8 := lowL_length 8 u
  clear h hw ht hu
  generalize lowL u 8 = L at *
  go_enter Tryd.func15, Tryd.ntmps15
  go_wp2_with fail
  refine HE.out.mono ?_
  rintro e w1 ⟨rfl, vb1, h1, k1⟩
  have T1 := Lib.hid (HT.out _ _ k1)
  have H1 := Lib.hid h1
  have K1 := Lib.hid k1
  clear h1 k1
  go_wp2_with fail
  refine (HP.out _ T1.out).mono ?_
  rintro e w2 ⟨v2, rfl, hv2, hb2⟩
  rw [List.nil_append] at hv2
  have HY := Lib.hid (cwlay_any (H1.out.next hb2) _ L hv2.slB (fun he => by have := hlen.out he; omega))
  have K2 := Lib.hid (K1.out.trans (Ky.of_below hb2))
  clear hv2 hb2
  go_wp2_with fail
  with_reducible refine HY.out.mono ?_
  rintro e w3 ⟨rfl, vb3, h3, k3⟩
  have H3 := Lib.hid h3
  have K3 := Lib.hid (K2.out.trans k3)
  clear h3 k3
  go_wp2
  go_end0
  exact ⟨rfl, _, _, by rw [HX.out]; exact H3.out, K3.out⟩
set_option maxRecDepth 20000 in
theorem cwtext_any {M : Nat} (h : WrE B b w vb vh s) (hw : OkW M s) (id : Int) (t : ByteArray) (hM : M + t.size ≤ 140737488355200) :
    Calls Tryd.prog 16 #[.pointer (some ⟨b, 0, none⟩), .int .i64 id, .string t] w fun e w' => e = .returned (.tuple #[]) ∧ ∃ vb' vh', WrE B b w' vb' vh' (txtW s id t.data.toList) ∧ Ky b w w' vb vh vb' vh' := by
  have HE := Lib.hid (cwenter_any h hw (by omega) id 8 (by decide) (K := 8) rfl)
  have HP := Lib.hid (fun w => vput_sl (sl_nil w) t.size (by omega) (by simp))
  have hlen := Lib.hid (fun he => (ok_ent hw id 8 he).2.2)
  have hlen2 := Lib.hid (fun he => (ok_lay (ok_ent hw id 8) (vB t.size) he).2.2)
  have HX := Lib.hid (show txtW s id t.data.toList = layW (layW (entW s id 8) (vB t.size)) t.data.toList by unfold txtW; rw [toList_size])
  have hL : (vB t.size).length ≤ 10 := vB_le10 (by omega)
  have zt : IntKind.u64.wrap (t.size : Int) = (t.size : Int) := IntWalk.u64_in _ (by omega)
  have hcv := Lib.hid (fun (w : World) => Lib.run_convert_string_bytes (P := Tryd.prog) w 9 52 5 t Tryd.underlying9 Tryd.underlying52 Tryd.underlying5)
  have htl : t.data.toList.length = t.size := toList_size t
  clear h hw
  generalize vB t.size = L at *
  go_enter Tryd.func16, Tryd.ntmps16
  go_wp2_with fail
  refine HE.out.mono ?_
  rintro e w1 ⟨rfl, vb1, h1, k1⟩
  have H1 := Lib.hid h1
  have K1 := Lib.hid k1
  clear h1 k1
  go_wp2_with fail
  refine (HP.out _).mono ?_
  rintro e w2 ⟨v2, rfl, hv2, hb2⟩
  rw [List.nil_append] at hv2
  have HY := Lib.hid (cwlay_any (H1.out.next hb2) _ L hv2.slB (fun he => by have := hlen.out he; omega))
  have K2 := Lib.hid (K1.out.trans (Ky.of_below hb2))
  clear hv2 hb2
  go_wp2_with fail
  with_reducible refine HY.out.mono ?_
  rintro e w3 ⟨rfl, vb3, h3, k3⟩
  have HZ := Lib.hid (cwlay_any (h3.next (bytes_below w3 5 t)) (.slice (some ⟨w3.heap.size, 0, none⟩) t.size (grownCap w3 t.size 0 5)) t.data.toList ⟨_, _, by rw [toList_size], by rw [toList_size]; exact grownCap_ge w3 t.size 0 _, bytes_in w3 5 t⟩ (fun he => by have := hlen2.out he; omega))
  have K3 := Lib.hid ((K2.out.trans k3).trans (Ky.of_below (bytes_below w3 5 t)))
  clear h3 k3
  go_wp2_with fail
  rw [hcv.out]
  go_wp2_with fail
  with_reducible refine HZ.out.mono ?_
  rintro e w4 ⟨rfl, vb4, h4, k4⟩
  have H4 := Lib.hid h4
  have K4 := Lib.hid (K3.out.trans k4)
  clear h4 k4
  go_wp2
  go_end0
  exact ⟨rfl, _, _, by rw [HX.out]; exact H4.out, K4.out⟩
end
section
variable {B b : Nat} {w : World} {vb vh : Value} {s : WT}
theorem cwinner_top {p : WP} {ps : List WP} (h : WrE B b w vb vh s) (he : s.er = 0) (hl : s.l = p :: ps) (hs : ps.length ≤ 1099511627776) :
    Calls Tryd.prog 44 #[.pointer (some ⟨b, 0, none⟩)] w fun e w' => ∃ g cap, vh = .slice (some ⟨g, 0, none⟩) (ps.length + 1) cap ∧ ps.length + 1 ≤ cap ∧ e = .returned (.pointer (some ⟨g, ps.length * 4, none⟩)) ∧ Below w.heap.size w w' := by
  obtain ⟨g, cap, rfl, hc, _⟩ := h.top hl
  refine (cwinner_some h he hl hs).mono ?_
  rintro e w' ⟨h1, h2⟩
  exact ⟨g, cap, rfl, hc, h1, h2⟩
set_option maxRecDepth 20000 in
/-- A truth, as a field or within a list. -/
theorem cwflag_is {M : Nat} (h : WrE B b w vb vh s) (hw : OkW M s) (hM : M ≤ 140737488355200) (id : Int) (x : Bool) (k : Nat) (hk : k = if x = true then 1 else 2) :
    Calls Tryd.prog 17 #[.pointer (some ⟨b, 0, none⟩), .int .i64 id, .bool x] w fun e w' => e = .returned (.tuple #[]) ∧ ∃ vb' vh', WrE B b w' vb' vh' (flgW s id k) ∧ Ky b w w' vb vh vb' vh' := by
  obtain ⟨K, hK⟩ : ∃ K : Int, K = (k : Nat) := ⟨_, rfl⟩
  have hk8 : k < 256 := by rw [hk]; split <;> decide
  have HE := Lib.hid (cwenter_any h hw (by omega) id k hk8 hK)
  have ho := ok_ent hw id k
  obtain ⟨t, ht⟩ : ∃ t, t = entW s id k := ⟨_, rfl⟩
  rw [← ht] at HE ho
  have HF := Lib.hid (show flgW s id k = if t.er = 0 ∧ isL t = true then layW t [UInt8.ofNat k] else t by unfold flgW; rw [ht])
  have hz : K = ((UInt8.ofNat k).toNat : Int) := by rw [hK, toNat_ofNat8 hk8]
  have hlen : t.er = 0 → t.out.length + [UInt8.ofNat k].length ≤ 140737488355328 := fun he => by have := (ho he).2.2; simp; omega
  clear h hw ht hM
  by_cases hn : ¬ t.er = 0 ∨ t.l = []
  · have HI := Lib.hid (fun w1 vb1 (h1 : WrE B b w1 vb1 vh t) => cwinner_none h1 hn)
    have HX := Lib.hid (show flgW s id k = t by
      rw [HF.out]
      rcases hn with e | e
      · rw [if_neg (fun x => e x.1)]
      · rw [if_neg]
        rintro ⟨_, h2⟩
        unfold isL at h2
        rw [e] at h2; cases h2)
    clear HF hn ho hlen hz
    cases x with
    | true =>
      obtain rfl : K = 1 := by rw [hK, hk]; rfl
      clear hk hK hk8
      go_enter Tryd.func17, Tryd.ntmps17
      go_wp2_with fail
      refine HE.out.mono ?_
      rintro e w1 ⟨rfl, vb1, h1, k1⟩
      have H1 := Lib.hid h1
      have K1 := Lib.hid k1
      clear h1 k1
      go_wp2_with fail
      refine (HI.out _ _ H1.out).mono ?_
      rintro e w2 ⟨rfl, hw⟩
      rw [hw]; clear hw
      go_wp2
      go_end0
      exact ⟨rfl, _, _, by rw [HX.out]; exact H1.out, K1.out⟩
    | false =>
      obtain rfl : K = 2 := by rw [hK, hk]; rfl
      clear hk hK hk8
      go_enter Tryd.func17, Tryd.ntmps17
      go_wp2_with fail
      refine HE.out.mono ?_
      rintro e w1 ⟨rfl, vb1, h1, k1⟩
      have H1 := Lib.hid h1
      have K1 := Lib.hid k1
      clear h1 k1
      go_wp2_with fail
      refine (HI.out _ _ H1.out).mono ?_
      rintro e w2 ⟨rfl, hw⟩
      rw [hw]; clear hw
      go_wp2
      go_end0
      exact ⟨rfl, _, _, by rw [HX.out]; exact H1.out, K1.out⟩
  · have he : t.er = 0 := by
      by_cases e : t.er = 0
      · exact e
      · exact absurd (.inl e) hn
    obtain ⟨p, ps, hl⟩ : ∃ p ps, t.l = p :: ps := by
      cases hl : t.l with
      | nil => exact absurd (.inr hl) hn
      | cons p ps => exact ⟨p, ps, rfl⟩
    have hps : ps.length ≤ 1099511627776 := by have := (ho he).2.1; rw [hl] at this; simp at this; omega
    have HI := Lib.hid (fun w1 vb1 (h1 : WrE B b w1 vb1 vh t) => cwinner_top h1 he hl hps)
    have HT := Lib.hid (fun w1 vb1 (h1 : WrE B b w1 vb1 vh t) => h1.top hl)
    have hiL : isL t = p.li := by unfold isL; rw [hl]
    clear hps hn hl ho
    cases hli : p.li with
    | false =>
      have HX := Lib.hid (show flgW s id k = t by rw [HF.out, if_neg (fun x => by rw [hiL, hli] at x; cases x.2)])
      rw [hli] at HT
      clear HF hlen hz hiL hli he
      cases x with
      | true =>
        obtain rfl : K = 1 := by rw [hK, hk]; rfl
        clear hk hK hk8
        go_enter Tryd.func17, Tryd.ntmps17
        go_wp2_with fail
        refine HE.out.mono ?_
        rintro e w1 ⟨rfl, vb1, h1, k1⟩
        have H1 := Lib.hid h1
        have K1 := Lib.hid k1
        clear h1 k1
        go_wp2_with fail
        refine (HI.out _ _ H1.out).mono ?_
        rintro e w2 ⟨g, cap, rfl, -, rfl, hb⟩
        have H2 := Lib.hid (H1.out.next hb)
        have K2 := Lib.hid (K1.out.trans (Ky.of_below hb))
        obtain ⟨g', cap', hg', -, -, t0, t1, t2, t3, tf⟩ := HT.out _ _ H2.out
        simp only [Value.slice.injEq, Option.some.injEq, Addr.mk.injEq] at hg'
        obtain ⟨⟨rfl, -⟩, -, rfl⟩ := hg'
        clear hb
        go_wp2
        go_end0
        exact ⟨rfl, _, _, by rw [HX.out]; exact H2.out, K2.out⟩
      | false =>
        obtain rfl : K = 2 := by rw [hK, hk]; rfl
        clear hk hK hk8
        go_enter Tryd.func17, Tryd.ntmps17
        go_wp2_with fail
        refine HE.out.mono ?_
        rintro e w1 ⟨rfl, vb1, h1, k1⟩
        have H1 := Lib.hid h1
        have K1 := Lib.hid k1
        clear h1 k1
        go_wp2_with fail
        refine (HI.out _ _ H1.out).mono ?_
        rintro e w2 ⟨g, cap, rfl, -, rfl, hb⟩
        have H2 := Lib.hid (H1.out.next hb)
        have K2 := Lib.hid (K1.out.trans (Ky.of_below hb))
        obtain ⟨g', cap', hg', -, -, t0, t1, t2, t3, tf⟩ := HT.out _ _ H2.out
        simp only [Value.slice.injEq, Option.some.injEq, Addr.mk.injEq] at hg'
        obtain ⟨⟨rfl, -⟩, -, rfl⟩ := hg'
        clear hb
        go_wp2
        go_end0
        exact ⟨rfl, _, _, by rw [HX.out]; exact H2.out, K2.out⟩
    | true =>
      have HX := Lib.hid (show flgW s id k = layW t [UInt8.ofNat k] by rw [HF.out, if_pos ⟨he, by rw [hiL, hli]⟩])
      rw [hli] at HT
      have HL := Lib.hid hlen
      clear HF hlen hiL hli he
      obtain ⟨bk, hbk⟩ : ∃ bk, bk = UInt8.ofNat k := ⟨_, rfl⟩
      rw [← hbk] at HX HL hz
      clear hbk
      cases x with
      | true =>
        obtain rfl : K = 1 := by rw [hK, hk]; rfl
        have HZ := Lib.hid hz
        clear hk hK hk8 hz
        go_enter Tryd.func17, Tryd.ntmps17
        go_wp2_with fail
        refine HE.out.mono ?_
        rintro e w1 ⟨rfl, vb1, h1, k1⟩
        have H1 := Lib.hid h1
        have K1 := Lib.hid k1
        clear h1 k1
        go_wp2_with fail
        refine (HI.out _ _ H1.out).mono ?_
        rintro e w2 ⟨g, cap, rfl, -, rfl, hb⟩
        have h2 := H1.out.next hb
        obtain ⟨g', cap', hg', -, -, t0, t1, t2, t3, tf⟩ := HT.out _ _ h2
        simp only [Value.slice.injEq, Option.some.injEq, Addr.mk.injEq] at hg'
        obtain ⟨⟨rfl, -⟩, -, rfl⟩ := hg'
        have HY := Lib.hid (cwlay_any (h2.next (new_grow w2 (.cells #[.int .u8 1] 5))) (.slice (some ⟨w2.heap.size, 0, none⟩) 1 1) [bk] (sl_one w2 bk HZ.out) HL.out)
        have K2 := Lib.hid ((K1.out.trans (Ky.of_below hb)).trans (Ky.of_below (new_grow w2 (.cells #[.int .u8 1] 5))))
        clear hb h2
        go_wp2_with fail
        with_reducible refine HY.out.mono ?_
        rintro e w3 ⟨rfl, vb3, h3, k3⟩
        have H3 := Lib.hid h3
        have K3 := Lib.hid (K2.out.trans k3)
        clear h3 k3
        go_wp2
        go_end0
        exact ⟨rfl, _, _, by rw [HX.out]; exact H3.out, K3.out⟩
      | false =>
        obtain rfl : K = 2 := by rw [hK, hk]; rfl
        have HZ := Lib.hid hz
        clear hk hK hk8 hz
        go_enter Tryd.func17, Tryd.ntmps17
        go_wp2_with fail
        refine HE.out.mono ?_
        rintro e w1 ⟨rfl, vb1, h1, k1⟩
        have H1 := Lib.hid h1
        have K1 := Lib.hid k1
        clear h1 k1
        go_wp2_with fail
        refine (HI.out _ _ H1.out).mono ?_
        rintro e w2 ⟨g, cap, rfl, -, rfl, hb⟩
        have h2 := H1.out.next hb
        obtain ⟨g', cap', hg', -, -, t0, t1, t2, t3, tf⟩ := HT.out _ _ h2
        simp only [Value.slice.injEq, Option.some.injEq, Addr.mk.injEq] at hg'
        obtain ⟨⟨rfl, -⟩, -, rfl⟩ := hg'
        have HY := Lib.hid (cwlay_any (h2.next (new_grow w2 (.cells #[.int .u8 2] 5))) (.slice (some ⟨w2.heap.size, 0, none⟩) 1 1) [bk] (sl_one w2 bk HZ.out) HL.out)
        have K2 := Lib.hid ((K1.out.trans (Ky.of_below hb)).trans (Ky.of_below (new_grow w2 (.cells #[.int .u8 2] 5))))
        clear hb h2
        go_wp2_with fail
        with_reducible refine HY.out.mono ?_
        rintro e w3 ⟨rfl, vb3, h3, k3⟩
        have H3 := Lib.hid h3
        have K3 := Lib.hid (K2.out.trans k3)
        clear h3 k3
        go_wp2
        go_end0
        exact ⟨rfl, _, _, by rw [HX.out]; exact H3.out, K3.out⟩
theorem cwend_no (h : WrE B b w vb vh s) (hn : ¬ s.er = 0 ∨ s.l = []) :
    Calls Tryd.prog 18 #[.pointer (some ⟨b, 0, none⟩)] w fun e w' => e = .returned (.tuple #[]) ∧ ∃ vb' vh', WrE B b w' vb' vh' (endW s) ∧ Ky b w w' vb vh vb' vh' := by
  have HI := Lib.hid (cwinner_none h hn)
  have HW := Lib.hid (cwwant_any h false 12)
  have hx : endW s = wantW s false 12 ∧ ¬ (wantW s false 12).er = 0 := by
    by_cases he : s.er = 0
    · rw [wantW_no he]
      refine ⟨?_, (by decide : ¬ (12 : Int) = 0)⟩
      unfold endW
      rw [if_pos he]
      simp only [hn.resolve_left (fun e => e he)]
    · rw [wantW_er he, endW_er he]; exact ⟨rfl, he⟩
  have HX := Lib.hid hx.1
  have HR := Lib.hid (fun w1 (h1 : WrE B b w1 vb vh (wantW s false 12)) => by
    have := cwrests_any h1
    rw [decide_eq_true (show (wantW s false 12).er ≠ 0 from hx.2)] at this
    exact this)
  clear h hn hx
  go_enter Tryd.func18, Tryd.ntmps18
  go_wp2_with fail
  refine HI.out.mono ?_
  rintro e w1 ⟨rfl, hw⟩
  rw [hw]; clear hw
  go_wp2_with fail
  refine HW.out.mono ?_
  rintro e w2 ⟨rfl, h2, k2⟩
  have H2 := Lib.hid h2
  have K2 := Lib.hid k2
  clear h2 k2
  go_wp2_with fail
  refine (HR.out w2 H2.out).mono ?_
  rintro e w3 ⟨rfl, hw⟩
  rw [hw]; clear hw
  go_wp2
  refine bodyPost_ret (results_none rfl _ _ _) rfl ?_
  exact ⟨rfl, _, _, by rw [HX.out]; exact H2.out, K2.out⟩
theorem cwend_lacks {p : WP} {ps : List WP} (h : WrE B b w vb vh s) (he : s.er = 0) (hl : s.l = p :: ps) (hps : ps.length ≤ 1099511627776) (h0 : ¬ p.left = 0) :
    Calls Tryd.prog 18 #[.pointer (some ⟨b, 0, none⟩)] w fun e w' => e = .returned (.tuple #[]) ∧ ∃ vb' vh', WrE B b w' vb' vh' (endW s) ∧ Ky b w w' vb vh vb' vh' := by
  obtain ⟨g, cap, rfl, _⟩ := h.top hl
  have HI := Lib.hid (cwinner_some h he hl hps)
  have HT := Lib.hid (fun w1 (hb : Below w.heap.size w w1) => (h.next hb).top hl)
  have HW := Lib.hid (fun w1 (hb : Below w.heap.size w w1) => cwwant_any (h.next hb) false 12)
  have HX := Lib.hid (show endW s = wantW s false 12 by
    rw [wantW_no he]
    unfold endW
    rw [if_pos he]
    simp only [hl]
    rw [if_neg h0])
  have HR := Lib.hid (fun w1 (h1 : WrE B b w1 vb (.slice (some ⟨g, 0, none⟩) (ps.length + 1) cap) (wantW s false 12)) => by
    have := cwrests_any h1
    rw [decide_eq_true (show (wantW s false 12).er ≠ 0 by rw [wantW_no he]; exact (by decide : ¬ (12 : Int) = 0))] at this
    exact this)
  have p1 : (p.left == 0) = false := beq_eq_false_iff_ne.mpr h0
  clear h he hl hps h0
  go_enter Tryd.func18, Tryd.ntmps18
  go_wp2_with fail
  refine HI.out.mono ?_
  rintro e w1 ⟨rfl, hb⟩
  obtain ⟨g', cap', hg', -, -, t0, t1, t2, t3, tf⟩ := HT.out w1 hb
  simp only [Value.slice.injEq, Option.some.injEq, Addr.mk.injEq] at hg'
  obtain ⟨⟨rfl, -⟩, -, rfl⟩ := hg'
  go_wp2_with fail
  refine (HW.out w1 hb).mono ?_
  rintro e w2 ⟨rfl, h2, k2⟩
  have H2 := Lib.hid h2
  have K2 := Lib.hid ((Ky.of_below (b := b) (vb := vb) hb).trans k2)
  clear h2 k2 hb t0 t1 t2 t3 tf
  go_wp2_with fail
  refine (HR.out w2 H2.out).mono ?_
  rintro e w3 ⟨rfl, hw⟩
  rw [hw]; clear hw
  go_wp2
  refine bodyPost_ret (results_none rfl _ _ _) rfl ?_
  exact ⟨rfl, _, _, by rw [HX.out]; exact H2.out, K2.out⟩
set_option maxRecDepth 20000 in
theorem cwend_ends {p : WP} {ps : List WP} (h : WrE B b w vb vh s) (he : s.er = 0) (hl : s.l = p :: ps) (hps : ps.length ≤ 1099511627776) (ho : s.out.length ≤ 140737488355300) (h0 : p.left = 0) :
    Calls Tryd.prog 18 #[.pointer (some ⟨b, 0, none⟩)] w fun e w' => e = .returned (.tuple #[]) ∧ ∃ vb' vh', WrE B b w' vb' vh' (endW s) ∧ Ky b w w' vb vh vb' vh' := by
  obtain ⟨g, cap, rfl, hcap, _⟩ := h.top hl
  have HI := Lib.hid (cwinner_some h he hl hps)
  have HT := Lib.hid (fun w1 (h1 : WrE B b w1 vb (.slice (some ⟨g, 0, none⟩) (ps.length + 1) cap) s) => h1.top hl)
  have HN := Lib.hid (fun w1 (hb : Below w.heap.size w w1) => h.next hb)
  have HW := Lib.hid (fun w1 (h1 : WrE B b w1 vb (.slice (some ⟨g, 0, none⟩) (ps.length + 1) cap) s) => by
    have := cwwant_any h1 true 12
    rw [wantW_yes] at this; exact this)
  have HX := Lib.hid (show endW s = ⟨if p.li = true then s.out else s.out ++ [0], ps, s.er⟩ by
    unfold endW
    rw [if_pos he]
    simp only [hl]
    rw [if_pos h0])
  have HR := Lib.hid (fun w1 (h1 : WrE B b w1 vb (.slice (some ⟨g, 0, none⟩) (ps.length + 1) cap) s) => by
    have := cwrests_any h1
    rw [decide_eq_false (fun x => x he)] at this
    exact this)
  have HL := Lib.hid (layW_ok he [0])
  have Hl := Lib.hid hl
  have zw : IntKind.i64.wrap (((ps.length + 1 : Nat) : Int) - 1) = (ps.length : Int) := by rw [IntWalk.i64_in _ (by omega)]; omega
  have q1 : decide ((0 : Int) ≤ (ps.length : Int)) = true := decide_eq_true (by omega)
  have q2 : decide ((ps.length : Int) ≤ (cap : Int)) = true := decide_eq_true (by omega)
  have q3 : decide (ps.length ≤ cap) = true := decide_eq_true (by omega)
  have q4 : ps.length ≤ cap := by omega
  clear h he hl
  cases hli : p.li with
  | true =>
    rw [hli] at HT HX
    rw [h0] at HT
    clear h0 hli
    go_enter Tryd.func18, Tryd.ntmps18
    go_wp2_with fail
    refine HI.out.mono ?_
    rintro e w1 ⟨rfl, hb⟩
    have h1 := HN.out w1 hb
    obtain ⟨g', cap', hg', -, -, t0, t1, t2, t3, tf⟩ := HT.out w1 h1
    simp only [Value.slice.injEq, Option.some.injEq, Addr.mk.injEq] at hg'
    obtain ⟨⟨rfl, -⟩, -, rfl⟩ := hg'
    have H1 := Lib.hid h1
    have K1 := Lib.hid (Ky.of_below (b := b) (vb := vb) (vh := .slice (some ⟨g, 0, none⟩) (ps.length + 1) cap) hb)
    clear h1 hb
    go_wp2_with fail
    refine (HW.out w1 H1.out).mono ?_
    rintro e w2 ⟨rfl, h2, k2⟩
    obtain ⟨g', cap', hg', -, -, u0, u1, u2, u3, uf⟩ := HT.out w2 h2
    simp only [Value.slice.injEq, Option.some.injEq, Addr.mk.injEq] at hg'
    obtain ⟨⟨rfl, -⟩, -, rfl⟩ := hg'
    have d1 := h2.c1
    have f1 := h2.fr 1
    have H2 := Lib.hid h2
    have K2 := Lib.hid (K1.out.trans k2)
    clear h2 k2 t0 t1 t2 t3 tf
    go_wp2_with fail
    refine (HR.out w2 H2.out).mono ?_
    rintro e w3 ⟨rfl, hw⟩
    rw [hw]; clear hw
    have H3 := Lib.hid (H2.out.stC Hl.out)
    go_wp2
    go_end0
    exact ⟨rfl, _, _, by rw [HX.out]; exact H3.out.1, K2.out.trans H3.out.2⟩
  | false =>
    rw [hli] at HT HX
    rw [h0] at HT
    clear h0 hli
    go_enter Tryd.func18, Tryd.ntmps18
    go_wp2_with fail
    refine HI.out.mono ?_
    rintro e w1 ⟨rfl, hb⟩
    have h1 := HN.out w1 hb
    obtain ⟨g', cap', hg', -, -, t0, t1, t2, t3, tf⟩ := HT.out w1 h1
    simp only [Value.slice.injEq, Option.some.injEq, Addr.mk.injEq] at hg'
    obtain ⟨⟨rfl, -⟩, -, rfl⟩ := hg'
    have H1 := Lib.hid h1
    have K1 := Lib.hid (Ky.of_below (b := b) (vb := vb) (vh := .slice (some ⟨g, 0, none⟩) (ps.length + 1) cap) hb)
    clear h1 hb
    go_wp2_with fail
    refine (HW.out w1 H1.out).mono ?_
    rintro e w2 ⟨rfl, h2, k2⟩
    obtain ⟨g', cap', hg', -, -, u0, u1, u2, u3, uf⟩ := HT.out w2 h2
    simp only [Value.slice.injEq, Option.some.injEq, Addr.mk.injEq] at hg'
    obtain ⟨⟨rfl, -⟩, -, rfl⟩ := hg'
    have HY := Lib.hid (cwlay_any (h2.next (new_grow w2 (.cells #[.int .u8 0] 5))) (.slice (some ⟨w2.heap.size, 0, none⟩) 1 1) [0] (sl_one w2 0 rfl) (fun _ => by simp; omega))
    rw [HL.out] at HY
    have H2 := Lib.hid h2
    have K2 := Lib.hid ((K1.out.trans k2).trans (Ky.of_below (new_grow w2 (.cells #[.int .u8 0] 5))))
    clear h2 k2 t0 t1 t2 t3 tf
    go_wp2_with fail
    refine (HR.out w2 H2.out).mono ?_
    rintro e w3 ⟨rfl, hw⟩
    rw [hw]; clear hw
    go_wp2_with fail
    with_reducible refine HY.out.mono ?_
    rintro e w4 ⟨rfl, vb4, h4, k4⟩
    have d1 := h4.c1
    have f1 := h4.fr 1
    have H5 := Lib.hid (h4.stC (p := p) (ps := ps) Hl.out)
    have K4 := Lib.hid (K2.out.trans k4)
    clear h4 k4
    go_wp2
    go_end0
    exact ⟨rfl, _, _, by rw [HX.out]; exact H5.out.1, K4.out.trans H5.out.2⟩
theorem cwend_any {M : Nat} (h : WrE B b w vb vh s) (hw : OkW M s) (hM : M ≤ 140737488355200) :
    Calls Tryd.prog 18 #[.pointer (some ⟨b, 0, none⟩)] w fun e w' => e = .returned (.tuple #[]) ∧ ∃ vb' vh', WrE B b w' vb' vh' (endW s) ∧ Ky b w w' vb vh vb' vh' := by
  by_cases he : s.er = 0
  · obtain ⟨h1, h2, h3⟩ := hw he
    cases hl : s.l with
    | nil => exact cwend_no h (.inr hl)
    | cons p ps =>
      rw [hl] at h2
      have h2' : ps.length ≤ 1099511627776 := by simp at h2; omega
      by_cases h0 : p.left = 0
      · exact cwend_ends h he hl h2' (by omega) h0
      · exact cwend_lacks h he hl h2' h0
  · exact cwend_no h (.inl he)
end
section
variable {B b : Nat} {w : World} {vb vh : Value} {s : WT}
theorem lay_who (n : Int) (id : Int) {s : WT} : layW (entW (wantW s (decide (fitC n 8 = 0)) 4) id 3) [UInt8.ofNat (fitU n 8).toNat] = layW (entW (wantW s (decide (fitC n 8 = 0)) 4) id 3) (whoB 3 n) := by
  by_cases hf : fitC n 8 = 0
  · have : fitU n 8 = n % 256 := by unfold fitU; rw [if_pos hf]; rfl
    rw [this]; rfl
  · have he : ¬ (wantW s (decide (fitC n 8 = 0)) 4).er = 0 := by
      rw [decide_eq_false hf]
      intro e
      have := (want_er (by decide) e).2.2
      cases this
    rw [entW_er he, layW_er he, layW_er he]
set_option maxRecDepth 20000 in
set_option maxHeartbeats 1000000 in
theorem cwwhole_any {M : Nat} (h : WrE B b w vb vh s) (hw : OkW M s) (hM : M ≤ 140737488355200) (id : Int) (k : Nat) (hk : k < 256) (n : Int) (hn : -9223372036854775808 ≤ n ∧ n ≤ 9223372036854775807) :
    Calls Tryd.prog 14 #[.pointer (some ⟨b, 0, none⟩), .int .i64 id, .int .u8 (k : Nat), .int .i64 n] w fun e w' => e = .returned (.tuple #[]) ∧ ∃ vb' vh', WrE B b w' vb' vh' (whoW s id k n) ∧ Ky b w w' vb vh vb' vh' := by
  have HB := Lib.hid (fun w => bits_any k w)
  obtain ⟨v, hv⟩ : ∃ v, v = wBits k := ⟨_, rfl⟩
  rw [← hv] at HB
  obtain ⟨x1, hx1⟩ : ∃ x, x = decide (0 < v) := ⟨_, rfl⟩
  have HW1 := Lib.hid (cwwant_any h x1 7)
  have HF := Lib.hid (fun w => fit_any n v w)
  obtain ⟨c, hc⟩ : ∃ c, c = fitC n v := ⟨_, rfl⟩
  obtain ⟨u, hu⟩ : ∃ u, u = fitU n v := ⟨_, rfl⟩
  rw [← hc, ← hu] at HF
  obtain ⟨x2, hx2⟩ : ∃ x, x = decide (c = 0) := ⟨_, rfl⟩
  have p2 : (c == 0) = x2 := by
    rw [hx2]
    by_cases e : c = 0
    · rw [e]; rfl
    · rw [decide_eq_false e]; exact beq_eq_false_iff_ne.mpr e
  have HW2 := Lib.hid (fun w1 (h1 : WrE B b w1 vb vh (wantW s x1 7)) => cwwant_any h1 x2 4)
  have HE := Lib.hid (fun w1 (h1 : WrE B b w1 vb vh (wantW (wantW s x1 7) x2 4)) => cwenter_any h1 (ok_want (ok_want hw x1 (by decide)) x2 (by decide)) (by omega) id k hk (K := (k : Nat)) rfl)
  have hlen := Lib.hid (fun he => (ok_ent (ok_want (ok_want hw x1 (c := 7) (by decide)) x2 (c := 4) (by decide)) id k he).2.2)
  have HX := Lib.hid (show whoW s id k n = layW (entW (wantW (wantW s x1 7) x2 4) id k) (whoB k n) by unfold whoW; rw [← hv, ← hc, ← hx1, ← hx2])
  by_cases h3 : k = 3
  · have hv8 : v = 8 := by rw [hv, h3]; rfl
    have hu8 : 0 ≤ u ∧ u < 256 := by
      rw [hu, hv8]
      unfold fitU
      split
      · rw [show pw (8 : Int).toNat = 256 from rfl]; omega
      · omega
    obtain ⟨bk, hbk⟩ : ∃ bk, bk = UInt8.ofNat u.toNat := ⟨_, rfl⟩
    have hz : u = (bk.toNat : Int) := by rw [hbk, toNat_ofNat8 (by omega)]; omega
    have e8 : IntKind.u8.wrap u = u := IntWalk.u8_in _ (by omega)
    have HY := Lib.hid (show layW (entW (wantW (wantW s x1 7) x2 4) id k) [bk] = whoW s id k n by
      rw [HX.out, hbk, hu, hx2, hc, h3, hv8]; exact lay_who n id)
    have HZ := Lib.hid hz
    have hx1' : x1 = true := by rw [hx1, hv8]; rfl
    rw [hx1'] at HW1
    subst h3
    rw [hv8] at HB HF
    clear h hw hu hu8 hbk hz hc hx1 hv hv8 hx2 HX hk
    go_enter Tryd.func14, Tryd.ntmps14
    go_wp2_with fail
    refine (HB.out _).mono ?_
    rintro e w1 ⟨rfl, hw⟩
    rw [hw]; clear hw
    go_wp2_with fail
    refine HW1.out.mono ?_
    rintro e w2 ⟨rfl, h2, k2⟩
    rw [← hx1'] at h2
    have H2 := Lib.hid h2
    have K2 := Lib.hid k2
    clear h2 k2
    go_wp2_with fail
    refine (HF.out _).mono ?_
    rintro e w3 ⟨rfl, hw⟩
    rw [hw]; clear hw
    go_wp2_with fail
    refine (HW2.out w2 H2.out).mono ?_
    rintro e w4 ⟨rfl, h4, k4⟩
    have H4 := Lib.hid h4
    have K4 := Lib.hid (K2.out.trans k4)
    clear h4 k4
    go_wp2_with fail
    refine (HE.out w4 H4.out).mono ?_
    rintro e w5 ⟨rfl, vb5, h5, k5⟩
    have HL := Lib.hid (cwlay_any (h5.next (new_grow w5 (.cells #[.int .u8 u] 5))) (.slice (some ⟨w5.heap.size, 0, none⟩) 1 1) [bk] (sl_one w5 bk HZ.out) (fun he => by have := hlen.out he; simp; omega))
    have K5 := Lib.hid ((K4.out.trans k5).trans (Ky.of_below (new_grow w5 (.cells #[.int .u8 u] 5))))
    clear h5 k5
    go_wp2_with fail
    with_reducible refine HL.out.mono ?_
    rintro e w6 ⟨rfl, vb6, h6, k6⟩
    have H6 := Lib.hid h6
    have K6 := Lib.hid (K5.out.trans k6)
    clear h6 k6
    go_wp2
    go_end0
    exact ⟨rfl, _, _, by rw [← HY.out]; exact H6.out, K6.out⟩
  · have hzr : 0 ≤ zigI n ∧ zigI n < 18446744073709551616 := by unfold zigI; split <;> omega
    obtain ⟨z, hz⟩ : ∃ z : Nat, zigI n = (z : Int) := ⟨(zigI n).toNat, by omega⟩
    have HG := Lib.hid (fun w => zig_any n w hn.1 hn.2)
    rw [hz] at HG
    have HP := Lib.hid (fun w => vput_sl (sl_nil w) z (by omega) (by simp))
    have hwb : whoB k n = vB z := by unfold whoB; rw [if_neg h3, hz]; rfl
    have hL : (vB z).length ≤ 10 := vB_le10 (by omega)
    rw [hwb] at HX
    have p3 : ((k : Int) == 3) = false := beq_eq_false_iff_ne.mpr (by omega)
    have p1 : decide (0 < v) = x1 := hx1.symm
    clear h hw hu hc hx1 hx2 hk hwb hz hzr h3 hv
    generalize vB z = L at *
    go_enter Tryd.func14, Tryd.ntmps14
    go_wp2_with fail
    refine (HB.out _).mono ?_
    rintro e w1 ⟨rfl, hw⟩
    rw [hw]; clear hw
    go_wp2_with fail
    refine HW1.out.mono ?_
    rintro e w2 ⟨rfl, h2, k2⟩
    have H2 := Lib.hid h2
    have K2 := Lib.hid k2
    clear h2 k2
    go_wp2_with fail
    refine (HF.out _).mono ?_
    rintro e w3 ⟨rfl, hw⟩
    rw [hw]; clear hw
    go_wp2_with fail
    refine (HW2.out w2 H2.out).mono ?_
    rintro e w4 ⟨rfl, h4, k4⟩
    have H4 := Lib.hid h4
    have K4 := Lib.hid (K2.out.trans k4)
    clear h4 k4
    go_wp2_with fail
    refine (HE.out w4 H4.out).mono ?_
    rintro e w5 ⟨rfl, vb5, h5, k5⟩
    have H5 := Lib.hid h5
    have K5 := Lib.hid (K4.out.trans k5)
    clear h5 k5
    go_wp2_with fail
    refine (HG.out _).mono ?_
    rintro e w6 ⟨rfl, hw⟩
    rw [hw]; clear hw
    go_wp2_with fail
    refine (HP.out _).mono ?_
    rintro e w7 ⟨v7, rfl, hv7, hb7⟩
    rw [List.nil_append] at hv7
    have HY := Lib.hid (cwlay_any (H5.out.next hb7) _ L hv7.slB (fun he => by have := hlen.out he; omega))
    have K7 := Lib.hid (K5.out.trans (Ky.of_below hb7))
    clear hv7 hb7
    go_wp2_with fail
    with_reducible refine HY.out.mono ?_
    rintro e w8 ⟨rfl, vb8, h8, k8⟩
    have H8 := Lib.hid h8
    have K8 := Lib.hid (K7.out.trans k8)
    clear h8 k8
    go_wp2
    go_end0
    exact ⟨rfl, _, _, by rw [HX.out]; exact H8.out, K8.out⟩
/-- What a writer tells. -/
def doneW (s : WT) : List UInt8 × Int := if s.er ≠ 0 then ([], s.er) else if s.l = [] then (s.out, 0) else ([], 1)
set_option maxRecDepth 20000 in
theorem cwdone_any (h : WrE B b w vb vh s) : Calls Tryd.prog 10 #[.pointer (some ⟨b, 0, none⟩)] w fun e w' => e = .returned (.tuple #[.string (bA (doneW s).1), .int .i64 (doneW s).2]) ∧ Below w.heap.size w w' := by
  have HD := Lib.hid (show doneW s = if s.er ≠ 0 then ([], s.er) else if s.l = [] then (s.out, 0) else ([], 1) from rfl)
  generalize doneW s = V at *
  have c0 := h.c0; have c1 := h.c1; have c2 := h.c2
  have HT := Lib.hid (h.l.text (P := Tryd.prog) (t := 52) (d := 9) Tryd.underlying52 Tryd.underlying5 Tryd.underlying9)
  obtain ⟨a, cap, rfl⟩ := h.h.form
  clear h
  obtain ⟨out, l, er⟩ := s
  simp only at *
  by_cases he : er = 0
  · subst he
    by_cases hl : l = []
    · subst hl
      have HV := Lib.hid (show V = (out, 0) by rw [HD.out, if_neg (fun e => e rfl), if_pos rfl])
      simp only [List.reverse_nil, List.length_nil] at c1
      clear HD
      go_enter Tryd.func10, Tryd.ntmps10
      go_wp2_with fail
      rw [HT.out]
      go_wp2
      go_ret2
      exact ⟨by rw [HV.out]; rfl, Below.refl _ _⟩
    · have HV := Lib.hid (show V = ([], 1) by rw [HD.out, if_neg (fun e => e rfl), if_neg hl])
      obtain ⟨n, hn⟩ : ∃ n, l.reverse.length = n + 1 := ⟨l.length - 1, by rw [List.length_reverse]; have := List.length_pos_iff.mpr hl; omega⟩
      rw [hn] at c1
      have p1 : decide (0 < ((n + 1 : Nat) : Int)) = true := decide_eq_true (by omega)
      have p2 : decide (0 < n + 1) = true := decide_eq_true (by omega)
      clear HD hn hl
      go_enter Tryd.func10, Tryd.ntmps10
      go_wp2
      go_ret2
      exact ⟨by rw [HV.out]; rfl, Below.refl _ _⟩
  · have HV := Lib.hid (show V = ([], er) by rw [HD.out, if_pos he])
    have p1 : (er != 0) = true := bne_iff_ne.mpr he
    clear HD he
    go_enter Tryd.func10, Tryd.ntmps10
    go_wp2_with fail
    go_quiet (fail)
    go_wp2
    go_ret2
    exact ⟨by rw [HV.out]; rfl, Below.drewN (Below.refl _ _) _⟩
theorem cwdone_nil (w : World) : Calls Tryd.prog 10 #[.pointer none] w fun e w' => e = .returned (.tuple #[.string ⟨#[]⟩, .int .i64 9]) ∧ Below w.heap.size w w' := by
  go_enter Tryd.func10, Tryd.ntmps10
  go_wp2
  go_ret2
  exact ⟨rfl, Below.refl _ _⟩
theorem cwenter_nil (w : World) (id : Int) (k : Int) : Calls Tryd.prog 35 #[.pointer none, .int .i64 id, .int .u8 k] w fun e w' => e = .returned (.tuple #[]) ∧ w' = w := by
  have HI := Lib.hid (cwinner_nil w)
  have HW := Lib.hid (fun x => cwwant_nil w x 12)
  go_enter Tryd.func35, Tryd.ntmps35
  go_wp2_with fail
  refine HI.out.mono ?_
  rintro e w1 ⟨rfl, hw⟩
  rw [hw]; clear hw
  go_wp2_with fail
  refine (HW.out _).mono ?_
  rintro e w1 ⟨rfl, hw⟩
  rw [hw]; clear hw
  go_wp2
  go_end0
  exact ⟨rfl, rfl⟩
theorem cwdouble_nil (w : World) (id : Int) (u : Nat) (hu : u < 18446744073709551616) (ht : Tab w) : Calls Tryd.prog 15 #[.pointer none, .int .i64 id, .int .u64 (u : Nat)] w fun e w' => e = .returned (.tuple #[]) ∧ Below w.heap.size w w' := by
  have HE := Lib.hid (cwenter_nil w id 7)
  have HP := Lib.hid (low64_any none 0 [] u w (by simp) hu (fun j hj => by simp at hj) ht)
  have HL := Lib.hid (fun w v => cwlay_nil w v)
  clear hu ht
  go_enter Tryd.func15, Tryd.ntmps15
  go_wp2_with fail
  refine HE.out.mono ?_
  rintro e w1 ⟨rfl, hw⟩
  rw [hw]; clear hw
  go_wp2_with fail
  refine HP.out.mono ?_
  rintro e w2 ⟨v2, rfl, -, hb⟩
  go_wp2_with fail
  refine (HL.out _ _).mono ?_
  rintro e w3 ⟨rfl, hw⟩
  rw [hw]; clear hw
  go_wp2
  go_end0
  exact ⟨rfl, hb⟩
end
theorem cwnew_any (w : World) : Calls Tryd.prog 7 #[] w fun e w' => e = .returned (.pointer (some ⟨w.heap.size, 0, none⟩)) ∧ WrX w.heap.size w.heap.size w' ⟨[], [], 0⟩ ∧ Below w.heap.size w w' := by
  go_enter Tryd.func7, Tryd.ntmps7
  go_wp2
  go_ret
  exact ⟨rfl, ⟨_, _, ⟨heap_alloc_new w _, bts_none _ _ _, hrow_nil _ _, Nat.le_refl _⟩⟩, new_grow w _⟩
/-- An op as a value. -/
def opC (o : WO) : Array Value := #[.int .u8 (o.k : Nat), .int .i64 o.id, .int .i64 o.n, .int .u8 (o.wh : Nat), .int .u64 (o.bt : Nat), .string (bA o.tx)]
def opV (o : WO) : Value := .agg (opC o)
def OpOk (o : WO) : Prop := o.k < 256 ∧ -9223372036854775808 ≤ o.n ∧ o.n ≤ 9223372036854775807 ∧ o.wh < 256 ∧ o.bt < 18446744073709551616
/-- Block g is an op. -/
def OpT (w : World) (g : Nat) (o : WO) : Prop := w.heap[g]? = some (.cells (opC o) 32 (0, 0))
theorem OpT.c {w : World} {g : Nat} {o : WO} (h : OpT w g o) : w.cell? ⟨g, 0, none⟩ = some (.int .u8 (o.k : Nat)) ∧ w.cell? ⟨g, 1, none⟩ = some (.int .i64 o.id) ∧ w.cell? ⟨g, 2, none⟩ = some (.int .i64 o.n) ∧ w.cell? ⟨g, 3, none⟩ = some (.int .u8 (o.wh : Nat)) ∧ w.cell? ⟨g, 4, none⟩ = some (.int .u64 (o.bt : Nat)) ∧ w.cell? ⟨g, 5, none⟩ = some (.string (bA o.tx)) := by
  unfold OpT at h
  refine ⟨?_, ?_, ?_, ?_, ?_, ?_⟩ <;> (rw [cell_of_row w g _ _ _ _ h]; rfl)
theorem OpT.below {w w' : World} {g : Nat} {o : WO} (h : OpT w g o) (hb : Below w.heap.size w w') : OpT w' g o := (hb.block g (lt_of_block h)).trans h
theorem OpT.fr {w : World} {g : Nat} {o : WO} (h : OpT w g o) (i : Nat) : w.frozen? ⟨g, i, none⟩ = false := by unfold OpT at h; simp [World.frozen?, h]
theorem new_op (w : World) (o : WO) : OpT (w.alloc (.cells (opC o) 32)) w.heap.size o := heap_alloc_new w _
theorem bA_list (l : List UInt8) : (bA l).data.toList = l := by simp [bA]
section
variable {B b : Nat} {w : World} {vb vh : Value} {s : WT}
set_option maxRecDepth 20000 in
theorem cwdo_str {M : Nat} (h : WrE B b w vb vh s) (hw : OkW M s) (o : WO) (hok : OpOk o) (hM : M + o.tx.length ≤ 140737488355200) (ht : ∀ w', Below B w w' → Tab w') (hk : o.k = 123) :
    Calls Tryd.prog 8 #[.pointer (some ⟨b, 0, none⟩), opV o] w fun e w' => e = .returned (.tuple #[]) ∧ ∃ vb' vh', WrE B b w' vb' vh' (strW s o.id) ∧ Ky b w w' vb vh vb' vh' := by
  have hb0 := new_grow w (.cells (opC o) 32)
  have h0 := h.next hb0
  have HC := Lib.hid (cwstruct_any h0 hw (by omega) o.id)
  have K0 := Lib.hid (Ky.of_below (b := b) (vb := vb) (vh := vh) hb0)
  obtain ⟨q0, q1, q2, q3, q4, q5⟩ := (new_op w o).c
  rw [hk] at q0
  clear h hw hok hM ht h0 hb0 hk
  unfold opV opC at *
  go_enter Tryd.func8, Tryd.ntmps8
  go_upto_region 1 with fail
  generalize w.alloc (.cells #[.int .u8 (o.k : Nat), .int .i64 o.id, .int .i64 o.n, .int .u8 (o.wh : Nat), .int .u64 (o.bt : Nat), .string (bA o.tx)] 32) = w0 at *
  go_wp2_with fail
  refine HC.out.mono ?_
  rintro e w1 ⟨rfl, vb1, vh1, h1, k1⟩
  have H1 := Lib.hid h1
  have K1 := Lib.hid (K0.out.trans k1)
  clear h1 k1
  go_wp2
  go_end0
  exact ⟨rfl, _, _, H1.out, K1.out⟩
set_option maxRecDepth 20000 in
theorem cwdo_lst {M : Nat} (h : WrE B b w vb vh s) (hw : OkW M s) (o : WO) (hok : OpOk o) (hM : M + o.tx.length ≤ 140737488355200) (ht : ∀ w', Below B w w' → Tab w') (hk : o.k = 91) :
    Calls Tryd.prog 8 #[.pointer (some ⟨b, 0, none⟩), opV o] w fun e w' => e = .returned (.tuple #[]) ∧ ∃ vb' vh', WrE B b w' vb' vh' (lstW s o.id o.n o.wh) ∧ Ky b w w' vb vh vb' vh' := by
  have hb0 := new_grow w (.cells (opC o) 32)
  have h0 := h.next hb0
  have HC := Lib.hid (cwlist_any h0 hw (by omega) o.id o.n o.wh)
  have K0 := Lib.hid (Ky.of_below (b := b) (vb := vb) (vh := vh) hb0)
  obtain ⟨q0, q1, q2, q3, q4, q5⟩ := (new_op w o).c
  rw [hk] at q0
  clear h hw hok hM ht h0 hb0 hk
  unfold opV opC at *
  go_enter Tryd.func8, Tryd.ntmps8
  go_upto_region 1 with fail
  generalize w.alloc (.cells #[.int .u8 (o.k : Nat), .int .i64 o.id, .int .i64 o.n, .int .u8 (o.wh : Nat), .int .u64 (o.bt : Nat), .string (bA o.tx)] 32) = w0 at *
  go_wp2_with fail
  refine HC.out.mono ?_
  rintro e w1 ⟨rfl, vb1, vh1, h1, k1⟩
  have H1 := Lib.hid h1
  have K1 := Lib.hid (K0.out.trans k1)
  clear h1 k1
  go_wp2
  go_end0
  exact ⟨rfl, _, _, H1.out, K1.out⟩
set_option maxRecDepth 20000 in
theorem cwdo_end {M : Nat} (h : WrE B b w vb vh s) (hw : OkW M s) (o : WO) (hok : OpOk o) (hM : M + o.tx.length ≤ 140737488355200) (ht : ∀ w', Below B w w' → Tab w') (hk : o.k = 101) :
    Calls Tryd.prog 8 #[.pointer (some ⟨b, 0, none⟩), opV o] w fun e w' => e = .returned (.tuple #[]) ∧ ∃ vb' vh', WrE B b w' vb' vh' (endW s) ∧ Ky b w w' vb vh vb' vh' := by
  have hb0 := new_grow w (.cells (opC o) 32)
  have h0 := h.next hb0
  have HC := Lib.hid (cwend_any h0 hw (by omega))
  have K0 := Lib.hid (Ky.of_below (b := b) (vb := vb) (vh := vh) hb0)
  obtain ⟨q0, q1, q2, q3, q4, q5⟩ := (new_op w o).c
  rw [hk] at q0
  clear h hw hok hM ht h0 hb0 hk
  unfold opV opC at *
  go_enter Tryd.func8, Tryd.ntmps8
  go_upto_region 1 with fail
  generalize w.alloc (.cells #[.int .u8 (o.k : Nat), .int .i64 o.id, .int .i64 o.n, .int .u8 (o.wh : Nat), .int .u64 (o.bt : Nat), .string (bA o.tx)] 32) = w0 at *
  go_wp2_with fail
  refine HC.out.mono ?_
  rintro e w1 ⟨rfl, vb1, vh1, h1, k1⟩
  have H1 := Lib.hid h1
  have K1 := Lib.hid (K0.out.trans k1)
  clear h1 k1
  go_wp2
  go_end0
  exact ⟨rfl, _, _, H1.out, K1.out⟩
set_option maxRecDepth 20000 in
theorem cwdo_flg {M : Nat} (h : WrE B b w vb vh s) (hw : OkW M s) (o : WO) (hok : OpOk o) (hM : M + o.tx.length ≤ 140737488355200) (ht : ∀ w', Below B w w' → Tab w') (hk : o.k = 102) (kk : Nat) (hkk : kk = if o.n = 1 then 1 else 2) :
    Calls Tryd.prog 8 #[.pointer (some ⟨b, 0, none⟩), opV o] w fun e w' => e = .returned (.tuple #[]) ∧ ∃ vb' vh', WrE B b w' vb' vh' (flgW s o.id kk) ∧ Ky b w w' vb vh vb' vh' := by
  have hb0 := new_grow w (.cells (opC o) 32)
  have h0 := h.next hb0
  obtain ⟨x, hx⟩ : ∃ x, x = decide (o.n = 1) := ⟨_, rfl⟩
  have px : (o.n == 1) = x := by rw [hx]; by_cases e : o.n = 1 <;> simp [e]
  have HC := Lib.hid (cwflag_is h0 hw (by omega) o.id x kk (by rw [hkk, hx]; by_cases e : o.n = 1 <;> simp [e]))
  have K0 := Lib.hid (Ky.of_below (b := b) (vb := vb) (vh := vh) hb0)
  obtain ⟨q0, q1, q2, q3, q4, q5⟩ := (new_op w o).c
  rw [hk] at q0
  clear h hw hok hM ht h0 hb0 hk hx hkk
  unfold opV opC at *
  go_enter Tryd.func8, Tryd.ntmps8
  go_upto_region 1 with fail
  generalize w.alloc (.cells #[.int .u8 (o.k : Nat), .int .i64 o.id, .int .i64 o.n, .int .u8 (o.wh : Nat), .int .u64 (o.bt : Nat), .string (bA o.tx)] 32) = w0 at *
  go_wp2_with fail
  refine HC.out.mono ?_
  rintro e w1 ⟨rfl, vb1, vh1, h1, k1⟩
  have H1 := Lib.hid h1
  have K1 := Lib.hid (K0.out.trans k1)
  clear h1 k1
  go_wp2
  go_end0
  exact ⟨rfl, _, _, H1.out, K1.out⟩
set_option maxRecDepth 20000 in
theorem cwdo_who {M : Nat} (h : WrE B b w vb vh s) (hw : OkW M s) (o : WO) (hok : OpOk o) (hM : M + o.tx.length ≤ 140737488355200) (ht : ∀ w', Below B w w' → Tab w') (hk : o.k = 110) :
    Calls Tryd.prog 8 #[.pointer (some ⟨b, 0, none⟩), opV o] w fun e w' => e = .returned (.tuple #[]) ∧ ∃ vb' vh', WrE B b w' vb' vh' (whoW s o.id o.wh o.n) ∧ Ky b w w' vb vh vb' vh' := by
  have hb0 := new_grow w (.cells (opC o) 32)
  have h0 := h.next hb0
  have HC := Lib.hid (cwwhole_any h0 hw (by omega) o.id o.wh hok.2.2.2.1 o.n ⟨hok.2.1, hok.2.2.1⟩)
  have K0 := Lib.hid (Ky.of_below (b := b) (vb := vb) (vh := vh) hb0)
  obtain ⟨q0, q1, q2, q3, q4, q5⟩ := (new_op w o).c
  rw [hk] at q0
  clear h hw hok hM ht h0 hb0 hk
  unfold opV opC at *
  go_enter Tryd.func8, Tryd.ntmps8
  go_upto_region 1 with fail
  generalize w.alloc (.cells #[.int .u8 (o.k : Nat), .int .i64 o.id, .int .i64 o.n, .int .u8 (o.wh : Nat), .int .u64 (o.bt : Nat), .string (bA o.tx)] 32) = w0 at *
  go_wp2_with fail
  refine HC.out.mono ?_
  rintro e w1 ⟨rfl, vb1, vh1, h1, k1⟩
  have H1 := Lib.hid h1
  have K1 := Lib.hid (K0.out.trans k1)
  clear h1 k1
  go_wp2
  go_end0
  exact ⟨rfl, _, _, H1.out, K1.out⟩
set_option maxRecDepth 20000 in
theorem cwdo_dbl {M : Nat} (h : WrE B b w vb vh s) (hw : OkW M s) (o : WO) (hok : OpOk o) (hM : M + o.tx.length ≤ 140737488355200) (ht : ∀ w', Below B w w' → Tab w') (hk : o.k = 100) :
    Calls Tryd.prog 8 #[.pointer (some ⟨b, 0, none⟩), opV o] w fun e w' => e = .returned (.tuple #[]) ∧ ∃ vb' vh', WrE B b w' vb' vh' (dblW s o.id o.bt) ∧ Ky b w w' vb vh vb' vh' := by
  have hb0 := new_grow w (.cells (opC o) 32)
  have h0 := h.next hb0
  have HC := Lib.hid (cwdouble_any h0 hw (by omega) o.id o.bt hok.2.2.2.2 (fun w' hb => ht w' (Below.trans ⟨hb0.os, hb0.tape, hb0.output, hb0.size, fun j hj => hb0.block j (by have := h.hB; omega)⟩ hb)))
  have K0 := Lib.hid (Ky.of_below (b := b) (vb := vb) (vh := vh) hb0)
  obtain ⟨q0, q1, q2, q3, q4, q5⟩ := (new_op w o).c
  rw [hk] at q0
  clear h hw hok hM ht h0 hb0 hk
  unfold opV opC at *
  go_enter Tryd.func8, Tryd.ntmps8
  go_upto_region 1 with fail
  generalize w.alloc (.cells #[.int .u8 (o.k : Nat), .int .i64 o.id, .int .i64 o.n, .int .u8 (o.wh : Nat), .int .u64 (o.bt : Nat), .string (bA o.tx)] 32) = w0 at *
  go_wp2_with fail
  refine HC.out.mono ?_
  rintro e w1 ⟨rfl, vb1, vh1, h1, k1⟩
  have H1 := Lib.hid h1
  have K1 := Lib.hid (K0.out.trans k1)
  clear h1 k1
  go_wp2
  go_end0
  exact ⟨rfl, _, _, H1.out, K1.out⟩
set_option maxRecDepth 20000 in
theorem cwdo_txt {M : Nat} (h : WrE B b w vb vh s) (hw : OkW M s) (o : WO) (hok : OpOk o) (hM : M + o.tx.length ≤ 140737488355200) (ht : ∀ w', Below B w w' → Tab w') (hk : ¬ o.k = 123 ∧ ¬ o.k = 91 ∧ ¬ o.k = 101 ∧ ¬ o.k = 102 ∧ ¬ o.k = 110 ∧ ¬ o.k = 100) :
    Calls Tryd.prog 8 #[.pointer (some ⟨b, 0, none⟩), opV o] w fun e w' => e = .returned (.tuple #[]) ∧ ∃ vb' vh', WrE B b w' vb' vh' (txtW s o.id o.tx) ∧ Ky b w w' vb vh vb' vh' := by
  have hb0 := new_grow w (.cells (opC o) 32)
  have h0 := h.next hb0
  have HC' := cwtext_any h0 hw o.id (bA o.tx) (by rw [bA_size]; omega)
  rw [bA_list] at HC'
  have HC := Lib.hid HC'
  clear HC'
  have K0 := Lib.hid (Ky.of_below (b := b) (vb := vb) (vh := vh) hb0)
  obtain ⟨q0, q1, q2, q3, q4, q5⟩ := (new_op w o).c
  obtain ⟨n0, n1, n2, n3, n4, n5⟩ := hk
  have p0 : ((o.k : Int) == 123) = false := beq_eq_false_iff_ne.mpr (by omega)
  have p1 : ((o.k : Int) == 91) = false := beq_eq_false_iff_ne.mpr (by omega)
  have p2 : ((o.k : Int) == 101) = false := beq_eq_false_iff_ne.mpr (by omega)
  have p3 : ((o.k : Int) == 102) = false := beq_eq_false_iff_ne.mpr (by omega)
  have p4 : ((o.k : Int) == 110) = false := beq_eq_false_iff_ne.mpr (by omega)
  have p5 : ((o.k : Int) == 100) = false := beq_eq_false_iff_ne.mpr (by omega)
  clear h hw hok hM ht h0 hb0 n0 n1 n2 n3 n4 n5
  unfold opV opC at *
  go_enter Tryd.func8, Tryd.ntmps8
  go_upto_region 1 with fail
  generalize w.alloc (.cells #[.int .u8 (o.k : Nat), .int .i64 o.id, .int .i64 o.n, .int .u8 (o.wh : Nat), .int .u64 (o.bt : Nat), .string (bA o.tx)] 32) = w0 at *
  go_wp2_with fail
  refine HC.out.mono ?_
  rintro e w1 ⟨rfl, vb1, vh1, h1, k1⟩
  have H1 := Lib.hid h1
  have K1 := Lib.hid (K0.out.trans k1)
  clear h1 k1
  go_wp2
  go_end0
  exact ⟨rfl, _, _, H1.out, K1.out⟩
/-- 'do' is what the document says of it. -/
theorem cwdo_any {M : Nat} (h : WrE B b w vb vh s) (hw : OkW M s) (o : WO) (hok : OpOk o) (hM : M + o.tx.length ≤ 140737488355200) (ht : ∀ w', Below B w w' → Tab w') :
    Calls Tryd.prog 8 #[.pointer (some ⟨b, 0, none⟩), opV o] w fun e w' => e = .returned (.tuple #[]) ∧ ∃ vb' vh', WrE B b w' vb' vh' (pDo s o) ∧ Ky b w w' vb vh vb' vh' := by
  unfold pDo
  by_cases h1 : o.k = 123
  · rw [if_pos h1]; exact cwdo_str h hw o hok hM ht h1
  rw [if_neg h1]
  by_cases h2 : o.k = 91
  · rw [if_pos h2]; exact cwdo_lst h hw o hok hM ht h2
  rw [if_neg h2]
  by_cases h3 : o.k = 101
  · rw [if_pos h3]; exact cwdo_end h hw o hok hM ht h3
  rw [if_neg h3]
  by_cases h4 : o.k = 102
  · rw [if_pos h4]; exact cwdo_flg h hw o hok hM ht h4 _ rfl
  rw [if_neg h4]
  by_cases h5 : o.k = 110
  · rw [if_pos h5]; exact cwdo_who h hw o hok hM ht h5
  rw [if_neg h5]
  by_cases h6 : o.k = 100
  · rw [if_pos h6]; exact cwdo_dbl h hw o hok hM ht h6
  rw [if_neg h6]
  exact cwdo_txt h hw o hok hM ht ⟨h1, h2, h3, h4, h5, h6⟩
end
end Go.Proofs.YtmcklfndnjagiaaDoor
