/- Package pmsg: Rest: how many fields have none of some tags. -/
import Derived.Test.YtipnaonagepolaaDoorPmL
import Derived.Test.YtipnaonagepolaaDoorZK
namespace Go.Proofs.YtipnaonagepolaaDoor
open Go Go.RowKit Go.Maps
set_option linter.unusedVariables false

abbrev OwnM (w : World) (b n : Nat) (D : DataW Unit) : Prop := w.ownsMap Tryd.prog 51 (plainElem Tryd.prog 3) b n D
theorem grown_of_below {w w' : World} {N : Nat} (h : Below N w w') (hN : w.heap.size ≤ N) : w.grownBy w' none := ⟨h.os, h.tape, h.output, h.size, fun k hk _ => h.block k (by omega)⟩
theorem nat_wf (n : Nat) (h : n ≤ 1099511627776) : (Lit.int .i64 (n : Int)).wf = true := by
  simp [Lit.wf, IntKind.min, IntKind.max, IntKind.signed, IntKind.bits]; omega
/-- 'counts[tagOf(f)]++' : what the walk wants of it. -/
theorem bump_tag {w : World} {b n : Nat} {D : DataW Unit} {l : List FD} {x : FD} (h : OwnM w b n D) (hn : n < maxLen) (hC : CntD D l) (hx : tOk (x.1, x.2.1)) (hl : l.length < 1099511627776) :
    ∃ (v0 : Value) (st : Nat) (w1 w2 : World), (Instr.mapEntry 87 (.map (some b)) (tgV x.1 x.2.1)).run Tryd.prog w = .ok (.tuple #[v0, .int .i64 (st : Nat)]) w1 ∧
      (Instr.lookup 87 (.map (some b)) (tgV x.1 x.2.1) false).run Tryd.prog w = .ok (.int .i64 (kCnt fKb (fKb x) l : Nat)) w ∧
      (Instr.lookup 87 (.map (some b)) (tgV x.1 x.2.1) false).run Tryd.prog w1 = .ok (.int .i64 (kCnt fKb (fKb x) l : Nat)) w1 ∧
      (Instr.entryStore 87 (.map (some b)) (.int .i64 (st : Nat)) (.int .i64 ((kCnt fKb (fKb x) l : Nat) + 1))).run Tryd.prog w1 = .ok () w2 ∧
      w.grownBy w2 (some b) ∧ ∃ D2, OwnM w2 b (n + 1) D2 ∧ CntD D2 (l ++ [x]) := by
  obtain ⟨c, v0, st, w1, r1, r2, r3, r4, r5, r6⟩ := bump_own (q := .i64) tgLaw Tryd.underlying87 Tryd.underlying3 pmZero h hn (tag_key hx)
  have hc : c = (kCnt fKb (fKb x) l : Nat) := by
    rw [show tKb (x.1, x.2.1) = fKb x from rfl, hC.at_] at r5
    exact (Lit.int.inj (DataW.lit.inj r5)).2.symm
  subst hc
  have hk := kCnt_le fKb (fKb x) l
  obtain ⟨w2, s1, s2, s3⟩ := r6 ((kCnt fKb (fKb x) l : Nat) + 1) (by have := nat_wf (kCnt fKb (fKb x) l + 1) (by omega); simpa using this)
  exact ⟨v0, st, w1, w2, r1, r3, r4, s1, s3, _, s2, hC.more h.isMap x⟩

set_option maxRecDepth 100000 in
set_option maxHeartbeats 4000000 in
theorem pmrest_any (mp ta : Option Addr) (tc : Nat) (l : List FD) (T : List TG) (w : World) (h : MsgIn w mp l) (hl : l.length < 1099511627776) (hT : T.length ≤ 1099511627776) (hin : TgIn w ta T) (ol : ∀ x ∈ l, tOk (x.1, x.2.1)) (oT : ∀ t ∈ T, tOk t) :
    Calls Tryd.prog 21 #[.pointer mp, .slice ta T.length tc] w fun e w' => e = .returned (.int .i64 (fRest l T : Nat)) ∧ Below w.heap.size w w' := by
  have hmm := @run_makeMap Tryd.prog
  obtain ⟨ad, cp, hM⟩ := h.at_
  have h1 := World.ownsMap_made (H := Unit) w Tryd.prog 51 (plainElem Tryd.prog 3)
  have b1 : Below w.heap.size w (w.alloc (.map #[] 0)) := (Below.refl _ _).alloc (Nat.le_refl _) _
  have hM1 := hM.below b1 (Nat.le_refl _)
  have HA := Lib.hid (pmall_at hM1)
  have HM := Lib.hid hM
  have HI := Lib.hid hin
  have H1 := Lib.hid h1
  have HB := Lib.hid b1
  have OL := Lib.hid ol
  have OT := Lib.hid oT
  clear h hM hM1 h1 b1 hin ol oT
  go_enter Tryd.func21, Tryd.ntmps21
  go_wp2_with (go_at_call 40; refine HA.out.mono ?_; rintro e w1 ⟨rfl, hw1⟩; rw [hw1]; clear hw1)
  go_loopw [17] (fun i wr => ∃ j : Nat, ∃ D, j ≤ l.length ∧ i = .int .i64 (j : Nat) ∧ OwnM wr w.heap.size j D ∧ CntD D (l.take j) ∧ Below w.heap.size w wr) (fun i _ => l.length - (intOf i).toNat)
  case atStart => exact ⟨0, _, Nat.zero_le _, rfl, H1.out, CntD.none, HB.out⟩
  case round =>
    obtain ⟨j, D, hj, rfl, hO, hC, hbel⟩ := hrel
    by_cases hlt : j < l.length
    · have p1 : decide ((j : Int) < (l.length : Int)) = true := decide_eq_true (by omega)
      have p2 : (j : Int) < (l.length : Int) := by omega
      obtain ⟨g, hg1, hg2, k0, k1, k2, k3⟩ := (HM.out.below hbel (Nat.le_refl _)).inn j hlt
      subst hg1
      have HQ := Lib.hid (show (l.take (j + 1)) = l.take j ++ [l[j]] from List.take_succ_eq_append_getElem hlt)
      have HK := Lib.hid (OL.out _ (List.getElem_mem hlt))
      have hlj : (l.take j).length < 1099511627776 := by rw [List.length_take]; omega
      generalize l[j] = y at *
      have HT := Lib.hid (fun w => pmtag_any y w)
      have F2 := fd_alloc wr y 47
      have O2 := hO.alloc (.cells #[.int .i64 y.1, .int .i64 y.2.1, .int .u64 (y.2.2.1 : Nat), .string y.2.2.2] 47)
      have B2 := hbel.alloc hbel.size (.cells #[.int .i64 y.1, .int .i64 y.2.1, .int .u64 (y.2.2.1 : Nat), .string y.2.2.2] 47)
      have HO := Lib.hid O2
      have HB2 := Lib.hid B2
      have HC := Lib.hid hC
      obtain ⟨K, hK⟩ : ∃ K, K = kCnt fKb (fKb y) (l.take j) := ⟨_, rfl⟩
      have hK2 : K ≤ 1099511627776 := by have := kCnt_le fKb (fKb y) (l.take j); omega
      have hwr : IntKind.i64.wrap ((K : Int) + 1) = (K : Int) + 1 := i64_small (by omega) (by omega)
      have HKK := Lib.hid hK
      have HBT := Lib.hid (fun (w3 : World) (h : OwnM w3 w.heap.size j D) => bump_tag h (by unfold maxLen; omega) hC HK.out hlj)
      clear hO hC hbel O2 B2 hK
      obtain ⟨y0, y1, y2, y3⟩ := y
      unfold pfV tgV at HT
      unfold tgV at HBT
      dsimp only at F2 HO HB2 HT HBT k0 k1 k2 k3 HKK
      go_wp2_with fail
      generalize wr.alloc (.cells #[.int .i64 y0, .int .i64 y1, .int .u64 (y2 : Nat), .string y3] 47) = W2 at *
      generalize wr.heap.size = G at *
      have c0 := F2.c0; have c1 := F2.c1; have c2 := F2.c2; have c3 := F2.c3
      have hmx : Tryd.prog.follows .mixedOrders = true := by kernel_rfl
      have hme : Tryd.prog.follows .mapOpAssignEntry = true := by kernel_rfl
      clear F2
      go_region_with (go_at_call 41; (with_reducible refine (HT.out _).mono ?_); rintro e w3 ⟨rfl, hb3⟩; obtain ⟨v0, st, w4, w5, r1, r2, r3, r4, r5, D2, r6, r7⟩ := HBT.out w3 (World.ownsMap.kept (row := none) (World.ownsMap.drew HO.out) (grown_of_below hb3 (Nat.le_refl _)) (by simp)); rw [← HKK.out] at r2 r3 r4; have BB := Lib.hid (Below.grown (HB2.out.drew.trans (hb3.mono HB2.out.size)) r5 (Nat.le_trans HB2.out.size hb3.size) (fun k hk => by simp at hk; omega)); have R6 := Lib.hid r6; have R7 := Lib.hid r7; clear hb3 r5 r6 r7)
      all_goals go_wp2
      all_goals go_roundw
      all_goals first
        | exact ⟨j + 1, D2, by omega, by go_num, R6.out, by rw [HQ.out]; exact R7.out, BB.out⟩
        | (simp [intOf]; omega)
    · have p1 : decide ((j : Int) < (l.length : Int)) = false := decide_eq_false (by omega)
      have e : j = l.length := by omega
      subst e
      have HO := Lib.hid hO
      have HD := Lib.hid (show DelD D l [] by have := hC.del; rw [List.take_of_length_le (Nat.le_refl _)] at this; exact this)
      have HW := Lib.hid hbel
      clear hO hC hbel
      go_wp2_with fail
      go_loopw [31] (fun i wr => ∃ j : Nat, ∃ D, j ≤ T.length ∧ i = .int .i64 (j : Nat) ∧ OwnM wr w.heap.size l.length D ∧ DelD D l (T.take j) ∧ Below w.heap.size w wr) (fun i _ => T.length - (intOf i).toNat)
      case atStart => exact ⟨0, D, Nat.zero_le _, rfl, HO.out, HD.out, HW.out⟩
      case round =>
        clear HO HD HW
        obtain ⟨j, D, hj, rfl, hO, hC, hbel⟩ := hrel
        by_cases hlt : j < T.length
        · have p1 : decide ((j : Int) < (T.length : Int)) = true := decide_eq_true (by omega)
          have p2 : (j : Int) < (T.length : Int) := by omega
          obtain ⟨g, off, hg1, hg2, k0, k1⟩ := (HI.out.below hbel (Nat.le_refl _)) j hlt
          subst hg1
          have HQ := Lib.hid (show (T.take (j + 1)) = T.take j ++ [T[j]] from List.take_succ_eq_append_getElem hlt)
          have hk := tag_key (OT.out _ (List.getElem_mem hlt))
          generalize T[j] = t at *
          have F2 := tg_alloc 51 wr t.1 t.2
          have HO := Lib.hid (hO.alloc (.cells #[.int .i64 t.1, .int .i64 t.2] 51))
          have HB2 := Lib.hid (hbel.alloc hbel.size (.cells #[.int .i64 t.1, .int .i64 t.2] 51))
          have HC := Lib.hid hC
          have c0 := F2.c0; have c1 := F2.c1
          have HK := Lib.hid hk
          clear hO hC hbel F2 hk
          obtain ⟨tn, tv⟩ := t
          dsimp only at HO HB2 c0 c1 k0 k1
          go_wp2_with (at_delete; refine wpList_delete_own _ rfl (.tmp 35) (.tmp 36) 87 51 rfl 3 tgKeyed Tryd.underlying87 (plainElem Tryd.prog 3) w.heap.size l.length D rfl HO.out (tgV tn tv) _ rfl HK.out ?_; intro w4 o4 t4; have O4 := Lib.hid o4; have B4 := Lib.hid (Below.grown HB2.out t4.grown HB2.out.size (fun k hk => by simp at hk; omega)); clear o4 t4)
          go_roundw
          case rel => exact ⟨j + 1, _, by omega, by go_num, O4.out, by rw [HQ.out]; exact HC.out.more (tn, tv), B4.out⟩
          case measure => simp [intOf]; omega
        · have p1 : decide ((j : Int) < (T.length : Int)) = false := decide_eq_false (by omega)
          have e : j = T.length := by omega
          subst e
          rw [List.take_of_length_le (Nat.le_refl _)] at hC
          have HO := Lib.hid hO
          have HC := Lib.hid hC
          have HW := Lib.hid hbel
          clear hO hC hbel
          go_wp2_with (at_range; refine wpList_range_own _ rfl _ 87 rfl 51 3 tgKeyed Tryd.underlying87 (plainElem Tryd.prog 3) w.heap.size l.length D rfl HO.out ?_; intro w0 hrg0 hg0 hs0; have HG := Lib.hid hrg0; have HB0 := Lib.hid (Below.grown HW.out hg0 HW.out.size (fun k hk => by simp at hk)); have hwr := HO.out.lt; clear hrg0 hg0 hs0)
          go_frame
          have hsz := HW.out.size
          have hfit := fun left (e : toCome left l = toCome left l) => (List.countP_le_length : toCome left l ≤ l.length)
          have HF := Lib.hid (toCome_first HC.out OL.out OT.out)
          have HR := Lib.hid (show fRest l T ≤ l.length from List.countP_le_length)
          clear HO HW hwr hfit
          generalize wr.heap.size = rb at *
          go_loopw [10] (fun v wr => ∃ left cnt, ∃ r : Nat, v = .int .i64 (r : Nat) ∧ wr.ranges Tryd.prog 51 (plainElem Tryd.prog 3) w.heap.size rb l.length D left cnt ∧ r + toCome left l = fRest l T ∧ (∀ z, left z = true → Maps.has D z = true) ∧ Below w.heap.size w wr) (fun _ wr => wr.rangeLeft w.heap.size rb)
          case atStart => exact ⟨_, _, 0, rfl, HG.out, by rw [HF.out]; omega, fun _ h => h, HB0.out⟩
          case round =>
            clear HG HB0
            obtain ⟨left, cnt, r, rfl, hrg, hsum, hsub, hbel⟩ := hrel
            have HG := Lib.hid hrg
            have HS := Lib.hid hsum
            have HU := Lib.hid hsub
            have HB1 := Lib.hid hbel
            have hleft := hrg.left_eq
            have hne := hrg.ne
            have hrlt := hrg.lt
            clear hrg hsum hsub hbel
            go_wp2_with (at_next; refine wpList_next_ranges _ rfl _ rfl 51 tgKeyed (plainElem Tryd.prog 3) (fun v : Value => v) (Value.int .i64) (fun key kl _ => ⟨key, rfl⟩) (fun v y hv => by obtain ⟨c, rfl, _⟩ := plainElem_int_inv Tryd.underlying3 hv; exact ⟨c, rfl⟩) w.heap.size rb l.length D left cnt rfl HG.out ?_ ?_)
            · intro h0 hl0
              have HR2 := Lib.hid (show (.int .i64 (r : Nat) : Value) = .int .i64 (fRest l T : Nat) by have := HS.out; rw [toCome_none left hl0] at this; rw [← this, Nat.add_zero])
              clear h0 hl0 hleft hne hrlt
              go_wp2
              go_ret
              exact ⟨by rw [← HR2.out]; rfl, HB1.out⟩
            · intro x c kl a b w1 cnt1 hkey hlk hv hat hrg1 hlt1 hg1 hs1 hen
              obtain ⟨z, rfl⟩ := tgLaw.str hkey
              have hz := HU.out _ hlk
              rw [HC.out.has] at hz
              simp only [Bool.and_eq_true, Bool.not_eq_true', decide_eq_true_eq, decide_eq_false_iff_not] at hz
              have hc : c = (kCnt fKb z l : Nat) := by
                obtain ⟨c', e1, e2, _⟩ := plainElem_int_inv Tryd.underlying3 hv
                have e3 := hat (pL 0)
                rw [HC.out.at_ z hz.2] at e3
                have e4 := (Value.int.inj e1).2
                rw [(Prod.mk.inj e2).1] at e3
                rw [e4]
                exact (Lit.int.inj (DataW.lit.inj e3)).2.symm
              have hmore := toCome_more left z hlk l
              generalize kCnt fKb z l = K at *
              subst hc
              have hwr : IntKind.i64.wrap ((r : Int) + (K : Int)) = ((r + K : Nat) : Int) := by
                have := HS.out; have := HR.out
                rw [i64_small (by omega) (by omega)]; omega
              have HSUM := Lib.hid (show (r + K) + toCome (fun y => left y && !y.sameKey (.string z)) l = fRest l T by have := HS.out; omega)
              have HUB := Lib.hid (show ∀ y, (fun y => left y && !y.sameKey (.string z)) y = true → Maps.has D y = true from fun y hy => HU.out y (by simp only [Bool.and_eq_true] at hy; exact hy.1))
              have HG1 := Lib.hid hrg1
              have HB2 := Lib.hid (Below.grown HB1.out hg1 HB1.out.size (fun k hk => by simp at hk; omega))
              have hl1 := hrg1.left_eq
              clear hkey hlk hv hat hrg1 hz hmore hg1 hs1 hne
              go_wp2
              go_roundw
              case rel => exact ⟨_, _, r + K, by go_num, HG1.out, HSUM.out, HUB.out, HB2.out⟩
              case measure => rw [hl1, hleft]; exact hlt1
end Go.Proofs.YtipnaonagepolaaDoor
