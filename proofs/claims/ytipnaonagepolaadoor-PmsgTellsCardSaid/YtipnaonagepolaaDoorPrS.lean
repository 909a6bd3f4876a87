/- The document's own fields (package truchmanref17): Next. -/
import Derived.Test.YtipnaonagepolaaDoorPrR
namespace Go.Proofs.YtipnaonagepolaaDoor
open Go Go.RowKit
set_option linter.unusedVariables false

/-- The blocks of Next: the cursor that came in, the two results. -/
structure NtS (w W : World) (d : CS) (rc : CS) (rf : FD) : Prop where
  cur : CurT 69 W (w.heap.size) d
  rcv : CurT 69 W (w.heap.size + 1) rc
  rfv : PfT 45 W (w.heap.size + 1 + 1) rf
  bel : Below w.heap.size w W
section
variable {w W W' : World} {d rc : CS} {rf : FD}
theorem NtS.next (h : NtS w W d rc rf) (hb : Below W.heap.size W W') : NtS w W' d rc rf :=
  ⟨Below.cur hb h.cur h.cur.lt, Below.cur hb h.rcv h.rcv.lt, h.rfv.below hb h.rfv.lt, grown_then h.bel hb⟩
theorem NtS.drew (h : NtS w W d rc rf) : NtS w W.drew d rc rf := ⟨h.cur, h.rcv, h.rfv, h.bel.drew⟩
theorem NtS.stC (h : NtS w W d rc rf) (d' : CS) : NtS w ((((W.setCell ⟨w.heap.size, 0, none⟩ (.string d'.s)).setCell ⟨w.heap.size, 1, none⟩ (.int .i64 d'.at_)).setCell ⟨w.heap.size, 2, none⟩ (.int .i64 d'.en)).setCell ⟨w.heap.size, 3, none⟩ (.int .i64 d'.er)) d' rc rf := by
  have o := Only.setAll W (w.heap.size) d'
  exact ⟨h.cur.setAll d', ro_cur h.rcv o (by omega), h.rfv.only o (by omega), h.bel.trans (o.below (by omega) h.bel.size)⟩
theorem NtS.stA (h : NtS w W d rc rf) (d' : CS) : NtS w ((((W.setCell ⟨w.heap.size + 1, 0, none⟩ (.string d'.s)).setCell ⟨w.heap.size + 1, 1, none⟩ (.int .i64 d'.at_)).setCell ⟨w.heap.size + 1, 2, none⟩ (.int .i64 d'.en)).setCell ⟨w.heap.size + 1, 3, none⟩ (.int .i64 d'.er)) d d' rf := by
  have o := Only.setAll W (w.heap.size + 1) d'
  exact ⟨ro_cur h.cur o (by omega), h.rcv.setAll d', h.rfv.only o (by omega), h.bel.trans (o.below (by omega) h.bel.size)⟩
theorem NtS.stB (h : NtS w W d rc rf) (f' : FD) : NtS w ((((W.setCell ⟨w.heap.size + 1 + 1, 0, none⟩ (.int .i64 f'.1)).setCell ⟨w.heap.size + 1 + 1, 1, none⟩ (.int .i64 f'.2.1)).setCell ⟨w.heap.size + 1 + 1, 2, none⟩ (.int .u64 (f'.2.2.1 : Nat))).setCell ⟨w.heap.size + 1 + 1, 3, none⟩ (.string f'.2.2.2)) d rc f' := by
  have o := Only.setFd W (w.heap.size + 1 + 1) f'
  exact ⟨ro_cur h.cur o (by omega), ro_cur h.rcv o (by omega), h.rfv.setAll f', h.bel.trans (o.below (by omega) h.bel.size)⟩
theorem NtS.far (h : NtS w W d rc rf) : w.heap.size + 1 + 1 < W.heap.size := h.rfv.lt
end
theorem nt_begin (w : World) (c : CS) : NtS w (((w.alloc (.cells #[.string c.s, .int .i64 c.at_, .int .i64 c.en, .int .i64 c.er] 69)).alloc (.cells #[.string ⟨#[]⟩, .int .i64 0, .int .i64 0, .int .i64 0] 69)).alloc (.cells #[.int .i64 0, .int .i64 0, .int .u64 0, .string ⟨#[]⟩] 45)) c CS.zero fZ := by
  have c1 := cur_alloc (w := w) (c := c) 69
  have b1 := (Below.refl w.heap.size w).alloc (Nat.le_refl _) (.cells #[.string c.s, .int .i64 c.at_, .int .i64 c.en, .int .i64 c.er] 69)
  have e1 : (w.alloc (.cells #[.string c.s, .int .i64 c.at_, .int .i64 c.en, .int .i64 c.er] 69)).heap.size = w.heap.size + 1 := World.size_alloc _ _
  generalize w.alloc (.cells #[.string c.s, .int .i64 c.at_, .int .i64 c.en, .int .i64 c.er] 69) = w2 at *
  have c3 : CurT 69 (w2.alloc (.cells #[.string ⟨#[]⟩, .int .i64 0, .int .i64 0, .int .i64 0] 69)) w2.heap.size CS.zero := cur_alloc (w := w2) (c := CS.zero) 69
  have b3 := (Below.refl w2.heap.size w2).alloc (Nat.le_refl _) (.cells #[.string ⟨#[]⟩, .int .i64 0, .int .i64 0, .int .i64 0] 69)
  have e3 : (w2.alloc (.cells #[.string ⟨#[]⟩, .int .i64 0, .int .i64 0, .int .i64 0] 69)).heap.size = w2.heap.size + 1 := World.size_alloc _ _
  generalize w2.alloc (.cells #[.string ⟨#[]⟩, .int .i64 0, .int .i64 0, .int .i64 0] 69) = w3 at *
  have c4 : PfT 45 (w3.alloc (.cells #[.int .i64 0, .int .i64 0, .int .u64 0, .string ⟨#[]⟩] 45)) w3.heap.size fZ := fd_alloc w3 fZ 45
  have b4 := (Below.refl w3.heap.size w3).alloc (Nat.le_refl _) (.cells #[.int .i64 0, .int .i64 0, .int .u64 0, .string ⟨#[]⟩] 45)
  generalize w3.alloc (.cells #[.int .i64 0, .int .i64 0, .int .u64 0, .string ⟨#[]⟩] 45) = w4 at *
  rw [e3, e1] at c4
  rw [e1] at c3
  exact ⟨Below.cur b4 (Below.cur b3 c1 (by omega)) (by omega), Below.cur b4 c3 (by omega), c4, (b1.trans (b3.mono (by omega))).trans (b4.mono (by omega))⟩
theorem gTo_err {c : CS} (h : ¬ c.gTo.er = 0) : c.fTo = c.gTo ∧ c.fVal = fZ := by
  have hw : mW c.vVal = 0 := by
    by_cases hm : mN c.vVal = 0
    · exact mW_zero hm
    · rw [CS.gTo_yes hm, CS.vTo_er] at h
      have e0 : c.vVal = 0 := by unfold CS.vVal; rw [if_neg h]
      rw [e0]; rfl
  have hF : c.fTo = c.gTo := by unfold CS.fTo; rw [hw]; exact (CS.vread_err h).1
  exact ⟨hF, by unfold CS.fVal; rw [hF, if_neg h]⟩
/-- What Next answers. -/
def NxR (c : CS) (w : World) (e : Ending) (w' : World) : Prop :=
  ∃ d, e = .returned (.tuple #[d.val, pfV c.fVal]) ∧ Alike c.fTo d ∧ d.s = c.s ∧ Below w.heap.size w w'

set_option maxRecDepth 20000 in
set_option maxHeartbeats 4000000 in
theorem rfnext_bad (c : CS) (w : World) (hc : c.ok) (hz : c.s.size ≤ 140737488351232) (he : ¬ c.gTo.er = 0) :
    Calls Tryd.prog 27 #[.agg #[.string c.s, .int .i64 c.at_, .int .i64 c.en, .int .i64 c.er]] w (NxR c w) := by
  have HT := Lib.hid (fun w => rtread_any (alike_refl hc) hz w)
  have HR := Lib.hid (gTo_err he)
  have HE := Lib.hid he
  generalize ((mN c.vVal : Nat) : Int) = U1 at *
  generalize ((mW c.vVal : Nat) : Int) = U2 at *
  clear he hc hz
  go_enter Tryd.func27, Tryd.ntmps27
  have B0 := nt_begin w c
  go_upto_region 1 with fail
  generalize (((w.alloc (.cells #[.string c.s, .int .i64 c.at_, .int .i64 c.en, .int .i64 c.er] 69)).alloc (.cells #[.string ⟨#[]⟩, .int .i64 0, .int .i64 0, .int .i64 0] 69)).alloc (.cells #[.int .i64 0, .int .i64 0, .int .u64 0, .string ⟨#[]⟩] 45)) = w0 at *
  have a0 := B0.cur.c0; have a1 := B0.cur.c1; have a2 := B0.cur.c2; have a3 := B0.cur.c3
  have HB0 := Lib.hid B0
  clear B0
  go_wp2_with fail
  with_reducible refine (HT.out _).mono ?_
  rintro e w1 ⟨d, rfl, hal0, hds0, k1⟩
  have hal := Lib.hid hal0
  have hds := Lib.hid hds0
  have p1 : (d.er != 0) = true := bne_iff_ne.mpr (by rw [← hal0.2.2.1]; exact HE.out)
  have HB1 := Lib.hid (HB0.out.next k1)
  clear k1 hal0 hds0 a0 a1 a2 a3
  have a0 := HB1.out.cur.c0; have a1 := HB1.out.cur.c1; have a2 := HB1.out.cur.c2; have a3 := HB1.out.cur.c3; have af := HB1.out.cur.fr
  have HB2 := Lib.hid (HB1.out.stC d)
  go_upto_region 2 with fail
  generalize ((((w1.setCell ⟨w.heap.size, 0, none⟩ (.string d.s)).setCell ⟨w.heap.size, 1, none⟩ (.int .i64 d.at_)).setCell ⟨w.heap.size, 2, none⟩ (.int .i64 d.en)).setCell ⟨w.heap.size, 3, none⟩ (.int .i64 d.er)) = w2 at *
  clear a0 a1 a2 a3 af
  have a0 := HB2.out.cur.c0; have a1 := HB2.out.cur.c1; have a2 := HB2.out.cur.c2; have a3 := HB2.out.cur.c3
  have zf := HB2.out.rcv.fr; have yf := HB2.out.rfv.fr
  have z0 := HB2.out.rcv.c0; have z1 := HB2.out.rcv.c1; have z2 := HB2.out.rcv.c2; have z3 := HB2.out.rcv.c3
  have y0 := HB2.out.rfv.c0; have y1 := HB2.out.rfv.c1; have y2 := HB2.out.rfv.c2; have y3 := HB2.out.rfv.c3
  have hX := (HB2.out.stA d).stB fZ
  have HX := Lib.hid hX
  clear hX
  go_wp2
  have hX := HX.out
  exact bodyPost_ret (cfd_result Tryd.underlying69 rfl (by kernel_rfl) Tryd.underlying45 rfl (by kernel_rfl) Tryd.results27 hX.rcv hX.rfv rfl rfl) rfl ⟨d, by rw [HR.out.2], by rw [HR.out.1]; exact hal.out, hds.out, hX.bel⟩

set_option maxRecDepth 20000 in
set_option maxHeartbeats 4000000 in
theorem rfnext_ok (c : CS) (w : World) (hc : c.ok) (hz : c.s.size ≤ 140737488351232) (he : c.gTo.er = 0) (hf : c.fTo.er = 0) :
    Calls Tryd.prog 27 #[.agg #[.string c.s, .int .i64 c.at_, .int .i64 c.en, .int .i64 c.er]] w (NxR c w) := by
  have HT := Lib.hid (show ∀ w, Calls Tryd.prog 43 #[.agg #[.string c.s, .int .i64 c.at_, .int .i64 c.en, .int .i64 c.er]] w fun e w' => e = .returned (.tuple #[.agg #[.string c.gTo.s, .int .i64 c.gTo.at_, .int .i64 c.gTo.en, .int .i64 c.gTo.er], .int .i64 (mN c.vVal : Nat), .int .i64 (mW c.vVal : Nat)]) ∧ Below w.heap.size w w' from fun w => by
    refine (rtread_any (alike_refl hc) hz w).mono ?_
    rintro e w' ⟨d, rfl, hal, _, hb⟩
    rw [← hal.2.2.2.1 he]; exact ⟨rfl, hb⟩)
  have hgs : c.gTo.s = c.s := (CS.gTo_s c).1
  have HGS := Lib.hid hgs
  have HC := Lib.hid (fun w => content_any c.gTo (mN c.vVal : Nat) (mW c.vVal) w (CS.gTo_ok hc) (by rw [hgs]; exact hz) (mW_four c.vVal))
  unfold CtR at HC
  have HF := Lib.hid (show c.fTo = c.gTo.cTo (mW c.vVal) from rfl)
  rw [← HF.out] at HC
  have HV := Lib.hid (show c.fVal = c.fGot from by unfold CS.fVal; rw [if_pos hf])
  unfold CS.fGot at HV
  have HNE := Lib.hid hf
  have q1 : (c.gTo.er != 0) = false := by rw [he]; rfl
  obtain ⟨g, hg⟩ : ∃ g, g = c.gTo := ⟨_, rfl⟩
  obtain ⟨U1, h1⟩ : ∃ U1, U1 = mN c.vVal := ⟨_, rfl⟩
  obtain ⟨U2, h2⟩ : ∃ U2, U2 = mW c.vVal := ⟨_, rfl⟩
  obtain ⟨X1, h3⟩ : ∃ X1, X1 = g.cNum U2 := ⟨_, rfl⟩
  obtain ⟨X2, h4⟩ : ∃ X2, X2 = g.cTxt U2 := ⟨_, rfl⟩
  rw [← hg, ← h1, ← h2] at HT
  rw [← hg, ← h1, ← h2, ← h3, ← h4] at HC
  rw [← hg] at q1 HGS
  rw [← hg, ← h1, ← h2, ← h3, ← h4] at HV
  clear hg h1 h2 h3 h4 hc hz he hf hgs HF
  go_enter Tryd.func27, Tryd.ntmps27
  have B0 := nt_begin w c
  go_upto_region 1 with fail
  generalize (((w.alloc (.cells #[.string c.s, .int .i64 c.at_, .int .i64 c.en, .int .i64 c.er] 69)).alloc (.cells #[.string ⟨#[]⟩, .int .i64 0, .int .i64 0, .int .i64 0] 69)).alloc (.cells #[.int .i64 0, .int .i64 0, .int .u64 0, .string ⟨#[]⟩] 45)) = w0 at *
  have a0 := B0.cur.c0; have a1 := B0.cur.c1; have a2 := B0.cur.c2; have a3 := B0.cur.c3
  have HB0 := Lib.hid B0
  clear B0
  go_wp2_with fail
  with_reducible refine (HT.out _).mono ?_
  rintro e w1 ⟨rfl, k1⟩
  have HB1 := Lib.hid (HB0.out.next k1)
  clear k1 a0 a1 a2 a3 HT
  have a0 := HB1.out.cur.c0; have a1 := HB1.out.cur.c1; have a2 := HB1.out.cur.c2; have a3 := HB1.out.cur.c3; have af := HB1.out.cur.fr
  have HB2 := Lib.hid (HB1.out.stC g)
  go_upto_region 2 with fail
  generalize ((((w1.setCell ⟨w.heap.size, 0, none⟩ (.string g.s)).setCell ⟨w.heap.size, 1, none⟩ (.int .i64 g.at_)).setCell ⟨w.heap.size, 2, none⟩ (.int .i64 g.en)).setCell ⟨w.heap.size, 3, none⟩ (.int .i64 g.er)) = w2 at *
  clear a0 a1 a2 a3 af
  have a0 := HB2.out.cur.c0; have a1 := HB2.out.cur.c1; have a2 := HB2.out.cur.c2; have a3 := HB2.out.cur.c3
  go_wp2_with fail
  with_reducible refine (HC.out _).mono ?_
  rintro e w3 ⟨d, f, rfl, hal0, hds0, hfv0, k3⟩
  have HB3 := Lib.hid (HB2.out.next k3)
  have hal := Lib.hid hal0
  have hds := Lib.hid (hds0.trans HGS.out)
  have hfv := Lib.hid hfv0
  have p1 : (d.er != 0) = false := by rw [← hal0.2.2.1, HNE.out]; rfl
  clear k3 hal0 hds0 hfv0 a0 a1 a2 a3 HC q1
  obtain ⟨f0, f1, f2, f3⟩ := f
  unfold CS.val pfV
  dsimp only
  have a0 := HB3.out.cur.c0; have a1 := HB3.out.cur.c1; have a2 := HB3.out.cur.c2; have a3 := HB3.out.cur.c3; have af := HB3.out.cur.fr
  have HB4 := HB3.out.stC d
  have fG := fd_alloc ((((w3.setCell ⟨w.heap.size, 0, none⟩ (.string d.s)).setCell ⟨w.heap.size, 1, none⟩ (.int .i64 d.at_)).setCell ⟨w.heap.size, 2, none⟩ (.int .i64 d.en)).setCell ⟨w.heap.size, 3, none⟩ (.int .i64 d.er)) (f0, f1, f2, f3) 45
  have gG := fd_grow ((((w3.setCell ⟨w.heap.size, 0, none⟩ (.string d.s)).setCell ⟨w.heap.size, 1, none⟩ (.int .i64 d.at_)).setCell ⟨w.heap.size, 2, none⟩ (.int .i64 d.en)).setCell ⟨w.heap.size, 3, none⟩ (.int .i64 d.er)) (f0, f1, f2, f3) 45
  have HB5 := Lib.hid (HB4.next gG)
  rw [show (((((w3.setCell ⟨w.heap.size, 0, none⟩ (.string d.s)).setCell ⟨w.heap.size, 1, none⟩ (.int .i64 d.at_)).setCell ⟨w.heap.size, 2, none⟩ (.int .i64 d.en)).setCell ⟨w.heap.size, 3, none⟩ (.int .i64 d.er))).heap.size = w3.heap.size by simp [World.setCell]] at fG
  have hfar := HB3.out.far
  have l3 : w.heap.size < w3.heap.size := HB3.out.cur.lt
  clear HB4 gG
  go_upto_region 5 with fail
  generalize (((((w3.setCell ⟨w.heap.size, 0, none⟩ (.string d.s)).setCell ⟨w.heap.size, 1, none⟩ (.int .i64 d.at_)).setCell ⟨w.heap.size, 2, none⟩ (.int .i64 d.en)).setCell ⟨w.heap.size, 3, none⟩ (.int .i64 d.er)).alloc (.cells #[.int .i64 f0, .int .i64 f1, .int .u64 (f2 : Nat), .string f3] 45)) = w4 at *
  clear l3
  generalize w3.heap.size = G at *
  clear a0 a1 a2 a3 af
  have a0 := HB5.out.cur.c0; have a1 := HB5.out.cur.c1; have a2 := HB5.out.cur.c2; have a3 := HB5.out.cur.c3
  have zf := HB5.out.rcv.fr; have yf := HB5.out.rfv.fr
  have z0 := HB5.out.rcv.c0; have z1 := HB5.out.rcv.c1; have z2 := HB5.out.rcv.c2; have z3 := HB5.out.rcv.c3
  have y0 := HB5.out.rfv.c0; have y1 := HB5.out.rfv.c1; have y2 := HB5.out.rfv.c2; have y3 := HB5.out.rfv.c3
  have g0 := fG.c0; have g1 := fG.c1; have g2 := fG.c2; have g3 := fG.c3
  have HFG := Lib.hid fG
  have HG := Lib.hid hfar
  clear fG hfar
  go_upto_region 7 with fail
  have hK : ∀ {W : World}, NtS w W d CS.zero fZ ∨ NtS w W d d fZ ∨ NtS w W d CS.zero (f0, f1, f2, f3) ∨ NtS w W d d (f0, f1, f2, f3) → PfT 45 W G (f0, f1, f2, f3) → (W.cell? ⟨w.heap.size, 0, none⟩ = some (.string d.s) ∧ W.cell? ⟨w.heap.size, 1, none⟩ = some (.int .i64 d.at_) ∧ W.cell? ⟨w.heap.size, 2, none⟩ = some (.int .i64 d.en) ∧ W.cell? ⟨w.heap.size, 3, none⟩ = some (.int .i64 d.er) ∧ W.cell? ⟨G, 0, none⟩ = some (.int .i64 f0) ∧ W.cell? ⟨G, 1, none⟩ = some (.int .i64 f1) ∧ W.cell? ⟨G, 2, none⟩ = some (.int .u64 (f2 : Nat)) ∧ W.cell? ⟨G, 3, none⟩ = some (.string f3)) := fun h k => by
    rcases h with h | h | h | h <;> exact ⟨h.cur.c0, h.cur.c1, h.cur.c2, h.cur.c3, k.c0, k.c1, k.c2, k.c3⟩
  have F1 := Lib.hid (show PfT 45 ((((w4.setCell ⟨w.heap.size + 1, 0, none⟩ (.string d.s)).setCell ⟨w.heap.size + 1, 1, none⟩ (.int .i64 d.at_)).setCell ⟨w.heap.size + 1, 2, none⟩ (.int .i64 d.en)).setCell ⟨w.heap.size + 1, 3, none⟩ (.int .i64 d.er)) G (f0, f1, f2, f3) from HFG.out.only (Only.setAll w4 _ d) (by have := HG.out; omega))
  have F2 := Lib.hid (show PfT 45 ((((w4.setCell ⟨w.heap.size + 1 + 1, 0, none⟩ (.int .i64 f0)).setCell ⟨w.heap.size + 1 + 1, 1, none⟩ (.int .i64 f1)).setCell ⟨w.heap.size + 1 + 1, 2, none⟩ (.int .u64 (f2 : Nat))).setCell ⟨w.heap.size + 1 + 1, 3, none⟩ (.string f3)) G (f0, f1, f2, f3) from HFG.out.only (Only.setFd w4 _ (f0, f1, f2, f3)) (by have := HG.out; omega))
  have F3 := Lib.hid (F1.out.only (Only.setFd ((((w4.setCell ⟨w.heap.size + 1, 0, none⟩ (.string d.s)).setCell ⟨w.heap.size + 1, 1, none⟩ (.int .i64 d.at_)).setCell ⟨w.heap.size + 1, 2, none⟩ (.int .i64 d.en)).setCell ⟨w.heap.size + 1, 3, none⟩ (.int .i64 d.er)) (w.heap.size + 1 + 1) (f0, f1, f2, f3)) (by have := HG.out; omega))
  have F4 := Lib.hid (F2.out.only (Only.setAll ((((w4.setCell ⟨w.heap.size + 1 + 1, 0, none⟩ (.int .i64 f0)).setCell ⟨w.heap.size + 1 + 1, 1, none⟩ (.int .i64 f1)).setCell ⟨w.heap.size + 1 + 1, 2, none⟩ (.int .u64 (f2 : Nat))).setCell ⟨w.heap.size + 1 + 1, 3, none⟩ (.string f3)) (w.heap.size + 1) d) (by have := HG.out; omega))
  go_region_held3 (fun wx => wx.cell? ⟨w.heap.size, 0, none⟩ = some (.string d.s) ∧ wx.cell? ⟨w.heap.size, 1, none⟩ = some (.int .i64 d.at_) ∧ wx.cell? ⟨w.heap.size, 2, none⟩ = some (.int .i64 d.en) ∧ wx.cell? ⟨w.heap.size, 3, none⟩ = some (.int .i64 d.er) ∧ wx.cell? ⟨G, 0, none⟩ = some (.int .i64 f0) ∧ wx.cell? ⟨G, 1, none⟩ = some (.int .i64 f1) ∧ wx.cell? ⟨G, 2, none⟩ = some (.int .u64 (f2 : Nat)) ∧ wx.cell? ⟨G, 3, none⟩ = some (.string f3))
    (first | with_reducible exact hK (.inl HB5.out.drew) HFG.out.drew | with_reducible exact hK (.inr (.inl (HB5.out.stA d).drew)) F1.out.drew | with_reducible exact hK (.inr (.inr (.inl (HB5.out.stB (f0, f1, f2, f3)).drew))) F2.out.drew | with_reducible exact hK (.inr (.inr (.inr ((HB5.out.stA d).stB (f0, f1, f2, f3)).drew))) F3.out.drew | with_reducible exact hK (.inr (.inr (.inr ((HB5.out.stB (f0, f1, f2, f3)).stA d).drew))) F4.out.drew)
    (first | fail)
  all_goals go_wp2
  all_goals first
    | (have hX := ((HB5.out.stA d).stB (f0, f1, f2, f3)).drew; exact bodyPost_ret (cfd_result Tryd.underlying69 rfl (by kernel_rfl) Tryd.underlying45 rfl (by kernel_rfl) Tryd.results27 hX.rcv hX.rfv rfl rfl) rfl ⟨d, by rw [HV.out, ← hfv.out (by rw [← hal.out.2.2.1]; exact HNE.out)], hal.out, hds.out, hX.bel⟩)

set_option maxRecDepth 20000 in
set_option maxHeartbeats 4000000 in
theorem rfnext_no (c : CS) (w : World) (hc : c.ok) (hz : c.s.size ≤ 140737488351232) (he : c.gTo.er = 0) (hf : ¬ c.fTo.er = 0) :
    Calls Tryd.prog 27 #[.agg #[.string c.s, .int .i64 c.at_, .int .i64 c.en, .int .i64 c.er]] w (NxR c w) := by
  have HT := Lib.hid (show ∀ w, Calls Tryd.prog 43 #[.agg #[.string c.s, .int .i64 c.at_, .int .i64 c.en, .int .i64 c.er]] w fun e w' => e = .returned (.tuple #[.agg #[.string c.gTo.s, .int .i64 c.gTo.at_, .int .i64 c.gTo.en, .int .i64 c.gTo.er], .int .i64 (mN c.vVal : Nat), .int .i64 (mW c.vVal : Nat)]) ∧ Below w.heap.size w w' from fun w => by
    refine (rtread_any (alike_refl hc) hz w).mono ?_
    rintro e w' ⟨d, rfl, hal, _, hb⟩
    rw [← hal.2.2.2.1 he]; exact ⟨rfl, hb⟩)
  have hgs : c.gTo.s = c.s := (CS.gTo_s c).1
  have HGS := Lib.hid hgs
  have HC := Lib.hid (fun w => content_any c.gTo (mN c.vVal : Nat) (mW c.vVal) w (CS.gTo_ok hc) (by rw [hgs]; exact hz) (mW_four c.vVal))
  unfold CtR at HC
  have HF := Lib.hid (show c.fTo = c.gTo.cTo (mW c.vVal) from rfl)
  rw [← HF.out] at HC
  have HV := Lib.hid (show c.fVal = fZ from by unfold CS.fVal; rw [if_neg hf])
  skip
  have HNE := Lib.hid hf
  have q1 : (c.gTo.er != 0) = false := by rw [he]; rfl
  obtain ⟨g, hg⟩ : ∃ g, g = c.gTo := ⟨_, rfl⟩
  obtain ⟨U1, h1⟩ : ∃ U1, U1 = mN c.vVal := ⟨_, rfl⟩
  obtain ⟨U2, h2⟩ : ∃ U2, U2 = mW c.vVal := ⟨_, rfl⟩
  obtain ⟨X1, h3⟩ : ∃ X1, X1 = g.cNum U2 := ⟨_, rfl⟩
  obtain ⟨X2, h4⟩ : ∃ X2, X2 = g.cTxt U2 := ⟨_, rfl⟩
  rw [← hg, ← h1, ← h2] at HT
  rw [← hg, ← h1, ← h2, ← h3, ← h4] at HC
  rw [← hg] at q1 HGS
  skip
  clear hg h1 h2 h3 h4 hc hz he hf hgs HF
  go_enter Tryd.func27, Tryd.ntmps27
  have B0 := nt_begin w c
  go_upto_region 1 with fail
  generalize (((w.alloc (.cells #[.string c.s, .int .i64 c.at_, .int .i64 c.en, .int .i64 c.er] 69)).alloc (.cells #[.string ⟨#[]⟩, .int .i64 0, .int .i64 0, .int .i64 0] 69)).alloc (.cells #[.int .i64 0, .int .i64 0, .int .u64 0, .string ⟨#[]⟩] 45)) = w0 at *
  have a0 := B0.cur.c0; have a1 := B0.cur.c1; have a2 := B0.cur.c2; have a3 := B0.cur.c3
  have HB0 := Lib.hid B0
  clear B0
  go_wp2_with fail
  with_reducible refine (HT.out _).mono ?_
  rintro e w1 ⟨rfl, k1⟩
  have HB1 := Lib.hid (HB0.out.next k1)
  clear k1 a0 a1 a2 a3 HT
  have a0 := HB1.out.cur.c0; have a1 := HB1.out.cur.c1; have a2 := HB1.out.cur.c2; have a3 := HB1.out.cur.c3; have af := HB1.out.cur.fr
  have HB2 := Lib.hid (HB1.out.stC g)
  go_upto_region 2 with fail
  generalize ((((w1.setCell ⟨w.heap.size, 0, none⟩ (.string g.s)).setCell ⟨w.heap.size, 1, none⟩ (.int .i64 g.at_)).setCell ⟨w.heap.size, 2, none⟩ (.int .i64 g.en)).setCell ⟨w.heap.size, 3, none⟩ (.int .i64 g.er)) = w2 at *
  clear a0 a1 a2 a3 af
  have a0 := HB2.out.cur.c0; have a1 := HB2.out.cur.c1; have a2 := HB2.out.cur.c2; have a3 := HB2.out.cur.c3
  go_wp2_with fail
  with_reducible refine (HC.out _).mono ?_
  rintro e w3 ⟨d, f, rfl, hal0, hds0, hfv0, k3⟩
  have HB3 := Lib.hid (HB2.out.next k3)
  have hal := Lib.hid hal0
  have hds := Lib.hid (hds0.trans HGS.out)
  have hfv := Lib.hid hfv0
  have p1 : (d.er != 0) = true := by exact bne_iff_ne.mpr (by rw [← hal0.2.2.1]; exact HNE.out)
  clear k3 hal0 hds0 hfv0 a0 a1 a2 a3 HC q1
  obtain ⟨f0, f1, f2, f3⟩ := f
  unfold CS.val pfV
  dsimp only
  have a0 := HB3.out.cur.c0; have a1 := HB3.out.cur.c1; have a2 := HB3.out.cur.c2; have a3 := HB3.out.cur.c3; have af := HB3.out.cur.fr
  have HB4 := HB3.out.stC d
  have fG := fd_alloc ((((w3.setCell ⟨w.heap.size, 0, none⟩ (.string d.s)).setCell ⟨w.heap.size, 1, none⟩ (.int .i64 d.at_)).setCell ⟨w.heap.size, 2, none⟩ (.int .i64 d.en)).setCell ⟨w.heap.size, 3, none⟩ (.int .i64 d.er)) (f0, f1, f2, f3) 45
  have gG := fd_grow ((((w3.setCell ⟨w.heap.size, 0, none⟩ (.string d.s)).setCell ⟨w.heap.size, 1, none⟩ (.int .i64 d.at_)).setCell ⟨w.heap.size, 2, none⟩ (.int .i64 d.en)).setCell ⟨w.heap.size, 3, none⟩ (.int .i64 d.er)) (f0, f1, f2, f3) 45
  have HB5 := Lib.hid (HB4.next gG)
  rw [show (((((w3.setCell ⟨w.heap.size, 0, none⟩ (.string d.s)).setCell ⟨w.heap.size, 1, none⟩ (.int .i64 d.at_)).setCell ⟨w.heap.size, 2, none⟩ (.int .i64 d.en)).setCell ⟨w.heap.size, 3, none⟩ (.int .i64 d.er))).heap.size = w3.heap.size by simp [World.setCell]] at fG
  have hfar := HB3.out.far
  have l3 : w.heap.size < w3.heap.size := HB3.out.cur.lt
  clear HB4 gG
  go_upto_region 5 with fail
  generalize (((((w3.setCell ⟨w.heap.size, 0, none⟩ (.string d.s)).setCell ⟨w.heap.size, 1, none⟩ (.int .i64 d.at_)).setCell ⟨w.heap.size, 2, none⟩ (.int .i64 d.en)).setCell ⟨w.heap.size, 3, none⟩ (.int .i64 d.er)).alloc (.cells #[.int .i64 f0, .int .i64 f1, .int .u64 (f2 : Nat), .string f3] 45)) = w4 at *
  clear l3
  generalize w3.heap.size = G at *
  clear a0 a1 a2 a3 af
  have a0 := HB5.out.cur.c0; have a1 := HB5.out.cur.c1; have a2 := HB5.out.cur.c2; have a3 := HB5.out.cur.c3
  have zf := HB5.out.rcv.fr; have yf := HB5.out.rfv.fr
  have z0 := HB5.out.rcv.c0; have z1 := HB5.out.rcv.c1; have z2 := HB5.out.rcv.c2; have z3 := HB5.out.rcv.c3
  have y0 := HB5.out.rfv.c0; have y1 := HB5.out.rfv.c1; have y2 := HB5.out.rfv.c2; have y3 := HB5.out.rfv.c3
  have HX := Lib.hid ((HB5.out.stA d).stB fZ)
  clear fG
  go_wp2
  have hX := HX.out
  exact bodyPost_ret (cfd_result Tryd.underlying69 rfl (by kernel_rfl) Tryd.underlying45 rfl (by kernel_rfl) Tryd.results27 hX.rcv hX.rfv rfl rfl) rfl ⟨d, by rw [HV.out], hal.out, hds.out, hX.bel⟩

theorem rfnext_any (c : CS) (w : World) (hc : c.ok) (hz : c.s.size ≤ 140737488351232) :
    Calls Tryd.prog 27 #[.agg #[.string c.s, .int .i64 c.at_, .int .i64 c.en, .int .i64 c.er]] w (NxR c w) := by
  by_cases he : c.gTo.er = 0
  · by_cases hf : c.fTo.er = 0
    · exact rfnext_ok c w hc hz he hf
    · exact rfnext_no c w hc hz he hf
  · exact rfnext_bad c w hc hz he
end Go.Proofs.YtipnaonagepolaaDoor
