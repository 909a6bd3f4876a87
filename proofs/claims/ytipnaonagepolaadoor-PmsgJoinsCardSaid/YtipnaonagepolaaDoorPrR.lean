/- The document's own fields (package truchmanref17): content. -/
import Derived.Test.YtipnaonagepolaaDoorZG
import Derived.Test.YtipnaonagepolaaDoorZF
import Derived.Test.YtipnaonagepolaaDoorReadA
import Derived.Test.YtipnaonagepolaaDoorPtR
import Derived.Deep.RegionHeld3
namespace Go.Proofs.YtipnaonagepolaaDoor
open Go Go.RowKit
set_option linter.unusedVariables false

theorem alike_refl {c : CS} (h : c.ok) : Alike c c := ⟨h, h, rfl, fun _ => rfl, rfl⟩
theorem ro_cur {t : TypeId} {w w' : World} {b k : Nat} {c : CS} (h : CurT t w k c) (ho : Only b w w') (hk : k ≠ b) : CurT t w' k c := ho.cur h hk
/-- The blocks of content: the cursor and the field that came in, the two results. -/
structure CtS (w W : World) (d : CS) (f : FD) (rc : CS) (rf : FD) : Prop where
  cur : CurT 69 W (w.heap.size) d
  fld : PfT 45 W (w.heap.size + 1) f
  rcv : CurT 69 W (w.heap.size + 1 + 1) rc
  rfv : PfT 45 W (w.heap.size + 1 + 1 + 1) rf
  bel : Below w.heap.size w W
section
variable {w W W' : World} {d rc : CS} {f rf : FD}
theorem CtS.next (h : CtS w W d f rc rf) (hb : Below W.heap.size W W') : CtS w W' d f rc rf :=
  ⟨Below.cur hb h.cur h.cur.lt, h.fld.below hb h.fld.lt, Below.cur hb h.rcv h.rcv.lt, h.rfv.below hb h.rfv.lt, grown_then h.bel hb⟩
theorem CtS.drew (h : CtS w W d f rc rf) : CtS w W.drew d f rc rf := ⟨h.cur, h.fld, h.rcv, h.rfv, h.bel.drew⟩
theorem CtS.stC (h : CtS w W d f rc rf) (d' : CS) : CtS w ((((W.setCell ⟨w.heap.size, 0, none⟩ (.string d'.s)).setCell ⟨w.heap.size, 1, none⟩ (.int .i64 d'.at_)).setCell ⟨w.heap.size, 2, none⟩ (.int .i64 d'.en)).setCell ⟨w.heap.size, 3, none⟩ (.int .i64 d'.er)) d' f rc rf := by
  have o := Only.setAll W (w.heap.size) d'
  exact ⟨h.cur.setAll d', h.fld.only o (by omega), ro_cur h.rcv o (by omega), h.rfv.only o (by omega), h.bel.trans (o.below (by omega) h.bel.size)⟩
theorem CtS.stA (h : CtS w W d f rc rf) (d' : CS) : CtS w ((((W.setCell ⟨w.heap.size + 1 + 1, 0, none⟩ (.string d'.s)).setCell ⟨w.heap.size + 1 + 1, 1, none⟩ (.int .i64 d'.at_)).setCell ⟨w.heap.size + 1 + 1, 2, none⟩ (.int .i64 d'.en)).setCell ⟨w.heap.size + 1 + 1, 3, none⟩ (.int .i64 d'.er)) d f d' rf := by
  have o := Only.setAll W (w.heap.size + 1 + 1) d'
  exact ⟨ro_cur h.cur o (by omega), h.fld.only o (by omega), h.rcv.setAll d', h.rfv.only o (by omega), h.bel.trans (o.below (by omega) h.bel.size)⟩
theorem CtS.stB (h : CtS w W d f rc rf) (f' : FD) : CtS w ((((W.setCell ⟨w.heap.size + 1 + 1 + 1, 0, none⟩ (.int .i64 f'.1)).setCell ⟨w.heap.size + 1 + 1 + 1, 1, none⟩ (.int .i64 f'.2.1)).setCell ⟨w.heap.size + 1 + 1 + 1, 2, none⟩ (.int .u64 (f'.2.2.1 : Nat))).setCell ⟨w.heap.size + 1 + 1 + 1, 3, none⟩ (.string f'.2.2.2)) d f rc f' := by
  have o := Only.setFd W (w.heap.size + 1 + 1 + 1) f'
  exact ⟨ro_cur h.cur o (by omega), h.fld.only o (by omega), ro_cur h.rcv o (by omega), h.rfv.setAll f', h.bel.trans (o.below (by omega) h.bel.size)⟩
theorem CtS.cells (h : CtS w W d f rc rf) : W.cell? ⟨w.heap.size, 0, none⟩ = some (.string d.s) ∧ W.cell? ⟨w.heap.size, 1, none⟩ = some (.int .i64 d.at_) ∧ W.cell? ⟨w.heap.size, 2, none⟩ = some (.int .i64 d.en) ∧ W.cell? ⟨w.heap.size, 3, none⟩ = some (.int .i64 d.er) ∧ W.cell? ⟨w.heap.size + 1, 0, none⟩ = some (.int .i64 f.1) ∧ W.cell? ⟨w.heap.size + 1, 1, none⟩ = some (.int .i64 f.2.1) ∧ W.cell? ⟨w.heap.size + 1, 2, none⟩ = some (.int .u64 (f.2.2.1 : Nat)) ∧ W.cell? ⟨w.heap.size + 1, 3, none⟩ = some (.string f.2.2.2) := ⟨h.cur.c0, h.cur.c1, h.cur.c2, h.cur.c3, h.fld.c0, h.fld.c1, h.fld.c2, h.fld.c3⟩
end
theorem CtS.setNum {w W : World} {d rc : CS} {n v : Int} {u : Nat} {s : ByteArray} {rf : FD} (h : CtS w W d (n, v, u, s) rc rf) (u' : Nat) : CtS w (W.setCell ⟨w.heap.size + 1, 2, none⟩ (.int .u64 (u' : Nat))) d (n, v, u', s) rc rf :=
  ⟨set_cur h.cur (by omega), h.fld.setNum u', set_cur h.rcv (by omega), set_fd h.rfv (by omega), set_keeps h.bel (by omega)⟩
theorem CtS.setTxt {w W : World} {d rc : CS} {n v : Int} {u : Nat} {s : ByteArray} {rf : FD} (h : CtS w W d (n, v, u, s) rc rf) (s' : ByteArray) : CtS w (W.setCell ⟨w.heap.size + 1, 3, none⟩ (.string s')) d (n, v, u, s') rc rf :=
  ⟨set_cur h.cur (by omega), h.fld.setTxt s', set_cur h.rcv (by omega), set_fd h.rfv (by omega), set_keeps h.bel (by omega)⟩
theorem CtS.stB0 {w W : World} {d rc : CS} {f rf : FD} (h : CtS w W d f rc rf) (n v : Int) (s : ByteArray) : CtS w ((((W.setCell ⟨w.heap.size + 1 + 1 + 1, 0, none⟩ (.int .i64 n)).setCell ⟨w.heap.size + 1 + 1 + 1, 1, none⟩ (.int .i64 v)).setCell ⟨w.heap.size + 1 + 1 + 1, 2, none⟩ (.int .u64 0)).setCell ⟨w.heap.size + 1 + 1 + 1, 3, none⟩ (.string s)) d f rc (n, v, 0, s) := h.stB (n, v, 0, s)
theorem CtS.cells0 {w W : World} {d rc : CS} {n v : Int} {s : ByteArray} {rf : FD} (h : CtS w W d (n, v, 0, s) rc rf) : W.cell? ⟨w.heap.size, 0, none⟩ = some (.string d.s) ∧ W.cell? ⟨w.heap.size, 1, none⟩ = some (.int .i64 d.at_) ∧ W.cell? ⟨w.heap.size, 2, none⟩ = some (.int .i64 d.en) ∧ W.cell? ⟨w.heap.size, 3, none⟩ = some (.int .i64 d.er) ∧ W.cell? ⟨w.heap.size + 1, 0, none⟩ = some (.int .i64 n) ∧ W.cell? ⟨w.heap.size + 1, 1, none⟩ = some (.int .i64 v) ∧ W.cell? ⟨w.heap.size + 1, 2, none⟩ = some (.int .u64 0) ∧ W.cell? ⟨w.heap.size + 1, 3, none⟩ = some (.string s) := h.cells
theorem ct_begin (w : World) (d : CS) (f : FD) : CtS w ((((w.alloc (.cells #[.string d.s, .int .i64 d.at_, .int .i64 d.en, .int .i64 d.er] 69)).alloc (.cells #[.int .i64 f.1, .int .i64 f.2.1, .int .u64 (f.2.2.1 : Nat), .string f.2.2.2] 45)).alloc (.cells #[.string ⟨#[]⟩, .int .i64 0, .int .i64 0, .int .i64 0] 69)).alloc (.cells #[.int .i64 0, .int .i64 0, .int .u64 0, .string ⟨#[]⟩] 45)) d f CS.zero fZ := by
  have c1 := cur_alloc (w := w) (c := d) 69
  have b1 := (Below.refl w.heap.size w).alloc (Nat.le_refl _) (.cells #[.string d.s, .int .i64 d.at_, .int .i64 d.en, .int .i64 d.er] 69)
  have e1 : (w.alloc (.cells #[.string d.s, .int .i64 d.at_, .int .i64 d.en, .int .i64 d.er] 69)).heap.size = w.heap.size + 1 := World.size_alloc _ _
  generalize w.alloc (.cells #[.string d.s, .int .i64 d.at_, .int .i64 d.en, .int .i64 d.er] 69) = w1 at *
  have c2 := fd_alloc w1 f 45
  have b2 := fd_grow w1 f 45
  have e2 : (w1.alloc (.cells #[.int .i64 f.1, .int .i64 f.2.1, .int .u64 (f.2.2.1 : Nat), .string f.2.2.2] 45)).heap.size = w1.heap.size + 1 := World.size_alloc _ _
  generalize w1.alloc (.cells #[.int .i64 f.1, .int .i64 f.2.1, .int .u64 (f.2.2.1 : Nat), .string f.2.2.2] 45) = w2 at *
  have c3 := cur_alloc (w := w2) (c := CS.zero) 69
  have b3 := (Below.refl w2.heap.size w2).alloc (Nat.le_refl _) (.cells #[.string ⟨#[]⟩, .int .i64 0, .int .i64 0, .int .i64 0] 69)
  have e3 : (w2.alloc (.cells #[.string ⟨#[]⟩, .int .i64 0, .int .i64 0, .int .i64 0] 69)).heap.size = w2.heap.size + 1 := World.size_alloc _ _
  have c3 : CurT 69 (w2.alloc (.cells #[.string ⟨#[]⟩, .int .i64 0, .int .i64 0, .int .i64 0] 69)) w2.heap.size CS.zero := c3
  generalize w2.alloc (.cells #[.string ⟨#[]⟩, .int .i64 0, .int .i64 0, .int .i64 0] 69) = w3 at *
  have c4 : PfT 45 (w3.alloc (.cells #[.int .i64 0, .int .i64 0, .int .u64 0, .string ⟨#[]⟩] 45)) w3.heap.size fZ := fd_alloc w3 fZ 45
  have b4 := (Below.refl w3.heap.size w3).alloc (Nat.le_refl _) (.cells #[.int .i64 0, .int .i64 0, .int .u64 0, .string ⟨#[]⟩] 45)
  generalize w3.alloc (.cells #[.int .i64 0, .int .i64 0, .int .u64 0, .string ⟨#[]⟩] 45) = w4 at *
  rw [e3, e2, e1] at c4
  rw [e2, e1] at c3
  rw [e1] at c2
  exact ⟨Below.cur b4 (Below.cur b3 (Below.cur b2 c1 c1.lt) (by omega)) (by omega), (c2.below b3 (by omega)).below b4 (by omega), Below.cur b4 c3 (by omega), c4, (b1.trans (b2.mono (by omega))).trans ((b3.mono (by omega)).trans (b4.mono (by omega)))⟩
/-- What content answers. -/
def CtR (g : CS) (n : Int) (v : Nat) (w : World) (e : Ending) (w' : World) : Prop :=
  ∃ d f, e = .returned (.tuple #[d.val, pfV f]) ∧ Alike (g.cTo v) d ∧ d.s = g.s ∧ (d.er = 0 → f = (n, (v : Int), g.cNum v, g.cTxt v)) ∧ Below w.heap.size w w'

set_option maxRecDepth 20000 in
set_option maxHeartbeats 4000000 in
theorem content_0 (g : CS) (n : Int) (w : World) (hc : g.ok) (hz : g.s.size ≤ 140737488351232) :
    Calls Tryd.prog 44 #[.agg #[.string g.s, .int .i64 g.at_, .int .i64 g.en, .int .i64 g.er], .agg #[.int .i64 n, .int .i64 0, .int .u64 0, .string ⟨#[]⟩]] w (CtR g n 0 w) := by
  have HC := Lib.hid (fun w => rr_l (V := ((g.vVal : Nat) : Int)) (Lib.hid rfl) (Lib.hid (alike_refl hc)) hz w)
  obtain ⟨U, hU⟩ : ∃ U, U = g.vVal := ⟨_, rfl⟩
  have HR := Lib.hid (show g.cTo 0 = g.vTo ∧ g.cNum 0 = U ∧ g.cTxt 0 = ⟨#[]⟩ from ⟨rfl, hU.symm, rfl⟩)
  rw [← hU] at HC
  clear hU hc hz
  go_enter Tryd.func44, Tryd.ntmps44
  have B0 : CtS w ((((w.alloc (.cells #[.string g.s, .int .i64 g.at_, .int .i64 g.en, .int .i64 g.er] 69)).alloc (.cells #[.int .i64 n, .int .i64 0, .int .u64 0, .string ⟨#[]⟩] 45)).alloc (.cells #[.string ⟨#[]⟩, .int .i64 0, .int .i64 0, .int .i64 0] 69)).alloc (.cells #[.int .i64 0, .int .i64 0, .int .u64 0, .string ⟨#[]⟩] 45)) g (n, 0, 0, ⟨#[]⟩) CS.zero fZ := ct_begin w g (n, 0, 0, ⟨#[]⟩)
  go_upto_region 1 with fail
  generalize ((((w.alloc (.cells #[.string g.s, .int .i64 g.at_, .int .i64 g.en, .int .i64 g.er] 69)).alloc (.cells #[.int .i64 n, .int .i64 0, .int .u64 0, .string ⟨#[]⟩] 45)).alloc (.cells #[.string ⟨#[]⟩, .int .i64 0, .int .i64 0, .int .i64 0] 69)).alloc (.cells #[.int .i64 0, .int .i64 0, .int .u64 0, .string ⟨#[]⟩] 45)) = w0 at *
  obtain ⟨a0, a1, a2, a3, b0, b1, b2, b3⟩ := B0.cells
  have HB0 := Lib.hid B0
  have af := B0.cur.fr; have bf := B0.fld.fr
  clear B0
  go_wp2_with fail
  with_reducible refine (HC.out _).mono ?_
  rintro e w1 ⟨d, rfl, hal0, hds0, k1⟩
  have hds := Lib.hid hds0
  have hal := Lib.hid hal0
  clear hds0 hal0
  have HB1 := Lib.hid (HB0.out.next k1)
  clear k1 HC a0 a1 a2 a3 b0 b1 b2 b3 af bf
  obtain ⟨a0, a1, a2, a3, b0, b1, b2, b3⟩ := HB1.out.cells
  have af := HB1.out.cur.fr; have bf := HB1.out.fld.fr
  have HB2 := Lib.hid ((HB1.out.stC d).setNum U)
  go_upto_region 3 with fail
  generalize (((((w1.setCell ⟨w.heap.size, 0, none⟩ (.string d.s)).setCell ⟨w.heap.size, 1, none⟩ (.int .i64 d.at_)).setCell ⟨w.heap.size, 2, none⟩ (.int .i64 d.en)).setCell ⟨w.heap.size, 3, none⟩ (.int .i64 d.er)).setCell ⟨w.heap.size + 1, 2, none⟩ (.int .u64 (U : Nat))) = w2 at *
  clear a0 a1 a2 a3 b0 b1 b2 b3 af bf
  have HB3 := Lib.hid HB2.out.drew
  have zf := HB2.out.rcv.fr; have yf := HB2.out.rfv.fr
  have z0 := HB2.out.rcv.c0; have z1 := HB2.out.rcv.c1; have z2 := HB2.out.rcv.c2; have z3 := HB2.out.rcv.c3
  have y0 := HB2.out.rfv.c0; have y1 := HB2.out.rfv.c1; have y2 := HB2.out.rfv.c2; have y3 := HB2.out.rfv.c3
  go_region_held3 (fun wx => wx.cell? ⟨w.heap.size, 0, none⟩ = some (.string d.s) ∧ wx.cell? ⟨w.heap.size, 1, none⟩ = some (.int .i64 d.at_) ∧ wx.cell? ⟨w.heap.size, 2, none⟩ = some (.int .i64 d.en) ∧ wx.cell? ⟨w.heap.size, 3, none⟩ = some (.int .i64 d.er) ∧ wx.cell? ⟨w.heap.size + 1, 0, none⟩ = some (.int .i64 n) ∧ wx.cell? ⟨w.heap.size + 1, 1, none⟩ = some (.int .i64 0) ∧ wx.cell? ⟨w.heap.size + 1, 2, none⟩ = some (.int .u64 (U : Nat)) ∧ wx.cell? ⟨w.heap.size + 1, 3, none⟩ = some (.string ⟨#[]⟩))
    (first | with_reducible exact HB3.out.cells | with_reducible exact (HB2.out.stA d).drew.cells | with_reducible exact (HB2.out.stB (n, 0, U, ⟨#[]⟩)).drew.cells | with_reducible exact ((HB2.out.stA d).stB (n, 0, U, ⟨#[]⟩)).drew.cells | with_reducible exact ((HB2.out.stB (n, 0, U, ⟨#[]⟩)).stA d).drew.cells)
    (first | fail)
  all_goals go_wp2
  all_goals first
    | (have hX := ((HB2.out.stA d).stB (n, 0, U, ⟨#[]⟩)).drew; exact bodyPost_ret (cfd_result Tryd.underlying69 rfl (by kernel_rfl) Tryd.underlying45 rfl (by kernel_rfl) Tryd.results44 hX.rcv hX.rfv rfl rfl) rfl ⟨d, _, rfl, by rw [HR.out.1]; exact hal.out, hds.out, fun _ => by rw [HR.out.2.1, HR.out.2.2]; rfl, hX.bel⟩)
    | (have hX := ((HB2.out.stB (n, 0, U, ⟨#[]⟩)).stA d).drew; exact bodyPost_ret (cfd_result Tryd.underlying69 rfl (by kernel_rfl) Tryd.underlying45 rfl (by kernel_rfl) Tryd.results44 hX.rcv hX.rfv rfl rfl) rfl ⟨d, _, rfl, by rw [HR.out.1]; exact hal.out, hds.out, fun _ => by rw [HR.out.2.1, HR.out.2.2]; rfl, hX.bel⟩)

set_option maxRecDepth 20000 in
set_option maxHeartbeats 4000000 in
theorem content_1 (g : CS) (n : Int) (w : World) (hc : g.ok) (hz : g.s.size ≤ 140737488351232) :
    Calls Tryd.prog 44 #[.agg #[.string g.s, .int .i64 g.at_, .int .i64 g.en, .int .i64 g.er], .agg #[.int .i64 n, .int .i64 1, .int .u64 0, .string ⟨#[]⟩]] w (CtR g n 1 w) := by
  have HC := Lib.hid (show ∀ w, Calls Tryd.prog 63 #[.agg #[.string g.s, .int .i64 g.at_, .int .i64 g.en, .int .i64 g.er], .int .i64 8] w fun e w' => e = .returned (.tuple #[(g.take (8 : Nat)).val, .int .u64 ((g.cNum 1 : Nat) : Int)]) ∧ Below w.heap.size w w' from fun w => ref_readLow g 8 w hc (by omega) (by have := takeS_size g 8 hc; omega))
  have hk : (g.take (8 : Nat)).ok := CS.take_ok hc _
  obtain ⟨U, hU⟩ : ∃ U, U = g.cNum 1 := ⟨_, rfl⟩
  obtain ⟨d, hd⟩ : ∃ d, d = g.take (8 : Nat) := ⟨_, rfl⟩
  have HR := Lib.hid (show g.cTo 1 = d ∧ g.cNum 1 = U ∧ g.cTxt 1 = ⟨#[]⟩ from ⟨hd.symm, hU.symm, rfl⟩)
  have hds := Lib.hid (show d.s = g.s by rw [hd]; exact (CS.take_s g _).1)
  rw [← hU, ← hd] at HC
  rw [← hd] at hk
  have hal := Lib.hid (alike_refl hk)
  unfold CS.val at HC
  clear hU hd hk hc hz
  go_enter Tryd.func44, Tryd.ntmps44
  have B0 : CtS w ((((w.alloc (.cells #[.string g.s, .int .i64 g.at_, .int .i64 g.en, .int .i64 g.er] 69)).alloc (.cells #[.int .i64 n, .int .i64 1, .int .u64 0, .string ⟨#[]⟩] 45)).alloc (.cells #[.string ⟨#[]⟩, .int .i64 0, .int .i64 0, .int .i64 0] 69)).alloc (.cells #[.int .i64 0, .int .i64 0, .int .u64 0, .string ⟨#[]⟩] 45)) g (n, 1, 0, ⟨#[]⟩) CS.zero fZ := ct_begin w g (n, 1, 0, ⟨#[]⟩)
  go_upto_region 1 with fail
  generalize ((((w.alloc (.cells #[.string g.s, .int .i64 g.at_, .int .i64 g.en, .int .i64 g.er] 69)).alloc (.cells #[.int .i64 n, .int .i64 1, .int .u64 0, .string ⟨#[]⟩] 45)).alloc (.cells #[.string ⟨#[]⟩, .int .i64 0, .int .i64 0, .int .i64 0] 69)).alloc (.cells #[.int .i64 0, .int .i64 0, .int .u64 0, .string ⟨#[]⟩] 45)) = w0 at *
  obtain ⟨a0, a1, a2, a3, b0, b1, b2, b3⟩ := B0.cells
  have HB0 := Lib.hid B0
  have af := B0.cur.fr; have bf := B0.fld.fr
  clear B0
  go_wp2_with fail
  with_reducible refine (HC.out _).mono ?_
  rintro e w1 ⟨rfl, k1⟩
  have HB1 := Lib.hid (HB0.out.next k1)
  clear k1 HC a0 a1 a2 a3 b0 b1 b2 b3 af bf
  obtain ⟨a0, a1, a2, a3, b0, b1, b2, b3⟩ := HB1.out.cells
  have af := HB1.out.cur.fr; have bf := HB1.out.fld.fr
  have HB2 := Lib.hid ((HB1.out.stC d).setNum U)
  go_upto_region 6 with fail
  generalize (((((w1.setCell ⟨w.heap.size, 0, none⟩ (.string d.s)).setCell ⟨w.heap.size, 1, none⟩ (.int .i64 d.at_)).setCell ⟨w.heap.size, 2, none⟩ (.int .i64 d.en)).setCell ⟨w.heap.size, 3, none⟩ (.int .i64 d.er)).setCell ⟨w.heap.size + 1, 2, none⟩ (.int .u64 (U : Nat))) = w2 at *
  clear a0 a1 a2 a3 b0 b1 b2 b3 af bf
  have HB3 := Lib.hid HB2.out.drew
  have zf := HB2.out.rcv.fr; have yf := HB2.out.rfv.fr
  have z0 := HB2.out.rcv.c0; have z1 := HB2.out.rcv.c1; have z2 := HB2.out.rcv.c2; have z3 := HB2.out.rcv.c3
  have y0 := HB2.out.rfv.c0; have y1 := HB2.out.rfv.c1; have y2 := HB2.out.rfv.c2; have y3 := HB2.out.rfv.c3
  go_region_held3 (fun wx => wx.cell? ⟨w.heap.size, 0, none⟩ = some (.string d.s) ∧ wx.cell? ⟨w.heap.size, 1, none⟩ = some (.int .i64 d.at_) ∧ wx.cell? ⟨w.heap.size, 2, none⟩ = some (.int .i64 d.en) ∧ wx.cell? ⟨w.heap.size, 3, none⟩ = some (.int .i64 d.er) ∧ wx.cell? ⟨w.heap.size + 1, 0, none⟩ = some (.int .i64 n) ∧ wx.cell? ⟨w.heap.size + 1, 1, none⟩ = some (.int .i64 1) ∧ wx.cell? ⟨w.heap.size + 1, 2, none⟩ = some (.int .u64 (U : Nat)) ∧ wx.cell? ⟨w.heap.size + 1, 3, none⟩ = some (.string ⟨#[]⟩))
    (first | with_reducible exact HB3.out.cells | with_reducible exact (HB2.out.stA d).drew.cells | with_reducible exact (HB2.out.stB (n, 1, U, ⟨#[]⟩)).drew.cells | with_reducible exact ((HB2.out.stA d).stB (n, 1, U, ⟨#[]⟩)).drew.cells | with_reducible exact ((HB2.out.stB (n, 1, U, ⟨#[]⟩)).stA d).drew.cells)
    (first | fail)
  all_goals go_wp2
  all_goals first
    | (have hX := ((HB2.out.stA d).stB (n, 1, U, ⟨#[]⟩)).drew; exact bodyPost_ret (cfd_result Tryd.underlying69 rfl (by kernel_rfl) Tryd.underlying45 rfl (by kernel_rfl) Tryd.results44 hX.rcv hX.rfv rfl rfl) rfl ⟨d, _, rfl, by rw [HR.out.1]; exact hal.out, hds.out, fun _ => by rw [HR.out.2.1, HR.out.2.2]; rfl, hX.bel⟩)
    | (have hX := ((HB2.out.stB (n, 1, U, ⟨#[]⟩)).stA d).drew; exact bodyPost_ret (cfd_result Tryd.underlying69 rfl (by kernel_rfl) Tryd.underlying45 rfl (by kernel_rfl) Tryd.results44 hX.rcv hX.rfv rfl rfl) rfl ⟨d, _, rfl, by rw [HR.out.1]; exact hal.out, hds.out, fun _ => by rw [HR.out.2.1, HR.out.2.2]; rfl, hX.bel⟩)

set_option maxRecDepth 20000 in
set_option maxHeartbeats 4000000 in
theorem content_5 (g : CS) (n : Int) (w : World) (hc : g.ok) (hz : g.s.size ≤ 140737488351232) :
    Calls Tryd.prog 44 #[.agg #[.string g.s, .int .i64 g.at_, .int .i64 g.en, .int .i64 g.er], .agg #[.int .i64 n, .int .i64 5, .int .u64 0, .string ⟨#[]⟩]] w (CtR g n 5 w) := by
  have HC := Lib.hid (show ∀ w, Calls Tryd.prog 63 #[.agg #[.string g.s, .int .i64 g.at_, .int .i64 g.en, .int .i64 g.er], .int .i64 4] w fun e w' => e = .returned (.tuple #[(g.take (4 : Nat)).val, .int .u64 ((g.cNum 5 : Nat) : Int)]) ∧ Below w.heap.size w w' from fun w => ref_readLow g 4 w hc (by omega) (by have := takeS_size g 4 hc; omega))
  have hk : (g.take (4 : Nat)).ok := CS.take_ok hc _
  obtain ⟨U, hU⟩ : ∃ U, U = g.cNum 5 := ⟨_, rfl⟩
  obtain ⟨d, hd⟩ : ∃ d, d = g.take (4 : Nat) := ⟨_, rfl⟩
  have HR := Lib.hid (show g.cTo 5 = d ∧ g.cNum 5 = U ∧ g.cTxt 5 = ⟨#[]⟩ from ⟨hd.symm, hU.symm, rfl⟩)
  have hds := Lib.hid (show d.s = g.s by rw [hd]; exact (CS.take_s g _).1)
  rw [← hU, ← hd] at HC
  rw [← hd] at hk
  have hal := Lib.hid (alike_refl hk)
  unfold CS.val at HC
  clear hU hd hk hc hz
  go_enter Tryd.func44, Tryd.ntmps44
  have B0 : CtS w ((((w.alloc (.cells #[.string g.s, .int .i64 g.at_, .int .i64 g.en, .int .i64 g.er] 69)).alloc (.cells #[.int .i64 n, .int .i64 5, .int .u64 0, .string ⟨#[]⟩] 45)).alloc (.cells #[.string ⟨#[]⟩, .int .i64 0, .int .i64 0, .int .i64 0] 69)).alloc (.cells #[.int .i64 0, .int .i64 0, .int .u64 0, .string ⟨#[]⟩] 45)) g (n, 5, 0, ⟨#[]⟩) CS.zero fZ := ct_begin w g (n, 5, 0, ⟨#[]⟩)
  go_upto_region 1 with fail
  generalize ((((w.alloc (.cells #[.string g.s, .int .i64 g.at_, .int .i64 g.en, .int .i64 g.er] 69)).alloc (.cells #[.int .i64 n, .int .i64 5, .int .u64 0, .string ⟨#[]⟩] 45)).alloc (.cells #[.string ⟨#[]⟩, .int .i64 0, .int .i64 0, .int .i64 0] 69)).alloc (.cells #[.int .i64 0, .int .i64 0, .int .u64 0, .string ⟨#[]⟩] 45)) = w0 at *
  obtain ⟨a0, a1, a2, a3, b0, b1, b2, b3⟩ := B0.cells
  have HB0 := Lib.hid B0
  have af := B0.cur.fr; have bf := B0.fld.fr
  clear B0
  go_wp2_with fail
  with_reducible refine (HC.out _).mono ?_
  rintro e w1 ⟨rfl, k1⟩
  have HB1 := Lib.hid (HB0.out.next k1)
  clear k1 HC a0 a1 a2 a3 b0 b1 b2 b3 af bf
  obtain ⟨a0, a1, a2, a3, b0, b1, b2, b3⟩ := HB1.out.cells
  have af := HB1.out.cur.fr; have bf := HB1.out.fld.fr
  have HB2 := Lib.hid ((HB1.out.stC d).setNum U)
  go_upto_region 9 with fail
  generalize (((((w1.setCell ⟨w.heap.size, 0, none⟩ (.string d.s)).setCell ⟨w.heap.size, 1, none⟩ (.int .i64 d.at_)).setCell ⟨w.heap.size, 2, none⟩ (.int .i64 d.en)).setCell ⟨w.heap.size, 3, none⟩ (.int .i64 d.er)).setCell ⟨w.heap.size + 1, 2, none⟩ (.int .u64 (U : Nat))) = w2 at *
  clear a0 a1 a2 a3 b0 b1 b2 b3 af bf
  have HB3 := Lib.hid HB2.out.drew
  have zf := HB2.out.rcv.fr; have yf := HB2.out.rfv.fr
  have z0 := HB2.out.rcv.c0; have z1 := HB2.out.rcv.c1; have z2 := HB2.out.rcv.c2; have z3 := HB2.out.rcv.c3
  have y0 := HB2.out.rfv.c0; have y1 := HB2.out.rfv.c1; have y2 := HB2.out.rfv.c2; have y3 := HB2.out.rfv.c3
  go_region_held3 (fun wx => wx.cell? ⟨w.heap.size, 0, none⟩ = some (.string d.s) ∧ wx.cell? ⟨w.heap.size, 1, none⟩ = some (.int .i64 d.at_) ∧ wx.cell? ⟨w.heap.size, 2, none⟩ = some (.int .i64 d.en) ∧ wx.cell? ⟨w.heap.size, 3, none⟩ = some (.int .i64 d.er) ∧ wx.cell? ⟨w.heap.size + 1, 0, none⟩ = some (.int .i64 n) ∧ wx.cell? ⟨w.heap.size + 1, 1, none⟩ = some (.int .i64 5) ∧ wx.cell? ⟨w.heap.size + 1, 2, none⟩ = some (.int .u64 (U : Nat)) ∧ wx.cell? ⟨w.heap.size + 1, 3, none⟩ = some (.string ⟨#[]⟩))
    (first | with_reducible exact HB3.out.cells | with_reducible exact (HB2.out.stA d).drew.cells | with_reducible exact (HB2.out.stB (n, 5, U, ⟨#[]⟩)).drew.cells | with_reducible exact ((HB2.out.stA d).stB (n, 5, U, ⟨#[]⟩)).drew.cells | with_reducible exact ((HB2.out.stB (n, 5, U, ⟨#[]⟩)).stA d).drew.cells)
    (first | fail)
  all_goals go_wp2
  all_goals first
    | (have hX := ((HB2.out.stA d).stB (n, 5, U, ⟨#[]⟩)).drew; exact bodyPost_ret (cfd_result Tryd.underlying69 rfl (by kernel_rfl) Tryd.underlying45 rfl (by kernel_rfl) Tryd.results44 hX.rcv hX.rfv rfl rfl) rfl ⟨d, _, rfl, by rw [HR.out.1]; exact hal.out, hds.out, fun _ => by rw [HR.out.2.1, HR.out.2.2]; rfl, hX.bel⟩)
    | (have hX := ((HB2.out.stB (n, 5, U, ⟨#[]⟩)).stA d).drew; exact bodyPost_ret (cfd_result Tryd.underlying69 rfl (by kernel_rfl) Tryd.underlying45 rfl (by kernel_rfl) Tryd.results44 hX.rcv hX.rfv rfl rfl) rfl ⟨d, _, rfl, by rw [HR.out.1]; exact hal.out, hds.out, fun _ => by rw [HR.out.2.1, HR.out.2.2]; rfl, hX.bel⟩)

set_option maxRecDepth 20000 in
set_option maxHeartbeats 4000000 in
theorem content_2c (g : CS) (n : Int) (w : World) (hc : g.ok) (hz : g.s.size ≤ 140737488351232) (he : g.vTo.er = 0) (hl : g.vTo.en - g.vTo.at_ < g.vVal) :
    Calls Tryd.prog 44 #[.agg #[.string g.s, .int .i64 g.at_, .int .i64 g.en, .int .i64 g.er], .agg #[.int .i64 n, .int .i64 2, .int .u64 0, .string ⟨#[]⟩]] w (CtR g n 2 w) := by
  have hdk := CS.vTo_ok hc
  have hVl := CS.vVal_lt g
  have HC0 := fun w => rr_l (V := ((g.vVal : Nat) : Int)) (Lib.hid rfl) (Lib.hid (alike_refl hc)) hz w
  have HC := Lib.hid (show ∀ w, Calls Tryd.prog 60 #[.agg #[.string g.s, .int .i64 g.at_, .int .i64 g.en, .int .i64 g.er]] w fun e w' => e = .returned (.tuple #[.agg #[.string g.vTo.s, .int .i64 g.vTo.at_, .int .i64 g.vTo.en, .int .i64 g.vTo.er], .int .u64 ((g.vVal : Nat) : Int)]) ∧ Below w.heap.size w w' from fun w => by
    refine (HC0 w).mono ?_
    rintro e w' ⟨d, rfl, hal, _, hb⟩
    rw [← hal.2.2.2.1 he]
    exact ⟨rfl, hb⟩)
  have HR := Lib.hid (show g.cTo 2 = g.vTo.fail 1 by show g.xTo = _; unfold CS.xTo; rw [if_pos hl])
  have hds := Lib.hid (show (g.vTo.fail 1).s = g.s by rw [(CS.fail_s _ _).1]; exact (CS.vTo_s g).1)
  have hal := Lib.hid (alike_refl (CS.fail_ok hdk 1))
  have HX1 := Lib.hid (show g.vTo.fail 1 = { g.vTo with er := 1 } by unfold CS.fail; rw [if_pos he])
  rw [HX1.out] at HR hds hal
  have HT := Lib.hid (fun w => ref_fail0 g.vTo 1 w he)
  clear HX1
  obtain ⟨V, hV⟩ : ∃ V, V = g.vVal := ⟨_, rfl⟩
  rw [← hV] at HC hl hVl
  obtain ⟨d, hd⟩ : ∃ d, d = g.vTo := ⟨_, rfl⟩
  rw [← hd] at HC hl he hdk HT HR hds hal
  clear hV hd HC0
  have q1 : (d.er == 0) = true := by rw [he]; rfl
  obtain ⟨L, hL⟩ : ∃ L, L = d.en - d.at_ := ⟨_, rfl⟩
  rw [← hL] at hl
  have es : IntKind.i64.wrap ((d.en : Int) - (d.at_ : Int)) = (L : Int) := by rw [IntWalk.i64_in _ (by have := hdk.1; have := hdk.2.1; have := hdk.2.2; omega)]; have := hdk.1; omega
  have eu : IntKind.u64.wrap (L : Int) = (L : Int) := IntWalk.u64_in _ (by have := hdk.2.1; have := hdk.2.2; omega)
  have q2 : decide ((L : Int) < (V : Int)) = true := decide_eq_true (by omega)
  have q3 : decide (L < V) = true := decide_eq_true hl
  clear hl he hdk hL hVl hc hz
  go_enter Tryd.func44, Tryd.ntmps44
  have B0 : CtS w ((((w.alloc (.cells #[.string g.s, .int .i64 g.at_, .int .i64 g.en, .int .i64 g.er] 69)).alloc (.cells #[.int .i64 n, .int .i64 2, .int .u64 0, .string ⟨#[]⟩] 45)).alloc (.cells #[.string ⟨#[]⟩, .int .i64 0, .int .i64 0, .int .i64 0] 69)).alloc (.cells #[.int .i64 0, .int .i64 0, .int .u64 0, .string ⟨#[]⟩] 45)) g (n, 2, 0, ⟨#[]⟩) CS.zero fZ := ct_begin w g (n, 2, 0, ⟨#[]⟩)
  go_upto_region 1 with fail
  generalize ((((w.alloc (.cells #[.string g.s, .int .i64 g.at_, .int .i64 g.en, .int .i64 g.er] 69)).alloc (.cells #[.int .i64 n, .int .i64 2, .int .u64 0, .string ⟨#[]⟩] 45)).alloc (.cells #[.string ⟨#[]⟩, .int .i64 0, .int .i64 0, .int .i64 0] 69)).alloc (.cells #[.int .i64 0, .int .i64 0, .int .u64 0, .string ⟨#[]⟩] 45)) = w0 at *
  obtain ⟨a0, a1, a2, a3, b0, b1, b2, b3⟩ := B0.cells
  have HB0 := Lib.hid B0
  have af := B0.cur.fr; have bf := B0.fld.fr
  clear B0
  go_wp2_with fail
  with_reducible refine (HC.out _).mono ?_
  rintro e w1 ⟨rfl, k1⟩
  have HB1 := Lib.hid (HB0.out.next k1)
  clear k1 HC a0 a1 a2 a3 b0 b1 b2 b3 af bf
  obtain ⟨a0, a1, a2, a3, b0, b1, b2, b3⟩ := HB1.out.cells
  have af := HB1.out.cur.fr
  have HB2 := Lib.hid (HB1.out.stC d)
  go_upto_region 11 with fail
  generalize ((((w1.setCell ⟨w.heap.size, 0, none⟩ (.string d.s)).setCell ⟨w.heap.size, 1, none⟩ (.int .i64 d.at_)).setCell ⟨w.heap.size, 2, none⟩ (.int .i64 d.en)).setCell ⟨w.heap.size, 3, none⟩ (.int .i64 d.er)) = w2 at *
  clear a0 a1 a2 a3 b0 b1 b2 b3 af
  obtain ⟨a0, a1, a2, a3, b0, b1, b2, b3⟩ := HB2.out.cells
  go_upto_region 12 with fail
  clear a0 a1 a2 a3 b0 b1 b2 b3 q1 q2 q3
  have zf := HB2.out.rcv.fr; have yf := HB2.out.rfv.fr
  have z0 := HB2.out.rcv.c0; have z1 := HB2.out.rcv.c1; have z2 := HB2.out.rcv.c2; have z3 := HB2.out.rcv.c3
  have y0 := HB2.out.rfv.c0; have y1 := HB2.out.rfv.c1; have y2 := HB2.out.rfv.c2; have y3 := HB2.out.rfv.c3
  go_region_held3 (fun wx => wx.cell? ⟨w.heap.size, 0, none⟩ = some (.string d.s) ∧ wx.cell? ⟨w.heap.size, 1, none⟩ = some (.int .i64 d.at_) ∧ wx.cell? ⟨w.heap.size, 2, none⟩ = some (.int .i64 d.en) ∧ wx.cell? ⟨w.heap.size, 3, none⟩ = some (.int .i64 d.er) ∧ wx.cell? ⟨w.heap.size + 1, 0, none⟩ = some (.int .i64 n) ∧ wx.cell? ⟨w.heap.size + 1, 1, none⟩ = some (.int .i64 2) ∧ wx.cell? ⟨w.heap.size + 1, 2, none⟩ = some (.int .u64 0) ∧ wx.cell? ⟨w.heap.size + 1, 3, none⟩ = some (.string ⟨#[]⟩))
    (first | with_reducible exact HB2.out.drew.cells0 | with_reducible exact HX1.out.cells0 | with_reducible exact (HB2.out.stB0 n 2 ⟨#[]⟩).drew.cells0 | with_reducible exact (HX1.out.stA { d with er := 1 }).cells0 | with_reducible exact (HX1.out.stB0 n 2 ⟨#[]⟩).cells0 | with_reducible exact ((HX1.out.stA { d with er := 1 }).stB0 n 2 ⟨#[]⟩).cells0 | with_reducible exact ((HX1.out.stB0 n 2 ⟨#[]⟩).stA { d with er := 1 }).cells0 | with_reducible exact HX2.out.cells0 | with_reducible exact (HX2.out.stA { d with er := 1 }).cells0)
    (first
      | (go_at_call 62; go_loud (with_reducible refine (HT.out _).mono ?_; rintro r w4 ⟨rfl, k4⟩); (first | (have HX1 := Lib.hid (HB2.out.drew.next k4); have zf := HX1.out.rcv.fr; have yf := HX1.out.rfv.fr; have z0 := HX1.out.rcv.c0; have z1 := HX1.out.rcv.c1; have z2 := HX1.out.rcv.c2; have z3 := HX1.out.rcv.c3; have y0 := HX1.out.rfv.c0; have y1 := HX1.out.rfv.c1; have y2 := HX1.out.rfv.c2; have y3 := HX1.out.rfv.c3) | (have HX2 := Lib.hid ((HB2.out.stB0 n 2 ⟨#[]⟩).drew.next k4); have zf := HX2.out.rcv.fr; have z0 := HX2.out.rcv.c0; have z1 := HX2.out.rcv.c1; have z2 := HX2.out.rcv.c2; have z3 := HX2.out.rcv.c3))))
  all_goals go_wp2
  all_goals first
    | (have hX := ((HX1.out.stA { d with er := 1 }).stB0 n 2 ⟨#[]⟩); exact bodyPost_ret (cfd_result Tryd.underlying69 rfl (by kernel_rfl) Tryd.underlying45 rfl (by kernel_rfl) Tryd.results44 hX.rcv hX.rfv rfl rfl) rfl ⟨{ d with er := 1 }, _, rfl, by rw [HR.out]; exact hal.out, hds.out, fun h => absurd h (show ¬ (1 : Int) = 0 by decide), hX.bel⟩)
    | (have hX := ((HX1.out.stB0 n 2 ⟨#[]⟩).stA { d with er := 1 }); exact bodyPost_ret (cfd_result Tryd.underlying69 rfl (by kernel_rfl) Tryd.underlying45 rfl (by kernel_rfl) Tryd.results44 hX.rcv hX.rfv rfl rfl) rfl ⟨{ d with er := 1 }, _, rfl, by rw [HR.out]; exact hal.out, hds.out, fun h => absurd h (show ¬ (1 : Int) = 0 by decide), hX.bel⟩)
    | (have hX := (HX2.out.stA { d with er := 1 }); exact bodyPost_ret (cfd_result Tryd.underlying69 rfl (by kernel_rfl) Tryd.underlying45 rfl (by kernel_rfl) Tryd.results44 hX.rcv hX.rfv rfl rfl) rfl ⟨{ d with er := 1 }, _, rfl, by rw [HR.out]; exact hal.out, hds.out, fun h => absurd h (show ¬ (1 : Int) = 0 by decide), hX.bel⟩)

set_option maxRecDepth 20000 in
set_option maxHeartbeats 4000000 in
theorem content_2e (g : CS) (n : Int) (w : World) (hc : g.ok) (hz : g.s.size ≤ 140737488351232) (he : ¬ g.vTo.er = 0) :
    Calls Tryd.prog 44 #[.agg #[.string g.s, .int .i64 g.at_, .int .i64 g.en, .int .i64 g.er], .agg #[.int .i64 n, .int .i64 2, .int .u64 0, .string ⟨#[]⟩]] w (CtR g n 2 w) := by
  have hv0 : g.vVal = 0 := by
    unfold CS.vVal; rw [if_neg (by rw [← CS.vTo_er]; exact he)]
  have HC := Lib.hid (fun w => rr_l (V := 0) (Lib.hid (by rw [hv0]; rfl)) (Lib.hid (alike_refl hc)) hz w)
  have HR := Lib.hid (show g.cTo 2 = g.vTo by
    show g.xTo = _
    unfold CS.xTo
    rw [hv0, if_neg (by omega)]
    have hy : g.vTo.why (0 : Nat) = g.vTo.er := by unfold CS.why; rw [if_pos he]
    unfold CS.take
    rw [if_neg (by rw [hy]; exact he), hy])
  have HEr := Lib.hid he
  clear hv0 he hc hz
  go_enter Tryd.func44, Tryd.ntmps44
  have B0 : CtS w ((((w.alloc (.cells #[.string g.s, .int .i64 g.at_, .int .i64 g.en, .int .i64 g.er] 69)).alloc (.cells #[.int .i64 n, .int .i64 2, .int .u64 0, .string ⟨#[]⟩] 45)).alloc (.cells #[.string ⟨#[]⟩, .int .i64 0, .int .i64 0, .int .i64 0] 69)).alloc (.cells #[.int .i64 0, .int .i64 0, .int .u64 0, .string ⟨#[]⟩] 45)) g (n, 2, 0, ⟨#[]⟩) CS.zero fZ := ct_begin w g (n, 2, 0, ⟨#[]⟩)
  go_upto_region 1 with fail
  generalize ((((w.alloc (.cells #[.string g.s, .int .i64 g.at_, .int .i64 g.en, .int .i64 g.er] 69)).alloc (.cells #[.int .i64 n, .int .i64 2, .int .u64 0, .string ⟨#[]⟩] 45)).alloc (.cells #[.string ⟨#[]⟩, .int .i64 0, .int .i64 0, .int .i64 0] 69)).alloc (.cells #[.int .i64 0, .int .i64 0, .int .u64 0, .string ⟨#[]⟩] 45)) = w0 at *
  obtain ⟨a0, a1, a2, a3, b0, b1, b2, b3⟩ := B0.cells
  have HB0 := Lib.hid B0
  have af := B0.cur.fr; have bf := B0.fld.fr
  clear B0
  go_wp2_with fail
  with_reducible refine (HC.out _).mono ?_
  rintro e w1 ⟨d, rfl, hal0, hds0, k1⟩
  have hal := Lib.hid hal0
  have hds := Lib.hid hds0
  have hdE : ¬ d.er = 0 := by rw [← hal0.2.2.1]; exact HEr.out
  have q1 : (d.er == 0) = false := beq_eq_false_iff_ne.mpr hdE
  have HT := Lib.hid (show ∀ w, Calls Tryd.prog 64 #[.agg #[.string d.s, .int .i64 d.at_, .int .i64 d.en, .int .i64 d.er], .int .i64 0] w fun e w' => e = .returned (.tuple #[.agg #[.string d.s, .int .i64 d.at_, .int .i64 d.en, .int .i64 d.er], .string ⟨#[]⟩]) ∧ Below w.heap.size w w' from fun w => by
    have := ref_take d 0 w hal0.2.1
    have hy : d.why 0 = d.er := by unfold CS.why; rw [if_pos hdE]
    have hy' : ¬ d.why 0 = 0 := by rw [hy]; exact hdE
    have e1 : d.take 0 = d := by unfold CS.take; rw [if_neg hy', hy]
    rw [e1, takeS_no hy'] at this; exact this)
  have HNE := Lib.hid hdE
  clear hal0 hds0 hdE
  have HB1 := Lib.hid (HB0.out.next k1)
  clear k1 HC a0 a1 a2 a3 b0 b1 b2 b3 af bf
  obtain ⟨a0, a1, a2, a3, b0, b1, b2, b3⟩ := HB1.out.cells
  have af := HB1.out.cur.fr
  have HB2 := Lib.hid (HB1.out.stC d)
  go_upto_region 11 with fail
  generalize ((((w1.setCell ⟨w.heap.size, 0, none⟩ (.string d.s)).setCell ⟨w.heap.size, 1, none⟩ (.int .i64 d.at_)).setCell ⟨w.heap.size, 2, none⟩ (.int .i64 d.en)).setCell ⟨w.heap.size, 3, none⟩ (.int .i64 d.er)) = w2 at *
  clear a0 a1 a2 a3 b0 b1 b2 b3 af
  obtain ⟨a0, a1, a2, a3, b0, b1, b2, b3⟩ := HB2.out.cells
  go_wp2_with fail
  with_reducible refine (HT.out _).mono ?_
  rintro e w4 ⟨rfl, k4⟩
  have HB4 := Lib.hid (HB2.out.next k4)
  clear k4 HT a0 a1 a2 a3 b0 b1 b2 b3 q1
  obtain ⟨a0, a1, a2, a3, b0, b1, b2, b3⟩ := HB4.out.cells
  have af := HB4.out.cur.fr; have bf := HB4.out.fld.fr
  have HB5 := Lib.hid ((HB4.out.stC d).setTxt ⟨#[]⟩)
  go_upto_region 14 with fail
  generalize (((((w4.setCell ⟨w.heap.size, 0, none⟩ (.string d.s)).setCell ⟨w.heap.size, 1, none⟩ (.int .i64 d.at_)).setCell ⟨w.heap.size, 2, none⟩ (.int .i64 d.en)).setCell ⟨w.heap.size, 3, none⟩ (.int .i64 d.er)).setCell ⟨w.heap.size + 1, 3, none⟩ (.string ⟨#[]⟩)) = w5 at *
  clear a0 a1 a2 a3 b0 b1 b2 b3 af bf HB4
  have zf := HB5.out.rcv.fr; have yf := HB5.out.rfv.fr
  have z0 := HB5.out.rcv.c0; have z1 := HB5.out.rcv.c1; have z2 := HB5.out.rcv.c2; have z3 := HB5.out.rcv.c3
  have y0 := HB5.out.rfv.c0; have y1 := HB5.out.rfv.c1; have y2 := HB5.out.rfv.c2; have y3 := HB5.out.rfv.c3
  go_region_held3 (fun wx => wx.cell? ⟨w.heap.size, 0, none⟩ = some (.string d.s) ∧ wx.cell? ⟨w.heap.size, 1, none⟩ = some (.int .i64 d.at_) ∧ wx.cell? ⟨w.heap.size, 2, none⟩ = some (.int .i64 d.en) ∧ wx.cell? ⟨w.heap.size, 3, none⟩ = some (.int .i64 d.er) ∧ wx.cell? ⟨w.heap.size + 1, 0, none⟩ = some (.int .i64 n) ∧ wx.cell? ⟨w.heap.size + 1, 1, none⟩ = some (.int .i64 2) ∧ wx.cell? ⟨w.heap.size + 1, 2, none⟩ = some (.int .u64 0) ∧ wx.cell? ⟨w.heap.size + 1, 3, none⟩ = some (.string ⟨#[]⟩))
    (first | with_reducible exact HB5.out.drew.cells0 | with_reducible exact (HB5.out.stA d).drew.cells0 | with_reducible exact (HB5.out.stB0 n 2 ⟨#[]⟩).drew.cells0 | with_reducible exact ((HB5.out.stA d).stB0 n 2 ⟨#[]⟩).drew.cells0 | with_reducible exact ((HB5.out.stB0 n 2 ⟨#[]⟩).stA d).drew.cells0)
    (first | fail)
  all_goals go_wp2
  all_goals first
    | (have hX := ((HB5.out.stA d).stB0 n 2 ⟨#[]⟩).drew; exact bodyPost_ret (cfd_result Tryd.underlying69 rfl (by kernel_rfl) Tryd.underlying45 rfl (by kernel_rfl) Tryd.results44 hX.rcv hX.rfv rfl rfl) rfl ⟨d, _, rfl, by rw [HR.out]; exact hal.out, hds.out, fun h => absurd h HNE.out, hX.bel⟩)
    | (have hX := ((HB5.out.stB0 n 2 ⟨#[]⟩).stA d).drew; exact bodyPost_ret (cfd_result Tryd.underlying69 rfl (by kernel_rfl) Tryd.underlying45 rfl (by kernel_rfl) Tryd.results44 hX.rcv hX.rfv rfl rfl) rfl ⟨d, _, rfl, by rw [HR.out]; exact hal.out, hds.out, fun h => absurd h HNE.out, hX.bel⟩)

set_option maxRecDepth 20000 in
set_option maxHeartbeats 4000000 in
theorem content_2t (g : CS) (n : Int) (w : World) (hc : g.ok) (hz : g.s.size ≤ 140737488351232) (he : g.vTo.er = 0) (hl : ¬ g.vTo.en - g.vTo.at_ < g.vVal) :
    Calls Tryd.prog 44 #[.agg #[.string g.s, .int .i64 g.at_, .int .i64 g.en, .int .i64 g.er], .agg #[.int .i64 n, .int .i64 2, .int .u64 0, .string ⟨#[]⟩]] w (CtR g n 2 w) := by
  have hdk := CS.vTo_ok hc
  have hVl := CS.vVal_lt g
  have HC0 := fun w => rr_l (V := ((g.vVal : Nat) : Int)) (Lib.hid rfl) (Lib.hid (alike_refl hc)) hz w
  have HC := Lib.hid (show ∀ w, Calls Tryd.prog 60 #[.agg #[.string g.s, .int .i64 g.at_, .int .i64 g.en, .int .i64 g.er]] w fun e w' => e = .returned (.tuple #[.agg #[.string g.vTo.s, .int .i64 g.vTo.at_, .int .i64 g.vTo.en, .int .i64 g.vTo.er], .int .u64 ((g.vVal : Nat) : Int)]) ∧ Below w.heap.size w w' from fun w => by
    refine (HC0 w).mono ?_
    rintro e w' ⟨d, rfl, hal, _, hb⟩
    rw [← hal.2.2.2.1 he]
    exact ⟨rfl, hb⟩)
  have HR := Lib.hid (show g.cTo 2 = g.vTo.take (g.vVal : Nat) ∧ g.cNum 2 = 0 ∧ g.cTxt 2 = g.vTo.takeS (g.vVal : Nat) by
    refine ⟨?_, rfl, ?_⟩
    · show g.xTo = _; unfold CS.xTo; rw [if_neg hl]
    · show g.xTxt = _; unfold CS.xTxt; rw [if_neg hl])
  have hds := Lib.hid (show (g.vTo.take (g.vVal : Nat)).s = g.s by rw [(CS.take_s _ _).1]; exact (CS.vTo_s g).1)
  have hal := Lib.hid (alike_refl (CS.take_ok hdk (g.vVal : Nat)))
  have HT := Lib.hid (fun w => ref_take g.vTo (g.vVal : Nat) w hdk)
  obtain ⟨D, hD⟩ : ∃ D, D = g.vTo.take (g.vVal : Nat) := ⟨_, rfl⟩
  obtain ⟨T, hT⟩ : ∃ T, T = g.vTo.takeS (g.vVal : Nat) := ⟨_, rfl⟩
  rw [← hD] at HR hds hal HT
  rw [← hT] at HR HT
  unfold CS.val at HT
  clear hD hT
  obtain ⟨V, hV⟩ : ∃ V, V = g.vVal := ⟨_, rfl⟩
  rw [← hV] at HC hl hVl HT
  obtain ⟨d, hd⟩ : ∃ d, d = g.vTo := ⟨_, rfl⟩
  rw [← hd] at HC hl he hdk HT
  clear hV hd HC0
  have q1 : (d.er == 0) = true := by rw [he]; rfl
  obtain ⟨L, hL⟩ : ∃ L, L = d.en - d.at_ := ⟨_, rfl⟩
  rw [← hL] at hl
  have es : IntKind.i64.wrap ((d.en : Int) - (d.at_ : Int)) = (L : Int) := by rw [IntWalk.i64_in _ (by have := hdk.1; have := hdk.2.1; have := hdk.2.2; omega)]; have := hdk.1; omega
  have eu : IntKind.u64.wrap (L : Int) = (L : Int) := IntWalk.u64_in _ (by have := hdk.2.1; have := hdk.2.2; omega)
  have q2 : decide ((L : Int) < (V : Int)) = false := decide_eq_false (by omega)
  have q3 : decide (L < V) = false := decide_eq_false hl
  have eV : IntKind.i64.wrap (V : Int) = (V : Int) := IntWalk.i64_in _ (by have := hdk.2.1; have := hdk.2.2; omega)
  clear hl he hdk hL hVl hc hz
  go_enter Tryd.func44, Tryd.ntmps44
  have B0 : CtS w ((((w.alloc (.cells #[.string g.s, .int .i64 g.at_, .int .i64 g.en, .int .i64 g.er] 69)).alloc (.cells #[.int .i64 n, .int .i64 2, .int .u64 0, .string ⟨#[]⟩] 45)).alloc (.cells #[.string ⟨#[]⟩, .int .i64 0, .int .i64 0, .int .i64 0] 69)).alloc (.cells #[.int .i64 0, .int .i64 0, .int .u64 0, .string ⟨#[]⟩] 45)) g (n, 2, 0, ⟨#[]⟩) CS.zero fZ := ct_begin w g (n, 2, 0, ⟨#[]⟩)
  go_upto_region 1 with fail
  generalize ((((w.alloc (.cells #[.string g.s, .int .i64 g.at_, .int .i64 g.en, .int .i64 g.er] 69)).alloc (.cells #[.int .i64 n, .int .i64 2, .int .u64 0, .string ⟨#[]⟩] 45)).alloc (.cells #[.string ⟨#[]⟩, .int .i64 0, .int .i64 0, .int .i64 0] 69)).alloc (.cells #[.int .i64 0, .int .i64 0, .int .u64 0, .string ⟨#[]⟩] 45)) = w0 at *
  obtain ⟨a0, a1, a2, a3, b0, b1, b2, b3⟩ := B0.cells
  have HB0 := Lib.hid B0
  have af := B0.cur.fr; have bf := B0.fld.fr
  clear B0
  go_wp2_with fail
  with_reducible refine (HC.out _).mono ?_
  rintro e w1 ⟨rfl, k1⟩
  have HB1 := Lib.hid (HB0.out.next k1)
  clear k1 HC a0 a1 a2 a3 b0 b1 b2 b3 af bf
  obtain ⟨a0, a1, a2, a3, b0, b1, b2, b3⟩ := HB1.out.cells
  have af := HB1.out.cur.fr
  have HB2 := Lib.hid (HB1.out.stC d)
  go_upto_region 11 with fail
  generalize ((((w1.setCell ⟨w.heap.size, 0, none⟩ (.string d.s)).setCell ⟨w.heap.size, 1, none⟩ (.int .i64 d.at_)).setCell ⟨w.heap.size, 2, none⟩ (.int .i64 d.en)).setCell ⟨w.heap.size, 3, none⟩ (.int .i64 d.er)) = w2 at *
  clear a0 a1 a2 a3 b0 b1 b2 b3 af
  obtain ⟨a0, a1, a2, a3, b0, b1, b2, b3⟩ := HB2.out.cells
  go_wp2_with fail
  with_reducible refine (HT.out _).mono ?_
  rintro e w4 ⟨rfl, k4⟩
  have HB4 := Lib.hid (HB2.out.next k4)
  clear k4 HT a0 a1 a2 a3 b0 b1 b2 b3 q1 q2 q3
  obtain ⟨a0, a1, a2, a3, b0, b1, b2, b3⟩ := HB4.out.cells
  have af := HB4.out.cur.fr; have bf := HB4.out.fld.fr
  have HB5 := Lib.hid ((HB4.out.stC D).setTxt T)
  go_upto_region 14 with fail
  generalize (((((w4.setCell ⟨w.heap.size, 0, none⟩ (.string D.s)).setCell ⟨w.heap.size, 1, none⟩ (.int .i64 D.at_)).setCell ⟨w.heap.size, 2, none⟩ (.int .i64 D.en)).setCell ⟨w.heap.size, 3, none⟩ (.int .i64 D.er)).setCell ⟨w.heap.size + 1, 3, none⟩ (.string T)) = w5 at *
  clear a0 a1 a2 a3 b0 b1 b2 b3 af bf HB4
  have zf := HB5.out.rcv.fr; have yf := HB5.out.rfv.fr
  have z0 := HB5.out.rcv.c0; have z1 := HB5.out.rcv.c1; have z2 := HB5.out.rcv.c2; have z3 := HB5.out.rcv.c3
  have y0 := HB5.out.rfv.c0; have y1 := HB5.out.rfv.c1; have y2 := HB5.out.rfv.c2; have y3 := HB5.out.rfv.c3
  go_region_held3 (fun wx => wx.cell? ⟨w.heap.size, 0, none⟩ = some (.string D.s) ∧ wx.cell? ⟨w.heap.size, 1, none⟩ = some (.int .i64 D.at_) ∧ wx.cell? ⟨w.heap.size, 2, none⟩ = some (.int .i64 D.en) ∧ wx.cell? ⟨w.heap.size, 3, none⟩ = some (.int .i64 D.er) ∧ wx.cell? ⟨w.heap.size + 1, 0, none⟩ = some (.int .i64 n) ∧ wx.cell? ⟨w.heap.size + 1, 1, none⟩ = some (.int .i64 2) ∧ wx.cell? ⟨w.heap.size + 1, 2, none⟩ = some (.int .u64 0) ∧ wx.cell? ⟨w.heap.size + 1, 3, none⟩ = some (.string T))
    (first | with_reducible exact HB5.out.drew.cells0 | with_reducible exact (HB5.out.stA D).drew.cells0 | with_reducible exact (HB5.out.stB0 n 2 T).drew.cells0 | with_reducible exact ((HB5.out.stA D).stB0 n 2 T).drew.cells0 | with_reducible exact ((HB5.out.stB0 n 2 T).stA D).drew.cells0)
    (first | fail)
  all_goals go_wp2
  all_goals first
    | (have hX := ((HB5.out.stA D).stB0 n 2 T).drew; exact bodyPost_ret (cfd_result Tryd.underlying69 rfl (by kernel_rfl) Tryd.underlying45 rfl (by kernel_rfl) Tryd.results44 hX.rcv hX.rfv rfl rfl) rfl ⟨D, _, rfl, by rw [HR.out.1]; exact hal.out, hds.out, fun _ => by rw [HR.out.2.1, HR.out.2.2]; rfl, hX.bel⟩)
    | (have hX := ((HB5.out.stB0 n 2 T).stA D).drew; exact bodyPost_ret (cfd_result Tryd.underlying69 rfl (by kernel_rfl) Tryd.underlying45 rfl (by kernel_rfl) Tryd.results44 hX.rcv hX.rfv rfl rfl) rfl ⟨D, _, rfl, by rw [HR.out.1]; exact hal.out, hds.out, fun _ => by rw [HR.out.2.1, HR.out.2.2]; rfl, hX.bel⟩)

theorem content_any (g : CS) (n : Int) (v : Nat) (w : World) (hc : g.ok) (hz : g.s.size ≤ 140737488351232) (hv : v = 0 ∨ v = 1 ∨ v = 5 ∨ v = 2) :
    Calls Tryd.prog 44 #[.agg #[.string g.s, .int .i64 g.at_, .int .i64 g.en, .int .i64 g.er], .agg #[.int .i64 n, .int .i64 (v : Nat), .int .u64 0, .string ⟨#[]⟩]] w (CtR g n v w) := by
  rcases hv with rfl | rfl | rfl | rfl
  · exact content_0 g n w hc hz
  · exact content_1 g n w hc hz
  · exact content_5 g n w hc hz
  · by_cases he : g.vTo.er = 0
    · by_cases hl : g.vTo.en - g.vTo.at_ < g.vVal
      · exact content_2c g n w hc hz he hl
      · exact content_2t g n w hc hz he hl
    · exact content_2e g n w hc hz he
end Go.Proofs.YtipnaonagepolaaDoor
