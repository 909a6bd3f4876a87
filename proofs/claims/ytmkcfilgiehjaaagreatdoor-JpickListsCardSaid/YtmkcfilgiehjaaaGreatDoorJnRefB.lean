/- The document's own Read of a number. -/
import Derived.Test.YtmkcfilgiehjaaaGreatDoorZQ
import Derived.Test.YtmkcfilgiehjaaaGreatDoorZJ
import Derived.Test.YtmkcfilgiehjaaaGreatDoorZM
import Derived.Deep.RegionHeld3
namespace Go.Proofs.YtmkcfilgiehjaaaGreatDoor
open Go Go.RowKit
set_option linter.unusedVariables false

/-- Where the document's own reading leaves the cursor. -/
def CS.nTo (c : CS) : CS := if c.nc = 0 then c.past (nE c.bs) else c.bad c.nc
theorem ret_nr {c a : CS} {b : ByteArray} (h : c.nTo = a) (k : bA c.nt = b) : Ending.returned (.tuple #[a.val, .string b]) = .returned (.tuple #[c.nTo.val, .string (bA c.nt)]) := by rw [h, k]
/-- The worlds within: the cursor's block, the answer's, nothing else turned. -/
structure WN (w wx : World) (c : CS) : Prop where
  r : CurT 83 wx w.heap.size c
  z : CurT 83 wx (w.heap.size + 1) CS.zero
  b : Below w.heap.size w wx
theorem WN.next {w wx w' : World} {c : CS} (h : WN w wx c) (hb : Below wx.heap.size wx w') : WN w w' c := ⟨Below.cur hb h.r h.r.lt, Below.cur hb h.z h.z.lt, h.b.trans (hb.mono h.b.size)⟩
theorem WN.alloc {w wx : World} {c : CS} (h : WN w wx c) (o : Obj) : WN w (wx.alloc o) c := h.next ((Below.refl _ _).alloc (Nat.le_refl _) _)
theorem WN.drew {w wx : World} {c : CS} (h : WN w wx c) : WN w wx.drew c := ⟨h.r, h.z, h.b.drew⟩
theorem WN.all {w wx : World} {c : CS} (h : WN w wx c) : wx.cell? ⟨w.heap.size, 0, none⟩ = some (.string c.s) ∧ wx.cell? ⟨w.heap.size, 2, none⟩ = some (.int .i64 c.en) ∧ wx.cell? ⟨w.heap.size, 1, none⟩ = some (.int .i64 c.at_) := ⟨h.r.c0, h.r.c2, h.r.c1⟩
theorem WN.first (w : World) (c : CS) : WN w ((w.alloc (.cells #[.string c.s, .int .i64 c.at_, .int .i64 c.en, .int .i64 c.er] 83)).alloc (.cells #[.string ⟨#[]⟩, .int .i64 0, .int .i64 0, .int .i64 0] 83)) c := by
  obtain ⟨h1, h2, h3⟩ := two_laid (w := w) c CS.zero 83 (Below.refl _ _)
  exact ⟨h1, h2, h3⟩
/-- Block g is the parts', behind both. -/
structure WP (w wx : World) (g : Nat) : Prop where
  blk : PB wx g ⟨#[]⟩ ⟨#[]⟩ ⟨#[]⟩ 0 0
  far : w.heap.size + 1 < g
theorem WN.new {w wx : World} {c : CS} (h : WN w wx c) : WP w (wx.alloc (.cells #[.string ⟨#[]⟩, .string ⟨#[]⟩, .string ⟨#[]⟩, .int .i64 0, .int .i64 0] 105)) wx.heap.size := ⟨heap_alloc_new wx _, h.z.lt⟩
theorem WP.next {w wx w' : World} {g : Nat} (h : WP w wx g) (hb : Below wx.heap.size wx w') : WP w w' g := ⟨h.blk.below hb h.blk.lt, h.far⟩
theorem WP.drew {w wx : World} {g : Nat} (h : WP w wx g) : WP w wx.drew g := ⟨h.blk, h.far⟩
def pStore (wx : World) (g : Nat) (W B P : ByteArray) (E C : Int) : World := ((((wx.setCell ⟨g, 0, none⟩ (.string W)).setCell ⟨g, 1, none⟩ (.string B)).setCell ⟨g, 2, none⟩ (.string P)).setCell ⟨g, 3, none⟩ (.int .i64 E)).setCell ⟨g, 4, none⟩ (.int .i64 C)
theorem wn_stored {w wx : World} {c : CS} {g : Nat} (h : WN w wx c) (k : WP w wx g) (W B P : ByteArray) (E C : Int) :
    PB (((((wx.setCell ⟨g, 0, none⟩ (.string W)).setCell ⟨g, 1, none⟩ (.string B)).setCell ⟨g, 2, none⟩ (.string P)).setCell ⟨g, 3, none⟩ (.int .i64 E)).setCell ⟨g, 4, none⟩ (.int .i64 C)) g W B P E C ∧ WN w (((((wx.setCell ⟨g, 0, none⟩ (.string W)).setCell ⟨g, 1, none⟩ (.string B)).setCell ⟨g, 2, none⟩ (.string P)).setCell ⟨g, 3, none⟩ (.int .i64 E)).setCell ⟨g, 4, none⟩ (.int .i64 C)) c ∧ w.heap.size + 1 < g := by
  have hf := k.far
  have hb : Below (w.heap.size + 2) wx (((((wx.setCell ⟨g, 0, none⟩ (.string W)).setCell ⟨g, 1, none⟩ (.string B)).setCell ⟨g, 2, none⟩ (.string P)).setCell ⟨g, 3, none⟩ (.int .i64 E)).setCell ⟨g, 4, none⟩ (.int .i64 C)) := below_put (below_put (below_put (below_put (below_put (Below.refl _ _) hf) hf) hf) hf) hf
  have hg : w.heap.size ≤ g := by omega
  exact ⟨((((k.blk.set0 W).set1 B).set2 P).set3 E).set4 C, ⟨Below.cur hb h.r (by omega), Below.cur hb h.z (by omega), below_put (below_put (below_put (below_put (below_put h.b hg) hg) hg) hg) hg⟩, hf⟩
theorem wn_laid {w wx : World} {c : CS} (h : WN w wx c) (W B P : ByteArray) (E C : Int) :
    PB (wx.alloc (.cells #[.string W, .string B, .string P, .int .i64 E, .int .i64 C] 105)) wx.heap.size W B P E C ∧ WN w (wx.alloc (.cells #[.string W, .string B, .string P, .int .i64 E, .int .i64 C] 105)) c ∧ w.heap.size + 1 < wx.heap.size :=
  ⟨heap_alloc_new wx _, h.alloc _, h.z.lt⟩
theorem front_list (s : ByteArray) (e : Nat) : (s.extract 0 e).data.toList = s.data.toList.take e := by
  rw [ext_toList, List.drop_zero, Nat.sub_zero]
theorem front_bs (c : CS) : (c.s.extract 0 c.en).data.toList.drop c.at_ = c.bs := by rw [front_list]; rfl

set_option maxRecDepth 100000 in
set_option maxHeartbeats 2000000 in
theorem rnread_err (c : CS) (w : World) (hc : c.ok) (h0 : ¬ c.er = 0) :
    Calls Tryz.prog 64 #[.agg #[.string c.s, .int .i64 c.at_, .int .i64 c.en, .int .i64 c.er]] w fun e w' => e = .returned (.tuple #[c.nTo.val, .string (bA c.nt)]) ∧ Below w.heap.size w w' := by
  have hb : (c.er != 0) = true := bne_iff_ne.mpr h0
  have hn : c.nc = c.er := by unfold CS.nc; rw [if_neg h0]
  have HR := Lib.hid (show c.nTo = c ∧ bA c.nt = ⟨#[]⟩ from ⟨by unfold CS.nTo; rw [hn, if_neg h0]; rfl, by unfold CS.nt; rw [hn, if_neg h0]; rfl⟩)
  clear h0 hn
  go_enter Tryz.func64, Tryz.ntmps64
  go_wp2
  go_returns
  exact ⟨ret_nr (c := c) (a := c) HR.out.1 HR.out.2, by go_grown⟩

theorem cur_result2 {fn : Func} {p u : Tmp} (h : fn.results = #[.cell p 83, .tmp u]) {tmps : Array Value} {w : World} {g : Nat} {c : CS} {v : Value} (hg : CurT 83 w g c) (hp : tmps.getD p undef = .pointer (some ⟨g, 0, none⟩)) (hv : tmps.getD u undef = v) :
    (results fn tmps).run Tryz.prog w = .ok (.tuple #[c.val, v]) w := by
  have hq := run_loadVar_row (P := Tryz.prog) w g 83 83 #[.string c.s, .int .i64 c.at_, .int .i64 c.en, .int .i64 c.er] (0, 0) _ hg Tryz.underlying83 rfl (by kernel_rfl)
  have hp' : tmps[p]?.getD undef = .pointer (some ⟨g, 0, none⟩) := by simpa using hp
  have hv' : tmps[u]?.getD undef = v := by simpa using hv
  simp [results, h, hp', hv', asAddr, hq, CS.val]
/-- Where the parts are read: their block, and the rest as it was. -/
def RnCut (w : World) (c : CS) (q : Value) (wx : World) : Prop :=
  ∃ (g E : Nat) (W B P : ByteArray), q = .pointer (some ⟨g, 0, none⟩) ∧ PB wx g W B P ((E : Nat) : Int) (nCode c.bs) ∧ WN w wx c ∧ w.heap.size + 1 < g ∧ (nCode c.bs = 0 → E = c.at_ + nE c.bs)
set_option maxRecDepth 100000 in
set_option maxHeartbeats 4000000 in
theorem rnread_ok (c : CS) (w : World) (hc : c.ok) (hs : c.s.size ≤ 1125899906842624) (h0 : c.er = 0) :
    Calls Tryz.prog 64 #[.agg #[.string c.s, .int .i64 c.at_, .int .i64 c.en, .int .i64 c.er]] w fun e w' => e = .returned (.tuple #[c.nTo.val, .string (bA c.nt)]) ∧ Below w.heap.size w w' := by
  obtain ⟨k1, k2, k3⟩ := hc
  have hb : (c.er != 0) = false := by rw [h0]; rfl
  have hsz : (c.s.extract 0 c.en).size = c.en := by rw [ByteArray.size_extract]; omega
  have HS : Hid (∀ w, Calls Tryz.prog 53 #[.string (c.s.extract 0 c.en), .int .i64 (c.at_ : Nat)] w fun e w' => ∃ W B P E, e = .returned (.agg #[.string W, .string B, .string P, .int .i64 ((E : Nat) : Int), .int .i64 (nCode c.bs)]) ∧ SplT (c.s.extract 0 c.en) c.at_ W B P E ∧ Below w.heap.size w w') := Lib.hid (fun w => by
    have := rsplit_any (c.s.extract 0 c.en) c.at_ w (by omega) (by omega)
    rw [front_bs] at this; exact this)
  have HW := Lib.hid (WN.first w c)
  have i1 : (c.en : Int) ≤ (c.s.size : Int) := by omega
  have i2 : (0 : Int) ≤ (c.en : Int) := by omega
  have hle := nE_len c.bs
  rw [CS.bs_length ⟨k1, k2, k3⟩] at hle
  have hcut := fun k hk => CS.cut_bs (c := c) ⟨k1, k2, k3⟩ (k := k) hk
  have HCut := Lib.hid (hcut (nE c.bs) (nE_len _))
  have hnc : c.nc = nCode c.bs := by unfold CS.nc; rw [if_pos h0]
  have HT := Lib.hid (show (nCode c.bs = 0 → c.nTo = c.past (nE c.bs) ∧ bA c.nt = bA (c.bs.take (nE c.bs))) ∧ (¬ nCode c.bs = 0 → c.nTo = c.bad (nCode c.bs) ∧ bA c.nt = ⟨#[]⟩) from
    ⟨fun h => ⟨by unfold CS.nTo; rw [hnc, if_pos h], by unfold CS.nt; rw [hnc, if_pos h]⟩, fun h => ⟨by unfold CS.nTo; rw [hnc, if_neg h], by unfold CS.nt; rw [hnc, if_neg h]; rfl⟩⟩)
  have HF := Lib.hid (fun k w => ref_fail0 c k w h0)
  have HSp := Lib.hid (fun (W B P : ByteArray) (E : Nat) (h : SplT (c.s.extract 0 c.en) c.at_ W B P E) (hz : nCode c.bs = 0) => (by
    have := h.1 (by rw [front_bs]; exact hz)
    rw [front_bs] at this
    exact this.2.2.2 : E = c.at_ + nE c.bs))
  clear hcut hnc hsz h0
  go_enter Tryz.func64, Tryz.ntmps64
  go_upto_region 3 with fail
  go_cut [4] from 6 (fun q wx => RnCut w c q wx)
  case first =>
    have hW := HW.out
    generalize ((w.alloc (.cells #[.string c.s, .int .i64 c.at_, .int .i64 c.en, .int .i64 c.er] 83)).alloc (.cells #[.string ⟨#[]⟩, .int .i64 0, .int .i64 0, .int .i64 0] 83)) = w0 at *
    have hW' := hW.all
    have HW0 := Lib.hid hW
    clear hW HW HT HF HCut
    go_region_held3 (fun wx => wx.cell? ⟨w.heap.size, 0, none⟩ = some (.string c.s) ∧ wx.cell? ⟨w.heap.size, 2, none⟩ = some (.int .i64 c.en) ∧ wx.cell? ⟨w.heap.size, 1, none⟩ = some (.int .i64 c.at_))
      (first | with_reducible exact HW0.out.drew.all | with_reducible exact HW1.out.all | with_reducible exact (HW1.out.alloc _).all | with_reducible exact (HW0.out.alloc _).drew.all | with_reducible exact (wn_stored HW1.out HG1.out _ _ _ _ _).2.1.all | with_reducible exact (wn_laid HW1.out _ _ _ _ _).2.1.all)
      (first
      | (go_at_call 53; go_loud (with_reducible refine (HS.out _).mono ?_; rintro r w1 ⟨W, B, P, E, rfl, hT, b1⟩); (first | have HW1 := Lib.hid (HW0.out.drew.next b1) | (have HW1 := Lib.hid ((HW0.out.alloc _).drew.next b1); have HG1 := Lib.hid (show WP w w1 w0.heap.size from HW0.out.new.drew.next b1); have g0 := HG1.out.blk.c0; have g1 := HG1.out.blk.c1; have g2 := HG1.out.blk.c2; have g3 := HG1.out.blk.c3; have g4 := HG1.out.blk.c4; have gf := HG1.out.blk.fr)); have HX := Lib.hid (HSp.out W B P E hT); clear b1 hT))
    all_goals go_wp2_with fail
    all_goals go_meet
    all_goals (case rel => first
      | (have HY := wn_stored HW1.out HG1.out W B P ((E : Nat) : Int) (nCode c.bs)
         refine ⟨w0.heap.size, E, W, B, P, rfl, ?_, ?_, ?_, ?_⟩
         · exact HY.1
         · exact HY.2.1
         · exact HY.2.2
         · exact HX.out)
      | (have HY := wn_laid HW1.out W B P ((E : Nat) : Int) (nCode c.bs)
         refine ⟨w1.heap.size, E, W, B, P, rfl, ?_, ?_, ?_, ?_⟩
         · exact HY.1
         · exact HY.2.1
         · exact HY.2.2
         · exact HX.out))
  case rest =>
    obtain ⟨g, E, W, B, P, rfl, hP, hN, hfar, hE⟩ := hcut
    by_cases hz : nCode c.bs = 0
    · have hE2 := hE hz
      have HT2 := Lib.hid (HT.out.1 hz)
      have p1 : (nCode c.bs != 0) = false := by rw [hz]; rfl
      have j1 : (c.at_ : Int) ≤ (E : Int) := by omega
      have j2 : (E : Int) ≤ (c.s.size : Int) := by omega
      have j3 : (0 : Int) ≤ (c.at_ : Int) := by omega
      have HX := Lib.hid (show c.s.extract c.at_ E = bA (c.bs.take (nE c.bs)) by rw [hE2]; exact HCut.out)
      have HE := Lib.hid hE2
      have d3 := hP.c3
      have d4 := hP.c4
      rw [hz] at d4
      have a0 := hN.r.c0
      have a1 := hN.r.c1
      have a2 := hN.r.c2
      have a3 := hN.r.c3
      have af := hN.r.fr
      clear hE hE2 hz HT HS HF HSp HW
      go_upto_region 8 with fail
      have R := hN.r.setAt E
      have Z : CurT 83 (wc.setCell ⟨w.heap.size, 1, none⟩ (.int .i64 ((E : Nat) : Int))) (w.heap.size + 1) CS.zero := (Below.heap_setCell _ _ _ _ (Nat.succ_ne_self _)).trans hN.z
      have hbel := below_put (o := 1) (v := .int .i64 ((E : Nat) : Int)) hN.b (Nat.le_refl _)
      clear d3 d4 a0 a1 a2 a3 af hN hP
      generalize wc.setCell ⟨w.heap.size, 1, none⟩ (.int .i64 ((E : Nat) : Int)) = w5 at R Z hbel ⊢
      have a0 := R.c0
      have a1 := R.c1
      have a2 := R.c2
      have a3 := R.c3
      have z0 := Z.c0
      have z1 := Z.c1
      have z2 := Z.c2
      have z3 := Z.c3
      have zf := Z.fr
      go_wp2
      have HZ := Z.setAll { c with at_ := E }
      refine bodyPost_ret (cur_result2 Tryz.results64 HZ rfl rfl) rfl ?_
      refine ⟨ret_nr (by rw [HT2.out.1, HE.out]; rfl) (by rw [HT2.out.2]; exact HX.out.symm), ?_⟩
      have HL := Nat.le_succ w.heap.size
      exact below_put (below_put (below_put (below_put hbel HL) HL) HL) HL
    · have HT2 := Lib.hid (HT.out.2 hz)
      have p1 : (nCode c.bs != 0) = true := bne_iff_ne.mpr hz
      have HF2 := Lib.hid (HF.out (nCode c.bs))
      have d4 := hP.c4
      have a0 := hN.r.c0
      have a1 := hN.r.c1
      have a2 := hN.r.c2
      have a3 := hN.r.c3
      have af := hN.r.fr
      clear hE hz HT HS HF HSp HW HCut hP
      generalize nCode c.bs = X at *
      go_wp2_with fail
      with_reducible refine (HF2.out _).mono ?_
      rintro e w4 ⟨rfl, hb4⟩
      have hN4 := hN.next hb4
      have Z := hN4.z
      have hbel := hN4.b
      clear d4 a0 a1 a2 a3 af hN hN4 hb4
      have z0 := Z.c0
      have z1 := Z.c1
      have z2 := Z.c2
      have z3 := Z.c3
      have zf := Z.fr
      go_wp2
      have HZ := Z.setAll (c.bad X)
      refine bodyPost_ret (cur_result2 Tryz.results64 HZ rfl rfl) rfl ?_
      refine ⟨ret_nr HT2.out.1 HT2.out.2, ?_⟩
      have HL := Nat.le_succ w.heap.size
      exact below_put (below_put (below_put (below_put hbel HL) HL) HL) HL
theorem rnread_any (c : CS) (w : World) (hc : c.ok) (hs : c.s.size ≤ 1125899906842624) :
    Calls Tryz.prog 64 #[.agg #[.string c.s, .int .i64 c.at_, .int .i64 c.en, .int .i64 c.er]] w fun e w' => e = .returned (.tuple #[c.nTo.val, .string (bA c.nt)]) ∧ Below w.heap.size w w' := by
  by_cases h0 : c.er = 0
  · exact rnread_ok c w hc hs h0
  · exact rnread_err c w hc h0
end Go.Proofs.YtmkcfilgiehjaaaGreatDoor
