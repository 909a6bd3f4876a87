/- The document's own Next (package truchmanref12). -/
import Derived.Test.YtnbhhnkcfbfdcaaGreatDoorZL
import Derived.Test.YtnbhhnkcfbfdcaaGreatDoorZM
import Derived.Test.YtnbhhnkcfbfdcaaGreatDoorZR
import Derived.Test.YtnbhhnkcfbfdcaaGreatDoorZS
import Derived.BigQuiet
namespace Go.Proofs.YtnbhhnkcfbfdcaaGreatDoor
open Go Go.RowKit
set_option linter.unusedVariables false

def RNx (c : CS) (w : World) (e : Ending) (w' : World) : Prop := ∃ c', e = .returned (.tuple #[c'.val, tkV c.tRes.tok]) ∧ CAt c c.tRes.k c.tRes.e c' ∧ Below w.heap.size w w'
def RblRel (c : CS) (w wr : World) : Prop := ∃ k, k ≤ bL c.bs ∧ RS (c.past k) w wr
theorem RS.cells {c : CS} {w wr : World} (h : RS c w wr) : wr.cell? ⟨w.heap.size, 0, none⟩ = some (.string c.s) ∧ wr.cell? ⟨w.heap.size, 1, none⟩ = some (.int .i64 c.at_) ∧ wr.cell? ⟨w.heap.size, 2, none⟩ = some (.int .i64 c.en) ∧ wr.cell? ⟨w.heap.size, 3, none⟩ = some (.int .i64 c.er) ∧ (∀ o, wr.frozen? ⟨w.heap.size, o, none⟩ = false) := ⟨h.1.c0, h.1.c1, h.1.c2, h.1.c3, h.1.fr⟩
theorem RS.outs {c : CS} {w wr : World} (h : RS c w wr) : wr.cell? ⟨w.heap.size + 1, 0, none⟩ = some (.string ⟨#[]⟩) ∧ wr.cell? ⟨w.heap.size + 1, 1, none⟩ = some (.int .i64 0) ∧ wr.cell? ⟨w.heap.size + 1, 2, none⟩ = some (.int .i64 0) ∧ wr.cell? ⟨w.heap.size + 1, 3, none⟩ = some (.int .i64 0) ∧ (∀ o, wr.frozen? ⟨w.heap.size + 1, o, none⟩ = false) ∧
    wr.cell? ⟨w.heap.size + 2, 0, none⟩ = some (.int .u8 0) ∧ wr.cell? ⟨w.heap.size + 2, 1, none⟩ = some (.string ⟨#[]⟩) ∧ (∀ o, wr.frozen? ⟨w.heap.size + 2, o, none⟩ = false) :=
  ⟨h.2.1.c0, h.2.1.c1, h.2.1.c2, h.2.1.c3, h.2.1.fr, h.2.2.1.c0, h.2.2.1.c1, h.2.2.1.fr⟩
set_option maxRecDepth 20000 in
set_option maxHeartbeats 2000000 in
theorem rnext_bad (c : CS) (w : World) (hc : c.ok) (h0 : ¬ c.er = 0) :
    Calls Tryz.prog 43 #[.agg #[.string c.s, .int .i64 c.at_, .int .i64 c.en, .int .i64 c.er]] w (RNx c w) := by
  have HR := Lib.hid (show c.tRes = ⟨(0, []), 0, c.er⟩ by unfold CS.tRes; rw [if_neg h0])
  have HA := Lib.hid (show CAt c 0 c.er c from ⟨hc, rfl, rfl, rfl, fun e => absurd e h0⟩)
  have p1 : (c.er != 0) = true := bne_iff_ne.mpr h0
  have R := RS.first c w
  clear h0 hc
  go_enter Tryz.func43, Tryz.ntmps43
  go_upto_region 1 with fail
  generalize ((w.alloc (.cells #[.string c.s, .int .i64 c.at_, .int .i64 c.en, .int .i64 c.er] 76)).alloc (.cells #[.string ⟨#[]⟩, .int .i64 0, .int .i64 0, .int .i64 0] 76)).alloc (.cells #[.int .u8 0, .string ⟨#[]⟩] 78) = W at *
  obtain ⟨a0, a1, a2, a3, af⟩ := R.cells
  obtain ⟨z0, z1, z2, z3, zf, g0, g1, gf⟩ := R.outs
  go_wp2
  have HX := R.fin c (0, []) rfl
  refine bodyPost_ret (ctok_result Tryz.results43 HX.1 HX.2.1 rfl rfl) rfl ?_
  exact ⟨c, by rw [HR.out], by rw [HR.out]; exact HA.out, HX.2.2⟩
theorem blank_at {l : List UInt8} {k : Nat} (h : k < bL l) : ∃ y u, l.drop k = y :: u ∧ tBl y = true := by
  have hl := bl_len l
  match hd : l.drop k with
  | [] =>
    have := congrArg List.length hd
    rw [List.length_drop, List.length_nil] at this; omega
  | y :: u =>
    refine ⟨y, u, rfl, ?_⟩
    cases hy : tBl y with
    | true => rfl
    | false => have := (bl_in (Nat.le_of_lt h) hd).2 hy; omega
theorem bl4 {y : UInt8} (h : y = 32 ∨ y = 9 ∨ y = 10 ∨ y = 13) : ((y.toNat : Int) == 32) = true ∨ (((y.toNat : Int) == 32) = false ∧ (((y.toNat : Int) == 9) = true ∨ (((y.toNat : Int) == 9) = false ∧ (((y.toNat : Int) == 10) = true ∨ (((y.toNat : Int) == 10) = false ∧ ((y.toNat : Int) == 13) = true))))) := by
  rcases h with rfl | rfl | rfl | rfl <;> decide
theorem nb4 {y : UInt8} (h : tBl y = false) : ((y.toNat : Int) == 32) = false ∧ ((y.toNat : Int) == 9) = false ∧ ((y.toNat : Int) == 10) = false ∧ ((y.toNat : Int) == 13) = false := by
  have hn : ∀ z : UInt8, (z = 32 ∨ z = 9 ∨ z = 10 ∨ z = 13) → ¬ y = z := fun z hz e => by
    rw [e] at h
    rcases hz with rfl | rfl | rfl | rfl <;> exact absurd h (by decide)
  exact ⟨(eq8 y 32).trans (decide_eq_false (hn 32 (.inl rfl))), (eq8 y 9).trans (decide_eq_false (hn 9 (.inr (.inl rfl)))), (eq8 y 10).trans (decide_eq_false (hn 10 (.inr (.inr (.inl rfl))))), (eq8 y 13).trans (decide_eq_false (hn 13 (.inr (.inr (.inr rfl)))))⟩
set_option maxRecDepth 20000 in
set_option maxHeartbeats 4000000 in
theorem rnext_none (c : CS) (w : World) (hc : c.ok) (h0 : c.er = 0) (hz : c.s.size ≤ 140737488351232) (hd : c.bs.drop (bL c.bs) = []) :
    Calls Tryz.prog 43 #[.agg #[.string c.s, .int .i64 c.at_, .int .i64 c.en, .int .i64 c.er]] w (RNx c w) := by
  have HC := Lib.hid (And.intro hc (And.intro h0 hz))
  have HR := Lib.hid (show c.tRes = ⟨(0, []), bL c.bs, 0⟩ by unfold CS.tRes; rw [if_pos h0, tNx_none hd])
  have HDr := Lib.hid hd
  have p1 : (c.er != 0) = false := by rw [h0]; rfl
  have R0 := RS.first c w
  clear hd h0 hc hz
  go_enter Tryz.func43, Tryz.ntmps43
  go_upto_region 1 with fail
  generalize ((w.alloc (.cells #[.string c.s, .int .i64 c.at_, .int .i64 c.en, .int .i64 c.er] 76)).alloc (.cells #[.string ⟨#[]⟩, .int .i64 0, .int .i64 0, .int .i64 0] 76)).alloc (.cells #[.int .u8 0, .string ⟨#[]⟩] 78) = W at *
  have a3 := R0.1.c3
  go_wp2_with fail
  clear a3
  go_loopw [50] (fun _ wr => RblRel c w wr) (fun _ wr => c.en + 1 - atOf w.heap.size wr)
  case atStart => exact ⟨0, Nat.zero_le _, R0⟩
  case round =>
    obtain ⟨k, hk, R⟩ := hrel
    have hok := CS.past_fine HC.out.1 (Nat.le_trans hk (bl_len c.bs))
    have hbp := CS.bs_past c k
    have hat := Lib.hid (show atOf w.heap.size wr = c.at_ + k from atOf_cur R.1)
    have hsz : (c.past k).s.size ≤ 140737488351232 := HC.out.2.2
    by_cases hkk : k < bL c.bs
    · obtain ⟨y, u, hy, hbl⟩ := blank_at hkk
      obtain ⟨hlt, hls, hx0⟩ := bs_cons hok (hbp.trans hy)
      obtain ⟨A, hA⟩ : ∃ A, A = (c.past k).at_ + 1 := ⟨_, rfl⟩
      have hAw : IntKind.i64.wrap (((c.past k).at_ : Int) + 1) = (A : Int) := by rw [i64_small (by omega) (by omega)]; omega
      have HA := Lib.hid hA
      have hlsI : ((c.past k).at_ : Int) < ((c.past k).s.size : Int) := by omega
      have hdl : decide ((c.past k).at_ < (c.past k).en) = true := decide_eq_true hlt
      have HLE := Lib.hid (show c.at_ + k < c.en from hlt)
      clear hA hy hok hbp
      have hxb : (c.past k).s[(c.past k).at_] = 32 ∨ (c.past k).s[(c.past k).at_] = 9 ∨ (c.past k).s[(c.past k).at_] = 10 ∨ (c.past k).s[(c.past k).at_] = 13 := by rw [hx0]; exact tBl_iff.mp hbl
      clear hx0 hbl
      have RA : RS (c.past (k + 1)) w (wr.setCell ⟨w.heap.size, 1, none⟩ (.int .i64 (A : Int))) := by
        have := R.setAt A
        rw [HA.out] at this ⊢
        exact this
      obtain ⟨a0, a1, a2, a3, af⟩ := R.cells
      have hb4 := bl4 hxb
      clear hxb
      generalize c.past k = d at a0 a1 a2 a3 af hls hlsI hdl hb4 hAw hsz hlt R
      rcases hb4 with b1 | ⟨b1, b2 | ⟨b2, b3 | ⟨b3, b4⟩⟩⟩
      all_goals
        go_wp2
        go_roundw
        case rel => exact ⟨k + 1, hkk, RA⟩
        case measure =>
          have h1 := HLE.out
          rw [atOf_cur RA.1, hat.out]
          show c.en + 1 - (c.at_ + (k + 1)) < c.en + 1 - (c.at_ + k)
          omega
    · obtain rfl : k = bL c.bs := by omega
      have hend := bs_nil hok (hbp.trans HDr.out)
      have HA := Lib.hid (CAt.past HC.out.1 HC.out.2.1 (bl_len c.bs))
      clear hok hbp hat
      generalize c.past (bL c.bs) = d at *
      have hdl : decide (d.at_ < d.en) = false := decide_eq_false (by omega)
      have hdn : ¬ d.at_ < d.en := by omega
      have hde : ((d.at_ : Int) == (d.en : Int)) = true := by rw [hend]; simp
      have hde2 : (d.at_ == d.en) = true := by rw [hend]; simp
      clear hend hsz
      obtain ⟨a0, a1, a2, a3, af⟩ := R.cells
      obtain ⟨z0, z1, z2, z3, zf, g0, g1, gf⟩ := R.outs
      go_wp2
      have HX := R.fin d (0, []) rfl
      refine bodyPost_ret (ctok_result Tryz.results43 HX.1 HX.2.1 rfl rfl) rfl ?_
      exact ⟨d, by rw [HR.out], by rw [HR.out]; exact HA.out, HX.2.2⟩
set_option maxRecDepth 20000 in
set_option maxHeartbeats 4000000 in
theorem rnext_sign (c : CS) (w : World) (hc : c.ok) (h0 : c.er = 0) (hz : c.s.size ≤ 140737488351232) {x : UInt8} {t : List UInt8} (hd : c.bs.drop (bL c.bs) = x :: t) (hx : tSign x = true) :
    Calls Tryz.prog 43 #[.agg #[.string c.s, .int .i64 c.at_, .int .i64 c.en, .int .i64 c.er]] w (RNx c w) := by
  have HC := Lib.hid (And.intro hc (And.intro h0 hz))
  have HR := Lib.hid (show c.tRes = ⟨(tBeg x (x :: t)).tok, bL c.bs + (tBeg x (x :: t)).k, (tBeg x (x :: t)).e⟩ by unfold CS.tRes; rw [if_pos h0, tNx_some hd])
  have HDr := Lib.hid hd
  have HS := Lib.hid (fun w => rsign_any x w)
  rw [hx] at HS
  have HT := Lib.hid (show tBeg x (x :: t) = ⟨(x, []), 1, 0⟩ by unfold tBeg; rw [if_pos hx])
  have p1 : (c.er != 0) = false := by rw [h0]; rfl
  have R0 := RS.first c w
  clear hd hx h0 hc hz
  go_enter Tryz.func43, Tryz.ntmps43
  go_upto_region 1 with fail
  generalize ((w.alloc (.cells #[.string c.s, .int .i64 c.at_, .int .i64 c.en, .int .i64 c.er] 76)).alloc (.cells #[.string ⟨#[]⟩, .int .i64 0, .int .i64 0, .int .i64 0] 76)).alloc (.cells #[.int .u8 0, .string ⟨#[]⟩] 78) = W at *
  have a3 := R0.1.c3
  go_wp2_with fail
  clear a3
  go_loopw [50] (fun _ wr => RblRel c w wr) (fun _ wr => c.en + 1 - atOf w.heap.size wr)
  case atStart => exact ⟨0, Nat.zero_le _, R0⟩
  case round =>
    obtain ⟨k, hk, R⟩ := hrel
    have hok := CS.past_fine HC.out.1 (Nat.le_trans hk (bl_len c.bs))
    have hbp := CS.bs_past c k
    have hat := Lib.hid (show atOf w.heap.size wr = c.at_ + k from atOf_cur R.1)
    have hsz : (c.past k).s.size ≤ 140737488351232 := HC.out.2.2
    by_cases hkk : k < bL c.bs
    · obtain ⟨y, u, hy, hbl⟩ := blank_at hkk
      obtain ⟨hlt, hls, hx0⟩ := bs_cons hok (hbp.trans hy)
      obtain ⟨A, hA⟩ : ∃ A, A = (c.past k).at_ + 1 := ⟨_, rfl⟩
      have hAw : IntKind.i64.wrap (((c.past k).at_ : Int) + 1) = (A : Int) := by rw [i64_small (by omega) (by omega)]; omega
      have HA := Lib.hid hA
      have hlsI : ((c.past k).at_ : Int) < ((c.past k).s.size : Int) := by omega
      have hdl : decide ((c.past k).at_ < (c.past k).en) = true := decide_eq_true hlt
      have HLE := Lib.hid (show c.at_ + k < c.en from hlt)
      clear hA hy hok hbp
      have hxb : (c.past k).s[(c.past k).at_] = 32 ∨ (c.past k).s[(c.past k).at_] = 9 ∨ (c.past k).s[(c.past k).at_] = 10 ∨ (c.past k).s[(c.past k).at_] = 13 := by rw [hx0]; exact tBl_iff.mp hbl
      clear hx0 hbl
      have RA : RS (c.past (k + 1)) w (wr.setCell ⟨w.heap.size, 1, none⟩ (.int .i64 (A : Int))) := by
        have := R.setAt A
        rw [HA.out] at this ⊢
        exact this
      obtain ⟨a0, a1, a2, a3, af⟩ := R.cells
      have hb4 := bl4 hxb
      clear hxb
      generalize c.past k = d at a0 a1 a2 a3 af hls hlsI hdl hb4 hAw hsz hlt R
      rcases hb4 with b1 | ⟨b1, b2 | ⟨b2, b3 | ⟨b3, b4⟩⟩⟩
      all_goals
        go_wp2
        go_roundw
        case rel => exact ⟨k + 1, hkk, RA⟩
        case measure =>
          have h1 := HLE.out
          rw [atOf_cur RA.1, hat.out]
          show c.en + 1 - (c.at_ + (k + 1)) < c.en + 1 - (c.at_ + k)
          omega
    · obtain rfl : k = bL c.bs := by omega
      have hdb := hbp.trans HDr.out
      obtain ⟨hlt, hls, hx0⟩ := bs_cons hok hdb
      have HP := Lib.hid (And.intro hok (And.intro hdb (show (c.past (bL c.bs)).er = 0 from HC.out.2.1)))
      have HCA := Lib.hid (show ∀ k e c', CAt (c.past (bL c.bs)) k e c' → CAt c (bL c.bs + k) e c' from fun k e c' h => h.more)
      have hnb := drop_bl _ _ _ HDr.out
      clear hok hbp hat hdb
      generalize c.past (bL c.bs) = d at *
      subst hx0
      have hdl : decide (d.at_ < d.en) = true := decide_eq_true hlt
      have hlsI : (d.at_ : Int) < (d.s.size : Int) := by omega
      have hde : ((d.at_ : Int) == (d.en : Int)) = false := beq_eq_false_iff_ne.mpr (by omega)
      have hde2 : (d.at_ == d.en) = false := beq_eq_false_iff_ne.mpr (by omega)
      obtain ⟨n1, n2, n3, n4⟩ := nb4 hnb
      clear hnb
      obtain ⟨a0, a1, a2, a3, af⟩ := R.cells
      obtain ⟨A, hA⟩ : ∃ A, A = d.at_ + 1 := ⟨_, rfl⟩
      have hAw : IntKind.i64.wrap ((d.at_ : Int) + 1) = (A : Int) := by rw [i64_small (by omega) (by omega)]; omega
      have HA := Lib.hid (show CAt d 1 0 { d with at_ := A } by rw [hA]; exact CAt.past HP.out.1 HP.out.2.2 (by rw [HP.out.2.1]; simp))
      clear hA
      obtain ⟨z0, z1, z2, z3, zf, g0, g1, gf⟩ := R.outs
      go_wp2_with fail
      with_reducible refine (HS.out _).mono ?_
      rintro e w1 ⟨rfl, hw1⟩
      rw [hw1]; clear hw1
      go_wp2
      have HX := (R.setAt A).fin { d with at_ := A } (d.s[d.at_], []) rfl
      refine bodyPost_ret (ctok_result Tryz.results43 HX.1 HX.2.1 rfl rfl) rfl ?_
      refine ⟨{ d with at_ := A }, by rw [HR.out, HT.out], ?_, HX.2.2⟩
      rw [HR.out, HT.out]
      exact HCA.out _ _ _ HA.out
set_option maxRecDepth 20000 in
set_option maxHeartbeats 4000000 in
theorem rnext_text (c : CS) (w : World) (hc : c.ok) (h0 : c.er = 0) (hz : c.s.size ≤ 140737488351232) {x : UInt8} {t : List UInt8} (hd : c.bs.drop (bL c.bs) = x :: t) (hx : tSign x = false) (hx2 : x = 34) :
    Calls Tryz.prog 43 #[.agg #[.string c.s, .int .i64 c.at_, .int .i64 c.en, .int .i64 c.er]] w (RNx c w) := by
  have HC := Lib.hid (And.intro hc (And.intro h0 hz))
  have HR := Lib.hid (show c.tRes = ⟨(tBeg x (x :: t)).tok, bL c.bs + (tBeg x (x :: t)).k, (tBeg x (x :: t)).e⟩ by unfold CS.tRes; rw [if_pos h0, tNx_some hd])
  have HDr := Lib.hid hd
  have HS := Lib.hid (fun w => rsign_any x w)
  rw [hx] at HS
  have HX34 := Lib.hid hx2
  have HT := Lib.hid (show ((jL (x :: t)).e = 0 → (tBeg x (x :: t)).tok = (115, (jL (x :: t)).t) ∧ (tBeg x (x :: t)).k = (jL (x :: t)).k ∧ (tBeg x (x :: t)).e = 0) ∧ (¬ (jL (x :: t)).e = 0 → (tBeg x (x :: t)).tok = (0, []) ∧ (tBeg x (x :: t)).e = (jL (x :: t)).e) by
    unfold tBeg; rw [if_neg (by rw [hx]; decide), if_pos hx2]
    by_cases he : (jL (x :: t)).e = 0
    · rw [if_pos he]; exact ⟨fun _ => ⟨rfl, rfl, rfl⟩, fun h => absurd he h⟩
    · rw [if_neg he]; exact ⟨fun h => absurd h he, fun _ => ⟨rfl, rfl⟩⟩)
  have p1 : (c.er != 0) = false := by rw [h0]; rfl
  have R0 := RS.first c w
  clear hd hx hx2 h0 hc hz
  go_enter Tryz.func43, Tryz.ntmps43
  go_upto_region 1 with fail
  generalize ((w.alloc (.cells #[.string c.s, .int .i64 c.at_, .int .i64 c.en, .int .i64 c.er] 76)).alloc (.cells #[.string ⟨#[]⟩, .int .i64 0, .int .i64 0, .int .i64 0] 76)).alloc (.cells #[.int .u8 0, .string ⟨#[]⟩] 78) = W at *
  have a3 := R0.1.c3
  go_wp2_with fail
  clear a3
  go_loopw [50] (fun _ wr => RblRel c w wr) (fun _ wr => c.en + 1 - atOf w.heap.size wr)
  case atStart => exact ⟨0, Nat.zero_le _, R0⟩
  case round =>
    obtain ⟨k, hk, R⟩ := hrel
    have hok := CS.past_fine HC.out.1 (Nat.le_trans hk (bl_len c.bs))
    have hbp := CS.bs_past c k
    have hat := Lib.hid (show atOf w.heap.size wr = c.at_ + k from atOf_cur R.1)
    have hsz : (c.past k).s.size ≤ 140737488351232 := HC.out.2.2
    by_cases hkk : k < bL c.bs
    · obtain ⟨y, u, hy, hbl⟩ := blank_at hkk
      obtain ⟨hlt, hls, hx0⟩ := bs_cons hok (hbp.trans hy)
      obtain ⟨A, hA⟩ : ∃ A, A = (c.past k).at_ + 1 := ⟨_, rfl⟩
      have hAw : IntKind.i64.wrap (((c.past k).at_ : Int) + 1) = (A : Int) := by rw [i64_small (by omega) (by omega)]; omega
      have HA := Lib.hid hA
      have hlsI : ((c.past k).at_ : Int) < ((c.past k).s.size : Int) := by omega
      have hdl : decide ((c.past k).at_ < (c.past k).en) = true := decide_eq_true hlt
      have HLE := Lib.hid (show c.at_ + k < c.en from hlt)
      clear hA hy hok hbp
      have hxb : (c.past k).s[(c.past k).at_] = 32 ∨ (c.past k).s[(c.past k).at_] = 9 ∨ (c.past k).s[(c.past k).at_] = 10 ∨ (c.past k).s[(c.past k).at_] = 13 := by rw [hx0]; exact tBl_iff.mp hbl
      clear hx0 hbl
      have RA : RS (c.past (k + 1)) w (wr.setCell ⟨w.heap.size, 1, none⟩ (.int .i64 (A : Int))) := by
        have := R.setAt A
        rw [HA.out] at this ⊢
        exact this
      obtain ⟨a0, a1, a2, a3, af⟩ := R.cells
      have hb4 := bl4 hxb
      clear hxb
      generalize c.past k = d at a0 a1 a2 a3 af hls hlsI hdl hb4 hAw hsz hlt R
      rcases hb4 with b1 | ⟨b1, b2 | ⟨b2, b3 | ⟨b3, b4⟩⟩⟩
      all_goals
        go_wp2
        go_roundw
        case rel => exact ⟨k + 1, hkk, RA⟩
        case measure =>
          have h1 := HLE.out
          rw [atOf_cur RA.1, hat.out]
          show c.en + 1 - (c.at_ + (k + 1)) < c.en + 1 - (c.at_ + k)
          omega
    · obtain rfl : k = bL c.bs := by omega
      have hdb := hbp.trans HDr.out
      obtain ⟨hlt, hls, hx0⟩ := bs_cons hok hdb
      have HP := Lib.hid (And.intro hok (And.intro hdb (show (c.past (bL c.bs)).er = 0 from HC.out.2.1)))
      have HCA := Lib.hid (show ∀ k e c', CAt (c.past (bL c.bs)) k e c' → CAt c (bL c.bs + k) e c' from fun k e c' h => h.more)
      have hnb := drop_bl _ _ _ HDr.out
      clear hok hbp hat hdb
      generalize c.past (bL c.bs) = d at *
      subst hx0
      have hdl : decide (d.at_ < d.en) = true := decide_eq_true hlt
      have hlsI : (d.at_ : Int) < (d.s.size : Int) := by omega
      have hde : ((d.at_ : Int) == (d.en : Int)) = false := beq_eq_false_iff_ne.mpr (by omega)
      have hde2 : (d.at_ == d.en) = false := beq_eq_false_iff_ne.mpr (by omega)
      obtain ⟨n1, n2, n3, n4⟩ := nb4 hnb
      clear hnb
      obtain ⟨a0, a1, a2, a3, af⟩ := R.cells
      have hj := CS.jRes_jL HP.out.2.2
      rw [HP.out.2.1] at hj
      rw [← hj] at HT
      have HJ := Lib.hid (fun w => rjread_any d w HP.out.1 hsz)
      have HO := Lib.hid (show ∀ w, Calls Tryz.prog 64 #[.agg #[.string d.jTo.s, .int .i64 d.jTo.at_, .int .i64 d.jTo.en, .int .i64 d.jTo.er], .int .u8 115, .string (bA d.jRes.t)] w fun e w' => e = .returned (.tuple #[.agg #[.string d.jTo.s, .int .i64 d.jTo.at_, .int .i64 d.jTo.en, .int .i64 d.jTo.er], .agg #[.int .u8 ((tBeg d.s[d.at_] (d.s[d.at_] :: t)).tok.1.toNat : Int), .string (bA (tBeg d.s[d.at_] (d.s[d.at_] :: t)).tok.2)]]) ∧ Below w.heap.size w w' by
        intro w
        by_cases he : d.jRes.e = 0
        · rw [(HT.out.1 he).1]
          exact tof_ok d.jTo (show d.jTo.er = 0 by unfold CS.jTo; rw [if_pos he]; exact HP.out.2.2) 115 d.jRes.t w
        · rw [(HT.out.2 he).1]
          exact tof_bad d.jTo (show ¬ d.jTo.er = 0 by unfold CS.jTo; rw [if_neg he]; exact he) 115 d.jRes.t w)
      have HA := Lib.hid (show CAt d (tBeg d.s[d.at_] (d.s[d.at_] :: t)).k (tBeg d.s[d.at_] (d.s[d.at_] :: t)).e d.jTo by
        by_cases he : d.jRes.e = 0
        · rw [(HT.out.1 he).2.1, (HT.out.1 he).2.2]
          unfold CS.jTo; rw [if_pos he]
          refine CAt.past HP.out.1 HP.out.2.2 ?_
          rw [hj] at he ⊢
          rw [HP.out.2.1]
          exact (jL_fine he).2.1
        · rw [(HT.out.2 he).2]
          unfold CS.jTo; rw [if_neg he]
          exact CAt.bad0 HP.out.1 _ he)
      unfold CS.val at HJ
      have p34 : ((d.s[d.at_].toNat : Int) == 34) = true := by rw [HX34.out]; rfl
      clear hj
      generalize d.jTo = J at *
      generalize d.jRes.t = L at *
      generalize (tBeg d.s[d.at_] (d.s[d.at_] :: t)).tok = Y at *

      go_wp2_with fail
      with_reducible refine (HS.out _).mono ?_
      rintro e w1 ⟨rfl, hw1⟩
      rw [hw1]; clear hw1
      go_wp2_with fail
      with_reducible refine (HJ.out _).mono ?_
      rintro e w2 ⟨rfl, hb2⟩
      have R2 := R.next hb2
      clear R hb2 a0 a1 a2 a3 af
      have R3 := R2.next (alloc_below w2 (.cells #[.string J.s, .int .i64 J.at_, .int .i64 J.en, .int .i64 J.er] 76))
      go_wp2_with fail
      with_reducible refine (HO.out _).mono ?_
      rintro e w4 ⟨rfl, hb4⟩
      have R4 := R3.next hb4
      clear R2 R3 hb4
      obtain ⟨z0, z1, z2, z3, zf, g0, g1, gf⟩ := R4.outs
      go_wp2
      have HX := R4.fin J Y rfl
      refine bodyPost_ret (ctok_result Tryz.results43 HX.1 HX.2.1 rfl rfl) rfl ?_
      refine ⟨J, by rw [HR.out], ?_, HX.2.2⟩
      rw [HR.out]
      exact HCA.out _ _ _ HA.out
end Go.Proofs.YtnbhhnkcfbfdcaaGreatDoor
