/- The document's own layer 22: Last, of fields that came in. -/
import Derived.Test.YtmiagebcobcaiaaDoorCrNum
import Derived.Test.YtmiagebcobcaiaaDoorCrK
import Derived.Test.YtmiagebcobcaiaaDoorChA
import Derived.Deep.QuietTactic
import Derived.BigQuiet
namespace Go.Proofs.YtmiagebcobcaiaaDoor
open Go Go.RowKit
set_option linter.unusedVariables false

/-- The slice at a, of so many, holds these fields, wherever in its block it begins. -/
def GInO (w : World) (a : Option Addr) (l : List GD) : Prop :=
  ∀ j (h : j < l.length), ∃ b off, a = some ⟨b, off, none⟩ ∧ b < w.heap.size ∧ w.cell? ⟨b, off + j * 6, none⟩ = some (.int .i64 l[j].1) ∧ w.cell? ⟨b, off + j * 6 + 1, none⟩ = some (.int .u8 (l[j].2.1 : Nat)) ∧ w.cell? ⟨b, off + j * 6 + 2, none⟩ = some (.int .i64 l[j].2.2.1) ∧ w.cell? ⟨b, off + j * 6 + 3, none⟩ = some (.int .u64 (l[j].2.2.2.1 : Nat)) ∧ w.cell? ⟨b, off + j * 6 + 4, none⟩ = some (.string l[j].2.2.2.2.1) ∧ w.cell? ⟨b, off + j * 6 + 5, none⟩ = some (.string l[j].2.2.2.2.2)
theorem GInO.below {w w' : World} {a : Option Addr} {l : List GD} {N : Nat} (h : GInO w a l) (hb : Below N w w') (hN : w.heap.size ≤ N) : GInO w' a l := fun j hj => by
  obtain ⟨b, off, e, hlt, h1, h2, h3, h4, h5, h6⟩ := h j hj
  have hl : b < N := Nat.lt_of_lt_of_le hlt hN
  exact ⟨b, off, e, Nat.lt_of_lt_of_le hlt hb.size, (hb.cell (p := ⟨b, off + j * 6, none⟩) hl).trans h1, (hb.cell (p := ⟨b, off + j * 6 + 1, none⟩) hl).trans h2, (hb.cell (p := ⟨b, off + j * 6 + 2, none⟩) hl).trans h3, (hb.cell (p := ⟨b, off + j * 6 + 3, none⟩) hl).trans h4, (hb.cell (p := ⟨b, off + j * 6 + 4, none⟩) hl).trans h5, (hb.cell (p := ⟨b, off + j * 6 + 5, none⟩) hl).trans h6⟩
def gZe : GD := (0, 0, 0, 0, ⟨#[]⟩, ⟨#[]⟩)
/-- What the document's Last tells. -/
def lsW (id : Int) (k : Nat) (l : List GD) : GD × Bool := match lastG id k l with | some x => (x, true) | none => (gZe, false)
theorem gs_result {fn : Func} {p q : Tmp} (h : fn.results = #[.cell p 40, .tmp q]) {tmps : Array Value} {w : World} {b : Nat} {t : TypeId} {x : GD} {v : Value} (hb : GfT t w b x) (hp : tmps.getD p undef = .pointer (some ⟨b, 0, none⟩)) (hq : tmps.getD q undef = v) :
    (results fn tmps).run Tryd.prog w = .ok (.tuple #[gfV x, v]) w := by
  have h1 := run_loadVar_row (P := Tryd.prog) w b t 40 #[.int .i64 x.1, .int .u8 (x.2.1 : Nat), .int .i64 x.2.2.1, .int .u64 (x.2.2.2.1 : Nat), .string x.2.2.2.2.1, .string x.2.2.2.2.2] (0, 0) _ hb Tryd.underlying40 rfl (by kernel_rfl)
  have hp' : tmps[p]?.getD undef = .pointer (some ⟨b, 0, none⟩) := by simpa using hp
  have hq' : tmps[q]?.getD undef = v := by simpa using hq
  simp [results, h, hp', hq', asAddr, h1, gfV]
theorem truth_ways (x k : Nat) :
    (decide ((x : Int) < 3) = false ∧ decide (x < 3) = false ∧ (trB x && trB k) = false) ∨
    (decide ((x : Int) < 3) = true ∧ decide (x < 3) = true ∧ decide ((0 : Int) < (x : Int)) = false ∧ decide (0 < x) = false ∧ (trB x && trB k) = false) ∨
    (decide ((x : Int) < 3) = true ∧ decide (x < 3) = true ∧ decide ((0 : Int) < (x : Int)) = true ∧ decide (0 < x) = true ∧ decide ((k : Int) < 3) = false ∧ decide (k < 3) = false ∧ (trB x && trB k) = false) ∨
    (decide ((x : Int) < 3) = true ∧ decide (x < 3) = true ∧ decide ((0 : Int) < (x : Int)) = true ∧ decide (0 < x) = true ∧ decide ((k : Int) < 3) = true ∧ decide (k < 3) = true ∧ decide ((0 : Int) < (k : Int)) = false ∧ decide (0 < k) = false ∧ (trB x && trB k) = false) ∨
    (decide ((x : Int) < 3) = true ∧ decide (x < 3) = true ∧ decide ((0 : Int) < (x : Int)) = true ∧ decide (0 < x) = true ∧ decide ((k : Int) < 3) = true ∧ decide (k < 3) = true ∧ decide ((0 : Int) < (k : Int)) = true ∧ decide (0 < k) = true ∧ (trB x && trB k) = true) := by
  unfold trB
  by_cases h1 : x < 3
  · by_cases h2 : 0 < x
    · by_cases h3 : k < 3
      · by_cases h4 : 0 < k
        · refine .inr (.inr (.inr (.inr ?_))); simp; omega
        · refine .inr (.inr (.inr (.inl ?_))); simp; omega
      · refine .inr (.inr (.inl ?_)); simp; omega
    · refine .inr (.inl ?_); simp; omega
  · refine .inl ?_; simp; omega
def RlRel (l : List GD) (id : Int) (k : Nat) (w : World) (i : Value) (wr : World) : Prop :=
  ∃ j : Nat, j ≤ l.length ∧ i = .int .i64 ((j : Int) - 1) ∧ Hid (∀ a (ha : a < l.length), j ≤ a → hasG id k l[a] = false) ∧ GfT 40 wr w.heap.size gZe ∧ Below w.heap.size w wr
theorem rl_end {w W : World} {y : GD} (h : Below w.heap.size w W) :
    Below w.heap.size w ((((((W.setCell ⟨w.heap.size, 0, none⟩ (.int .i64 y.1)).setCell ⟨w.heap.size, 1, none⟩ (.int .u8 (y.2.1 : Nat))).setCell ⟨w.heap.size, 2, none⟩ (.int .i64 y.2.2.1)).setCell ⟨w.heap.size, 3, none⟩ (.int .u64 (y.2.2.2.1 : Nat))).setCell ⟨w.heap.size, 4, none⟩ (.string y.2.2.2.2.1)).setCell ⟨w.heap.size, 5, none⟩ (.string y.2.2.2.2.2)) :=
  gset_keeps (gset_keeps (gset_keeps (gset_keeps (gset_keeps (gset_keeps h (Nat.le_refl _)) (Nat.le_refl _)) (Nat.le_refl _)) (Nat.le_refl _)) (Nat.le_refl _)) (Nat.le_refl _)
set_option maxRecDepth 20000 in
set_option maxHeartbeats 4000000 in
theorem rlast_any (l : List GD) (id : Int) (k : Nat) (ad : Option Addr) (cp : Nat) (w : World) (hl : l.length ≤ 1099511627776) (hin : GInO w ad l) :
    Calls Tryd.prog 14 #[.slice ad l.length cp, .int .i64 id, .int .u8 (k : Nat)] w fun e w' => e = .returned (.tuple #[gfV (lsW id k l).1, .bool (lsW id k l).2]) ∧ Below w.heap.size w w' := by
  have HL := Lib.hid hin
  have m1 : IntKind.i64.wrap ((l.length : Int) - 1) = (l.length : Int) - 1 := IntWalk.i64_in _ (by omega)
  obtain ⟨w1, hw1⟩ : ∃ w1, w1 = w.alloc (.cells #[.int .i64 0, .int .u8 0, .int .i64 0, .int .u64 0, .string ⟨#[]⟩, .string ⟨#[]⟩] 40) := ⟨_, rfl⟩
  have r1 : GfT 40 w1 w.heap.size gZe := by rw [hw1]; exact gf_alloc w gZe _
  have b1 : Below w.heap.size w w1 := by rw [hw1]; exact (Below.refl _ w).alloc (Nat.le_refl _) _
  have HR0 := Lib.hid (show RlRel l id k w (.int .i64 ((l.length : Int) - 1)) w1 from ⟨l.length, Nat.le_refl _, rfl, Lib.hid (fun a ha h => absurd ha (by omega)), r1, b1⟩)
  clear hin r1 b1
  go_enter Tryd.func14, Tryd.ntmps14
  go_wp2_with fail
  rw [← hw1]
  clear hw1
  go_loopw [8] (fun i wr => RlRel l id k w i wr) (fun i _ => (intOf i + 1).toNat)
  case atStart => exact HR0.out
  case round =>
    clear HR0
    obtain ⟨j, hj, rfl, hno, r, bel⟩ := hrel
    match j, hj with
    | 0, hj =>
      have HV := Lib.hid (show lsW id k l = (gZe, false) by unfold lsW; rw [lastG_none (fun i hi => hno.out i hi (Nat.zero_le _))])
      have r0 := r.c0; have r1 := r.c1; have r2 := r.c2; have r3 := r.c3; have r4 := r.c4; have r5 := r.c5; have rf := r.fr
      have R := Lib.hid (r.setAll gZe)
      have BE := Lib.hid (rl_end (y := gZe) bel)
      clear r bel hno HL
      go_upto_region 7 with fail
      try simp only []
      repeat (first | go_values | go_skip | go_guarded | go_step | go_upon)
      exact bodyPost_ret (gs_result Tryd.results14 R.out (by kernel_rfl) (by kernel_rfl)) rfl ⟨by rw [HV.out], BE.out⟩
    | i + 1, hj =>
      have hij : ((i + 1 : Nat) : Int) - 1 = (i : Nat) := by omega
      have hlt : i < l.length := by omega
      have p1 : decide ((0 : Int) ≤ (i : Nat)) = true := by simp
      have p2 : (i : Int) < (l.length : Int) := by omega
      obtain ⟨b, off, e1, e2, k0, k1, k2, k3, k4, k5⟩ := (HL.out.below bel (Nat.le_refl _)) i hlt
      have HN := Lib.hid (fun (h : hasG id k l[i] = false) => show ∀ a (ha : a < l.length), i ≤ a → hasG id k l[a] = false from fun a ha hia => by
        rcases Nat.lt_or_ge i a with h1 | h1
        · exact hno.out a ha h1
        · obtain rfl : a = i := by omega
          exact h)
      have HV := Lib.hid (fun (h : hasG id k l[i] = true) => show lsW id k l = (l[i], true) by unfold lsW; rw [lastG_some hlt h (fun a ha hia => hno.out a ha hia)])
      rw [hij]
      subst e1
      generalize l[i] = y at *
      obtain ⟨y0, y1, y2, y3, y4, y5⟩ := y
      dsimp only at k0 k1 k2 k3 k4 k5
      have hG : hasG id k (y0, y1, y2, y3, y4, y5) = (decide (y0 = id) && (decide (y1 = k) || (trB y1 && trB k))) := rfl
      rw [hG] at HN HV
      clear hG hno e2
      by_cases hi : y0 = id
      · have i1 : (y0 == id) = true := by rw [hi]; simp
        by_cases hk : y1 = k
        · have i2 : ((y1 : Int) == (k : Int)) = true := by rw [hk]; simp
          have i2' : (y1 == k) = true := by rw [hk]; simp
          have HV2 := Lib.hid (HV.out (by rw [decide_eq_true hi, decide_eq_true hk]; rfl))
          have r0 := r.c0; have r1 := r.c1; have r2 := r.c2; have r3 := r.c3; have r4 := r.c4; have r5 := r.c5; have rf := r.fr
          have R := Lib.hid (r.setAll (y0, y1, y2, y3, y4, y5))
          have BE := Lib.hid (rl_end (y := (y0, y1, y2, y3, y4, y5)) bel)
          have HW := truth_ways y1 k
          clear hi hk HV HN r bel HL
          rcases HW with ⟨t1, t2, -⟩ | ⟨t1, t2, t3, t4, -⟩ | ⟨t1, t2, t3, t4, t5, t6, -⟩ | ⟨t1, t2, t3, t4, t5, t6, t7, t8, -⟩ | ⟨t1, t2, t3, t4, t5, t6, t7, t8, -⟩ <;>
            (go_upto_region 6 with fail
             try simp only []
             repeat (first | go_values | go_skip | go_guarded | go_step | go_upon)
             exact bodyPost_ret (gs_result Tryd.results14 R.out (by kernel_rfl) (by kernel_rfl)) rfl ⟨by rw [HV2.out], BE.out⟩)
        · have i2 : ((y1 : Int) == (k : Int)) = false := beq_eq_false_iff_ne.mpr (by omega)
          have i2' : (y1 == k) = false := beq_eq_false_iff_ne.mpr hk
          have HW := truth_ways y1 k
          rw [decide_eq_true hi, decide_eq_false hk, Bool.true_and, Bool.false_or] at HN HV
          clear hi hk HL
          rcases HW with ⟨t1, t2, tt⟩ | ⟨t1, t2, t3, t4, tt⟩ | ⟨t1, t2, t3, t4, t5, t6, tt⟩ | ⟨t1, t2, t3, t4, t5, t6, t7, t8, tt⟩ | ⟨t1, t2, t3, t4, t5, t6, t7, t8, tt⟩
          case inr.inr.inr.inr =>
            have HV2 := Lib.hid (HV.out tt)
            have r0 := r.c0; have r1 := r.c1; have r2 := r.c2; have r3 := r.c3; have r4 := r.c4; have r5 := r.c5; have rf := r.fr
            have R := Lib.hid (r.setAll (y0, y1, y2, y3, y4, y5))
            have BE := Lib.hid (rl_end (y := (y0, y1, y2, y3, y4, y5)) bel)
            clear HV HN r bel tt
            go_upto_region 6 with fail
            try simp only []
            repeat (first | go_values | go_skip | go_guarded | go_step | go_upon)
            exact bodyPost_ret (gs_result Tryd.results14 R.out (by kernel_rfl) (by kernel_rfl)) rfl ⟨by rw [HV2.out], BE.out⟩
          all_goals
            (have HN2 := Lib.hid (HN.out tt)
             clear HV HN tt
             go_wp2
             go_roundw
             case rel => exact ⟨i, by omega, by go_num, HN2, r, bel⟩
             case measure => simp [intOf])
      · have i1 : (y0 == id) = false := beq_eq_false_iff_ne.mpr hi
        have HN2 := Lib.hid (HN.out (by rw [decide_eq_false hi]; rfl))
        have HW := truth_ways y1 k
        clear hi HN HV HL
        rcases HW with ⟨t1, t2, -⟩ | ⟨t1, t2, t3, t4, -⟩ | ⟨t1, t2, t3, t4, t5, t6, -⟩ | ⟨t1, t2, t3, t4, t5, t6, t7, t8, -⟩ | ⟨t1, t2, t3, t4, t5, t6, t7, t8, -⟩ <;>
          (go_wp2
           go_roundw
           case rel => exact ⟨i, by omega, by go_num, HN2, r, bel⟩
           case measure => simp [intOf])
end Go.Proofs.YtmiagebcobcaiaaDoor
