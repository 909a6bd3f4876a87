/- The document's answers for the last field of some tags, and how many have none; two lists of texts compared. -/
import Derived.Test.YtipnaonagepolaaDoorPmR
import Derived.Test.YtipnaonagepolaaDoorZK
import Derived.BigQuiet
namespace Go.Proofs.YtipnaonagepolaaDoor
open Go Go.RowKit
set_option linter.unusedVariables false

theorem tKn_eq (T : List TG) (j : Nat) (hj : j < T.length) (x : FD) : tKn (T.take (j + 1)) x = (tKn (T.take j) x || (decide (x.1 = T[j].1) && decide (x.2.1 = T[j].2))) := by
  rw [List.take_succ_eq_append_getElem hj, tKn_snoc]; rfl
theorem tKn_hit (T : List TG) (j : Nat) (hj : j < T.length) (x : FD) (h : tHas T[j] x = true) : tKn T x = true := List.any_eq_true.2 ⟨_, List.getElem_mem hj, h⟩
set_option maxRecDepth 20000 in
set_option maxHeartbeats 1000000 in
theorem rknown_any (ta : Option Addr) (tc : Nat) (T : List TG) (x : FD) (w : World) (hT : T.length ≤ 1099511627776) (hin : TgIn w ta T) :
    Calls Tryd.prog 39 #[pfV x, .slice ta T.length tc] w fun e w' => e = .returned (.bool (tKn T x)) ∧ Below w.heap.size w w' := by
  have hIN := Lib.hid hin
  have HKn := Lib.hid (fun j hj => tKn_hit T j hj x)
  have HKe := Lib.hid (fun j hj => tKn_eq T j hj x)
  have HKa := Lib.hid (show ∀ j, T.length ≤ j → tKn (T.take j) x = tKn T x from fun j hj => by rw [List.take_of_length_le hj])
  have F1 := fd_alloc w x 45
  have B1 := Lib.hid (fd_grow w x 45)
  have HK0 := Lib.hid (show tKn (T.take 0) x = false by simp [tKn])
  have hHas := Lib.hid (fun t => show tHas t x = (decide (x.1 = t.1) && decide (x.2.1 = t.2)) from rfl)
  clear hin
  obtain ⟨x0, x1, x2, x3⟩ := x
  unfold pfV
  dsimp only at F1 B1 HKe hHas ⊢
  have HF := Lib.hid F1
  clear F1
  go_enter Tryd.func39, Tryd.ntmps39
  go_wp2_with fail
  generalize w.alloc (.cells #[.int .i64 x0, .int .i64 x1, .int .u64 (x2 : Nat), .string x3] 45) = W1 at *
  go_loopw [5] (fun i wr => ∃ j : Nat, j ≤ T.length ∧ i = .int .i64 (j : Nat) ∧ tKn (T.take j) (x0, x1, x2, x3) = false ∧ Below W1.heap.size W1 wr) (fun i _ => T.length - (intOf i).toNat)
  case atStart => exact ⟨0, Nat.zero_le _, rfl, HK0.out, Below.refl _ _⟩
  case round =>
    obtain ⟨j, hj, rfl, hno, hbel⟩ := hrel
    by_cases hlt : j < T.length
    · have p1 : decide ((j : Int) < (T.length : Int)) = true := decide_eq_true (by omega)
      have p2 : (j : Int) < (T.length : Int) := by omega
      obtain ⟨g, off, rfl, hg, k0, k1⟩ := hIN.out.below (below_on B1.out hbel B1.out.size) (Nat.le_refl _) j hlt
      have F2 := HF.out.below hbel HF.out.lt
      have c0 := F2.c0; have c1 := F2.c1
      have HE := Lib.hid (HKe.out j hlt)
      have HN := Lib.hid (HKn.out j hlt)
      have HB := Lib.hid hbel
      clear hg F2 hbel HKe HKn
      generalize T[j] = t at *
      obtain ⟨t0, t1⟩ := t
      dsimp only at k0 k1 HE
      by_cases e1 : t0 = x0
      · have b1 : (t0 == x0) = true := beq_iff_eq.2 e1
        by_cases e2 : t1 = x1
        · have b2 : (t1 == x1) = true := beq_iff_eq.2 e2
          have HR := Lib.hid (HN.out (by simp [tHas, e1, e2]))
          clear e1 e2 hno
          go_wp2_with fail
          go_quiet (fail)
          go_wp2
          go_ret
          exact ⟨ret_b HR.out.symm, Below.drewN (below_on B1.out HB.out B1.out.size) _⟩
        · have b2 : (t1 == x1) = false := beq_eq_false_iff_ne.2 e2
          have HR := Lib.hid (show tKn (T.take (j + 1)) (x0, x1, x2, x3) = false by rw [HE.out, hno]; simp; exact fun _ h => e2 h.symm)
          clear e1 e2 hno
          go_wp2_with fail
          go_quiet (fail)
          go_wp2
          go_roundw
          case rel => exact ⟨j + 1, by omega, by go_num, HR.out, Below.drewN HB.out _⟩
          case measure => simp [intOf]; omega
      · have b1 : (t0 == x0) = false := beq_eq_false_iff_ne.2 e1
        have HR := Lib.hid (show tKn (T.take (j + 1)) (x0, x1, x2, x3) = false by rw [HE.out, hno]; simp; exact fun h => absurd h.symm e1)
        clear e1 hno
        go_wp2_with fail
        go_quiet (fail)
        go_wp2
        go_roundw
        case rel => exact ⟨j + 1, by omega, by go_num, HR.out, Below.drewN HB.out _⟩
        case measure => simp [intOf]; omega
    · have p1 : decide ((j : Int) < (T.length : Int)) = false := decide_eq_false (by omega)
      have HR := Lib.hid (show tKn T (x0, x1, x2, x3) = false by rw [← HKa.out j (by omega)]; exact hno)
      have HB := Lib.hid hbel
      clear hno hbel
      go_wp2
      go_ret
      exact ⟨ret_b HR.out.symm, below_on B1.out HB.out B1.out.size⟩

/-- The fields from place j on, none of which has any of these tags. -/
theorem rest_step {l : List FD} {T : List TG} {j : Nat} (hj : j < l.length) : fRest (l.take (j + 1)) T = fRest (l.take j) T + (if tKn T l[j] then 0 else 1) := by
  unfold fRest
  rw [List.take_succ_eq_append_getElem hj, List.countP_append, List.countP_cons, List.countP_nil]
  by_cases h : tKn T l[j] <;> simp [h]
theorem rest_le (l : List FD) (T : List TG) : fRest l T ≤ l.length := List.countP_le_length
set_option maxRecDepth 20000 in
set_option maxHeartbeats 1000000 in
theorem rrest_any (a ta : Option Addr) (cap tc : Nat) (l : List FD) (T : List TG) (w : World) (hl : l.length ≤ 1099511627776) (hT : T.length ≤ 1099511627776) (hin : FIn w a l) (tin : TgIn w ta T) :
    Calls Tryd.prog 22 #[.slice a l.length cap, .slice ta T.length tc] w fun e w' => e = .returned (.int .i64 (fRest l T : Nat)) ∧ Below w.heap.size w w' := by
  have HI := Lib.hid hin
  have HT := Lib.hid tin
  clear hin tin
  go_enter Tryd.func22, Tryd.ntmps22
  go_wp2_with fail
  go_loopw [5, 6] (fun v i wr => ∃ j : Nat, j ≤ l.length ∧ i = .int .i64 (j : Nat) ∧ v = .int .i64 (fRest (l.take j) T : Nat) ∧ Below w.heap.size w wr) (fun _ i _ => l.length - (intOf i).toNat)
  case atStart => exact ⟨0, Nat.zero_le _, rfl, rfl, Below.refl _ _⟩
  case round =>
    obtain ⟨j, hj, rfl, rfl, hbel⟩ := hrel
    have hle := rest_le (l.take j) T
    rw [List.length_take] at hle
    by_cases hlt : j < l.length
    · have p1 : decide ((j : Int) < (l.length : Int)) = true := decide_eq_true (by omega)
      have p2 : (j : Int) < (l.length : Int) := by omega
      obtain ⟨g, rfl, hg, k0, k1, k2, k3⟩ := HI.out.below hbel (Nat.le_refl _) j hlt
      have HQ := Lib.hid (rest_step (T := T) hlt)
      have HB := Lib.hid hbel
      have HK := Lib.hid (rknown_any ta tc T l[j] wr hT (HT.out.below hbel (Nat.le_refl _)))
      clear hbel hg
      generalize l[j] = x at *
      generalize fRest (l.take j) T = R at *
      generalize tKn T x = B at *
      obtain ⟨x0, x1, x2, x3⟩ := x
      unfold pfV at HK
      dsimp only at HK k0 k1 k2 k3
      cases B
      · go_wp2_with (go_at_call 39; refine HK.out.mono ?_; rintro e w1 ⟨rfl, hb⟩; have HB1 := Lib.hid (below_on HB.out hb HB.out.size); clear hb)
        go_roundw
        case rel => exact ⟨j + 1, by omega, by go_num, by rw [HQ.out]; go_num, HB1.out⟩
        case measure => simp [intOf]; omega
      · go_wp2_with (go_at_call 39; refine HK.out.mono ?_; rintro e w1 ⟨rfl, hb⟩; have HB1 := Lib.hid (below_on HB.out hb HB.out.size); clear hb)
        go_roundw
        case rel => exact ⟨j + 1, by omega, by go_num, by rw [HQ.out]; rfl, HB1.out⟩
        case measure => simp [intOf]; omega
    · have p1 : decide ((j : Int) < (l.length : Int)) = false := decide_eq_false (by omega)
      have e : l.take j = l := List.take_of_length_le (by omega)
      rw [e]
      have HB := Lib.hid hbel
      clear hbel
      go_wp2
      go_ret
      exact ⟨rfl, HB.out⟩
end Go.Proofs.YtipnaonagepolaaDoor
