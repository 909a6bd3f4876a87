/- JtreeDeep, walked. -/
import Derived.Test.YtfighopfgllneaaDoorJrWork
namespace Go.Proofs.YtfighopfgllneaaDoor
open Go Go.RowKit
set_option linter.unusedVariables false

def rp (k : Nat) (x : UInt8) : List UInt8 := List.replicate k x
def rpT (k : Nat) (x : UInt8) : List TK := List.replicate k (x, [])
theorem rp_snoc (k : Nat) (x : UInt8) : rp (k + 1) x = rp k x ++ [x] := List.replicate_succ'
theorem rpT_snoc (k : Nat) (x : UInt8) (r : List TK) : rpT (k + 1) x ++ r = rpT k x ++ (x, []) :: r := by
  unfold rpT; rw [List.replicate_succ', List.append_assoc]; rfl
theorem sf_rep {x : UInt8} (hx : tSign x = true) {ts : List TK} {la : Option Int} {R : List UInt8} (h : SfL ts la R) : ∀ k, SfL (rpT k x ++ ts) la (rp k x ++ R)
  | 0 => h
  | k + 1 => sf_sign hx (sf_rep hx h k)
theorem sf_deep (k : Nat) : SfL (rpT k 91 ++ ((110, [49]) :: rpT k 93)) (some 0) (rp k 91 ++ (49 :: rp k 93)) := by
  have h1 : SfL (rpT k 93) (some 0) (rp k 93) := by
    have := sf_rep (x := 93) rfl sf_nil k
    rwa [List.append_nil, List.append_nil] at this
  have hok : TOk (110, [49]) := sf_ok [(110, [49])] (some 0) [49] (by decide +kernel) _ (by simp)
  have hst : tStop (rp k 93) := by
    cases k with
    | zero => exact fun x t e => by cases e
    | succ k => exact tStop_sign (k := 93) rfl _
  have h2 := sf_tok hok hst h1
  have e : tPut (110, [49]) = [49] := by decide +kernel
  rw [e] at h2
  exact sf_rep (x := 91) rfl h2 k
theorem deep_sg (k : Nat) : SgE (rpT k 91 ++ ((110, [49]) :: rpT k 93)) := fun x hx => by
  rcases List.mem_append.mp hx with h | h
  · rw [(List.mem_replicate.mp h).2]; exact ⟨fun _ => rfl, by decide⟩
  · rcases List.mem_cons.mp h with h | h
    · rw [h]; exact ⟨fun e => absurd e (by decide), by decide⟩
    · rw [(List.mem_replicate.mp h).2]; exact ⟨fun _ => rfl, by decide⟩
theorem deep_good (E : Int) : ∀ (k d f : Nat) (r : List TK) (t : TK) (ts : List TK), d + k ≤ 32 → 4 * k + 1 ≤ f → t :: ts = rpT k 91 ++ ((110, [49]) :: (rpT k 93 ++ r)) →
    (vTr E f t [] d ts).e = 0 ∧ (vTr E f t [] d ts).r = r ∧ (vTr E f t [] d ts).l.length = k + 1
  | 0, d, f, r, t, ts, hd, hf, h => by
    obtain ⟨rfl, rfl⟩ := List.cons.inj h
    obtain ⟨f, rfl⟩ : ∃ f', f = f' + 1 := ⟨f - 1, by omega⟩
    rw [vTr_leaf (by decide)]
    exact ⟨rfl, rfl, rfl⟩
  | k + 1, d, f, r, t, ts, hd, hf, h => by
    rw [rpT_snoc k 93] at h
    obtain ⟨rfl, h2⟩ := List.cons.inj h
    obtain ⟨f, rfl⟩ : ∃ f', f = f' + 1 + 1 + 1 + 1 := ⟨f - 4, by omega⟩
    have h3 : ts = rpT k 91 ++ ((110, [49]) :: (rpT k 93 ++ (93, []) :: r)) := h2
    have hu : ∃ u ts1, ts = u :: ts1 ∧ ¬ u.1 = cls false := by
      cases k with
      | zero => exact ⟨_, _, h3, by decide⟩
      | succ k => exact ⟨_, _, h3, by decide⟩
    obtain ⟨u, ts1, rfl, hu2⟩ := hu
    obtain ⟨i1, i2, i3⟩ := deep_good E k (d + 1) f ((93, []) :: r) u ts1 (by omega) (by omega) h3
    have hg : gTr E (f + 1) false u (d + 1) [] ts1 = vTr E f u [] (d + 1) ts1 := gTr_list
    rw [vTr_open (ob := false) rfl, pTr_some (by omega) hu2, mTr_end (c := (93, [])) (r1 := r) (by rw [hg]; exact i1) (by rw [hg]; exact i2) rfl, wrap_good rfl]
    refine ⟨rfl, rfl, ?_⟩
    rw [hg]
    simp only [List.length_cons]
    omega
theorem deep_bad (E : Int) : ∀ (k d f : Nat) (r : List TK) (t : TK) (ts : List TK), 32 < d + k → d ≤ 32 → 4 * k ≤ f + 2 → t :: ts = rpT k 91 ++ r → (vTr E f t [] d ts).e = 33
  | 0, d, f, r, t, ts, hd, hd2, hf, h => by omega
  | k + 1, d, f, r, t, ts, hd, hd2, hf, h => by
    obtain ⟨rfl, h3⟩ := List.cons.inj h
    obtain ⟨f, rfl⟩ : ∃ f', f = f' + 1 + 1 := ⟨f - 2, by omega⟩
    rw [vTr_open (ob := false) rfl, wrap_e]
    by_cases h32 : d = 32
    · rw [pTr_deep h32]
    · cases k with
      | zero => omega
      | succ k =>
        obtain ⟨f, rfl⟩ : ∃ f', f = f' + 1 + 1 := ⟨f - 2, by omega⟩
        have h4 : ts = (91, []) :: (rpT k 91 ++ r) := h3
        subst h4
        have hi := deep_bad E (k + 1) (d + 1) f r (91, []) (rpT k 91 ++ r) (by omega) (by omega) (by omega) rfl
        have hg : gTr E (f + 1) false (91, []) (d + 1) [] (rpT k 91 ++ r) = vTr E f (91, []) [] (d + 1) (rpT k 91 ++ r) := gTr_list
        rw [pTr_some h32 (by decide), mTr_bad (by rw [hg, hi]; decide), hg]
        exact hi
theorem deep_rd_good {k : Nat} (hk : k ≤ 32) : (rdT (rpT k 91 ++ ((110, [49]) :: rpT k 93)) (some 0)).2 = 0 ∧ (rdT (rpT k 91 ++ ((110, [49]) :: rpT k 93)) (some 0)).1.length = k + 1 := by
  obtain ⟨t, ts, e⟩ : ∃ t ts, rpT k 91 ++ ((110, [49]) :: rpT k 93) = t :: ts := by
    cases k with
    | zero => exact ⟨_, _, rfl⟩
    | succ k => exact ⟨_, _, rfl⟩
  have hl := congrArg List.length e
  simp only [rpT, List.length_append, List.length_replicate, List.length_cons] at hl
  obtain ⟨h1, h2, h3⟩ := deep_good (eE (some 0)) k 0 (4 * ts.length + 2) [] t ts (by omega) (by omega) (by rw [List.append_nil, e])
  rw [e]
  unfold rdT
  simp only [h1, h2, if_true, and_self]
  exact ⟨trivial, h3⟩
theorem deep_rd_bad {k : Nat} (hk : 32 < k) (r : List TK) (la : Option Int) : ∃ t ts, rpT k 91 ++ r = t :: ts ∧ (vTr (eE la) (4 * ts.length + 2) t [] 0 ts).e = 33 ∧ rdT (rpT k 91 ++ r) la = ([], 33) := by
  obtain ⟨t, ts, e⟩ : ∃ t ts, rpT k 91 ++ r = t :: ts := by
    cases k with
    | zero => omega
    | succ k => exact ⟨_, _, rfl⟩
  have hl := congrArg List.length e
  simp only [rpT, List.length_append, List.length_replicate, List.length_cons] at hl
  have h1 := deep_bad (eE la) k 0 (4 * ts.length + 2) r t ts (by omega) (by omega) (by omega) e.symm
  refine ⟨t, ts, e, h1, ?_⟩
  rw [e]
  unfold rdT
  simp only [h1]
  rfl
theorem deep_call1 (k : Nat) (w : World) (hk : k < 60) (ht : Hds w) :
    Calls Tryd.prog 6 #[.string (bA (rp k 91 ++ (49 :: rp k 93)))] w fun e w' => ∃ a c, e = .returned (.tuple #[.slice a (if k ≤ 32 then k + 1 else 0) c, .int .i64 (if k ≤ 32 then 0 else 33)]) ∧ Below w.heap.size w w' := by
  have e1 : (bA (rp k 91 ++ (49 :: rp k 93))).data.toList = rp k 91 ++ (49 :: rp k 93) := by simp [bA]
  have hz : (bA (rp k 91 ++ (49 :: rp k 93))).size ≤ 200 := by rw [bA_size]; simp [rp]; omega
  refine (read_any (bA (rp k 91 ++ (49 :: rp k 93))) w _ (some 0) (by omega) (by rw [e1]; exact sf_deep k) (deep_sg k) (by simp [rpT]; omega) (fun e => by cases e) ht).mono ?_
  rintro e w' ⟨v, he, hrow, hb⟩
  obtain ⟨a, c, hv, _⟩ := hrow.inn
  rw [hv] at he
  refine ⟨a, c, ?_, hb⟩
  by_cases hk2 : k ≤ 32
  · obtain ⟨h1, h2⟩ := deep_rd_good hk2
    rw [he, h1, h2, if_pos hk2, if_pos hk2]
  · obtain ⟨_, _, _, _, h3⟩ := deep_rd_bad (show 32 < k by omega) ((110, [49]) :: rpT k 93) (some 0)
    rw [he, h3, if_neg hk2, if_neg hk2]; rfl
theorem deep_call2 (k : Nat) (s : ByteArray) (w : World) (hk : 32 < k) (hk2 : k < 60) (hs : s.size ≤ 140737488351232) (ht : Hds w) :
    Calls Tryd.prog 6 #[.string (bA (rp k 91) ++ s)] w fun e w' => ∃ v, e = .returned (.tuple #[v, .int .i64 33]) ∧ Below w.heap.size w w' := by
  have e1 : (bA (rp k 91) ++ s).data.toList = rp k 91 ++ s.data.toList := by rw [toList_append]; simp [bA]
  have hz : (bA (rp k 91) ++ s).size ≤ 140737488352256 := by rw [ByteArray.size_append, bA_size]; simp [rp]; omega
  have hsf : SfL (rpT k 91 ++ []) none (rp k 91 ++ s.data.toList) := sf_rep (x := 91) rfl (show SfL [] none s.data.toList from Or.inl rfl) k
  obtain ⟨t, ts, h1, h2, h3⟩ := deep_rd_bad hk [] none
  refine (read_any (bA (rp k 91) ++ s) w _ none hz (by rw [e1]; exact hsf) (fun x hx => by rw [List.append_nil] at hx; rw [(List.mem_replicate.mp hx).2]; exact ⟨fun _ => rfl, by decide⟩) (by simp [rpT]; omega) (fun _ => ⟨t, ts, h1, by rw [h2]; decide, by rw [h2]; decide⟩) ht).mono ?_
  rw [h3]
  rintro e w' ⟨v, he, _, hb⟩
  exact ⟨v, he, hb⟩
def DpRel (k : Nat) (w : World) (o c i : Value) (wr : World) : Prop := ∃ j : Nat, j ≤ k ∧ i = .int .i64 (j : Nat) ∧ o = .string (bA (rp j 91)) ∧ c = .string (bA (rp j 93)) ∧ wr = w
set_option maxRecDepth 100000 in
set_option maxHeartbeats 4000000 in
theorem kdeep_any (n : Int) (s : ByteArray) (w : World) (h0 : 0 ≤ n) (h1 : n ≤ 255) (hs : s.size ≤ 140737488351232) (hh : Hds w) :
    Calls Tryd.prog 4 #[.int .u8 n, .string s] w fun e w' => e = .returned (.bool true) ∧ Below w.heap.size w w' := by
  have HT := Lib.hid (show ∀ w', Below w.heap.size w w' → Hds w' from fun w' hb => hh.below hb hh.lt)
  obtain ⟨k, hk⟩ : ∃ k : Nat, n % 60 = (k : Int) := ⟨(n % 60).toNat, by omega⟩
  have hk60 : k < 60 := by omega
  have hm : n.tmod 60 = (k : Int) := by rw [Int.tmod_eq_emod_of_nonneg h0]; exact hk
  have hw2 : IntKind.i64.wrap (k : Int) = (k : Int) := i64_small (by omega) (by omega)
  have H1 := Lib.hid (deep_call1 k w hk60 hh)
  have H2 := Lib.hid (fun w h hk => deep_call2 k s w hk hk60 hs h)
  clear hh
  go_enter Tryd.func4, Tryd.ntmps4
  go_wp2_with fail
  go_loopw [6, 7, 8] (fun o c i wr => DpRel k w o c i wr) (fun _ _ i _ => k - (intOf i).toNat)
  case atStart => exact ⟨0, Nat.zero_le _, rfl, rfl, rfl, rfl⟩
  case round =>
    obtain ⟨j, hj, rfl, rfl, rfl, rfl⟩ := hrel
    have s1 : (bA (rp j 91)).size = j := by rw [bA_size]; simp [rp]
    have s2 : (bA (rp j 93)).size = j := by rw [bA_size]; simp [rp]
    have l1 : ¬ 9223372036854775807 < (bA (rp j 91)).size + 1 := by omega
    have l2 : ¬ 9223372036854775807 < (bA (rp j 93)).size + 1 := by omega
    have e1 := Lib.hid (show bA (rp j 91) ++ (⟨#[91]⟩ : ByteArray) = bA (rp (j + 1) 91) from by rw [rp_snoc]; exact bA_append _ _)
    have e2 := Lib.hid (show bA (rp j 93) ++ (⟨#[93]⟩ : ByteArray) = bA (rp (j + 1) 93) from by rw [rp_snoc]; exact bA_append _ _)
    by_cases hlt : j < k
    · have p1 : decide (j < k) = true := decide_eq_true hlt
      have p2 : (j : Int) < (k : Int) := by omega
      have HL := Lib.hid hlt
      clear s1 s2
      go_wp2
      go_roundw
      case rel => exact ⟨j + 1, HL.out, by go_num, by rw [e1.out], by rw [e2.out], rfl⟩
      case measure => simp [intOf]; omega
    · have hjk : j = k := by omega
      subst hjk
      have p1 : decide (j < j) = false := decide_eq_false (by omega)
      have p2 : ¬ j < j := by omega
      have e3 := Lib.hid (show bA (rp j 91) ++ (⟨#[49]⟩ : ByteArray) ++ bA (rp j 93) = bA (rp j 91 ++ (49 :: rp j 93)) from by
        rw [show (⟨#[49]⟩ : ByteArray) = bA [49] from rfl, bA_append, bA_append]; simp)
      have l3 : ¬ 9223372036854775807 < (bA (rp j 91)).size + 1 + (bA (rp j 93)).size := by omega
      have l4 : ¬ 9223372036854775807 < (bA (rp j 91) ++ (⟨#[49]⟩ : ByteArray)).size + (bA (rp j 93)).size := by
        rw [ByteArray.size_append]
        have : (⟨#[49]⟩ : ByteArray).size = 1 := rfl
        omega
      have l5 : ¬ 9223372036854775807 < (bA (rp j 91)).size + s.size := by omega
      clear s1 s2
      go_wp2_with fail
      rw [e3.out]
      refine H1.out.mono ?_
      rintro e w1 ⟨a1, c1, rfl, b1⟩
      have t1 := Lib.hid (HT.out _ b1)
      have B1 := Lib.hid b1
      clear b1 H1 e1 e2 e3
      by_cases h32 : j ≤ 32
      · have HW := Lib.hid (works13_any w1 t1.out)
        rw [if_pos h32, if_pos h32]
        have r1 : decide (32 < j) = false := decide_eq_false (by omega)
        have r2 : decide ((32 : Int) < (j : Int)) = false := decide_eq_false (by omega)
        have r3 : ¬ 32 < j := by omega
        have z1 : IntKind.i64.wrap ((j : Int) + 1) = (j : Int) + 1 := i64_small (by omega) (by omega)
        clear h32
        go_wp2_with fail
        with_reducible refine HW.out.mono ?_
        rintro e w2 ⟨rfl, b2⟩
        have B2 := Lib.hid (grown_then B1.out b2)
        clear b2
        go_wp2
        go_ret
        exact ⟨rfl, B2.out⟩
      · have HD := Lib.hid (H2.out w1 t1.out (by omega))
        rw [if_neg h32, if_neg h32]
        have r1 : decide (32 < j) = true := decide_eq_true (by omega)
        have r2 : decide ((32 : Int) < (j : Int)) = true := decide_eq_true (by omega)
        have r3 : 32 < j := by omega
        clear h32
        go_wp2_with fail
        refine HD.out.mono ?_
        rintro e w2 ⟨v2, rfl, b2⟩
        have B2 := Lib.hid (grown_then B1.out b2)
        have HW := Lib.hid (works13_any w2 (HT.out _ B2.out))
        clear b2
        go_wp2_with fail
        with_reducible refine HW.out.mono ?_
        rintro e w3 ⟨rfl, b3⟩
        have B3 := Lib.hid (grown_then B2.out b3)
        clear b3
        go_wp2
        go_ret
        exact ⟨rfl, B3.out⟩
end Go.Proofs.YtfighopfgllneaaDoor
