/- slices.Backward of fields: the function over which Last ranges; the last field of a kind. -/
import Derived.Test.YtmiagebcobcaiaaDoorCrNum
import Derived.Test.YtmiagebcobcaiaaDoorRng
namespace Go.Proofs.YtmiagebcobcaiaaDoor
open Go Go.RowKit
set_option linter.unusedVariables false
attribute [local go_sem] Oper.semAt_some

theorem lastG_none {id : Int} {k : Nat} {l : List GD} (h : ∀ i (hi : i < l.length), hasG id k l[i] = false) : lastG id k l = none := by
  unfold lastG
  rw [List.find?_eq_none]
  intro x hx
  obtain ⟨i, hi, rfl⟩ := List.mem_iff_getElem.mp (List.mem_reverse.mp hx)
  rw [h i hi]; decide
theorem lastG_some {id : Int} {k : Nat} {l : List GD} {j : Nat} (hj : j < l.length) (h : hasG id k l[j] = true) (hn : ∀ i (hi : i < l.length), j < i → hasG id k l[i] = false) : lastG id k l = some l[j] := by
  have e : l = l.take j ++ (l[j] :: l.drop (j + 1)) := by rw [← List.drop_eq_getElem_cons hj, List.take_append_drop]
  have hd : (l.drop (j + 1)).reverse.find? (hasG id k) = none := by
    rw [List.find?_eq_none]
    intro x hx
    obtain ⟨i, hi, rfl⟩ := List.mem_iff_getElem.mp (List.mem_reverse.mp hx)
    rw [List.length_drop] at hi
    rw [List.getElem_drop, hn (j + 1 + i) (by omega) (by omega)]; decide
  have : lastG id k (l.take j ++ (l[j] :: l.drop (j + 1))) = some l[j] := by
    unfold lastG
    rw [List.reverse_append, List.reverse_cons, List.append_assoc, List.find?_append, hd]
    simp [h]
  rw [← e] at this
  exact this

theorem backward_any (a : Option Addr) (n c : Nat) (w : World) :
    Calls Tryd.prog 31 #[.slice a n c] w fun e w' => e = .returned (.func (.func 66) #[] #[.pointer (some ⟨w.heap.size, 0, none⟩)]) ∧ w' = w.alloc (.cells #[.slice a n c] 23) := by
  have hmf : ∀ (fn : Fn) (first cap : Array Value) (w : World), (Instr.makeFunc fn first cap).run Tryd.prog w = .ok (.func fn first cap) w := fun _ _ _ _ => rfl
  go_enter Tryd.func31, Tryd.ntmps31
  go_wp2
  go_ret
  exact ⟨rfl, rfl⟩
set_option maxRecDepth 100000 in
set_option maxHeartbeats 4000000 in
theorem back_iter (l : List GD) (id : Int) (k : Nat) (ad : Option Addr) (cp L Bn m : Nat) (W : World) (hl : l.length ≤ 1099511627776)
    (St : Nat → World → Prop) (Sx : Nat → World → Prop)
    (hc : ∀ j W1, St j W1 → W1.cell? ⟨Bn, 0, none⟩ = some (.slice ad l.length cp) ∧ GIn W1 ad l)
    (hY : ∀ j (hj : j < l.length) W1, St (j + 1) W1 → hasG id k l[j] = false → YieldAt Fence.wide m Tryd.prog L #[.int .i64 (j : Nat), gfV l[j]] W1 fun r W' => r = .returned (.bool true) ∧ St j W')
    (hX : ∀ j (hj : j < l.length) W1, St (j + 1) W1 → hasG id k l[j] = true → YieldAt Fence.wide m Tryd.prog L #[.int .i64 (j : Nat), gfV l[j]] W1 fun r W' => r = .returned (.bool false) ∧ Sx j W')
    (h0 : St l.length W) :
    CallsIn Fence.wide (m + 1) Tryd.prog 66 #[.func (.yield L) #[] #[], .pointer (some ⟨Bn, 0, none⟩)] W fun e W' => (∃ v, e = .returned v) ∧
      ((St 0 W' ∧ ∀ i (hi : i < l.length), hasG id k l[i] = false) ∨ (∃ j, ∃ hj : j < l.length, Sx j W' ∧ hasG id k l[j] = true ∧ ∀ i (hi : i < l.length), j < i → hasG id k l[i] = false)) := by
  have HC := Lib.hid hc
  have HY := Lib.hid hY
  have HX := Lib.hid hX
  have H0 := Lib.hid h0
  obtain ⟨q1, -⟩ := hc _ W h0
  have m1 : IntKind.i64.wrap ((l.length : Int) - 1) = (l.length : Int) - 1 := IntWalk.i64_in _ (by omega)
  clear hc hY hX h0
  refine callsIn_of_wp Tryd.func66 rfl trivial ?_ rfl
  simp only [Tryd.ntmps66, List.size_toArray, List.length_cons, List.length_nil, Nat.reduceAdd, Nat.reduceSub, Array.replicate_succ, Array.replicate_zero, List.push_toArray, List.append_toArray, List.nil_append, List.cons_append]
  gi_wp2
  clear q1
  gi_loopw [3] (fun i wr => ∃ j : Nat, j ≤ l.length ∧ i = .int .i64 ((j : Int) - 1) ∧ St j wr ∧ Hid (∀ i (hi : i < l.length), j ≤ i → hasG id k l[i] = false)) (fun i _ => (intOf i + 1).toNat)
  case atStart => exact ⟨l.length, Nat.le_refl _, rfl, H0.out, Lib.hid (fun i hi h => absurd hi (by omega))⟩
  case round =>
    obtain ⟨j, hj, rfl, hst, hno⟩ := hrel
    match j, hj with
    | 0, hj =>
      have ST := Lib.hid hst
      clear hst
      gi_wp2
      go_end0
      exact ⟨⟨_, rfl⟩, .inl ⟨ST.out, fun i hi => hno.out i hi (Nat.zero_le _)⟩⟩
    | i + 1, hj =>
      have hij : ((i + 1 : Nat) : Int) - 1 = (i : Nat) := by omega
      have hlt : i < l.length := by omega
      have p1 : decide ((0 : Int) ≤ (i : Nat)) = true := by simp
      have p2 : (i : Int) < (l.length : Int) := by omega
      obtain ⟨q1, q2⟩ := HC.out _ _ hst
      obtain ⟨g, hg1, hg2, k0, k1, k2, k3, k4, k5⟩ := q2 i hlt
      have HYj := Lib.hid (fun h => HY.out i hlt _ hst h)
      have HXj := Lib.hid (fun h => HX.out i hlt _ hst h)
      have HN := Lib.hid (fun (h : hasG id k l[i] = false) => show ∀ a (ha : a < l.length), i ≤ a → hasG id k l[a] = false from fun a ha hia => by
        rcases Nat.lt_or_ge i a with h1 | h1
        · exact hno.out a ha h1
        · obtain rfl : a = i := by omega
          exact h)
      have HG := Lib.hid (fun (h : hasG id k l[i] = true) => h)
      rw [hij]
      clear q2 hst hg2
      subst hg1
      by_cases ht : hasG id k l[i] = true
      · have hY := HXj.out ht
        have HT := Lib.hid ht
        clear HYj HXj HN ht
        generalize hy : l[i] = y at k0 k1 k2 k3 k4 k5 hY
        have HE := Lib.hid hy
        obtain ⟨y0, y1, y2, y3, y4, y5⟩ := y
        unfold gfV at hY
        dsimp only at k0 k1 k2 k3 k4 k5 hY
        clear hy
        have HYt := Lib.hid hY
        clear hY
        obtain ⟨fn, tm, ass, bo, hy, hR⟩ := HYt.out
        gi_wp2_with (refine hR.mono ?_; rintro e w6 ⟨rfl, hst6⟩)
        refine bodyPost_ret (results_none rfl _ _ _) rfl ?_
        exact ⟨⟨_, rfl⟩, .inr ⟨i, hlt, hst6, HT.out, fun a ha hia => hno.out a ha hia⟩⟩
      · have ht := Bool.eq_false_iff.2 ht
        have hY := HYj.out ht
        have HT := Lib.hid (HN.out ht)
        clear HYj HXj HN ht
        generalize hy : l[i] = y at k0 k1 k2 k3 k4 k5 hY
        obtain ⟨y0, y1, y2, y3, y4, y5⟩ := y
        unfold gfV at hY
        dsimp only at k0 k1 k2 k3 k4 k5 hY
        clear hy
        have HYt := Lib.hid hY
        clear hY
        obtain ⟨fn, tm, ass, bo, hy, hR⟩ := HYt.out
        gi_wp2_with (refine hR.mono ?_; rintro e w6 ⟨rfl, hst6⟩)
        go_roundw
        case rel => exact ⟨i, by omega, by go_num, hst6, HT⟩
        case measure => simp [intOf]
end Go.Proofs.YtmiagebcobcaiaaDoor
