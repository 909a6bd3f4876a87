/- The document's own Read and Short of a number by sevens (package truchmanref03). -/
import Derived.Test.YtmiagebcobcaiaaDoorVarRefA
import Derived.Deep.QuietTactic
namespace Go.Proofs.YtmiagebcobcaiaaDoor
open Go Go.RowKit
set_option linter.unusedVariables false

/-- Two blocks that have just been laid. -/
theorem two_new (w : World) (c d : CS) (t : TypeId) :
    CurT t ((w.alloc (.cells #[.string c.s, .int .i64 c.at_, .int .i64 c.en, .int .i64 c.er] t)).alloc (.cells #[.string d.s, .int .i64 d.at_, .int .i64 d.en, .int .i64 d.er] t)) w.heap.size c ∧
    CurT t ((w.alloc (.cells #[.string c.s, .int .i64 c.at_, .int .i64 c.en, .int .i64 c.er] t)).alloc (.cells #[.string d.s, .int .i64 d.at_, .int .i64 d.en, .int .i64 d.er] t)) (w.heap.size + 1) d ∧
    Below w.heap.size w ((w.alloc (.cells #[.string c.s, .int .i64 c.at_, .int .i64 c.en, .int .i64 c.er] t)).alloc (.cells #[.string d.s, .int .i64 d.at_, .int .i64 d.en, .int .i64 d.er] t)) := by
  have h1 : CurT t (w.alloc (.cells #[.string c.s, .int .i64 c.at_, .int .i64 c.en, .int .i64 c.er] t)) w.heap.size c := cur_alloc t
  have h2 : CurT t ((w.alloc (.cells #[.string c.s, .int .i64 c.at_, .int .i64 c.en, .int .i64 c.er] t)).alloc (.cells #[.string d.s, .int .i64 d.at_, .int .i64 d.en, .int .i64 d.er] t)) (w.heap.size + 1) d := by
    have := cur_alloc (w := w.alloc (.cells #[.string c.s, .int .i64 c.at_, .int .i64 c.en, .int .i64 c.er] t)) (c := d) t
    rw [World.size_alloc] at this; exact this
  exact ⟨h1.allocOld _, h2, ((Below.refl _ _).alloc (Nat.le_refl _) _).alloc (by simp) _⟩


theorem CS.front_rest {c : CS} (h : c.ok) : ((c.s.extract 0 c.en).data.toList.drop c.at_) = c.rest := by
  obtain ⟨h1, h2, h3⟩ := h
  have e : (c.s.extract 0 c.en).data.toList = c.s.data.toList.take c.en := by simp
  rw [e, CS.rest, List.drop_take]

theorem CS.front_get {c : CS} (h : c.ok) (j : Nat) (hj : j < c.rest.length) (hs : c.at_ + j < (c.s.extract 0 c.en).size) : c.rest[j] = (c.s.extract 0 c.en)[c.at_ + j] := by
  have hT := CS.front_rest h
  have e : c.rest[j] = ((c.s.extract 0 c.en).data.toList.drop c.at_)[j]'(by rw [hT]; exact hj) := by simp only [hT]
  rw [e, List.getElem_drop]
  exact byte_at _ _ hs _
theorem vvL_mono (l : List UInt8) : ∀ (j n : Nat), j ≤ n → n ≤ l.length → vvL (l.take j) ≤ vvL (l.take n)
  | j, n, h, hn => by
    rcases Nat.lt_or_ge j n with h1 | h1
    · match n, h1 with
      | n + 1, h1 =>
        have := vvL_mono l j n (by omega) (by omega)
        rw [vvL_take l n (by omega)]; omega
    · obtain rfl : j = n := by omega
      exact Nat.le_refl _

def RrRel (t : TypeId) (l : List UInt8) (n : Nat) (W : World) (c : CS) (u i : Value) (wr : World) : Prop :=
  ∃ k, k ≤ n ∧ i = .int .i64 (k : Nat) ∧ u = .int .u64 ((vvL (l.take k) : Nat) : Int) ∧ CurT t wr W.heap.size c ∧ CurT t wr (W.heap.size + 1) CS.zero ∧ Below W.heap.size W wr

set_option maxRecDepth 4000 in
set_option maxHeartbeats 4000000 in
theorem rread_any (c : CS) (w : World) (hc : c.ok) (hs : c.s.size ≤ 140737488351232) :
    Calls Tryd.prog 49 #[.agg #[.string c.s, .int .i64 c.at_, .int .i64 c.en, .int .i64 c.er]] w fun e w' => ∃ d, e = .returned (.tuple #[d.val, .int .u64 (c.vVal : Nat)]) ∧ d.er = c.vCode ∧ (c.vCode = 0 → d = c.vTo) ∧ d.s = c.s ∧ d.en = c.en ∧ d.ok ∧ Below w.heap.size w w' := by
  by_cases h0 : c.er = 0
  · have hb : (c.er != 0) = false := by simp [h0]
    have hle := vlead_le c.rest
    have hl := CS.rest_length hc
    have hT := CS.front_rest hc
    have hTs : (c.s.extract 0 c.en).size = c.en := by have := hc.2.1; simp; omega
    obtain ⟨k1, k2, k3⟩ := hc
    have HL := Lib.hid (fun w => len_any (c.s.extract 0 c.en) c.at_ w (by omega) (by omega))
    rw [hT] at HL
    by_cases hg : 9 ≤ vlead c.rest ∧ 1 < ((c.rest[9]?).getD 0).toNat
    · have h9 := CS.nine hg.2
      have hcode : c.vCode = 4 := by unfold CS.vCode; rw [if_neg (by simp [h0]), if_pos hg]
      have hval : c.vVal = 0 := by unfold CS.vVal; rw [hcode]; rfl
      have p1 : decide ((10 : Int) ≤ (c.en : Int) - (c.at_ : Int)) = true := decide_eq_true (by omega)
      have hlt9 : c.at_ + 9 < (c.s.extract 0 c.en).size := by omega
      have p9 : decide (1 < ((c.s.extract 0 c.en)[c.at_ + 9].toNat : Int)) = true := decide_eq_true (by
        have h2 := hg.2
        rw [List.getElem?_eq_getElem h9] at h2
        have h3 := CS.front_get ⟨k1, k2, k3⟩ 9 h9 hlt9
        rw [h3] at h2
        simp only [Option.getD_some] at h2
        omega)
      by_cases hl9 : vlead c.rest = 9
      · have hn : lenN c.rest = 10 := by unfold lenN; rw [if_pos (by omega), hl9]
        rw [hn] at HL
        clear hn hl9
        go_enter Tryd.func49, Tryd.ntmps49
        go_wp2_with fail
        with_reducible refine (HL.out _).mono ?_
        rintro e w1 ⟨rfl, hw1⟩
        have Q : CurT 56 w1 w.heap.size c ∧ CurT 56 w1 (w.heap.size + 1) CS.zero ∧ Below w.heap.size w w1 := by
          have := two_new w c CS.zero 56
          rw [h0] at this; rw [hw1]; exact this
        clear hw1
        obtain ⟨q1, q2, hbel⟩ := Q
        have a0 := q1.c0; have a1 := q1.c1; have a2 := q1.c2; have a3 := q1.c3; have af := q1.fr
        have b0 := q2.c0; have b1 := q2.c1; have b2 := q2.c2; have b3 := q2.c3; have bf := q2.fr
        have hz := q2.lt
        have HC := Lib.hid (show ((⟨c.s, c.at_, c.en, 4⟩ : CS).val = .agg #[.string c.s, .int .i64 c.at_, .int .i64 c.en, .int .i64 4]) ∧ (4 : Int) = c.vCode ∧ c.vVal = 0 from ⟨rfl, hcode.symm, hval⟩)
        have HK := Lib.hid (show (⟨c.s, c.at_, c.en, 4⟩ : CS).ok from ⟨k1, k2, k3⟩)
        clear hcode hval hg h9 HL hT hle hl
        go_wp2
        refine bodyPost_ret (v := .tuple #[.agg #[.string c.s, .int .i64 c.at_, .int .i64 c.en, .int .i64 4], .int .u64 0]) (by simp [results, Tryd.results49, go_sem, b0, b1, b2, b3]) rfl ⟨⟨c.s, c.at_, c.en, 4⟩, ret_pair HC.out.1.symm (by rw [HC.out.2.2]; rfl), HC.out.2.1, fun h => ?_, rfl, rfl, HK.out, ?_⟩
        · rw [← HC.out.2.1] at h; omega
        · go_grown
      · have hn : lenN c.rest = 0 := by unfold lenN; rw [if_neg (by omega)]
        rw [hn] at HL
        clear hn hl9
        go_enter Tryd.func49, Tryd.ntmps49
        go_wp2_with fail
        with_reducible refine (HL.out _).mono ?_
        rintro e w1 ⟨rfl, hw1⟩
        have Q : CurT 56 w1 w.heap.size c ∧ CurT 56 w1 (w.heap.size + 1) CS.zero ∧ Below w.heap.size w w1 := by
          have := two_new w c CS.zero 56
          rw [h0] at this; rw [hw1]; exact this
        clear hw1
        obtain ⟨q1, q2, hbel⟩ := Q
        have a0 := q1.c0; have a1 := q1.c1; have a2 := q1.c2; have a3 := q1.c3; have af := q1.fr
        have b0 := q2.c0; have b1 := q2.c1; have b2 := q2.c2; have b3 := q2.c3; have bf := q2.fr
        have hz := q2.lt
        have HC := Lib.hid (show ((⟨c.s, c.at_, c.en, 4⟩ : CS).val = .agg #[.string c.s, .int .i64 c.at_, .int .i64 c.en, .int .i64 4]) ∧ (4 : Int) = c.vCode ∧ c.vVal = 0 from ⟨rfl, hcode.symm, hval⟩)
        have HK := Lib.hid (show (⟨c.s, c.at_, c.en, 4⟩ : CS).ok from ⟨k1, k2, k3⟩)
        clear hcode hval hg h9 HL hT hle hl
        go_wp2
        refine bodyPost_ret (v := .tuple #[.agg #[.string c.s, .int .i64 c.at_, .int .i64 c.en, .int .i64 4], .int .u64 0]) (by simp [results, Tryd.results49, go_sem, b0, b1, b2, b3]) rfl ⟨⟨c.s, c.at_, c.en, 4⟩, ret_pair HC.out.1.symm (by rw [HC.out.2.2]; rfl), HC.out.2.1, fun h => ?_, rfl, rfl, HK.out, ?_⟩
        · rw [← HC.out.2.1] at h; omega
        · go_grown
    · by_cases hcut : c.rest.length ≤ vlead c.rest
      · have hn : lenN c.rest = 0 := by unfold lenN; rw [if_neg (by omega)]
        have hcode : c.vCode = 1 := by unfold CS.vCode; rw [if_neg (by simp [h0]), if_neg hg, if_pos hcut]
        have hval : c.vVal = 0 := by unfold CS.vVal; rw [hcode]; rfl
        have h10 : c.en - c.at_ < 10 := by
          rcases Nat.lt_or_ge (c.en - c.at_) 10 with h | h
          · exact h
          · exfalso
            apply hg
            have h9 : 9 < c.rest.length := by omega
            have := vlead_ge c.rest 9 h9 (by omega)
            rw [List.getElem?_eq_getElem h9]
            exact ⟨by omega, by simp only [Option.getD_some]; omega⟩
        have p1 : decide ((10 : Int) ≤ (c.en : Int) - (c.at_ : Int)) = false := decide_eq_false (by omega)
        rw [hn] at HL
        go_enter Tryd.func49, Tryd.ntmps49
        go_wp2_with fail
        with_reducible refine (HL.out _).mono ?_
        rintro e w1 ⟨rfl, hw1⟩
        have Q : CurT 56 w1 w.heap.size c ∧ CurT 56 w1 (w.heap.size + 1) CS.zero ∧ Below w.heap.size w w1 := by
          have := two_new w c CS.zero 56
          rw [h0] at this; rw [hw1]; exact this
        clear hw1
        obtain ⟨q1, q2, hbel⟩ := Q
        have a0 := q1.c0; have a1 := q1.c1; have a2 := q1.c2; have a3 := q1.c3; have af := q1.fr
        have b0 := q2.c0; have b1 := q2.c1; have b2 := q2.c2; have b3 := q2.c3; have bf := q2.fr
        have hz := q2.lt
        have HC := Lib.hid (show ((⟨c.s, c.at_, c.en, 1⟩ : CS).val = .agg #[.string c.s, .int .i64 c.at_, .int .i64 c.en, .int .i64 1]) ∧ (1 : Int) = c.vCode ∧ c.vVal = 0 from ⟨rfl, hcode.symm, hval⟩)
        have HK := Lib.hid (show (⟨c.s, c.at_, c.en, 1⟩ : CS).ok from ⟨k1, k2, k3⟩)
        clear hcode hval hcut hg h10 hn HL hT hle hl
        try simp only []
        repeat (first | go_values | go_skip | go_guarded | go_step | go_upon)
        refine bodyPost_ret (v := .tuple #[.agg #[.string c.s, .int .i64 c.at_, .int .i64 c.en, .int .i64 1], .int .u64 0]) (by simp [results, Tryd.results49, go_sem, b0, b1, b2, b3]) rfl ⟨⟨c.s, c.at_, c.en, 1⟩, ret_pair HC.out.1.symm (by rw [HC.out.2.2]; rfl), HC.out.2.1, fun h => ?_, rfl, rfl, HK.out, ?_⟩
        · rw [← HC.out.2.1] at h; omega
        · go_grown
      · have hcode : c.vCode = 0 := by unfold CS.vCode; rw [if_neg (by simp [h0]), if_neg hg, if_neg hcut]
        obtain ⟨_, hto, hv1, hv2, hv3⟩ := CS.vTo_good hcode
        have hval : c.vVal = vvL (c.rest.take (vlead c.rest + 1)) := by unfold CS.vVal; rw [if_pos hcode]
        have hvlt := CS.vVal_lt c
        have hn : lenN c.rest = vlead c.rest + 1 := by unfold lenN; rw [if_pos ⟨hv1, hv2⟩]
        rw [hn] at HL
        obtain ⟨n, hnn⟩ : ∃ n, n = vlead c.rest + 1 := ⟨_, rfl⟩
        rw [← hnn] at HL hto hval
        rw [hval] at hvlt
        have hHC := Lib.hid (show c.vTo = { c with at_ := c.at_ + n } ∧ c.vVal = vvL (c.rest.take n) ∧ c.vCode = 0 from ⟨hto, hval, hcode⟩)
        clear hto hval hcode hg hcut
        by_cases h10 : c.en - c.at_ < 10
        · have p1 : decide ((10 : Int) ≤ (c.en : Int) - (c.at_ : Int)) = false := decide_eq_false (by omega)
          have hn0 : ((n : Int) == 0) = false := beq_eq_false_iff_ne.mpr (by omega)
          have hnl : n ≤ c.rest.length := by omega
          have hn10 : n ≤ 10 := by omega
          clear hnn hv1 hv2 hv3 hn
          go_enter Tryd.func49, Tryd.ntmps49
          go_wp2_with fail
          with_reducible refine (HL.out _).mono ?_
          rintro e w1 ⟨rfl, hw1⟩
          have Q : CurT 56 w1 w.heap.size c ∧ CurT 56 w1 (w.heap.size + 1) CS.zero ∧ Below w.heap.size w w1 := by
            have := two_new w c CS.zero 56
            rw [h0] at this; rw [hw1]; exact this
          clear hw1
          obtain ⟨q1, q2, hbel⟩ := Q
          have a0 := q1.c0; have a1 := q1.c1; have a2 := q1.c2; have a3 := q1.c3; have af := q1.fr
          have b0 := q2.c0; have b1 := q2.c1; have b2 := q2.c2; have b3 := q2.c3; have bf := q2.fr
          have hz := q2.lt
          clear HL hT hle
          go_wp2_with fail
          go_loopw [6, 7] (fun u i wr => RrRel 56 c.rest n w c u i wr) (fun _ i _ => n - (intOf i).toNat)
          case atStart => exact ⟨0, Nat.zero_le _, rfl, rfl, q1, q2, hbel⟩
          case round =>
            clear a0 a1 a2 a3 af b0 b1 b2 b3 bf hz q1 q2 hbel
            obtain ⟨k, hk, rfl, rfl, q1, q2, hbel⟩ := hrel
            have a0 := q1.c0; have a1 := q1.c1; have a2 := q1.c2; have a3 := q1.c3; have af := q1.fr
            have b0 := q2.c0; have b1 := q2.c1; have b2 := q2.c2; have b3 := q2.c3; have bf := q2.fr
            have hz := q2.lt
            by_cases hlt : k < n
            · have d1 : decide ((k : Int) < n) = true := decide_eq_true (by omega)
              have hj : k < c.rest.length := by omega
              have hjs : c.at_ + k < (c.s.extract 0 c.en).size := by omega
              have hget := CS.front_get ⟨k1, k2, k3⟩ k hj hjs
              obtain ⟨j, hjj⟩ : ∃ j, j = c.at_ + k := ⟨_, rfl⟩
              simp only [← hjj] at hget hjs
              have hje : j < c.en := by omega
              have hsum := vvL_take c.rest k hj
              rw [hget] at hsum
              have hV' := vvL_mono c.rest (k + 1) n (by omega) (by omega)
              obtain ⟨r, hr⟩ : ∃ r, r = (c.s.extract 0 c.en)[j].toNat % 128 := ⟨_, rfl⟩
              rw [← hr] at hsum
              have m1 : ((c.s.extract 0 c.en)[j].toNat : Int).tmod 128 = (r : Int) := by rw [Int.tmod_eq_emod_of_nonneg (by omega)]; omega
              have hr2 : r < 128 := by omega
              have m2 : IntKind.u64.wrap (r : Int) = (r : Int) := IntWalk.u64_in _ (by omega)
              have HP := Lib.hid (fun w => power_any k w (by omega))
              generalize (128 : Nat) ^ k = P at *
              generalize hVk : vvL (c.rest.take k) = V at *
              generalize hVk1 : vvL (c.rest.take (k + 1)) = V1 at *
              obtain ⟨M, hM⟩ : ∃ M, M = r * P := ⟨_, rfl⟩
              have m3 : IntKind.u64.wrap ((r : Int) * (P : Int)) = (M : Int) := by
                rw [show (r : Int) * (P : Int) = ((r * P : Nat) : Int) from (Int.natCast_mul r P).symm, ← hM]
                exact IntWalk.u64_in _ (by omega)
              have m4 : IntKind.u64.wrap ((V : Int) + (M : Int)) = (V1 : Int) := by rw [IntWalk.u64_in _ (by omega)]; omega
              have m5 : IntKind.i64.wrap ((c.at_ : Int) + (k : Int)) = (j : Int) := by rw [IntWalk.i64_in _ (by omega)]; omega
              have HV := Lib.hid hVk1
              clear hr hsum hM hget hV' hVk hVk1 hjj
              go_wp2
              go_quiet ((go_at_call 75; exact Calls.quiet_of_same (HP.out _)))
              go_wp2
              go_roundw
              case rel => exact ⟨k + 1, by omega, by go_num, by rw [HV.out], q1.drewN _, q2.drewN _, Below.drewN hbel _⟩
              case measure => simp [intOf]; omega
            · have d1 : decide ((k : Int) < n) = false := decide_eq_false (by omega)
              obtain rfl : k = n := by omega
              have mm : IntKind.i64.wrap ((c.at_ : Int) + (k : Int)) = (c.at_ : Int) + (k : Int) := IntWalk.i64_in _ (by omega)
              have HK := Lib.hid (show (⟨c.s, c.at_ + k, c.en, 0⟩ : CS).ok from ⟨by simp only; omega, k2, k3⟩)
              have HV := Lib.hid (show (⟨c.s, c.at_ + k, c.en, 0⟩ : CS).val = .agg #[.string c.s, .int .i64 ((c.at_ : Int) + k), .int .i64 c.en, .int .i64 0] from by simp [CS.val])
              try simp only []
              repeat (first | go_values | go_skip | go_guarded | go_step | go_upon)
              refine bodyPost_ret (v := .tuple #[.agg #[.string c.s, .int .i64 ((c.at_ : Int) + k), .int .i64 c.en, .int .i64 0], .int .u64 ((vvL (c.rest.take k) : Nat) : Int)]) (by simp [results, Tryd.results49, go_sem, b0, b1, b2, b3]) rfl ⟨⟨c.s, c.at_ + k, c.en, 0⟩, ret_pair HV.out.symm (by rw [hHC.out.2.1]), hHC.out.2.2.symm, fun _ => ?_, rfl, rfl, HK.out, ?_⟩
              · rw [hHC.out.1, h0]
              · go_grown
        · have p1 : decide ((10 : Int) ≤ (c.en : Int) - (c.at_ : Int)) = true := decide_eq_true (by omega)
          by_cases hl9 : n = 10
          · have p2 : ((n : Int) == 10) = true := by simp [hl9]
            have hlt9 : c.at_ + 9 < (c.s.extract 0 c.en).size := by omega
            have p9 : decide (1 < ((c.s.extract 0 c.en)[c.at_ + 9].toNat : Int)) = false := decide_eq_false (by
              have h3 := CS.front_get ⟨k1, k2, k3⟩ 9 (by omega) hlt9
              have h4 := hv3 (by omega) (by omega)
              rw [h3] at h4
              omega)
            have hn0 : ((n : Int) == 0) = false := beq_eq_false_iff_ne.mpr (by omega)
            have hnl : n ≤ c.rest.length := by omega
            have hn10 : n ≤ 10 := by omega
            clear hnn hv1 hv2 hv3 hn hl9
            go_enter Tryd.func49, Tryd.ntmps49
            go_wp2_with fail
            with_reducible refine (HL.out _).mono ?_
            rintro e w1 ⟨rfl, hw1⟩
            have Q : CurT 56 w1 w.heap.size c ∧ CurT 56 w1 (w.heap.size + 1) CS.zero ∧ Below w.heap.size w w1 := by
              have := two_new w c CS.zero 56
              rw [h0] at this; rw [hw1]; exact this
            clear hw1
            obtain ⟨q1, q2, hbel⟩ := Q
            have a0 := q1.c0; have a1 := q1.c1; have a2 := q1.c2; have a3 := q1.c3; have af := q1.fr
            have b0 := q2.c0; have b1 := q2.c1; have b2 := q2.c2; have b3 := q2.c3; have bf := q2.fr
            have hz := q2.lt
            clear HL hT hle
            go_wp2_with fail
            go_loopw [6, 7] (fun u i wr => RrRel 56 c.rest n w c u i wr) (fun _ i _ => n - (intOf i).toNat)
            case atStart => exact ⟨0, Nat.zero_le _, rfl, rfl, q1, q2, hbel⟩
            case round =>
              clear a0 a1 a2 a3 af b0 b1 b2 b3 bf hz q1 q2 hbel
              obtain ⟨k, hk, rfl, rfl, q1, q2, hbel⟩ := hrel
              have a0 := q1.c0; have a1 := q1.c1; have a2 := q1.c2; have a3 := q1.c3; have af := q1.fr
              have b0 := q2.c0; have b1 := q2.c1; have b2 := q2.c2; have b3 := q2.c3; have bf := q2.fr
              have hz := q2.lt
              by_cases hlt : k < n
              · have d1 : decide ((k : Int) < n) = true := decide_eq_true (by omega)
                have hj : k < c.rest.length := by omega
                have hjs : c.at_ + k < (c.s.extract 0 c.en).size := by omega
                have hget := CS.front_get ⟨k1, k2, k3⟩ k hj hjs
                obtain ⟨j, hjj⟩ : ∃ j, j = c.at_ + k := ⟨_, rfl⟩
                simp only [← hjj] at hget hjs
                have hje : j < c.en := by omega
                have hsum := vvL_take c.rest k hj
                rw [hget] at hsum
                have hV' := vvL_mono c.rest (k + 1) n (by omega) (by omega)
                obtain ⟨r, hr⟩ : ∃ r, r = (c.s.extract 0 c.en)[j].toNat % 128 := ⟨_, rfl⟩
                rw [← hr] at hsum
                have m1 : ((c.s.extract 0 c.en)[j].toNat : Int).tmod 128 = (r : Int) := by rw [Int.tmod_eq_emod_of_nonneg (by omega)]; omega
                have hr2 : r < 128 := by omega
                have m2 : IntKind.u64.wrap (r : Int) = (r : Int) := IntWalk.u64_in _ (by omega)
                have HP := Lib.hid (fun w => power_any k w (by omega))
                generalize (128 : Nat) ^ k = P at *
                generalize hVk : vvL (c.rest.take k) = V at *
                generalize hVk1 : vvL (c.rest.take (k + 1)) = V1 at *
                obtain ⟨M, hM⟩ : ∃ M, M = r * P := ⟨_, rfl⟩
                have m3 : IntKind.u64.wrap ((r : Int) * (P : Int)) = (M : Int) := by
                  rw [show (r : Int) * (P : Int) = ((r * P : Nat) : Int) from (Int.natCast_mul r P).symm, ← hM]
                  exact IntWalk.u64_in _ (by omega)
                have m4 : IntKind.u64.wrap ((V : Int) + (M : Int)) = (V1 : Int) := by rw [IntWalk.u64_in _ (by omega)]; omega
                have m5 : IntKind.i64.wrap ((c.at_ : Int) + (k : Int)) = (j : Int) := by rw [IntWalk.i64_in _ (by omega)]; omega
                have HV := Lib.hid hVk1
                clear hr hsum hM hget hV' hVk hVk1 hjj
                go_wp2
                go_quiet ((go_at_call 75; exact Calls.quiet_of_same (HP.out _)))
                go_wp2
                go_roundw
                case rel => exact ⟨k + 1, by omega, by go_num, by rw [HV.out], q1.drewN _, q2.drewN _, Below.drewN hbel _⟩
                case measure => simp [intOf]; omega
              · have d1 : decide ((k : Int) < n) = false := decide_eq_false (by omega)
                obtain rfl : k = n := by omega
                have mm : IntKind.i64.wrap ((c.at_ : Int) + (k : Int)) = (c.at_ : Int) + (k : Int) := IntWalk.i64_in _ (by omega)
                have HK := Lib.hid (show (⟨c.s, c.at_ + k, c.en, 0⟩ : CS).ok from ⟨by simp only; omega, k2, k3⟩)
                have HV := Lib.hid (show (⟨c.s, c.at_ + k, c.en, 0⟩ : CS).val = .agg #[.string c.s, .int .i64 ((c.at_ : Int) + k), .int .i64 c.en, .int .i64 0] from by simp [CS.val])
                try simp only []
                repeat (first | go_values | go_skip | go_guarded | go_step | go_upon)
                refine bodyPost_ret (v := .tuple #[.agg #[.string c.s, .int .i64 ((c.at_ : Int) + k), .int .i64 c.en, .int .i64 0], .int .u64 ((vvL (c.rest.take k) : Nat) : Int)]) (by simp [results, Tryd.results49, go_sem, b0, b1, b2, b3]) rfl ⟨⟨c.s, c.at_ + k, c.en, 0⟩, ret_pair HV.out.symm (by rw [hHC.out.2.1]), hHC.out.2.2.symm, fun _ => ?_, rfl, rfl, HK.out, ?_⟩
                · rw [hHC.out.1, h0]
                · go_grown
          · have p2 : ((n : Int) == 10) = false := beq_eq_false_iff_ne.mpr (by omega)
            have hn0 : ((n : Int) == 0) = false := beq_eq_false_iff_ne.mpr (by omega)
            have hnl : n ≤ c.rest.length := by omega
            have hn10 : n ≤ 10 := by omega
            clear hnn hv1 hv2 hv3 hn
            go_enter Tryd.func49, Tryd.ntmps49
            go_wp2_with fail
            with_reducible refine (HL.out _).mono ?_
            rintro e w1 ⟨rfl, hw1⟩
            have Q : CurT 56 w1 w.heap.size c ∧ CurT 56 w1 (w.heap.size + 1) CS.zero ∧ Below w.heap.size w w1 := by
              have := two_new w c CS.zero 56
              rw [h0] at this; rw [hw1]; exact this
            clear hw1
            obtain ⟨q1, q2, hbel⟩ := Q
            have a0 := q1.c0; have a1 := q1.c1; have a2 := q1.c2; have a3 := q1.c3; have af := q1.fr
            have b0 := q2.c0; have b1 := q2.c1; have b2 := q2.c2; have b3 := q2.c3; have bf := q2.fr
            have hz := q2.lt
            clear HL hT hle
            go_wp2_with fail
            go_loopw [6, 7] (fun u i wr => RrRel 56 c.rest n w c u i wr) (fun _ i _ => n - (intOf i).toNat)
            case atStart => exact ⟨0, Nat.zero_le _, rfl, rfl, q1, q2, hbel⟩
            case round =>
              clear a0 a1 a2 a3 af b0 b1 b2 b3 bf hz q1 q2 hbel
              obtain ⟨k, hk, rfl, rfl, q1, q2, hbel⟩ := hrel
              have a0 := q1.c0; have a1 := q1.c1; have a2 := q1.c2; have a3 := q1.c3; have af := q1.fr
              have b0 := q2.c0; have b1 := q2.c1; have b2 := q2.c2; have b3 := q2.c3; have bf := q2.fr
              have hz := q2.lt
              by_cases hlt : k < n
              · have d1 : decide ((k : Int) < n) = true := decide_eq_true (by omega)
                have hj : k < c.rest.length := by omega
                have hjs : c.at_ + k < (c.s.extract 0 c.en).size := by omega
                have hget := CS.front_get ⟨k1, k2, k3⟩ k hj hjs
                obtain ⟨j, hjj⟩ : ∃ j, j = c.at_ + k := ⟨_, rfl⟩
                simp only [← hjj] at hget hjs
                have hje : j < c.en := by omega
                have hsum := vvL_take c.rest k hj
                rw [hget] at hsum
                have hV' := vvL_mono c.rest (k + 1) n (by omega) (by omega)
                obtain ⟨r, hr⟩ : ∃ r, r = (c.s.extract 0 c.en)[j].toNat % 128 := ⟨_, rfl⟩
                rw [← hr] at hsum
                have m1 : ((c.s.extract 0 c.en)[j].toNat : Int).tmod 128 = (r : Int) := by rw [Int.tmod_eq_emod_of_nonneg (by omega)]; omega
                have hr2 : r < 128 := by omega
                have m2 : IntKind.u64.wrap (r : Int) = (r : Int) := IntWalk.u64_in _ (by omega)
                have HP := Lib.hid (fun w => power_any k w (by omega))
                generalize (128 : Nat) ^ k = P at *
                generalize hVk : vvL (c.rest.take k) = V at *
                generalize hVk1 : vvL (c.rest.take (k + 1)) = V1 at *
                obtain ⟨M, hM⟩ : ∃ M, M = r * P := ⟨_, rfl⟩
                have m3 : IntKind.u64.wrap ((r : Int) * (P : Int)) = (M : Int) := by
                  rw [show (r : Int) * (P : Int) = ((r * P : Nat) : Int) from (Int.natCast_mul r P).symm, ← hM]
                  exact IntWalk.u64_in _ (by omega)
                have m4 : IntKind.u64.wrap ((V : Int) + (M : Int)) = (V1 : Int) := by rw [IntWalk.u64_in _ (by omega)]; omega
                have m5 : IntKind.i64.wrap ((c.at_ : Int) + (k : Int)) = (j : Int) := by rw [IntWalk.i64_in _ (by omega)]; omega
                have HV := Lib.hid hVk1
                clear hr hsum hM hget hV' hVk hVk1 hjj
                go_wp2
                go_quiet ((go_at_call 75; exact Calls.quiet_of_same (HP.out _)))
                go_wp2
                go_roundw
                case rel => exact ⟨k + 1, by omega, by go_num, by rw [HV.out], q1.drewN _, q2.drewN _, Below.drewN hbel _⟩
                case measure => simp [intOf]; omega
              · have d1 : decide ((k : Int) < n) = false := decide_eq_false (by omega)
                obtain rfl : k = n := by omega
                have mm : IntKind.i64.wrap ((c.at_ : Int) + (k : Int)) = (c.at_ : Int) + (k : Int) := IntWalk.i64_in _ (by omega)
                have HK := Lib.hid (show (⟨c.s, c.at_ + k, c.en, 0⟩ : CS).ok from ⟨by simp only; omega, k2, k3⟩)
                have HV := Lib.hid (show (⟨c.s, c.at_ + k, c.en, 0⟩ : CS).val = .agg #[.string c.s, .int .i64 ((c.at_ : Int) + k), .int .i64 c.en, .int .i64 0] from by simp [CS.val])
                try simp only []
                repeat (first | go_values | go_skip | go_guarded | go_step | go_upon)
                refine bodyPost_ret (v := .tuple #[.agg #[.string c.s, .int .i64 ((c.at_ : Int) + k), .int .i64 c.en, .int .i64 0], .int .u64 ((vvL (c.rest.take k) : Nat) : Int)]) (by simp [results, Tryd.results49, go_sem, b0, b1, b2, b3]) rfl ⟨⟨c.s, c.at_ + k, c.en, 0⟩, ret_pair HV.out.symm (by rw [hHC.out.2.1]), hHC.out.2.2.symm, fun _ => ?_, rfl, rfl, HK.out, ?_⟩
                · rw [hHC.out.1, h0]
                · go_grown

  · have hb : (c.er != 0) = true := by simp [h0]
    have hR := Lib.hid (CS.vread_err h0)
    have hcode : c.vCode = c.er := by unfold CS.vCode; rw [if_pos h0]
    have HC := Lib.hid (show (∃ d : CS, Ending.returned (.tuple #[c.val, .int .u64 0]) = Ending.returned (.tuple #[d.val, .int .u64 (c.vVal : Nat)]) ∧ d.er = c.vCode ∧ (c.vCode = 0 → d = c.vTo) ∧ d.s = c.s ∧ d.en = c.en ∧ d.ok) from ⟨c, by rw [hR.out.2]; rfl, hcode.symm, fun h => by rw [hcode] at h; exact absurd h h0, rfl, rfl, hc⟩)
    clear hcode h0
    go_enter Tryd.func49, Tryd.ntmps49
    go_wp2
    go_returns
    obtain ⟨d, d1, d2⟩ := HC.out
    exact ⟨d, d1, d2.1, d2.2.1, d2.2.2.1, d2.2.2.2.1, d2.2.2.2.2, by go_grown⟩

end Go.Proofs.YtmiagebcobcaiaaDoor
