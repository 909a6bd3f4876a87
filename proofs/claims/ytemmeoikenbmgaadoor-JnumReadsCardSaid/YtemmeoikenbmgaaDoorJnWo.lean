/- Package jnum's worth. -/
import Derived.Test.YtemmeoikenbmgaaDoorJnExp
namespace Go.Proofs.YtemmeoikenbmgaaDoor
open Go Go.RowKit
set_option linter.unusedVariables false

theorem idx_app (R : List UInt8) (y : UInt8) (hy : [(101 : UInt8), 69].contains y = true) : ∀ (M : List UInt8) (hM : ∀ x ∈ M, [(101 : UInt8), 69].contains x = false), Lib.indexAny (M ++ y :: R) [101, 69] = (M.length : Nat)
  | [], _ => by rw [List.nil_append, Lib.indexAny, if_pos hy]; rfl
  | x :: M, hM => by
    have ih := idx_app R y hy M (fun z hz => hM z (List.mem_cons_of_mem _ hz))
    rw [List.cons_append, Lib.indexAny, if_neg (by rw [hM x List.mem_cons_self]; decide), ih, if_neg (by simp), List.length_cons]; omega
theorem idx_none : ∀ (M : List UInt8) (hM : ∀ x ∈ M, [(101 : UInt8), 69].contains x = false), Lib.indexAny M [101, 69] = -1
  | [], _ => rfl
  | x :: M, hM => by
    have ih := idx_none M (fun z hz => hM z (List.mem_cons_of_mem _ hz))
    rw [Lib.indexAny, if_neg (by rw [hM x List.mem_cons_self]; decide), ih]; rfl
theorem dot_app (R : List UInt8) : ∀ (M : List UInt8) (hM : ∀ x ∈ M, x ≠ 46), Lib.index (M ++ 46 :: R) [46] = (M.length : Nat)
  | [], _ => rfl
  | x :: M, hM => by
    have ih := dot_app R M (fun z hz => hM z (List.mem_cons_of_mem _ hz))
    have h1 : ([(46 : UInt8)].isPrefixOf (x :: (M ++ 46 :: R))) = false := by
      have : ((46 : UInt8) == x) = false := beq_eq_false_iff_ne.mpr (fun e => hM x List.mem_cons_self e.symm)
      simp [List.isPrefixOf, this]
    rw [List.cons_append, Lib.index, h1, if_neg (by decide), ih, if_neg (by simp), List.length_cons]; omega
theorem dot_none : ∀ (M : List UInt8) (hM : ∀ x ∈ M, x ≠ 46), Lib.index M [46] = -1
  | [], _ => rfl
  | x :: M, hM => by
    have ih := dot_none M (fun z hz => hM z (List.mem_cons_of_mem _ hz))
    have h1 : ([(46 : UInt8)].isPrefixOf (x :: M)) = false := by
      have : ((46 : UInt8) == x) = false := beq_eq_false_iff_ne.mpr (fun e => hM x List.mem_cons_self e.symm)
      simp [List.isPrefixOf, this]
    rw [Lib.index, h1, if_neg (by decide), ih]; rfl
theorem digs_no {D : List UInt8} (h : D.all dIs = true) (x : UInt8) (hx : x ∈ D) : 48 ≤ x.toNat ∧ x.toNat ≤ 57 := dIs_iff.mp (List.all_eq_true.mp h x hx)
theorem cut_form {W F B : List UInt8} (hW : W.all dIs = true) (h : (F = [] ∧ B = []) ∨ (F = 46 :: B ∧ B ≠ [] ∧ B.all dIs = true)) : (Lib.cut (W ++ F) [46]).1 = W ∧ (Lib.cut (W ++ F) [46]).2.1 = B := by
  have hW2 : ∀ x ∈ W, x ≠ 46 := fun x hx e => by have := digs_no hW x hx; rw [e] at this; exact absurd this (by decide)
  rcases h with ⟨rfl, rfl⟩ | ⟨rfl, _, _⟩
  · rw [List.append_nil]
    unfold Lib.cut
    rw [dot_none W hW2, if_neg (by decide)]; exact ⟨rfl, rfl⟩
  · unfold Lib.cut
    rw [dot_app B W hW2, if_pos (by omega)]
    refine ⟨?_, ?_⟩
    · show (W ++ 46 :: B).take ((W.length : Nat) : Int).toNat = W
      rw [Int.toNat_natCast, List.take_left']; rfl
    · show (W ++ 46 :: B).drop (((W.length : Nat) : Int).toNat + 1) = B
      rw [Int.toNat_natCast, ← List.drop_drop, List.drop_left' rfl]; rfl
theorem NForm.wf {L sg W F B X P : List UInt8} (h : NForm L sg W F B X P) : ∀ x ∈ W ++ F, x.toNat < 128 ∧ [(101 : UInt8), 69].contains x = false := by
  intro x hx
  have hd : ∀ D : List UInt8, D.all dIs = true → x ∈ D → x.toNat < 128 ∧ [(101 : UInt8), 69].contains x = false := fun D hD hm => by
    have := digs_no hD x hm
    exact ⟨by omega, digit_ne (List.all_eq_true.mp hD x hm) _ (by simp)⟩
  rcases List.mem_append.mp hx with hm | hm
  · exact hd W h.digs hm
  · rcases h.frac with ⟨rfl, _⟩ | ⟨rfl, _, hB⟩
    · cases hm
    · rcases List.mem_cons.mp hm with rfl | hm
      · decide
      · exact hd B hB hm
theorem NForm.low {L sg W F B X P : List UInt8} (h : NForm L sg W F B X P) : ∀ x ∈ W ++ (F ++ X), x.toNat < 128 := by
  intro x hx
  rw [← List.append_assoc] at hx
  rcases List.mem_append.mp hx with hm | hm
  · exact (h.wf x hm).1
  · rcases h.expo with ⟨rfl, _⟩ | ⟨e, s, D, he, rfl, rfl, hs, _, hD⟩
    · cases hm
    · rcases List.mem_cons.mp hm with rfl | hm
      · rcases he with rfl | rfl <;> decide
      · rcases List.mem_append.mp hm with hm | hm
        · rcases hs with rfl | rfl | rfl
          · cases hm
          · rw [List.mem_singleton.mp hm]; decide
          · rw [List.mem_singleton.mp hm]; decide
        · have := digs_no hD x hm; omega
theorem capV_in (P : List UInt8) : -4611686018427387904 ≤ capV 4611686018427387904 P ∧ capV 4611686018427387904 P ≤ 4611686018427387904 := by
  unfold capV
  have := Nat.min_le_left 4611686018427387904 (dV (P.filter dIs))
  split <;> omega
theorem ret_ti {T U : ByteArray} {a b : Int} (h : T = U) (h2 : a = b) : Ending.returned (.tuple #[.string T, .int .i64 a]) = .returned (.tuple #[.string U, .int .i64 b]) := by rw [h, h2]
theorem bA_back (l : List UInt8) : (bA l).data.toList = l := by simp [bA]
theorem cnt_le (d : List UInt8) : (cnt d).length ≤ d.length := by have := cnt_len d; omega

set_option maxRecDepth 20000 in
set_option maxHeartbeats 2000000 in
theorem nworth_any (t : ByteArray) {L sg W F B X P : List UInt8} (hf : NForm L sg W F B X P) (ht : t.data.toList = W ++ (F ++ X)) (hz : t.size ≤ 1048576) (w : World) (hm : MaxL w) :
    Calls Tryd.prog 23 #[.string t] w fun e w' => e = .returned (.tuple #[.string (bA (cnt (lz (W ++ B)))), .int .i64 (capV 4611686018427387904 P - (B.length : Nat) + ((lz (W ++ B)).length : Nat) - ((cnt (lz (W ++ B))).length : Nat))]) ∧ Below w.heap.size w w' := by
  have hlt : ∀ (j : Nat) b, t.data.toList[j]? = some b → b.toNat < 128 := fun j b hb => by
    rw [ht] at hb
    exact hf.low b (List.mem_of_getElem? hb)
  have H1 := Lib.hid (index_any t w (by omega) hlt)
  have hM := Lib.hid (fun w' h => hm.below (w' := w') h hm.lt)
  have hlen := congrArg List.length ht
  rw [toList_size, List.length_append, List.length_append] at hlen
  obtain ⟨c1, c2⟩ := cut_form hf.digs hf.frac
  have hBl : B.length ≤ F.length := by
    rcases hf.frac with ⟨rfl, rfl⟩ | ⟨rfl, _, _⟩
    · exact Nat.le_refl _
    · simp
  have hcap := capV_in P
  have hl1 := lz_len (W ++ B)
  rw [List.length_append] at hl1
  have hl2 := cnt_le (lz (W ++ B))
  have HT1 := Lib.hid (trim_left (bA W ++ bA B))
  rw [show (bA W ++ bA B).data.toList = W ++ B from by rw [toList_append, bA_back, bA_back]] at HT1
  have HT2 := Lib.hid (fun w => trim_right (bA (lz (W ++ B))) w (by rw [bA_size]; omega))
  rw [bA_back] at HT2
  have sW := bA_size W
  have sB := bA_size B
  have sA := bA_size (lz (W ++ B))
  have sC := bA_size (cnt (lz (W ++ B)))
  have HCut := Lib.hid (fun (S : ByteArray) (hS : S.data.toList = W ++ F) w hm => cut_any S w (by have := congrArg List.length hS; rw [toList_size, List.length_append] at this; omega) hm)

  rcases hf.expo with ⟨hX, hP⟩ | ⟨e, s, D, he, hX, hP, hs, hD, hd⟩
  · have hS := Lib.hid (show t.data.toList = W ++ F by rw [ht, hX, List.append_nil])
    rw [show Lib.indexAny t.data.toList [101, 69] = -1 from by rw [hS.out]; exact idx_none _ (fun x hx => (hf.wf x hx).2)] at H1
    have p1 : decide ((0 : Int) ≤ -1) = false := by decide
    have HV := Lib.hid (show capV 4611686018427387904 P = 0 by rw [hP]; rfl)
    have HC2 := Lib.hid (HCut.out t hS.out)
    rw [hS.out, c1, c2] at HC2
    clear c1 c2 HCut
    generalize bA W = WT at *
    generalize bA B = BT at *
    generalize bA (lz (W ++ B)) = AT at *
    generalize bA (cnt (lz (W ++ B))) = CT at *
    generalize (Lib.cut (W ++ F) [46]).2.2 = fnd at *
    have HS := Lib.hid (And.intro sB (And.intro sA sC))
    have n1 : WT.size ≤ 1048576 := by omega
    have n2 : BT.size ≤ 1048576 := by omega
    have n3 : AT.size ≤ 2097152 := by omega
    have n4 : CT.size ≤ 2097152 := by omega
    have m1 : IntKind.i64.wrap (0 - (BT.size : Int)) = 0 - (BT.size : Int) := i64_small (by omega) (by omega)
    have m2 : IntKind.i64.wrap (0 - (BT.size : Int) + (AT.size : Int)) = 0 - (BT.size : Int) + (AT.size : Int) := i64_small (by omega) (by omega)
    have m3 : IntKind.i64.wrap (0 - (BT.size : Int) + (AT.size : Int) - (CT.size : Int)) = 0 - (BT.size : Int) + (AT.size : Int) - (CT.size : Int) := i64_small (by omega) (by omega)
    clear hX hP ht hf hlt hlen hBl hl1 hl2 sW sB sA sC hcap hm
    go_enter Tryd.func23, Tryd.ntmps23
    go_wp2_with fail
    with_reducible refine H1.out.mono ?_
    rintro r w1 ⟨rfl, b1⟩
    have hm1 := Lib.hid (hM.out _ b1)
    go_wp2_with fail
    with_reducible refine (HC2.out _ hm1.out).mono ?_
    rintro r w3 ⟨rfl, b3⟩
    go_wp2_with (first
      | (go_at_call 40; with_reducible refine (HT1.out _).mono ?_; rintro r w4 ⟨rfl, hw⟩; rw [hw]; clear hw)
      | (go_at_call 41; with_reducible refine (HT2.out _).mono ?_; rintro r w4 ⟨rfl, hw⟩; rw [hw]; clear hw))
    go_ret2
    exact ⟨ret_ti rfl (by rw [HV.out, ← HS.out.1, ← HS.out.2.1, ← HS.out.2.2]; omega), grown_then b1 b3⟩
  · obtain ⟨K, hK⟩ : ∃ K : Nat, K = (W ++ F).length := ⟨_, rfl⟩
    have hKl := hK
    rw [List.length_append] at hKl
    have hXl : X.length = P.length + 1 := by rw [hX, List.length_cons]
    have hsplit : t.data.toList = (W ++ F) ++ e :: P := by rw [ht, hX, List.append_assoc]
    rw [show Lib.indexAny t.data.toList [101, 69] = (K : Int) from by rw [hsplit, hK]; exact idx_app P e (by rcases he with rfl | rfl <;> decide) _ (fun x hx => (hf.wf x hx).2)] at H1
    have p1 : decide ((0 : Int) ≤ (K : Int)) = true := decide_eq_true (by omega)
    have hS := Lib.hid (show (t.extract 0 K).data.toList = W ++ F by rw [ext_toList, hsplit, hK, List.drop_zero, Nat.sub_zero, List.take_left']; rfl)
    have hE : (t.extract (K + 1) t.size).data.toList = P := by rw [back_toList, hsplit, hK, ← List.drop_drop, List.drop_left' rfl]; rfl
    have HX := Lib.hid (fun w => nexp_any (t.extract (K + 1) t.size) w (by rw [← toList_size, hE]; omega) (hE.trans hP) hs hD hd)
    rw [hE] at HX
    obtain ⟨C, hC⟩ : ∃ C, C = capV 4611686018427387904 P := ⟨_, rfl⟩
    rw [← hC] at HX hcap ⊢
    have HC2 := Lib.hid (HCut.out (t.extract 0 K) hS.out)
    rw [hS.out, c1, c2] at HC2
    clear c1 c2 HCut
    generalize bA W = WT at *
    generalize bA B = BT at *
    generalize bA (lz (W ++ B)) = AT at *
    generalize bA (cnt (lz (W ++ B))) = CT at *
    generalize (Lib.cut (W ++ F) [46]).2.2 = fnd at *
    have HS := Lib.hid (And.intro sB (And.intro sA sC))
    have n1 : WT.size ≤ 1048576 := by omega
    have n2 : BT.size ≤ 1048576 := by omega
    have n3 : AT.size ≤ 2097152 := by omega
    have n4 : CT.size ≤ 2097152 := by omega
    have m1 : IntKind.i64.wrap (C - (BT.size : Int)) = C - (BT.size : Int) := i64_small (by omega) (by omega)
    have m2 : IntKind.i64.wrap (C - (BT.size : Int) + (AT.size : Int)) = C - (BT.size : Int) + (AT.size : Int) := i64_small (by omega) (by omega)
    have m3 : IntKind.i64.wrap (C - (BT.size : Int) + (AT.size : Int) - (CT.size : Int)) = C - (BT.size : Int) + (AT.size : Int) - (CT.size : Int) := i64_small (by omega) (by omega)
    have k0 : (K : Int) + 1 ≤ (t.size : Int) := by omega
    have k1 : (K : Int) ≤ (t.size : Int) := by omega
    have k2 : (0 : Int) ≤ (K : Int) := by omega
    have m4 : IntKind.i64.wrap ((K : Int) + 1) = (K : Int) + 1 := i64_small (by omega) (by omega)
    clear hX hP ht hf hlt hlen hBl hl1 hl2 sW sB sA sC hcap hm he hs hD hd hK hKl hXl hsplit hE hC
    go_enter Tryd.func23, Tryd.ntmps23
    go_wp2_with fail
    with_reducible refine H1.out.mono ?_
    rintro r w1 ⟨rfl, b1⟩
    go_wp2_with fail
    go_quiet (first | (go_at_call 38; exact Calls.quiet_of_same (HX.out _)))
    go_wp2_with fail
    have hm1 := Lib.hid (fun n => hM.out (w1.drewN n) (Below.drewN b1 n))
    with_reducible refine (HC2.out _ (hm1.out _)).mono ?_
    rintro r w3 ⟨rfl, b3⟩
    go_wp2_with (first
      | (go_at_call 40; with_reducible refine (HT1.out _).mono ?_; rintro r w4 ⟨rfl, hw⟩; rw [hw]; clear hw)
      | (go_at_call 41; with_reducible refine (HT2.out _).mono ?_; rintro r w4 ⟨rfl, hw⟩; rw [hw]; clear hw))
    go_ret2
    exact ⟨ret_ti rfl (by rw [← HS.out.1, ← HS.out.2.1, ← HS.out.2.2]), grown_then (Below.drewN b1 _) b3⟩
end Go.Proofs.YtemmeoikenbmgaaDoor
