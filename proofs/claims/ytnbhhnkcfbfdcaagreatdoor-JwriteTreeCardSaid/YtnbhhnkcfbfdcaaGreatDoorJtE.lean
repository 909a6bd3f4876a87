/- Package jtoken's plain, Put; the document's Text. -/
import Derived.Test.YtnbhhnkcfbfdcaaGreatDoorZK
import Derived.Test.YtnbhhnkcfbfdcaaGreatDoorJsPut
import Derived.Test.YtnbhhnkcfbfdcaaGreatDoorJsTxt
import Derived.OneCell
import Derived.OwnWalk
namespace Go.Proofs.YtnbhhnkcfbfdcaaGreatDoor
open Go Go.RowKit
set_option linter.unusedVariables false

theorem eq8b (x y : UInt8) : ((x.toNat : Int) == (y.toNat : Int)) = decide (x = y) := by
  by_cases e : x = y
  · rw [e]; simp
  · rw [decide_eq_false e]
    exact beq_eq_false_iff_ne.mpr (fun e2 => e (UInt8.toNat_inj.mp (by omega)))
theorem sign_is8 {x : UInt8} {v : Bool} (h : tSign x = v) (w : World) :
    Calls Tryz.prog 87 #[.int .u8 (x.toNat : Int)] w fun e w' => e = .returned (.bool v) ∧ Below w.heap.size w w' := by
  rw [← h]; exact sign_any x w
/-- What is written of a token that is no text. -/
def tPl (x : TK) : List UInt8 := if tSign x.1 = true then [x.1] else if x.1 = 110 then x.2 else tW x.1
theorem tPut_text {x : TK} (h : x.1 = 115) : tPut x = jText x.2 := by unfold tPut; rw [if_pos h]
theorem tPut_plain {x : TK} (h : ¬ x.1 = 115) : tPut x = tPl x := by unfold tPut tPl; rw [if_neg h]
theorem tPl_len (x : TK) : (tPl x).length ≤ x.2.length + 5 := by
  unfold tPl
  split
  · simp
  · split
    · omega
    · have := tW_len x.1; omega
theorem tk_box (w : World) (x : TK) (t : TypeId) : TkT t (w.alloc (.cells #[.int .u8 (x.1.toNat : Int), .string (bA x.2)] t)) w.heap.size x := tk_alloc x t
set_option maxRecDepth 20000 in
theorem plain_any (x : TK) (w : World) :
    Calls Tryz.prog 79 #[.agg #[.int .u8 (x.1.toNat : Int), .string (bA x.2)]] w fun e w' => e = .returned (.string (bA (tPl x))) ∧ Below w.heap.size w w' := by
  have g0 := tk_box w x 68
  have be0 := alloc_below w (.cells #[.int .u8 (x.1.toNat : Int), .string (bA x.2)] 68)
  by_cases h1 : tSign x.1 = true
  · have HS := Lib.hid (sign_is8 h1)
    have HR := Lib.hid (show tPl x = [x.1] by unfold tPl; rw [if_pos h1])
    have HT := Lib.hid (fun w => text_one Tryz.prog 43 5 9 w (x.1.toNat : Int) x.1 rfl Tryz.underlying43 Tryz.underlying5 Tryz.underlying9)
    clear h1
    go_enter Tryz.func79, Tryz.ntmps79
    have c0 := g0.c0
    go_wp2_with fail
    generalize w.alloc (.cells #[.int .u8 (x.1.toNat : Int), .string (bA x.2)] 68) = w0 at g0 be0 c0 ⊢
    with_reducible refine (HS.out _).mono ?_
    rintro e w1 ⟨rfl, hb1⟩
    have g1 := g0.below hb1 g0.lt
    have be1 := be0.trans (hb1.mono be0.size)
    clear g0 c0 hb1 be0
    have c0 := g1.c0
    go_wp2_with fail
    rw [HT.out]
    go_wp2
    go_ret
    exact ⟨ret_string (by rw [HR.out]), be1.trans ((alloc_below w1 _).mono be1.size)⟩
  · have h1f := (Bool.not_eq_true _).mp h1
    have HS := Lib.hid (sign_is8 h1f)
    by_cases h2 : x.1 = 110
    · have HR := Lib.hid (show tPl x = x.2 by unfold tPl; rw [if_neg h1, if_pos h2])
      have p2 : ((x.1.toNat : Int) == 110) = true := by rw [h2]; rfl
      clear h1 h1f h2
      go_enter Tryz.func79, Tryz.ntmps79
      have c0 := g0.c0
      go_wp2_with fail
      generalize w.alloc (.cells #[.int .u8 (x.1.toNat : Int), .string (bA x.2)] 68) = w0 at g0 be0 c0 ⊢
      with_reducible refine (HS.out _).mono ?_
      rintro e w1 ⟨rfl, hb1⟩
      have g1 := g0.below hb1 g0.lt
      have be1 := be0.trans (hb1.mono be0.size)
      clear g0 c0 hb1 be0
      have c0 := g1.c0
      have c1 := g1.c1
      go_wp2
      go_ret
      exact ⟨ret_string (by rw [HR.out]), be1⟩
    · have HR := Lib.hid (show tPl x = tW x.1 by unfold tPl; rw [if_neg h1, if_neg h2])
      have p2 : ((x.1.toNat : Int) == 110) = false := (eq8b x.1 110).trans (decide_eq_false h2)
      have HW := Lib.hid (word_any x.1)
      clear h1 h1f h2
      go_enter Tryz.func79, Tryz.ntmps79
      have c0 := g0.c0
      go_wp2_with fail
      generalize w.alloc (.cells #[.int .u8 (x.1.toNat : Int), .string (bA x.2)] 68) = w0 at g0 be0 c0 ⊢
      with_reducible refine (HS.out _).mono ?_
      rintro e w1 ⟨rfl, hb1⟩
      have g1 := g0.below hb1 g0.lt
      have be1 := be0.trans (hb1.mono be0.size)
      clear g0 c0 hb1 be0
      have c0 := g1.c0
      go_wp2_with fail
      with_reducible refine (HW.out _).mono ?_
      rintro e w2 ⟨rfl, hw2⟩
      rw [hw2]; clear hw2
      go_wp2
      go_ret
      exact ⟨ret_string (by rw [HR.out]), be1⟩
set_option maxRecDepth 20000 in
theorem put_any (a : Option Addr) (cap : Nat) (l : List UInt8) (x : TK) (w : World) (hl : l.length ≤ 70368744177664) (hs : x.2.length ≤ 1099511627776) (hin : BIn w a l) :
    Calls Tryz.prog 58 #[.slice a l.length cap, .agg #[.int .u8 (x.1.toNat : Int), .string (bA x.2)]] w fun e w' => ∃ v, e = .returned v ∧ Bts 5 w' w.heap.size v (l ++ tPut x) ∧ Below w.heap.size w w' := by
  obtain ⟨i0, hi, hz0, hz1, hz2⟩ := info_parts info8
  have g0 := tk_box w x 68
  have be0 := alloc_below w (.cells #[.int .u8 (x.1.toNat : Int), .string (bA x.2)] 68)
  have in0 := hin.below be0
  by_cases h1 : x.1 = 115
  · have HJ := Lib.hid (fun w h => jput_any a cap l (bA x.2) w hl (by rw [bA_size]; exact hs) h)
    have HR := Lib.hid (tPut_text h1)
    have p1 : ((x.1.toNat : Int) == 115) = true := by rw [h1]; rfl
    clear h1 hin
    go_enter Tryz.func58, Tryz.ntmps58
    have c0 := g0.c0
    have c1 := g0.c1
    go_wp2_with fail
    generalize w.alloc (.cells #[.int .u8 (x.1.toNat : Int), .string (bA x.2)] 68) = w0 at *
    refine (HJ.out _ in0).mono ?_
    rintro e w1 ⟨v, rfl, hbt, hb1⟩
    have hbt := Lib.hid hbt
    have be1 := be0.trans (hb1.mono be0.size)
    have hsz := be0.size
    clear hb1 be0 in0
    go_wp2
    go_ret
    exact ⟨_, rfl, by rw [HR.out]; exact hbt.out.base hsz, be1⟩
  · have HP := Lib.hid (plain_any x)
    have HR := Lib.hid (tPut_plain h1)
    have hpl := tPl_len x
    have p1 : ((x.1.toNat : Int) == 115) = false := (eq8b x.1 115).trans (decide_eq_false h1)
    obtain ⟨M, hM⟩ : ∃ M, M = bA (tPl x) := ⟨_, rfl⟩
    obtain ⟨m, hm⟩ : ∃ m, m = M.size := ⟨_, rfl⟩
    have hml : m = (tPl x).length := by rw [hm, hM, bA_size]
    have HL := Lib.hid (show M.data.toList = tPl x by rw [hM]; rfl)
    rw [← hM] at HP
    have hmk := Lib.hid (fun w => make_bytes l.length m w (by omega))
    have hw : IntKind.i64.wrap ((l.length : Int) + (m : Int)) = (l.length : Int) + (m : Int) := IntWalk.i64_in _ (by omega)
    have hw2 : IntKind.i64.wrap ((l.length : Int) + (M.size : Int)) = (l.length : Int) + (m : Int) := by rw [← hm]; exact hw
    have hlen : l.length + M.size ≤ 140737488355328 := by omega
    have hcpf := Lib.hid (fun w h => copy_fact Tryz.prog 43 5 3 i0 Tryz.underlying43 size8 w a cap m l h (by unfold maxLen; omega))
    have HM := Lib.hid hm
    clear h1 hin hm hM hml
    go_enter Tryz.func58, Tryz.ntmps58
    have c0 := g0.c0
    have c1 := g0.c1
    go_wp2_with fail
    generalize w.alloc (.cells #[.int .u8 (x.1.toNat : Int), .string (bA x.2)] 68) = w0 at *
    with_reducible refine (HP.out _).mono ?_
    rintro e w1 ⟨rfl, hb1⟩
    have be1 := be0.trans (hb1.mono be0.size)
    have hsz1 := be1.size
    obtain ⟨w2, hcp0, hbt, hb2⟩ := hcpf.out w1 (in0.below hb1)
    have hcp := Lib.hid hcp0
    have be2 := Lib.hid (be1.trans (hb2.mono be1.size))
    have hsz2 := be2.out.size
    have hbt2 := hbt.base hsz1
    clear hcp0 hb1 be0 in0 hcpf g0 c0 c1 hb2 hbt
    go_wp2_with fail
    rw [hmk.out]
    go_wp2_with fail
    rw [hcp.out]
    go_wp2_with (at_builtin; go_loud (refine wpList_append_text rfl (.tmp 27) (.tmp 28) 43 9 rfl 5 i0 Tryz.underlying43 Tryz.underlying9 hi hz0 hz1 hz2 _ w2 w2 w.heap.size l M hbt2 (Below.refl _ _) hsz2 rfl rfl hlen ?_; intro v4 w4 hv4 hb4))
    have hv := Lib.hid hv4
    have be4 := Lib.hid (be2.out.trans hb4)
    clear hb4 hbt2 hv4
    go_ret
    exact ⟨_, rfl, by rw [HR.out, ← HL.out]; exact hv.out, be4.out⟩
set_option maxRecDepth 20000 in
theorem tktext_any (x : TK) (w : World) (hs : x.2.length ≤ 1099511627776) :
    Calls Tryz.prog 56 #[.agg #[.int .u8 (x.1.toNat : Int), .string (bA x.2)]] w fun e w' => e = .returned (.string (bA (tPut x))) ∧ Below w.heap.size w w' := by
  have g0 := tk_box w x 78
  have be0 := alloc_below w (.cells #[.int .u8 (x.1.toNat : Int), .string (bA x.2)] 78)
  by_cases h1 : x.1 = 115
  · have HJ := Lib.hid (fun w => rjtext_any (bA x.2) w (by rw [bA_size]; exact hs))
    have HR := Lib.hid (tPut_text h1)
    have p1 : ((x.1.toNat : Int) == 115) = true := by rw [h1]; rfl
    clear h1
    go_enter Tryz.func56, Tryz.ntmps56
    have c0 := g0.c0
    have c1 := g0.c1
    go_wp2_with fail
    generalize w.alloc (.cells #[.int .u8 (x.1.toNat : Int), .string (bA x.2)] 78) = w0 at *
    refine (HJ.out _).mono ?_
    rintro e w1 ⟨rfl, hb1⟩
    have be1 := be0.trans (hb1.mono be0.size)
    go_wp2
    go_ret
    exact ⟨ret_string (by rw [HR.out]; rfl), be1⟩
  · have p1 : ((x.1.toNat : Int) == 115) = false := (eq8b x.1 115).trans (decide_eq_false h1)
    have hpl := tPut_plain h1
    by_cases h2 : x.1 = 110
    · have HR := Lib.hid (show tPut x = x.2 by rw [hpl]; unfold tPl; rw [if_neg (by rw [h2]; decide), if_pos h2])
      have p2 : ((x.1.toNat : Int) == 110) = true := by rw [h2]; rfl
      clear h1 hpl h2
      go_enter Tryz.func56, Tryz.ntmps56
      have c0 := g0.c0
      have c1 := g0.c1
      go_wp2_with fail
      go_ret
      exact ⟨ret_string (by rw [HR.out]), be0⟩
    · have p2 : ((x.1.toNat : Int) == 110) = false := (eq8b x.1 110).trans (decide_eq_false h2)
      by_cases h3 : tSign x.1 = true
      · have HR := Lib.hid (show tPut x = [x.1] by rw [hpl]; unfold tPl; rw [if_pos h3])
        have HS := Lib.hid (rsign_any x.1)
        rw [h3] at HS
        have HT := Lib.hid (fun w => text_one Tryz.prog 43 5 9 w (x.1.toNat : Int) x.1 rfl Tryz.underlying43 Tryz.underlying5 Tryz.underlying9)
        clear h1 hpl h2 h3
        go_enter Tryz.func56, Tryz.ntmps56
        have c0 := g0.c0
        go_wp2_with fail
        generalize w.alloc (.cells #[.int .u8 (x.1.toNat : Int), .string (bA x.2)] 78) = w0 at *
        with_reducible refine (HS.out _).mono ?_
        rintro e w1 ⟨rfl, hw1⟩
        rw [hw1]; clear hw1
        go_wp2_with fail
        rw [HT.out]
        go_wp2
        go_ret
        exact ⟨ret_string (by rw [HR.out]), be0.trans ((alloc_below w0 _).mono be0.size)⟩
      · have HR := Lib.hid (show tPut x = tW x.1 by rw [hpl]; unfold tPl; rw [if_neg h3, if_neg h2])
        have HS := Lib.hid (rsign_any x.1)
        rw [(Bool.not_eq_true _).mp h3] at HS
        have HW := Lib.hid (rspelled_any x.1)
        clear h1 hpl h2 h3
        go_enter Tryz.func56, Tryz.ntmps56
        have c0 := g0.c0
        go_wp2_with fail
        generalize w.alloc (.cells #[.int .u8 (x.1.toNat : Int), .string (bA x.2)] 78) = w0 at *
        with_reducible refine (HS.out _).mono ?_
        rintro e w1 ⟨rfl, hw1⟩
        rw [hw1]; clear hw1
        go_wp2_with fail
        with_reducible refine (HW.out _).mono ?_
        rintro e w2 ⟨rfl, hw2⟩
        rw [hw2]; clear hw2
        go_wp2
        go_ret
        exact ⟨ret_string (by rw [HR.out]), be0⟩
end Go.Proofs.YtnbhhnkcfbfdcaaGreatDoor
