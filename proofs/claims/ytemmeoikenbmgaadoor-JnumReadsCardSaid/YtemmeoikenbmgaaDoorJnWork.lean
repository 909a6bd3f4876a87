/- Law 11's example. -/
import Derived.Test.YtemmeoikenbmgaaDoorJnWh
import Derived.Test.YtemmeoikenbmgaaDoorJnRefB
import Derived.Test.YtemmeoikenbmgaaDoorJnRefD
import Derived.Test.YtemmeoikenbmgaaDoorDRefA
namespace Go.Proofs.YtemmeoikenbmgaaDoor
open Go Go.RowKit
set_option linter.unusedVariables false

def t11a : ByteArray := ⟨#[45, 49, 46, 53, 48, 101, 43, 49, 120]⟩
def t11b : ByteArray := ⟨#[49, 46]⟩
def l11 : List UInt8 := [45, 49, 46, 53, 48, 101, 43, 49]
theorem n11_read {b : Nat} {w : World} (h : CurT 40 w b (CS.new t11a)) :
    Calls Tryd.prog 9 #[.pointer (some ⟨b, 0, none⟩)] w fun e w' => e = .returned (.string (bA l11)) ∧ CurT 40 w' b ((CS.new t11a).past 8) ∧ Only b w w' := by
  have h1 : (CS.new t11a).nc = 0 := by decide +kernel
  have h2 : (CS.new t11a).nt = l11 := by decide +kernel
  have h3 : nE (CS.new t11a).bs = 8 := by decide +kernel
  have := nread_any h (CS.new_ok (by decide)) (by decide)
  rw [h1, h2, h3] at this
  refine this.mono ?_
  rintro e w' ⟨rfl, ⟨c', hq, hA⟩, ho⟩
  rw [hA.2.2.2.2 rfl] at hq
  exact ⟨rfl, hq, ho⟩
theorem n11_cut {b : Nat} {w : World} (h : CurT 40 w b (CS.new t11b)) :
    Calls Tryd.prog 9 #[.pointer (some ⟨b, 0, none⟩)] w fun e w' => e = .returned (.string (bA [])) ∧ (∃ c', CurT 40 w' b c' ∧ c'.er = 1) ∧ Only b w w' := by
  have h1 : (CS.new t11b).nc = 1 := by decide +kernel
  have h2 : (CS.new t11b).nt = [] := by decide +kernel
  have := nread_any h (CS.new_ok (by decide)) (by decide)
  rw [h1, h2] at this
  refine this.mono ?_
  rintro e w' ⟨rfl, ⟨c', hq, hA⟩, ho⟩
  exact ⟨rfl, ⟨c', hq, hA.2.2.2.1⟩, ho⟩
theorem n11_w (t : ByteArray) (n k : Int) (h : wEnd t.data.toList = (n, k)) (hz : t.size ≤ 1048576) (w : World) (hm : MaxL w) :
    Calls Tryd.prog 13 #[.string t] w fun e w' => e = .returned (.tuple #[.int .i64 n, .int .i64 k]) ∧ Below w.heap.size w w' := by
  have := nwhole_any t w hz hm
  rw [h] at this; exact this
theorem n11_w0 (w : World) (hm : MaxL w) : Calls Tryd.prog 13 #[.string (bA l11)] w fun e w' => e = .returned (.tuple #[.int .i64 (-15), .int .i64 0]) ∧ Below w.heap.size w w' := n11_w _ _ _ (by decide +kernel) (by decide) w hm
theorem n11_w1 (w : World) (hm : MaxL w) : Calls Tryd.prog 13 #[.string ⟨#[49, 53, 101, 45, 49]⟩] w fun e w' => e = .returned (.tuple #[.int .i64 0, .int .i64 7]) ∧ Below w.heap.size w w' := n11_w _ _ _ (by decide +kernel) (by decide) w hm
theorem n11_w2 (w : World) (hm : MaxL w) : Calls Tryd.prog 13 #[.string ⟨#[49, 101, 49, 57]⟩] w fun e w' => e = .returned (.tuple #[.int .i64 0, .int .i64 4]) ∧ Below w.heap.size w w' := n11_w _ _ _ (by decide +kernel) (by decide) w hm
theorem n11_w3 (w : World) (hm : MaxL w) : Calls Tryd.prog 13 #[.string ⟨#[48, 101, 45, 57, 57, 57, 57, 57, 57, 57, 57, 57, 57, 57, 57, 57, 57, 57, 57, 57, 57, 57, 57]⟩] w fun e w' => e = .returned (.tuple #[.int .i64 0, .int .i64 0]) ∧ Below w.heap.size w w' := n11_w _ _ _ (by decide +kernel) (by decide) w hm
theorem new_a (w : World) : Calls Tryd.prog 7 #[.string ⟨#[45, 49, 46, 53, 48, 101, 43, 49, 120]⟩] w fun e w' => ∃ b, e = .returned (.pointer (some ⟨b, 0, none⟩)) ∧ w.heap.size ≤ b ∧ CurT 40 w' b (CS.new t11a) ∧ Below w.heap.size w w' := new_cur t11a w (by decide)
theorem new_b (w : World) : Calls Tryd.prog 7 #[.string ⟨#[49, 46]⟩] w fun e w' => ∃ b, e = .returned (.pointer (some ⟨b, 0, none⟩)) ∧ w.heap.size ≤ b ∧ CurT 40 w' b (CS.new t11b) ∧ Below w.heap.size w w' := new_cur t11b w (by decide)
theorem left_a {b : Nat} {w : World} (h : CurT 40 w b ((CS.new t11a).past 8)) :
    Calls Tryd.prog 16 #[.pointer (some ⟨b, 0, none⟩)] w fun e w' => e = .returned (.int .i64 1) ∧ Below w.heap.size w w' := by
  refine (left_any h ⟨by decide, by decide, by decide⟩).mono ?_
  rintro e w' ⟨rfl, n, hw⟩
  rw [hw]
  exact ⟨ret_i (by decide +kernel), drew_below w n⟩
set_option maxRecDepth 100000 in
set_option maxHeartbeats 4000000 in
theorem works11_any (w : World) (hm : MaxL w) : Calls Tryd.prog 6 #[] w fun e w' => e = .returned (.bool true) ∧ Below w.heap.size w w' := by
  have HM := Lib.hid (fun w' h => hm.below (w' := w') h hm.lt)
  have heq : ((bA l11).toList == [45, 49, 46, 53, 48, 101, 43, 49]) = true := by decide +kernel
  have heq2 : (bA []).toList.isEmpty = true := by rw [isEmpty_of]; rfl
  clear hm
  go_enter Tryd.func6, Tryd.ntmps6
  go_wp2_with fail
  with_reducible refine (new_a _).mono ?_
  rintro e w1 ⟨b, rfl, hb1, q1, b1⟩
  go_wp2_with fail
  with_reducible refine (n11_read q1).mono ?_
  rintro e w2 ⟨rfl, q2, o2⟩
  have b2 := b1.trans (o2.below hb1 b1.size)
  have m2 := Lib.hid (HM.out _ b2)
  clear q1 b1 o2
  go_wp2_with fail
  with_reducible refine (n11_w0 _ m2.out).mono ?_
  rintro e w3 ⟨rfl, h3⟩
  have q3 := Below.cur h3 q2 q2.lt
  have b3 := grown_then b2 h3
  have m3 := Lib.hid (HM.out _ b3)
  clear q2 b2 h3 m2
  go_wp2_with fail
  with_reducible refine (n11_w1 _ m3.out).mono ?_
  rintro e w4 ⟨rfl, h4⟩
  have q4 := Below.cur h4 q3 q3.lt
  have b4 := grown_then b3 h4
  have m4 := Lib.hid (HM.out _ b4)
  clear q3 b3 h4 m3
  go_wp2_with fail
  with_reducible refine (n11_w2 _ m4.out).mono ?_
  rintro e w5 ⟨rfl, h5⟩
  have q5 := Below.cur h5 q4 q4.lt
  have b5 := grown_then b4 h5
  have m5 := Lib.hid (HM.out _ b5)
  clear q4 b4 h5 m4
  go_wp2_with fail
  with_reducible refine (n11_w3 _ m5.out).mono ?_
  rintro e w6 ⟨rfl, h6⟩
  have q6 := Below.cur h6 q5 q5.lt
  have b6 := grown_then b5 h6
  clear q5 b5 h6 m5
  go_wp2_with fail
  with_reducible refine (new_b _).mono ?_
  rintro e w7 ⟨d, rfl, hb7, r7, h7⟩
  have q7 := Below.cur h7 q6 q6.lt
  have b7 := grown_then b6 h7
  have hdw : w.heap.size ≤ d := Nat.le_trans b6.size hb7
  clear q6 b6 h7
  go_wp2_with fail
  with_reducible refine (left_a q7).mono ?_
  rintro e w8 ⟨rfl, h8⟩
  have r8 := Below.cur h8 r7 r7.lt
  have b8 := grown_then b7 h8
  clear q7 r7 b7 h8
  go_wp2_with fail
  with_reducible refine (n11_cut r8).mono ?_
  rintro e w9 ⟨rfl, ⟨c', r9, he⟩, o9⟩
  have b9 := b8.trans (o9.below hdw b8.size)
  have HE := Lib.hid (err_any r9)
  rw [he] at HE
  clear r8 b8 o9 he
  go_wp2_with fail
  with_reducible refine HE.out.mono ?_
  rintro e w10 ⟨rfl, hw⟩
  rw [hw]; clear hw
  go_wp2
  go_ret
  exact ⟨rfl, b9⟩
end Go.Proofs.YtemmeoikenbmgaaDoor
