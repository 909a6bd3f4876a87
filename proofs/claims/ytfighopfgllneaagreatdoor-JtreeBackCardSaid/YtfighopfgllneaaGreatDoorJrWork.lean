/- Law 13's example. -/
import Derived.Test.YtfighopfgllneaaGreatDoorZL
import Derived.Test.YtfighopfgllneaaGreatDoorJrL
import Derived.Lib.SlBytesConst
namespace Go.Proofs.YtfighopfgllneaaGreatDoor
open Go Go.RowKit
set_option linter.unusedVariables false

def t13a : List TK := [(123, []), (115, [97]), (58, []), (91, []), (110, [49]), (44, []), (116, []), (93, []), (125, [])]
def l13a : List ND := [(123, [], [], 4), (91, [97], [], 3), (110, [], [49], 1), (116, [], [], 1)]
theorem sg_dec {ts : List TK} (h : (ts.all fun x => (!tSign x.1 || x.2.isEmpty) && decide (x.2.length ≤ 1099511627776)) = true) : SgE ts := fun x hx => by
  have := List.all_eq_true.mp h x hx
  simp only [Bool.and_eq_true, Bool.or_eq_true, Bool.not_eq_true', decide_eq_true_eq] at this
  refine ⟨fun hs => ?_, this.2⟩
  rcases this.1 with h1 | h1
  · rw [h1] at hs; cases hs
  · exact List.isEmpty_iff.mp h1
theorem w13_a (w : World) (ht : Hds w) :
    Calls Tryz.prog 6 #[.string ⟨#[123, 34, 97, 34, 58, 32, 91, 49, 44, 32, 116, 114, 117, 101, 93, 125]⟩] w fun e w' => ∃ g cap, e = .returned (.tuple #[.slice (some ⟨g, 0, none⟩) 4 cap, .int .i64 0]) ∧ NIn w' (some ⟨g, 0, none⟩) l13a ∧ Below w.heap.size w w' := by
  refine (read_any ⟨#[123, 34, 97, 34, 58, 32, 91, 49, 44, 32, 116, 114, 117, 101, 93, 125]⟩ w t13a (some 0) (by decide) (by decide +kernel) (sg_dec (by decide +kernel)) (by decide) (fun e => by cases e) ht).mono ?_
  rw [show rdT t13a (some 0) = (l13a, 0) by decide +kernel]
  rintro e w' ⟨v, he, hrow, hb⟩
  obtain ⟨a, cap, hv, hin⟩ := hrow.inn
  obtain ⟨g, ha, _⟩ := hin 0 (by decide)
  subst ha
  rw [hv] at he
  exact ⟨g, cap, he, hin, hb⟩
theorem w13_bad (s : ByteArray) (ts : List TK) (la k : Int) (w : World) (ht : Hds w) (hs : s.size ≤ 1000) (hsf : SfL ts (some la) s.data.toList) (hsg : SgE ts) (hl : ts.length ≤ 1000) (h : rdT ts (some la) = ([], k)) :
    Calls Tryz.prog 6 #[.string s] w fun e w' => ∃ v, e = .returned (.tuple #[v, .int .i64 k]) ∧ Below w.heap.size w w' := by
  refine (read_any s w ts (some la) (by omega) hsf hsg (by omega) (fun e => by cases e) ht).mono ?_
  rw [h]
  rintro e w' ⟨v, he, _, hb⟩
  exact ⟨v, he, hb⟩
theorem w13_put (g cap : Nat) (w : World) (hin : NIn w (some ⟨g, 0, none⟩) l13a) :
    Calls Tryz.prog 9 #[.slice (some ⟨w.heap.size, 0, none⟩) 1 1, .slice (some ⟨g, 0, none⟩) 4 cap] (w.alloc (.cells #[.int .u8 112] 5 (1, 2))) fun e w' => ∃ v, e = .returned v ∧ (convert 32 9 v).run Tryz.prog w' = .ok (.string (bA [112, 123, 34, 97, 34, 58, 91, 49, 44, 116, 114, 117, 101, 93, 125])) w' ∧ Below w.heap.size w w' := by
  have hb : BIn (w.alloc (.cells #[.int .u8 112] 5 (1, 2))) (some ⟨w.heap.size, 0, none⟩) [112] := by
    intro j hj
    have h0 : j = 0 := by simpa using hj
    subst h0
    have h1 := heap_alloc_new w (.cells #[.int .u8 112] 5 (1, 2))
    refine ⟨w.heap.size, 0, rfl, by simp, ?_⟩
    simp only [World.cell?]
    rw [h1]; rfl
  have hsg : SgE t13a := sg_dec (by decide +kernel)
  have hr : (rdT t13a (some 0)).2 = 0 := by decide +kernel
  have hwf := (rdT_good hsg hr).2
  rw [show (rdT t13a (some 0)).1 = l13a by decide +kernel] at hwf
  obtain ⟨ts, e0, hsf, _, _, hok⟩ := sf_all _ [123, 34, 97, 34, 58, 32, 91, 49, 44, 32, 116, 114, 117, 101, 93, 125] rfl
  have htok : ∀ x ∈ t13a, TOk x ∧ x.2.length ≤ 1099511627776 := fun x hx => ⟨sf_ok t13a (some 0) [123, 34, 97, 34, 58, 32, 91, 49, 44, 32, 116, 114, 117, 101, 93, 125] (by decide +kernel) x hx, (hsg x hx).2⟩
  refine (jrput_any (some ⟨w.heap.size, 0, none⟩) 1 [112] (some ⟨g, 0, none⟩) cap l13a t13a _ (by decide) (by decide) hb (fun e => by cases e) (hin.below (alloc_below w _) (Nat.le_refl _)) (.inr hwf) htok (by decide +kernel)).mono ?_
  rw [show [112] ++ tksB t13a = [112, 123, 34, 97, 34, 58, 91, 49, 44, 116, 114, 117, 101, 93, 125] by decide +kernel]
  rintro e w' ⟨v, he, hv, hbe⟩
  exact ⟨v, he, hv.text Tryz.underlying32 Tryz.underlying5 Tryz.underlying9, (alloc_below w _).trans (hbe.mono (alloc_below w _).size)⟩
theorem w13_kids (g cap : Nat) (x : Int) (n : Nat) (w : World) (hin : NIn w (some ⟨g, 0, none⟩) l13a) (h0 : -9223372036854775808 ≤ x) (h1 : x ≤ 9223372036854775807) (hn : (kidsL l13a x).length = n) :
    Calls Tryz.prog 11 #[.slice (some ⟨g, 0, none⟩) 4 cap, .int .i64 x] w fun e w' => ∃ a c, e = .returned (.slice a n c) ∧ Below w.heap.size w w' := by
  have hsz : SzOk l13a := by
    have h := (rdT_good (ts := t13a) (la := some 0) (sg_dec (by decide +kernel)) (by decide +kernel)).2
    rw [show (rdT t13a (some 0)).1 = l13a by decide +kernel] at h
    exact wf_sz h
  refine (kids_any (some ⟨g, 0, none⟩) cap l13a x w (by decide) hin hsz h0 h1).mono ?_
  rintro e w' ⟨v, he, hv, hb⟩
  obtain ⟨a, c, hv2, _⟩ := hv.inn
  rw [hv2, hn] at he
  exact ⟨a, c, he, hb⟩
set_option maxRecDepth 100000 in
set_option maxHeartbeats 4000000 in
theorem works13_any (w : World) (ht : Hds w) : Calls Tryz.prog 4 #[] w fun e w' => e = .returned (.bool true) ∧ Below w.heap.size w w' := by
  have HT := Lib.hid (show ∀ w', Below w.heap.size w w' → Hds w' from fun w' h => ht.below h ht.lt)
  have HA := Lib.hid (w13_a w ht)
  have HB := Lib.hid (fun w h => w13_bad ⟨#[123, 34, 97, 34, 58, 49, 44, 34, 97, 34, 58, 50, 125]⟩ [(123, []), (115, [97]), (58, []), (110, [49]), (44, []), (115, [97]), (58, []), (110, [50]), (125, [])] 0 8 w h (by decide) (by decide +kernel) (sg_dec (by decide +kernel)) (by decide) (by decide +kernel))
  have HC := Lib.hid (fun w h => w13_bad ⟨#[91, 49, 44, 93]⟩ [(91, []), (110, [49]), (44, []), (93, [])] 0 3 w h (by decide) (by decide +kernel) (sg_dec (by decide +kernel)) (by decide) (by decide +kernel))
  have HD := Lib.hid (fun w h => w13_bad ⟨#[49, 32, 63]⟩ [(110, [49])] 3 2 w h (by decide) (by decide +kernel) (sg_dec (by decide +kernel)) (by decide) (by decide +kernel))
  have kc := fun (w : World) (C : Array Value) (n c : Nat) => Lib.run_convert_bytes_const (P := Tryz.prog) w 32 5 C n c Tryz.underlying32 Tryz.underlying5
  have q1 : ((bA [112, 123, 34, 97, 34, 58, 91, 49, 44, 116, 114, 117, 101, 93, 125]).toList == [112, 123, 34, 97, 34, 58, 91, 49, 44, 116, 114, 117, 101, 93, 125]) = true := by decide +kernel
  clear ht
  go_enter Tryz.func4, Tryz.ntmps4
  go_wp2_with fail
  refine HA.out.mono ?_
  rintro e w1 ⟨g, cap, rfl, hin1, b1⟩
  have t1 := Lib.hid (HT.out _ b1)
  have U1 := Lib.hid (show ∀ wx, Below w1.heap.size w1 wx → NIn wx (some ⟨g, 0, none⟩) l13a from fun wx h => hin1.below h (Nat.le_refl _))
  have B1 := Lib.hid b1
  clear hin1 b1
  go_wp2_with fail
  refine (HB.out _ t1.out).mono ?_
  rintro e w2 ⟨v2, rfl, h2⟩
  have B2 := Lib.hid (B1.out.trans (h2.mono B1.out.size))
  have K2 := Lib.hid h2
  have t2 := Lib.hid (HT.out _ B2.out)
  clear h2
  go_wp2_with fail
  refine (HC.out _ t2.out).mono ?_
  rintro e w3 ⟨v3, rfl, h3⟩
  have B3 := Lib.hid (B2.out.trans (h3.mono B2.out.size))
  have K3 := Lib.hid (K2.out.trans (h3.mono K2.out.size))
  have t3 := Lib.hid (HT.out _ B3.out)
  clear h3
  go_wp2_with fail
  refine (HD.out _ t3.out).mono ?_
  rintro e w4 ⟨v4, rfl, h4⟩
  have B4 := Lib.hid (B3.out.trans (h4.mono B3.out.size))
  have K4 := Lib.hid (K3.out.trans (h4.mono K3.out.size))
  have N4 := Lib.hid (U1.out _ K4.out)
  obtain ⟨g', eg, _, _, _, _, d3⟩ := N4.out 0 (by decide)
  obtain rfl : g = g' := by simpa using eg
  obtain ⟨g', eg1, _, _, d5, _, _⟩ := N4.out 1 (by decide)
  obtain rfl : g = g' := by simpa using eg1
  obtain ⟨g', eg2, _, _, _, d10, _⟩ := N4.out 2 (by decide)
  obtain rfl : g = g' := by simpa using eg2
  have d3' : w4.cell? ⟨g, 3, none⟩ = some (.int .i64 4) := d3
  have d5' : w4.cell? ⟨g, 5, none⟩ = some (.string ⟨#[97]⟩) := d5
  have d10' : w4.cell? ⟨g, 10, none⟩ = some (.string ⟨#[49]⟩) := d10
  have HP := Lib.hid (w13_put g cap w4 N4.out)
  clear h4 d3 d5 d10 eg eg1 eg2 t1 t2 t3 HA HB HC HD
  go_wp2_with fail
  refine HP.out.mono ?_
  rintro e w5 ⟨v5, rfl, hv5, h5⟩
  have B5 := Lib.hid (B4.out.trans (h5.mono B4.out.size))
  have K5 := Lib.hid (K4.out.trans (h5.mono K4.out.size))
  have HK := Lib.hid (w13_kids g cap 1 2 w5 (U1.out _ K5.out) (by decide) (by decide) (by decide +kernel))
  clear h5 d3' d5' d10' HP
  go_wp2_with fail
  refine HK.out.mono ?_
  rintro e w6 ⟨a6, c6, rfl, h6⟩
  have B6 := Lib.hid (B5.out.trans (h6.mono B5.out.size))
  have K6 := Lib.hid (K5.out.trans (h6.mono K5.out.size))
  have HK2 := Lib.hid (w13_kids g cap 9 0 w6 (U1.out _ K6.out) (by decide) (by decide) (by decide +kernel))
  clear h6 hv5 HK
  go_wp2_with fail
  refine HK2.out.mono ?_
  rintro e w7 ⟨a7, c7, rfl, h7⟩
  have B7 := Lib.hid (B6.out.trans (h7.mono B6.out.size))
  clear h7
  go_wp2
  go_ret
  exact ⟨rfl, B7.out⟩
end Go.Proofs.YtfighopfgllneaaGreatDoor
