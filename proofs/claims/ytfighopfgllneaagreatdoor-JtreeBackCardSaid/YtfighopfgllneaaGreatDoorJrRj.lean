/- The document's tokens, Read (package truchmanref13). -/
import Derived.Test.YtfighopfgllneaaGreatDoorZM
import Derived.Test.YtfighopfgllneaaGreatDoorJtH
namespace Go.Proofs.YtfighopfgllneaaGreatDoor
open Go Go.RowKit
set_option linter.unusedVariables false

/-- A text's tokens are of one kind alone. -/
theorem sf_one : ∀ (ts ts' : List TK) (e e' : Int) (l : List UInt8), SfL ts (some e) l → SfL ts' (some e') l → ts = ts' ∧ e = e'
  | [], [], e, e', l, h, h' => by
    rcases h with h | h
    · cases h
    · rcases h' with h' | h'
      · cases h'
      · exact ⟨rfl, by have h1 := h.2; have h2 := h'.2; simp only [Option.some.injEq] at h1 h2; rw [h1, h2]⟩
  | [], t' :: ts', e, e', l, h, h' => by
    rcases h with h | h
    · cases h
    · exact absurd h.1 (by rw [h'.1.2.1]; exact h'.1.2.2)
  | t :: ts, [], e, e', l, h, h' => by
    rcases h' with h' | h'
    · cases h'
    · exact absurd h'.1 (by rw [h.1.2.1]; exact h.1.2.2)
  | t :: ts, t' :: ts', e, e', l, h, h' => by
    obtain ⟨h1, h2⟩ := sf_one ts ts' e e' _ h.2 h'.2
    exact ⟨by rw [h1, ← h.1.2.1, h'.1.2.1], h2⟩
theorem st_result {fn : Func} {p : Tmp} (h : fn.results = #[.cell p 43]) {tmps : Array Value} {w : World} {d : Nat} {a : Option Addr} {n cap : Nat} {la : Int} (hd : StT w d a n cap la) (hp : tmps.getD p undef = .pointer (some ⟨d, 0, none⟩)) :
    (results fn tmps).run Tryz.prog w = .ok (.agg #[.slice a n cap, .int .i64 la]) w := by
  have h1 := run_loadVar_row (P := Tryz.prog) w d 43 43 #[.slice a n cap, .int .i64 la] (0, 0) _ hd Tryz.underlying43 rfl (by kernel_rfl)
  have hp' : tmps[p]?.getD undef = .pointer (some ⟨d, 0, none⟩) := by simpa using hp
  simp [results, h, hp', asAddr, h1]
theorem TRow.room {e : TypeId} {w : World} {B : Nat} {v : Value} {l : List TK} (h : TRow e w B v l) : ∃ a cap, v = .slice a l.length cap ∧ l.length ≤ cap ∧ TInO w a l := by
  obtain ⟨a, cap, e1, hi⟩ := h.inn
  refine ⟨a, cap, e1, ?_, TInO.of hi⟩
  rcases h.2 with ⟨e2, hn⟩ | ⟨g, cap', cur, e2, _, _, hc, _⟩
  · rw [hn]; exact Nat.zero_le _
  · rw [e1] at e2
    simp only [Value.slice.injEq] at e2
    rw [e2.2.2]; exact hc
theorem TRow.tin {e : TypeId} {w : World} {B : Nat} {a : Option Addr} {n c : Nat} {l : List TK} (h : TRow e w B (.slice a n c) l) : TInO w a l := by
  obtain ⟨a2, c2, e1, _, h2⟩ := h.room
  simp only [Value.slice.injEq] at e1
  rw [e1.1]; exact h2
theorem set2_only (w : World) (b : Nat) (u v : Value) : Only b w ((w.setCell ⟨b, 0, none⟩ u).setCell ⟨b, 1, none⟩ v) := ⟨rfl, rfl, rfl, by simp, fun k hk hn => set2_lt w b u v k hn⟩
def TksRel (s : ByteArray) (ts : List TK) (la : Int) (S G B : Nat) (W : World) (v i : Value) (wr : World) : Prop :=
  ∃ (k n : Nat) (pre rest : List TK), k ≤ s.size ∧ n + rest.length ≤ s.size ∧ pre.length = n ∧ i = .int .i64 (n : Nat) ∧ TRow 62 wr B v pre ∧ B ≤ wr.heap.size ∧ CurT 60 wr G ((CS.new s).past k) ∧ StT wr S none 0 0 0 ∧ Below W.heap.size W wr ∧
    Hid (ts = pre ++ rest) ∧ Hid (SfL rest (some la) (s.data.toList.drop k))
set_option maxRecDepth 20000 in
set_option maxHeartbeats 4000000 in
theorem tokens_any (s : ByteArray) (ts : List TK) (la : Int) (w : World) (hs : s.size ≤ 1099511627776) (hsf : SfL ts (some la) s.data.toList) :
    Calls Tryz.prog 13 #[.string s] w fun e w' => ∃ a cap, e = .returned (.agg #[.slice a ts.length cap, .int .i64 la]) ∧ ts.length ≤ cap ∧ TInO w' a ts ∧ Below w.heap.size w w' := by
  have HN := Lib.hid (fun w => ref_new s w (by omega))
  have HSF := Lib.hid hsf
  have S0 := Lib.hid (st_alloc w none 0 0 0)
  have B0 := Lib.hid (alloc_below w (.cells #[.slice none 0 0, .int .i64 0] 43))
  have hz0 : (w.alloc (.cells #[.slice none 0 0, .int .i64 0] 43)).heap.size = w.heap.size + 1 := by simp
  have HLN := Lib.hid (show ts.length ≤ s.size by have := sf_len _ _ _ hsf; rw [toList_size] at this; exact this)
  clear hsf
  go_enter Tryz.func13, Tryz.ntmps13
  go_upto_region 1 with fail
  generalize w.alloc (.cells #[.slice none 0 0, .int .i64 0] 43) = w0 at *
  go_wp2_with fail
  with_reducible refine (HN.out _).mono ?_
  rintro e w1 ⟨rfl, hbel1⟩
  go_wp2_with fail
  have hq1 := cur_alloc (w := w1) (c := CS.new s) 60
  have b2 := hbel1.trans ((alloc_below w1 (.cells #[.string s, .int .i64 0, .int .i64 s.size, .int .i64 0] 60)).mono hbel1.size)
  have hGw := hbel1.size
  have hbel2 := B0.out.trans (b2.mono (by omega))
  have hs2 : StT (w1.alloc (.cells #[.string s, .int .i64 0, .int .i64 s.size, .int .i64 0] 60)) w.heap.size none 0 0 0 := S0.out.below b2 (by omega)
  have HR := Lib.hid (show TksRel s ts la w.heap.size w1.heap.size (w1.alloc (.cells #[.string s, .int .i64 0, .int .i64 s.size, .int .i64 0] 60)).heap.size w (.slice none 0 0) (.int .i64 0) (w1.alloc (.cells #[.string s, .int .i64 0, .int .i64 s.size, .int .i64 0] 60)) from
    ⟨0, 0, [], ts, Nat.zero_le _, by have := HLN.out; omega, rfl, rfl, trow_nil _ _ _, Nat.le_refl _, hq1, hs2, hbel2, Lib.hid rfl, Lib.hid (by rw [List.drop_zero]; exact HSF.out)⟩)
  have hGB : w1.heap.size < (w1.alloc (.cells #[.string s, .int .i64 0, .int .i64 s.size, .int .i64 0] 60)).heap.size := hq1.lt
  have hSG : w.heap.size < w1.heap.size := by omega
  clear hq1 hbel1 HN b2 hs2
  have hBw := hbel2.size
  clear hbel2
  generalize w1.alloc (.cells #[.string s, .int .i64 0, .int .i64 s.size, .int .i64 0] 60) = w2 at *
  generalize w2.heap.size = B at *
  generalize w1.heap.size = G at *
  clear hz0 hGw S0 B0 HSF
  go_loopw [4, 5] (fun v i wr => TksRel s ts la w.heap.size G B w v i wr) (fun _ i _ => s.size + 1 - (intOf i).toNat)
  case atStart => exact HR.out
  case round =>
    clear HR
    obtain ⟨k, n, pre, rest, hk, hnr, hpn, rfl, hrow, hBr, hq, hst, hbel, HTS, hsf⟩ := hrel
    have hok0 : (CS.new s).ok := CS.new_ok (by omega)
    have hlen : (CS.new s).bs.length = s.size := by rw [new_bytes, toList_size]
    have hok := CS.past_fine hok0 (k := k) (by omega)
    have hres : ((CS.new s).past k).tRes = tNx (s.data.toList.drop k) := by
      show (if (0 : Int) = 0 then tNx ((CS.new s).past k).bs else _) = _
      rw [if_pos rfl, CS.bs_past, new_bytes]
    have HNx := Lib.hid (fun w => rnext_any ((CS.new s).past k) w hok (show s.size ≤ 140737488351232 by omega))
    unfold RNx at HNx
    rw [hres] at HNx
    have hF := Lib.hid (fun h h0 => tNx_fine (l := s.data.toList.drop k) h h0)
    have hdl : (s.data.toList.drop k).length = s.size - k := by rw [List.length_drop, toList_size]
    have HPP := Lib.hid (show ∀ j, ((CS.new s).past k).past j = (CS.new s).past (k + j) from fun j => CS.past_past _ _ _)
    have hDD := Lib.hid (show ∀ j, (s.data.toList.drop k).drop j = s.data.toList.drop (k + j) from fun j => by rw [List.drop_drop])
    have hpl : pre.length ≤ 1099511627776 := by omega
    have hns : n ≤ s.size := by omega
    have hnS : decide ((n : Int) ≤ (s.size : Int)) = true := decide_eq_true (by omega)
    have hnw : IntKind.i64.wrap ((n : Int) + 1) = (n : Int) + 1 := i64_small (by omega) (by omega)
    have HPN := Lib.hid hpn
    have HL2 : Hid (SfL rest (some la) (s.data.toList.drop k)) := hsf
    clear hlen hok0 hres hok hpn hsf
    generalize hdk : s.data.toList.drop k = L at *
    have HDK := Lib.hid hdk
    clear hdk
    generalize (CS.new s).past k = d at *
    have a0 := hq.c0; have a1 := hq.c1; have a2 := hq.c2; have a3 := hq.c3
    go_wp2_with fail
    refine (HNx.out _).mono ?_
    rintro e w3 ⟨c3, rfl, hA3, hb3⟩
    clear a0 a1 a2 a3
    have HA3 := Lib.hid hA3
    have her := hA3.2.2.2.1
    have q3 := Below.cur hb3 hq hq.lt
    have row3 := hrow.below hb3 (Nat.le_refl _)
    have st3 := hst.below hb3 hst.lt
    have bel3 := hbel.trans (hb3.mono hbel.size)
    have hB3 := Nat.le_trans hBr hb3.size
    clear hq hrow hst hbel hBr hA3 HNx
    have x4 := cur_alloc (w := w3) (c := c3) 60
    have b4 := alloc_below w3 (.cells #[.string c3.s, .int .i64 c3.at_, .int .i64 c3.en, .int .i64 c3.er] 60)
    have s4 : (w3.alloc (.cells #[.string c3.s, .int .i64 c3.at_, .int .i64 c3.en, .int .i64 c3.er] 60)).heap.size = w3.heap.size + 1 := by simp
    have hst : ∃ w5, w5 = ((w3.alloc (.cells #[.string c3.s, .int .i64 c3.at_, .int .i64 c3.en, .int .i64 c3.er] 60)).alloc (.cells #[.int .u8 ((tNx L).tok.1.toNat : Int), .string (bA (tNx L).tok.2)] 62)) ∧ CurT 60 w5 w3.heap.size c3 ∧ TkT 62 w5 (w3.heap.size + 1) (tNx L).tok ∧ Below w3.heap.size w3 w5 := by
      refine ⟨_, rfl, x4.allocOld _, ?_, b4.trans ((alloc_below _ _).mono b4.size)⟩
      have := tk_alloc (w := (w3.alloc (.cells #[.string c3.s, .int .i64 c3.at_, .int .i64 c3.en, .int .i64 c3.er] 60))) (tNx L).tok 62
      rw [s4] at this
      exact this
    obtain ⟨w5, hw5, x5, y5, b5⟩ := hst
    clear x4 b4 s4
    have q5 := Below.cur b5 q3 q3.lt
    have row5 := row3.below b5 (Nat.le_refl _)
    have st5 := st3.below b5 st3.lt
    have bel5 := bel3.trans (b5.mono bel3.size)
    have hB5 := Nat.le_trans hB3 b5.size
    have hGne : G ≠ w3.heap.size := by have := q3.lt; omega
    have hSne : ¬ w.heap.size = w3.heap.size := by have := st3.lt; omega
    clear q3 row3 st3 bel3 b5 hb3
    unfold CS.val tkV
    match rest, hnr, HTS, HL2 with
    | [], hnr, HTS, HL2 =>
      have hz : (tNx L).tok.1 = 0 ∧ (tNx L).e = la := by
        rcases HL2.out with h | h
        · cases h
        · exact ⟨h.1, by have := h.2; simp only [Option.some.injEq] at this; exact this.symm⟩
      rw [hz.2] at her
      have p2 : ((tNx L).tok.1.toNat : Int) = 0 := by rw [hz.1]; rfl
      clear hz hF hDD
      obtain ⟨v0, c0, rfl, hc0, _⟩ := row5.room
      have HEN := Lib.hid (show ts = pre from by have := HTS.out; rw [List.append_nil] at this; exact this)
      have HFT := Lib.hid (((row5.only (set2_only w5 w.heap.size (.slice v0 pre.length c0) (.int .i64 la)) (by omega))).tin)
      have HF := Lib.hid (st5.setAll v0 pre.length c0 la)
      have HB := Lib.hid (set2_below bel5 (Nat.le_refl _) (.slice v0 pre.length c0) (.int .i64 la))
      rw [p2, her] at hw5 ⊢
      have c3' := x5.c3
      rw [her] at c3'
      have hy := y5.c0
      rw [p2] at hy
      have r0 := st5.c0; have r1 := st5.c1; have rf := st5.fr
      clear x5 y5 st5 row5 bel5
      by_cases he : la = 0
      · have p1 : (la != 0) = false := by rw [he]; rfl
        clear he
        go_upto_region 7 with fail
        rw [← hw5]
        clear hw5 her
        generalize w3.heap.size = G3 at *
        go_wp2
        refine bodyPost_ret (st_result Tryz.results13 HF.out rfl) rfl ?_
        exact ⟨v0, c0, by rw [HEN.out], by rw [HEN.out]; exact hc0, by rw [HEN.out]; exact HFT.out, HB.out⟩
      · have p1 : (la != 0) = true := bne_iff_ne.mpr he
        clear he
        go_upto_region 7 with fail
        rw [← hw5]
        clear hw5 her
        generalize w3.heap.size = G3 at *
        go_wp2
        refine bodyPost_ret (st_result Tryz.results13 HF.out rfl) rfl ?_
        exact ⟨v0, c0, by rw [HEN.out], by rw [HEN.out]; exact hc0, by rw [HEN.out]; exact HFT.out, HB.out⟩
    | t :: rest, hnr, HTS, HL2 =>
      obtain ⟨⟨he, ht, h0⟩, h2⟩ := HL2.out
      obtain ⟨f1, f2, _, _⟩ := hF.out he (by rw [ht]; exact h0)
      have hc3 := Lib.hid ((HA3.out.2.2.2.2 he).trans (HPP.out _))
      have HS2 := Lib.hid (show SfL rest (some la) (s.data.toList.drop (k + (tNx L).k)) by rw [← hDD.out]; exact h2)
      rw [he] at her
      rw [ht] at y5
      rw [ht, her] at hw5 ⊢
      rw [List.length_cons] at hnr
      have p2 : ((t.1.toNat : Int) == 0) = false := (eq8 t.1 0).trans (decide_eq_false h0)
      have HA := Lib.hid HTS.out
      clear h2 he ht h0 hF hDD HL2 HTS
      generalize (tNx L).k = kk at *
      go_upto_region 7 with fail
      rw [← hw5]
      clear hw5
      generalize w3.heap.size = G3 at *
      have a0 := x5.c0; have a1 := x5.c1; have a2 := x5.c2; have a3 := x5.c3
      rw [her] at a3
      have d0 := y5.c0
      have e0 := q5.c0; have e1 := q5.c1; have e2 := q5.c2; have e3 := q5.c3; have ef := q5.fr
      have hGl5 := y5.lt
      go_upto_region 10 with fail
      obtain ⟨w6, hw6⟩ : ∃ w6, w6 = ((((w5.setCell ⟨G, 0, none⟩ (.string c3.s)).setCell ⟨G, 1, none⟩ (.int .i64 c3.at_)).setCell ⟨G, 2, none⟩ (.int .i64 c3.en)).setCell ⟨G, 3, none⟩ (.int .i64 0)) := ⟨_, rfl⟩
      have q6 := q5.setAll c3
      have o6 := Only.setAll w5 G c3
      rw [her] at q6 o6
      rw [← hw6] at q6 o6 ⊢
      have y6 := y5.only o6 (by omega)
      have row6 := row5.only o6 hGB
      have st6 : StT w6 w.heap.size none 0 0 0 := (o6.block _ st5.lt (by omega)).trans st5
      have bel6 := bel5.trans (o6.below (by omega) bel5.size)
      have hB6 := Nat.le_trans hB5 o6.size
      clear hw6 a0 a1 a2 a3 d0 e0 e1 e2 e3 ef x5 y5 q5 row5 st5 bel5 hB5 o6
      have d0 := y6.c0; have d1 := y6.c1
      go_wp2_with (at_builtin; go_loud (refine wpList_append_tok rfl (.tmp 34) (.tmp 36) 41 rfl 62 Tryz.underlying41 infoR _ w6 B pre row6 hB6 rfl _ _ t rfl rfl rfl hpl ?_; intro v7 w7 hv7 hb7))
      have q7 := Below.cur hb7 q6 hGB
      have st7 : StT w7 w.heap.size none 0 0 0 := st6.below hb7 (by omega)
      have bel7 := bel6.trans (hb7.mono hBw)
      have hB7 := Nat.le_trans hB6 hb7.size
      rw [hc3.out] at q7
      go_roundw
      case rel => exact ⟨k + kk, n + 1, pre ++ [t], rest, by omega, by omega, by rw [List.length_append, List.length_singleton, HPN.out], by go_num, hv7, hB7, q7, st7, bel7, Lib.hid (by rw [HA.out]; simp), HS2⟩
      case measure => simp [intOf]; omega
end Go.Proofs.YtfighopfgllneaaGreatDoor
