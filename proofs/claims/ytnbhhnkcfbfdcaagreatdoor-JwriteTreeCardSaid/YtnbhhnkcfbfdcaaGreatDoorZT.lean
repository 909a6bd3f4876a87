/- Several texts in one (JrRj, JrRk, JrC, JrD): each begins with its own words. -/
import Derived.Test.YtnbhhnkcfbfdcaaGreatDoorZO
import Derived.Test.YtnbhhnkcfbfdcaaGreatDoorJtH
import Derived.Test.YtnbhhnkcfbfdcaaGreatDoorZQ
import Derived.Test.YtnbhhnkcfbfdcaaGreatDoorZN
import Derived.Maps.OwnSet
import Derived.StringKeys
/- The document's tokens, Read (package truchmanref13). -/
namespace Go.Proofs.YtnbhhnkcfbfdcaaGreatDoor
open Go Go.RowKit
set_option linter.unusedVariables false

/-- A text's tokens are of one kind alone. -/
theorem sf_one : ∀ (ts ts' : List TK) (e e' : Int) (l : List UInt8), SfL ts (some e) l → SfL ts' (some e') l → ts = ts' ∧ e = e'
  | [], [], e, e', l, h, h' => by
    rcases h with h | h
    · cases h
    · rcases h' with h' | h'
      · cases h'
      · exact ⟨rfl, by have h1 := h.2; have h2 := h'.2; simp only [Option.some.injEq] at h1 h2; rw [h1, h2]⟩
  | [], t' :: ts', e, e', l, h, h' => by
    rcases h with h | h
    · cases h
    · exact absurd h.1 (by rw [h'.1.2.1]; exact h'.1.2.2)
  | t :: ts, [], e, e', l, h, h' => by
    rcases h' with h' | h'
    · cases h'
    · exact absurd h'.1 (by rw [h.1.2.1]; exact h.1.2.2)
  | t :: ts, t' :: ts', e, e', l, h, h' => by
    obtain ⟨h1, h2⟩ := sf_one ts ts' e e' _ h.2 h'.2
    exact ⟨by rw [h1, ← h.1.2.1, h'.1.2.1], h2⟩
theorem st_result {fn : Func} {p : Tmp} (h : fn.results = #[.cell p 51]) {tmps : Array Value} {w : World} {d : Nat} {a : Option Addr} {n cap : Nat} {la : Int} (hd : StT w d a n cap la) (hp : tmps.getD p undef = .pointer (some ⟨d, 0, none⟩)) :
    (results fn tmps).run Tryz.prog w = .ok (.agg #[.slice a n cap, .int .i64 la]) w := by
  have h1 := run_loadVar_row (P := Tryz.prog) w d 51 51 #[.slice a n cap, .int .i64 la] (0, 0) _ hd Tryz.underlying51 rfl (by kernel_rfl)
  have hp' : tmps[p]?.getD undef = .pointer (some ⟨d, 0, none⟩) := by simpa using hp
  simp [results, h, hp', asAddr, h1]
theorem TRow.room {e : TypeId} {w : World} {B : Nat} {v : Value} {l : List TK} (h : TRow e w B v l) : ∃ a cap, v = .slice a l.length cap ∧ l.length ≤ cap ∧ TInO w a l := by
  obtain ⟨a, cap, e1, hi⟩ := h.inn
  refine ⟨a, cap, e1, ?_, TInO.of hi⟩
  rcases h.2 with ⟨e2, hn⟩ | ⟨g, cap', cur, e2, _, _, hc, _⟩
  · rw [hn]; exact Nat.zero_le _
  · rw [e1] at e2
    simp only [Value.slice.injEq] at e2
    rw [e2.2.2]; exact hc
theorem TRow.tin {e : TypeId} {w : World} {B : Nat} {a : Option Addr} {n c : Nat} {l : List TK} (h : TRow e w B (.slice a n c) l) : TInO w a l := by
  obtain ⟨a2, c2, e1, _, h2⟩ := h.room
  simp only [Value.slice.injEq] at e1
  rw [e1.1]; exact h2
theorem set2_only (w : World) (b : Nat) (u v : Value) : Only b w ((w.setCell ⟨b, 0, none⟩ u).setCell ⟨b, 1, none⟩ v) := ⟨rfl, rfl, rfl, by simp, fun k hk hn => set2_lt w b u v k hn⟩
def TksRel (s : ByteArray) (ts : List TK) (la : Int) (S G B : Nat) (W : World) (v i : Value) (wr : World) : Prop :=
  ∃ (k n : Nat) (pre rest : List TK), k ≤ s.size ∧ n + rest.length ≤ s.size ∧ pre.length = n ∧ i = .int .i64 (n : Nat) ∧ TRow 78 wr B v pre ∧ B ≤ wr.heap.size ∧ CurT 76 wr G ((CS.new s).past k) ∧ StT wr S none 0 0 0 ∧ Below W.heap.size W wr ∧
    Hid (ts = pre ++ rest) ∧ Hid (SfL rest (some la) (s.data.toList.drop k))
set_option maxRecDepth 20000 in
set_option maxHeartbeats 4000000 in
theorem tokens_any (s : ByteArray) (ts : List TK) (la : Int) (w : World) (hs : s.size ≤ 1099511627776) (hsf : SfL ts (some la) s.data.toList) :
    Calls Tryz.prog 22 #[.string s] w fun e w' => ∃ a cap, e = .returned (.agg #[.slice a ts.length cap, .int .i64 la]) ∧ ts.length ≤ cap ∧ TInO w' a ts ∧ Below w.heap.size w w' := by
  have HN := Lib.hid (fun w => ref_new s w (by omega))
  have HSF := Lib.hid hsf
  have S0 := Lib.hid (st_alloc w none 0 0 0)
  have B0 := Lib.hid (alloc_below w (.cells #[.slice none 0 0, .int .i64 0] 51))
  have hz0 : (w.alloc (.cells #[.slice none 0 0, .int .i64 0] 51)).heap.size = w.heap.size + 1 := by simp
  have HLN := Lib.hid (show ts.length ≤ s.size by have := sf_len _ _ _ hsf; rw [toList_size] at this; exact this)
  clear hsf
  go_enter Tryz.func22, Tryz.ntmps22
  go_upto_region 1 with fail
  generalize w.alloc (.cells #[.slice none 0 0, .int .i64 0] 51) = w0 at *
  go_wp2_with fail
  with_reducible refine (HN.out _).mono ?_
  rintro e w1 ⟨rfl, hbel1⟩
  go_wp2_with fail
  have hq1 := cur_alloc (w := w1) (c := CS.new s) 76
  have b2 := hbel1.trans ((alloc_below w1 (.cells #[.string s, .int .i64 0, .int .i64 s.size, .int .i64 0] 76)).mono hbel1.size)
  have hGw := hbel1.size
  have hbel2 := B0.out.trans (b2.mono (by omega))
  have hs2 : StT (w1.alloc (.cells #[.string s, .int .i64 0, .int .i64 s.size, .int .i64 0] 76)) w.heap.size none 0 0 0 := S0.out.below b2 (by omega)
  have HR := Lib.hid (show TksRel s ts la w.heap.size w1.heap.size (w1.alloc (.cells #[.string s, .int .i64 0, .int .i64 s.size, .int .i64 0] 76)).heap.size w (.slice none 0 0) (.int .i64 0) (w1.alloc (.cells #[.string s, .int .i64 0, .int .i64 s.size, .int .i64 0] 76)) from
    ⟨0, 0, [], ts, Nat.zero_le _, by have := HLN.out; omega, rfl, rfl, trow_nil _ _ _, Nat.le_refl _, hq1, hs2, hbel2, Lib.hid rfl, Lib.hid (by rw [List.drop_zero]; exact HSF.out)⟩)
  have hGB : w1.heap.size < (w1.alloc (.cells #[.string s, .int .i64 0, .int .i64 s.size, .int .i64 0] 76)).heap.size := hq1.lt
  have hSG : w.heap.size < w1.heap.size := by omega
  clear hq1 hbel1 HN b2 hs2
  have hBw := hbel2.size
  clear hbel2
  generalize w1.alloc (.cells #[.string s, .int .i64 0, .int .i64 s.size, .int .i64 0] 76) = w2 at *
  generalize w2.heap.size = B at *
  generalize w1.heap.size = G at *
  clear hz0 hGw S0 B0 HSF
  go_loopw [4, 5] (fun v i wr => TksRel s ts la w.heap.size G B w v i wr) (fun _ i _ => s.size + 1 - (intOf i).toNat)
  case atStart => exact HR.out
  case round =>
    clear HR
    obtain ⟨k, n, pre, rest, hk, hnr, hpn, rfl, hrow, hBr, hq, hst, hbel, HTS, hsf⟩ := hrel
    have hok0 : (CS.new s).ok := CS.new_ok (by omega)
    have hlen : (CS.new s).bs.length = s.size := by rw [new_bytes, toList_size]
    have hok := CS.past_fine hok0 (k := k) (by omega)
    have hres : ((CS.new s).past k).tRes = tNx (s.data.toList.drop k) := by
      show (if (0 : Int) = 0 then tNx ((CS.new s).past k).bs else _) = _
      rw [if_pos rfl, CS.bs_past, new_bytes]
    have HNx := Lib.hid (fun w => rnext_any ((CS.new s).past k) w hok (show s.size ≤ 140737488351232 by omega))
    unfold RNx at HNx
    rw [hres] at HNx
    have hF := Lib.hid (fun h h0 => tNx_fine (l := s.data.toList.drop k) h h0)
    have hdl : (s.data.toList.drop k).length = s.size - k := by rw [List.length_drop, toList_size]
    have HPP := Lib.hid (show ∀ j, ((CS.new s).past k).past j = (CS.new s).past (k + j) from fun j => CS.past_past _ _ _)
    have hDD := Lib.hid (show ∀ j, (s.data.toList.drop k).drop j = s.data.toList.drop (k + j) from fun j => by rw [List.drop_drop])
    have hpl : pre.length ≤ 1099511627776 := by omega
    have hns : n ≤ s.size := by omega
    have hnS : decide ((n : Int) ≤ (s.size : Int)) = true := decide_eq_true (by omega)
    have hnw : IntKind.i64.wrap ((n : Int) + 1) = (n : Int) + 1 := i64_small (by omega) (by omega)
    have HPN := Lib.hid hpn
    have HL2 : Hid (SfL rest (some la) (s.data.toList.drop k)) := hsf
    clear hlen hok0 hres hok hpn hsf
    generalize hdk : s.data.toList.drop k = L at *
    have HDK := Lib.hid hdk
    clear hdk
    generalize (CS.new s).past k = d at *
    have a0 := hq.c0; have a1 := hq.c1; have a2 := hq.c2; have a3 := hq.c3
    go_wp2_with fail
    refine (HNx.out _).mono ?_
    rintro e w3 ⟨c3, rfl, hA3, hb3⟩
    clear a0 a1 a2 a3
    have HA3 := Lib.hid hA3
    have her := hA3.2.2.2.1
    have q3 := Below.cur hb3 hq hq.lt
    have row3 := hrow.below hb3 (Nat.le_refl _)
    have st3 := hst.below hb3 hst.lt
    have bel3 := hbel.trans (hb3.mono hbel.size)
    have hB3 := Nat.le_trans hBr hb3.size
    clear hq hrow hst hbel hBr hA3 HNx
    have x4 := cur_alloc (w := w3) (c := c3) 76
    have b4 := alloc_below w3 (.cells #[.string c3.s, .int .i64 c3.at_, .int .i64 c3.en, .int .i64 c3.er] 76)
    have s4 : (w3.alloc (.cells #[.string c3.s, .int .i64 c3.at_, .int .i64 c3.en, .int .i64 c3.er] 76)).heap.size = w3.heap.size + 1 := by simp
    have hst : ∃ w5, w5 = ((w3.alloc (.cells #[.string c3.s, .int .i64 c3.at_, .int .i64 c3.en, .int .i64 c3.er] 76)).alloc (.cells #[.int .u8 ((tNx L).tok.1.toNat : Int), .string (bA (tNx L).tok.2)] 78)) ∧ CurT 76 w5 w3.heap.size c3 ∧ TkT 78 w5 (w3.heap.size + 1) (tNx L).tok ∧ Below w3.heap.size w3 w5 := by
      refine ⟨_, rfl, x4.allocOld _, ?_, b4.trans ((alloc_below _ _).mono b4.size)⟩
      have := tk_alloc (w := (w3.alloc (.cells #[.string c3.s, .int .i64 c3.at_, .int .i64 c3.en, .int .i64 c3.er] 76))) (tNx L).tok 78
      rw [s4] at this
      exact this
    obtain ⟨w5, hw5, x5, y5, b5⟩ := hst
    clear x4 b4 s4
    have q5 := Below.cur b5 q3 q3.lt
    have row5 := row3.below b5 (Nat.le_refl _)
    have st5 := st3.below b5 st3.lt
    have bel5 := bel3.trans (b5.mono bel3.size)
    have hB5 := Nat.le_trans hB3 b5.size
    have hGne : G ≠ w3.heap.size := by have := q3.lt; omega
    have hSne : ¬ w.heap.size = w3.heap.size := by have := st3.lt; omega
    clear q3 row3 st3 bel3 b5 hb3
    unfold CS.val tkV
    match rest, hnr, HTS, HL2 with
    | [], hnr, HTS, HL2 =>
      have hz : (tNx L).tok.1 = 0 ∧ (tNx L).e = la := by
        rcases HL2.out with h | h
        · cases h
        · exact ⟨h.1, by have := h.2; simp only [Option.some.injEq] at this; exact this.symm⟩
      rw [hz.2] at her
      have p2 : ((tNx L).tok.1.toNat : Int) = 0 := by rw [hz.1]; rfl
      clear hz hF hDD
      obtain ⟨v0, c0, rfl, hc0, _⟩ := row5.room
      have HEN := Lib.hid (show ts = pre from by have := HTS.out; rw [List.append_nil] at this; exact this)
      have HFT := Lib.hid (((row5.only (set2_only w5 w.heap.size (.slice v0 pre.length c0) (.int .i64 la)) (by omega))).tin)
      have HF := Lib.hid (st5.setAll v0 pre.length c0 la)
      have HB := Lib.hid (set2_below bel5 (Nat.le_refl _) (.slice v0 pre.length c0) (.int .i64 la))
      rw [p2, her] at hw5 ⊢
      have c3' := x5.c3
      rw [her] at c3'
      have hy := y5.c0
      rw [p2] at hy
      have r0 := st5.c0; have r1 := st5.c1; have rf := st5.fr
      clear x5 y5 st5 row5 bel5
      by_cases he : la = 0
      · have p1 : (la != 0) = false := by rw [he]; rfl
        clear he
        go_upto_region 7 with fail
        rw [← hw5]
        clear hw5 her
        generalize w3.heap.size = G3 at *
        go_wp2
        refine bodyPost_ret (st_result Tryz.results22 HF.out rfl) rfl ?_
        exact ⟨v0, c0, by rw [HEN.out], by rw [HEN.out]; exact hc0, by rw [HEN.out]; exact HFT.out, HB.out⟩
      · have p1 : (la != 0) = true := bne_iff_ne.mpr he
        clear he
        go_upto_region 7 with fail
        rw [← hw5]
        clear hw5 her
        generalize w3.heap.size = G3 at *
        go_wp2
        refine bodyPost_ret (st_result Tryz.results22 HF.out rfl) rfl ?_
        exact ⟨v0, c0, by rw [HEN.out], by rw [HEN.out]; exact hc0, by rw [HEN.out]; exact HFT.out, HB.out⟩
    | t :: rest, hnr, HTS, HL2 =>
      obtain ⟨⟨he, ht, h0⟩, h2⟩ := HL2.out
      obtain ⟨f1, f2, _, _⟩ := hF.out he (by rw [ht]; exact h0)
      have hc3 := Lib.hid ((HA3.out.2.2.2.2 he).trans (HPP.out _))
      have HS2 := Lib.hid (show SfL rest (some la) (s.data.toList.drop (k + (tNx L).k)) by rw [← hDD.out]; exact h2)
      rw [he] at her
      rw [ht] at y5
      rw [ht, her] at hw5 ⊢
      rw [List.length_cons] at hnr
      have p2 : ((t.1.toNat : Int) == 0) = false := (eq8 t.1 0).trans (decide_eq_false h0)
      have HA := Lib.hid HTS.out
      clear h2 he ht h0 hF hDD HL2 HTS
      generalize (tNx L).k = kk at *
      go_upto_region 7 with fail
      rw [← hw5]
      clear hw5
      generalize w3.heap.size = G3 at *
      have a0 := x5.c0; have a1 := x5.c1; have a2 := x5.c2; have a3 := x5.c3
      rw [her] at a3
      have d0 := y5.c0
      have e0 := q5.c0; have e1 := q5.c1; have e2 := q5.c2; have e3 := q5.c3; have ef := q5.fr
      have hGl5 := y5.lt
      go_upto_region 10 with fail
      obtain ⟨w6, hw6⟩ : ∃ w6, w6 = ((((w5.setCell ⟨G, 0, none⟩ (.string c3.s)).setCell ⟨G, 1, none⟩ (.int .i64 c3.at_)).setCell ⟨G, 2, none⟩ (.int .i64 c3.en)).setCell ⟨G, 3, none⟩ (.int .i64 0)) := ⟨_, rfl⟩
      have q6 := q5.setAll c3
      have o6 := Only.setAll w5 G c3
      rw [her] at q6 o6
      rw [← hw6] at q6 o6 ⊢
      have y6 := y5.only o6 (by omega)
      have row6 := row5.only o6 hGB
      have st6 : StT w6 w.heap.size none 0 0 0 := (o6.block _ st5.lt (by omega)).trans st5
      have bel6 := bel5.trans (o6.below (by omega) bel5.size)
      have hB6 := Nat.le_trans hB5 o6.size
      clear hw6 a0 a1 a2 a3 d0 e0 e1 e2 e3 ef x5 y5 q5 row5 st5 bel5 hB5 o6
      have d0 := y6.c0; have d1 := y6.c1
      go_wp2_with (at_builtin; go_loud (refine wpList_append_tok rfl (.tmp 34) (.tmp 36) 49 rfl 78 Tryz.underlying49 infoR _ w6 B pre row6 hB6 rfl _ _ t rfl rfl rfl hpl ?_; intro v7 w7 hv7 hb7))
      have q7 := Below.cur hb7 q6 hGB
      have st7 : StT w7 w.heap.size none 0 0 0 := st6.below hb7 (by omega)
      have bel7 := bel6.trans (hb7.mono hBw)
      have hB7 := Nat.le_trans hB6 hb7.size
      rw [hc3.out] at q7
      go_roundw
      case rel => exact ⟨k + kk, n + 1, pre ++ [t], rest, by omega, by omega, by rw [List.length_append, List.length_singleton, HPN.out], by go_num, hv7, hB7, q7, st7, bel7, Lib.hid (by rw [HA.out]; simp), HS2⟩
      case measure => simp [intOf]; omega
end Go.Proofs.YtnbhhnkcfbfdcaaGreatDoor
/- The document's Read (package truchmanref13), over any tokens. -/
namespace Go.Proofs.YtnbhhnkcfbfdcaaGreatDoor
open Go Go.RowKit
set_option linter.unusedVariables false

theorem rdT_ref (la : Int) : ∀ (ts : List TK) (R : TRs), R = rvT (eE (some la)) (4 * ts.length + 2 - 4) 0 [] ts → (R.e ≠ 0 → rdT ts (some la) = ([], R.e)) ∧ (R.e = 0 → (R.r = [] → la = 0 → rdT ts (some la) = (R.l, 0)) ∧ ((R.r ≠ [] ∨ la ≠ 0) → rdT ts (some la) = ([], 2)))
  | [], R, e => by
    subst e
    exact ⟨fun _ => rfl, fun h => absurd h (eE_ne (some la))⟩
  | t :: ts1, R, e => by
    have e2 : 4 * (t :: ts1).length + 2 - 4 = 4 * ts1.length + 2 := by rw [List.length_cons]; omega
    rw [e2] at e
    have e3 : R = vTr (eE (some la)) (4 * ts1.length + 2) t [] 0 ts1 := e
    unfold rdT
    simp only
    rw [← e3]
    refine ⟨fun h => by rw [if_neg h], fun h => ?_⟩
    rw [if_pos h]
    refine ⟨fun h1 h2 => by rw [if_pos ⟨h1, by rw [h2]⟩], fun h1 => ?_⟩
    rw [if_neg]
    rintro ⟨h2, h3⟩
    simp only [Option.some.injEq] at h3
    rcases h1 with h1 | h1
    · exact h1 h2
    · exact h1 h3
set_option maxRecDepth 20000 in
set_option maxHeartbeats 4000000 in
theorem rread_any (s : ByteArray) (ts : List TK) (la : Int) (w : World) (hs : s.size ≤ 1099511627774) (hsf : SfL ts (some la) s.data.toList) (hsg : SgE ts) :
    Calls Tryz.prog 6 #[.string s] w fun e w' => ∃ v, e = .returned (.tuple #[v, .int .i64 (rdT ts (some la)).2]) ∧ NRow 28 w' w.heap.size v (rdT ts (some la)).1 ∧ Below w.heap.size w w' := by
  have hlen : ts.length ≤ s.size := by have := sf_len _ _ _ hsf; rw [toList_size] at this; exact this
  have HT := Lib.hid (tokens_any s ts la w (by omega) hsf)
  have HV := Lib.hid (fun a cap w hin hcap => (trees_any la (4 * ts.length + 2 - 4)).1 a cap ts [] 0 w hin hcap hsg (by omega) (by omega) (by omega))
  have HRD := Lib.hid (rdT_ref la ts _ rfl)
  have hl2 : ts.length ≤ 1099511627774 := by omega
  generalize rvT (eE (some la)) (4 * ts.length + 2 - 4) 0 [] ts = R at *
  generalize rdT ts (some la) = X at *
  clear hsf hsg hlen
  go_enter Tryz.func6, Tryz.ntmps6
  go_wp2_with fail
  refine HT.out.mono ?_
  rintro e w1 ⟨a, cap, rfl, hcap, hin, b1⟩
  have S0 := st_alloc w1 a ts.length cap la
  have B2 := Lib.hid (b1.trans ((alloc_below w1 (.cells #[.slice a ts.length cap, .int .i64 la] 51)).mono b1.size))
  have HIN := Lib.hid (hin.below (alloc_below w1 (.cells #[.slice a ts.length cap, .int .i64 la] 51)) (Nat.le_refl _))
  clear HT hin b1
  go_upto_region 2 with fail
  have s0 := S0.c0; have s1 := S0.c1
  clear S0
  generalize w1.alloc (.cells #[.slice a ts.length cap, .int .i64 la] 51) = w2 at *
  have HC := Lib.hid (show Calls Tryz.prog 23 #[.agg #[.slice a ts.length cap, .int .i64 la], .string ⟨#[]⟩, .int .i64 0] w2 (RVp a ts la R w2) from HV.out a cap w2 HIN.out hcap)
  clear HV
  go_wp2_with fail
  refine HC.out.mono ?_
  rintro e w3 ⟨nv, A, n, c, m, rfl, hg, hrow, hml, b3⟩
  have S4 := Lib.hid (st_alloc w3 A n c la)
  have R4 := Lib.hid ((hrow.below (alloc_below w3 (.cells #[.slice A n c, .int .i64 la] 51)) (Nat.le_refl _)).base B2.out.size)
  have B4 := Lib.hid ((B2.out.trans (b3.mono B2.out.size)).trans ((alloc_below w3 (.cells #[.slice A n c, .int .i64 la] 51)).mono (Nat.le_trans B2.out.size b3.size)))
  clear hrow b3 s0 s1 HC
  by_cases he : R.e = 0
  · have p1 : (R.e != 0) = false := by rw [he]; rfl
    obtain ⟨g1, g2, g3, g4⟩ := hg he
    subst g1
    obtain ⟨h1, h2⟩ := HRD.out.2 he
    have H1 := Lib.hid h1; have H2 := Lib.hid h2
    have HG2 := Lib.hid g2
    clear he hg h1 h2 g2 g4 HRD
    generalize R.e = er at *
    go_upto_region 3 with fail
    have s0 := S4.out.c0; have s1 := S4.out.c1
    generalize w3.alloc (.cells #[.slice A n c, .int .i64 la] 51) = w4 at *
    by_cases hn : n = 0
    · have q1 : decide ((0 : Int) < (n : Int)) = false := decide_eq_false (by omega)
      have q2 : decide (0 < n) = false := decide_eq_false (by omega)
      have q3 : ¬ 0 < n := by omega
      have HR := Lib.hid (show R.r = [] from List.eq_nil_of_length_eq_zero (by rw [← HG2.out]; exact hn))
      clear hn
      by_cases hla : la = 0
      · have q4 : (la != 0) = false := by rw [hla]; rfl
        have HX := Lib.hid (H1.out HR.out hla)
        clear hla
        go_wp2
        go_ret2
        exact ⟨nv, by rw [HX.out]; rfl, by rw [HX.out]; exact R4.out, B4.out⟩
      · have q4 : (la != 0) = true := bne_iff_ne.mpr hla
        have HX := Lib.hid (H2.out (.inr hla))
        clear hla
        go_wp2
        go_ret2
        exact ⟨.slice none 0 0, by rw [HX.out]; rfl, by rw [HX.out]; exact nrow_nil _ _ _, B4.out⟩
    · have q1 : decide ((0 : Int) < (n : Int)) = true := decide_eq_true (by omega)
      have q2 : decide (0 < n) = true := decide_eq_true (by omega)
      have q3 : 0 < n := by omega
      have HX := Lib.hid (H2.out (.inl (fun e => hn (by rw [HG2.out, e]; rfl))))
      clear hn
      go_wp2
      go_ret2
      exact ⟨.slice none 0 0, by rw [HX.out]; rfl, by rw [HX.out]; exact nrow_nil _ _ _, B4.out⟩
  · have p1 : (R.e != 0) = true := bne_iff_ne.mpr he
    have HX := Lib.hid (HRD.out.1 he)
    clear he hg HRD
    generalize R.e = er at *
    go_upto_region 3 with fail
    generalize w3.alloc (.cells #[.slice A n c, .int .i64 la] 51) = w4 at *
    go_wp2
    go_ret2
    exact ⟨.slice none 0 0, by rw [HX.out]; rfl, by rw [HX.out]; exact nrow_nil _ _ _, B4.out⟩
end Go.Proofs.YtnbhhnkcfbfdcaaGreatDoor
/- Package jtree: the closures of list and object: what they hold, what they do. -/
namespace Go.Proofs.YtnbhhnkcfbfdcaaGreatDoor
open Go Go.RowKit Go.Maps
set_option linter.unusedVariables false

/-- The variables that list's closure holds. -/
structure CapL (rb d M pr pd : Nat) (w : World) : Prop where
  r : w.heap[pr]? = some (.cells #[.pointer (some ⟨rb, 0, none⟩)] 61 (0, 0))
  d : w.heap[pd]? = some (.cells #[.int .i64 (d : Nat)] 3 (0, 0))
  lr : M ≤ pr
  ld : M ≤ pd
theorem nn_of {w : World} {k : Nat} {cs : Array Value} {t : TypeId} {fz : Nat × Nat} (h : w.heap[k]? = some (.cells cs t fz)) (hne : t ≠ 90) : NN w k := fun cs2 fz2 e => by
  rw [h] at e
  simp only [Option.some.injEq, Obj.cells.injEq] at e
  exact hne e.2.1
section
variable {cb rb B d M N pr pd pk m : Nat} {w w' : World} {keys : List (List UInt8)}
theorem CapL.keep (h : CapL rb d M pr pd w) (hr : w'.heap[pr]? = w.heap[pr]?) (hd : w'.heap[pd]? = w.heap[pd]?) : CapL rb d M pr pd w' := ⟨hr.trans h.r, hd.trans h.d, h.lr, h.ld⟩
theorem CapL.only (h : CapL rb d M pr pd w) (ho : Only cb w w') (hc : cb < M) : CapL rb d M pr pd w' :=
  h.keep (ho.block pr (lt_of_block h.r) (by have := h.lr; omega)) (ho.block pd (lt_of_block h.d) (by have := h.ld; omega))
theorem CapL.next (h : CapL rb d M pr pd w) (hb : Below w.heap.size w w') : CapL rb d M pr pd w' := h.keep (hb.block pr (lt_of_block h.r)) (hb.block pd (lt_of_block h.d))
theorem CapL.kp (h : CapL rb d M pr pd w) (hk : Kp N cb rb B w w') (hN : w.heap.size ≤ N) (hc : cb < M) (hr : rb < M) : CapL rb d M pr pd w' := by
  have h1 := h.lr; have h2 := h.ld
  exact h.keep (hk.block pr (Nat.lt_of_lt_of_le (lt_of_block h.r) hN) (by omega) (by omega) (.inr (nn_of h.r (by decide))))
    (hk.block pd (Nat.lt_of_lt_of_le (lt_of_block h.d) hN) (by omega) (by omega) (.inr (nn_of h.d (by decide))))
theorem CapL.c0 (h : CapL rb d M pr pd w) : w.cell? ⟨pr, 0, none⟩ = some (.pointer (some ⟨rb, 0, none⟩)) := by rw [cell_of_row w pr 0 _ _ _ h.r]; rfl
theorem CapL.c1 (h : CapL rb d M pr pd w) : w.cell? ⟨pd, 0, none⟩ = some (.int .i64 (d : Nat)) := by rw [cell_of_row w pd 0 _ _ _ h.d]; rfl
/-- The keys that a map holds. -/
def KeyD (D : DataW Unit) (keys : List (List UInt8)) : Prop := ∀ s : List UInt8, Maps.has D (.string s) = decide (s ∈ keys)
theorem KeyD.none : KeyD (.map []) [] := fun s => by simp [Maps.has]
theorem KeyD.more {D : DataW Unit} (h : KeyD D keys) (hD : IsMap D) {s : List UInt8} (hk : WideAt.IsKeyLit (.string s)) (u : DataW Unit) : KeyD (D.put (.string s) u) (keys ++ [s]) := fun z => by
  by_cases e : z = s
  · subst e
    rw [has_put_same hD hk]; simp
  · rw [has_put_other (fun e2 => e (by simpa using e2)), h z]
    simp [e]
/-- The variables that object's closure holds. -/
structure CapO (rb d M pk pr pd m : Nat) (keys : List (List UInt8)) (w : World) : Prop where
  cl : CapL rb d M pr pd w
  k : w.heap[pk]? = some (.cells #[.map (some m)] 107 (0, 0))
  lk : M ≤ pk
  lm : M ≤ m
  own : ∃ D, w.ownsMap Tryz.prog 9 unitElem m keys.length D ∧ KeyD D keys
theorem CapO.mlt (h : CapO rb d M pk pr pd m keys w) : m < w.heap.size := by obtain ⟨D, ho, _⟩ := h.own; exact ho.lt
theorem CapO.nm (h : CapO rb d M pk pr pd m keys w) : NN w m := fun cs fz e => by
  obtain ⟨D, ⟨es, clock, h1, _⟩, _⟩ := h.own
  rw [h1] at e; cases e
theorem CapO.keep (h : CapO rb d M pk pr pd m keys w) (hr : w'.heap[pr]? = w.heap[pr]?) (hd : w'.heap[pd]? = w.heap[pd]?) (hk : w'.heap[pk]? = w.heap[pk]?) (hm : w'.heap[m]? = w.heap[m]?) : CapO rb d M pk pr pd m keys w' := by
  refine ⟨h.cl.keep hr hd, hk.trans h.k, h.lk, h.lm, ?_⟩
  obtain ⟨D, ⟨es, clock, h1, h2, h3, h4⟩, hs⟩ := h.own
  exact ⟨D, ⟨es, clock, hm.trans h1, h2, h3, h4⟩, hs⟩
theorem CapO.only (h : CapO rb d M pk pr pd m keys w) (ho : Only cb w w') (hc : cb < M) : CapO rb d M pk pr pd m keys w' := by
  have h1 := h.cl.lr; have h2 := h.cl.ld; have h3 := h.lk; have h4 := h.lm
  exact h.keep (ho.block pr (lt_of_block h.cl.r) (by omega)) (ho.block pd (lt_of_block h.cl.d) (by omega)) (ho.block pk (lt_of_block h.k) (by omega)) (ho.block m h.mlt (by omega))
theorem CapO.next (h : CapO rb d M pk pr pd m keys w) (hb : Below w.heap.size w w') : CapO rb d M pk pr pd m keys w' :=
  h.keep (hb.block pr (lt_of_block h.cl.r)) (hb.block pd (lt_of_block h.cl.d)) (hb.block pk (lt_of_block h.k)) (hb.block m h.mlt)
theorem CapO.kp (h : CapO rb d M pk pr pd m keys w) (hk : Kp N cb rb B w w') (hN : w.heap.size ≤ N) (hc : cb < M) (hr : rb < M) : CapO rb d M pk pr pd m keys w' := by
  have h1 := h.cl.lr; have h2 := h.cl.ld; have h3 := h.lk; have h4 := h.lm
  exact h.keep (hk.block pr (Nat.lt_of_lt_of_le (lt_of_block h.cl.r) hN) (by omega) (by omega) (.inr (nn_of h.cl.r (by decide))))
    (hk.block pd (Nat.lt_of_lt_of_le (lt_of_block h.cl.d) hN) (by omega) (by omega) (.inr (nn_of h.cl.d (by decide))))
    (hk.block pk (Nat.lt_of_lt_of_le (lt_of_block h.k) hN) (by omega) (by omega) (.inr (nn_of h.k (by decide))))
    (hk.block m (Nat.lt_of_lt_of_le h.mlt hN) (by omega) (by omega) (.inr h.nm))
theorem CapO.cm (h : CapO rb d M pk pr pd m keys w) : w.cell? ⟨pk, 0, none⟩ = some (.map (some m)) := by rw [cell_of_row w pk 0 _ _ _ h.k]; rfl
end
/-- Tokens from B on that were there are there yet. -/
def TkK (B : Nat) (w w' : World) : Prop := ∀ T x, B ≤ T → TkT 68 w T x → TkT 68 w' T x
theorem TkK.refl (B : Nat) (w : World) : TkK B w w := fun _ _ _ h => h
theorem TkK.trans {B : Nat} {w w1 w2 : World} (h : TkK B w w1) (h2 : TkK B w1 w2) : TkK B w w2 := fun T x hT ht => h2 T x hT (h T x hT ht)
theorem TkK.below {B : Nat} {w w' : World} (h : Below w.heap.size w w') : TkK B w w' := fun T x _ ht => ht.below h ht.lt
theorem TkK.only {B cb : Nat} {w w' : World} (h : Only cb w w') (hc : cb < B) : TkK B w w' := fun T x hT ht => ht.only h (by omega)
theorem TkK.kp {B N cb rb : Nat} {w w' : World} (h : Kp N cb rb B w w') (hN : w.heap.size ≤ N) (hc : cb < B) (hr : rb < B) : TkK B w w' := fun T x hT ht =>
  (h.block T (Nat.lt_of_lt_of_le ht.lt hN) (by omega) (by omega) (.inr (nn_of ht (by decide)))).trans ht
theorem TkK.turned {B m : Nat} {w w' : World} (h : ∀ k, k < w.heap.size → k ≠ m → w'.heap[k]? = w.heap[k]?) (hm : ∃ es clock, w.heap[m]? = some (.map es clock)) : TkK B w w' := fun T x hT ht =>
  (h T ht.lt (fun e => by
    obtain ⟨es, clock, h1⟩ := hm
    unfold TkT at ht
    rw [e, h1] at ht; cases ht)).trans ht
/-- What a closure does with a part, that begins with u. -/
def GPost (M cb rb B : Nat) (L : List ND) (la : Option Int) (R : TRs) (C : World → Prop) (w : World) (e : Ending) (w' : World) : Prop :=
  ((R.e = 0 ∧ e = .returned (.tuple #[]) ∧ (∃ v', RdS w' cb rb B v' (L ++ R.l) R.r la) ∧ C w' ∧ TkK B w w') ∨ (R.e ≠ 0 ∧ e = pan R.e)) ∧ Kp M cb rb B w w'
def GHyp (cb rb B M f d : Nat) (ob : Bool) (w : World) (v : Value) (L : List ND) (u : TK) (keys : List (List UInt8)) (ts : List TK) (la : Option Int) : Prop :=
  RdS w cb rb B v L ts la ∧ B ≤ M ∧ M ≤ w.heap.size ∧ SgE (u :: ts) ∧ d < 32 ∧ 4 * ts.length + 3 ≤ f ∧ L.length + ts.length + 1 ≤ 1099511627776 ∧ keys.length + ts.length ≤ 1099511627776 ∧ Kn la (gTr (eE la) f ob u (d + 1) keys ts)
set_option maxRecDepth 20000 in
set_option maxHeartbeats 1000000 in
theorem glist_any {cb rb B f : Nat} (hv : ValC cb rb B f) {M d pr pd : Nat} (w : World) (v : Value) (L : List ND) (u : TK) (keys : List (List UInt8)) (ts : List TK) (la : Option Int)
    (h : GHyp cb rb B M (f + 1) d false w v L u keys ts la) (hc : CapL rb d M pr pd w) :
    Calls Tryz.prog 72 #[tkV u, .pointer (some ⟨pr, 0, none⟩), .pointer (some ⟨pd, 0, none⟩)] w (GPost M cb rb B L la (gTr (eE la) (f + 1) false u (d + 1) keys ts) (CapL rb d M pr pd) w) := by
  obtain ⟨h1, hBM, hM, hs, hd, hf, hL, hK, hk⟩ := h
  rw [gTr_list] at hk ⊢
  have g0 := tk_laid (w := w) u 68
  have s0 := h1.alloc (.cells #[.int .u8 (u.1.toNat : Int), .string (bA u.2)] 68)
  have b0 := alloc_below w (.cells #[.int .u8 (u.1.toNat : Int), .string (bA u.2)] 68)
  have n0 := hc.next b0
  have hcB := h1.lc
  have hrB := h1.lr
  have T0 := Lib.hid (TkK.below (B := B) b0)
  have hcM : cb < M := by have := h1.lc; omega
  have hrM : rb < M := by have := h1.lr; omega
  have x0 := n0.c0; have x1 := n0.c1
  have y0 := g0.c0; have y1 := g0.c1
  have zw : IntKind.i64.wrap ((d : Int) + 1) = (d : Int) + 1 := i64_small (by omega) (by omega)
  have HV := Lib.hid (show Calls Tryz.prog 30 #[.pointer (some ⟨rb, 0, none⟩), .agg #[.int .u8 (u.1.toNat : Int), .string (bA u.2)], .string ⟨#[]⟩, .int .i64 ((d : Int) + 1)] _ _ from hv _ v L u [] (d + 1) ts la s0 hs (by omega) (by omega) hL hk)
  have HK0 := Lib.hid (show Kp M cb rb B w _ from Kp.of_below (rb := rb) (cb := cb) (B := B) b0 hM)
  have HN := Lib.hid n0
  have hsz : M ≤ (w.alloc (.cells #[.int .u8 (u.1.toNat : Int), .string (bA u.2)] 68)).heap.size := Nat.le_trans hM b0.size
  generalize vTr (eE la) f u [] (d + 1) ts = R at *
  clear hv h1 hs hk hL hK hf s0 g0 b0 hc n0
  unfold tkV
  go_enter Tryz.func72, Tryz.ntmps72
  go_wp2_with fail
  generalize w.alloc (.cells #[.int .u8 (u.1.toNat : Int), .string (bA u.2)] 68) = w0 at *
  with_reducible refine HV.out.mono ?_
  rintro e w3 ⟨⟨e3, rfl, v3, s3⟩ | ⟨e3, rfl⟩, k3⟩
  · have HQ := Lib.hid (show GPost M cb rb B L la R (CapL rb d M pr pd) w (.returned (.tuple #[])) w3 from ⟨.inl ⟨e3, rfl, ⟨v3, s3⟩, HN.out.kp k3 (Nat.le_refl _) hcM hrM, T0.out.trans (TkK.kp k3 (Nat.le_refl _) hcB hrB)⟩, HK0.out.trans (k3.mono hsz)⟩)
    clear e3 s3 k3
    go_wp2
    go_end0
    exact HQ.out
  · have HQ := Lib.hid (show GPost M cb rb B L la R (CapL rb d M pr pd) w (pan R.e) w3 from ⟨.inr ⟨e3, rfl⟩, HK0.out.trans (k3.mono hsz)⟩)
    clear k3
    unfold pan
    go_wp2
    exact ⟨rfl, HQ.out⟩
end Go.Proofs.YtnbhhnkcfbfdcaaGreatDoor
/- Package jtree: object's closure. -/
namespace Go.Proofs.YtnbhhnkcfbfdcaaGreatDoor
open Go Go.RowKit Go.Maps
set_option linter.unusedVariables false

theorem skey : Keyed Tryz.prog 9 := string_keyed Tryz.underlying9
theorem sunit (w : World) : (zeroValue 109).run Tryz.prog w = .ok (.agg #[]) w := by kernel_rfl
theorem mustN_ok (x : TK) (k : UInt8) (n : Int) (w : World) (hn : n = (k.toNat : Int)) (h : x.1 = k) :
    Calls Tryz.prog 74 #[.agg #[.int .u8 (x.1.toNat : Int), .string (bA x.2)], .int .u8 n] w fun e w' => e = .returned (.tuple #[]) ∧ Below w.heap.size w w' := by subst hn; exact must_ok x k w h
theorem mustN_no (x : TK) (k : UInt8) (n : Int) (w : World) (hn : n = (k.toNat : Int)) (h : ¬ x.1 = k) :
    Calls Tryz.prog 74 #[.agg #[.int .u8 (x.1.toNat : Int), .string (bA x.2)], .int .u8 n] w fun e w' => e = pan 3 ∧ Below w.heap.size w w' := by subst hn; exact must_no x k w h
theorem skey_of (s : List UInt8) (h : s.length ≤ 1099511627776) : keyOf Tryz.prog 9 (.string (bA s)) = some (.string s) := by
  have := Go.WideMaps.keyOf_string_mk (P := Tryz.prog) Tryz.underlying9 (s := bA s) (by rw [bA_size]; unfold maxLen; omega)
  rw [this]; simp [bA]
set_option maxRecDepth 20000 in
set_option maxHeartbeats 1000000 in
theorem gobj_kind {cb rb B f : Nat} {M d pk pr pd m : Nat} (w : World) (v : Value) (L : List ND) (u : TK) (keys : List (List UInt8)) (ts : List TK) (la : Option Int)
    (h : GHyp cb rb B M (f + 1) d true w v L u keys ts la) (hc : CapO rb d M pk pr pd m keys w) (hu : ¬ u.1 = 115) :
    Calls Tryz.prog 73 #[tkV u, .pointer (some ⟨pk, 0, none⟩), .pointer (some ⟨pr, 0, none⟩), .pointer (some ⟨pd, 0, none⟩)] w (GPost M cb rb B L la (gTr (eE la) (f + 1) true u (d + 1) keys ts) (CapO rb d M pk pr pd m (addK true keys u)) w) := by
  have hM := h.2.2.1
  rw [gTr_kind hu]
  have g0 := tk_laid (w := w) u 68
  have b0 := alloc_below w (.cells #[.int .u8 (u.1.toNat : Int), .string (bA u.2)] 68)
  have y0 := g0.c0; have y1 := g0.c1
  have HM := Lib.hid (fun w => mustN_no u 115 115 w rfl hu)
  have B0 := Lib.hid b0
  clear h hc hu g0 b0
  unfold tkV
  go_enter Tryz.func73, Tryz.ntmps73
  go_wp2_with fail
  with_reducible refine (HM.out _).mono ?_
  rintro e w1 ⟨rfl, b1⟩
  have HQ := Lib.hid (show Kp M cb rb B w w1 from (Kp.of_below B0.out hM).trans (Kp.of_below b1 (Nat.le_trans hM B0.out.size)))
  clear b1
  unfold pan
  go_wp2
  exact ⟨rfl, .inr ⟨by decide, rfl⟩, HQ.out⟩
set_option maxRecDepth 20000 in
set_option maxHeartbeats 2000000 in
theorem gobj_twice {cb rb B f : Nat} {M d pk pr pd m : Nat} (w : World) (v : Value) (L : List ND) (u : TK) (keys : List (List UInt8)) (ts : List TK) (la : Option Int)
    (h : GHyp cb rb B M (f + 1) d true w v L u keys ts la) (hc : CapO rb d M pk pr pd m keys w) (hu : u.1 = 115) (hin : u.2 ∈ keys) :
    Calls Tryz.prog 73 #[tkV u, .pointer (some ⟨pk, 0, none⟩), .pointer (some ⟨pr, 0, none⟩), .pointer (some ⟨pd, 0, none⟩)] w (GPost M cb rb B L la (gTr (eE la) (f + 1) true u (d + 1) keys ts) (CapO rb d M pk pr pd m (addK true keys u)) w) := by
  have hM := h.2.2.1
  rw [gTr_twice hu hin]
  have hlen := (h.2.2.2.1 u List.mem_cons_self).2
  have g0 := tk_laid (w := w) u 68
  have b0 := alloc_below w (.cells #[.int .u8 (u.1.toNat : Int), .string (bA u.2)] 68)
  have n0 := hc.next b0
  have y0 := g0.c0; have y1 := g0.c1
  have HM := Lib.hid (fun w => mustN_ok u 115 115 w rfl hu)
  have HKY := Lib.hid (skey_of u.2 hlen)
  have B0 := Lib.hid b0
  clear h hc hu b0
  unfold tkV
  go_enter Tryz.func73, Tryz.ntmps73
  go_wp2_with fail
  generalize w.alloc (.cells #[.int .u8 (u.1.toNat : Int), .string (bA u.2)] 68) = w0 at *
  with_reducible refine (HM.out _).mono ?_
  rintro e w1 ⟨rfl, b1⟩
  have g1 := g0.below b1 g0.lt
  have n1 := n0.next b1
  obtain ⟨D, ho, hs⟩ := n1.own
  have hh := hs u.2
  rw [decide_eq_true hin] at hh
  have cm := n1.cm
  have z0 := g1.c0; have z1 := g1.c1
  have HQ := Lib.hid (show Kp M cb rb B w w1 from (Kp.of_below B0.out hM).trans (Kp.of_below b1 (Nat.le_trans hM B0.out.size)))
  have hsz := Lib.hid (show M ≤ w1.heap.size from Nat.le_trans hM (Nat.le_trans B0.out.size b1.size))
  have HO := Lib.hid ho
  clear g0 n0 y0 y1 b1 g1 n1 hs hin ho
  go_wp2_with (at_lookup; refine wpList_lookup_own_unit _ rfl _ _ 107 rfl 9 109 skey Tryz.underlying107 (sunit _) m keys.length D rfl HO.out _ _ rfl HKY.out ?_)
  refine ⟨rfl, .inr ⟨by decide, rfl⟩, ?_⟩
  exact HQ.out.trans (Kp.of_below (alloc_below _ _) hsz.out)
theorem RdS.keepX {cb rb B m : Nat} {w w' : World} {v : Value} {L : List ND} {ts : List TK} {la : Option Int} (h : RdS w cb rb B v L ts la) (hsz : w.heap.size ≤ w'.heap.size) (hb : ∀ k, k < w.heap.size → k ≠ m → w'.heap[k]? = w.heap[k]?) (hmB : B ≤ m) (hnn : NN w m) : RdS w' cb rb B v L ts la := by
  have hB := h.hB
  have hlow : ∀ k, k < B → w'.heap[k]? = w.heap[k]? := fun k hk => hb k (by omega) (by omega)
  refine ⟨?_, (hlow rb h.lr).trans h.rd, h.row.keep (fun g hg => ?_), h.lc, h.lr, h.ne, Nat.le_trans hB hsz, ?_, h.hg⟩
  · obtain ⟨c, h1, h2⟩ := h.cur
    exact ⟨c, (hlow cb h.lc).trans h1, h2⟩
  · obtain ⟨_, o2, cur, o3⟩ := h.row.own hg
    exact hb g o2 (fun e => hnn _ _ (by rw [← e]; exact o3))
  · exact fun k hk => (World.cell?_of_block (hlow _ h.hg.1)).trans (h.hd k hk)
theorem key_put {rb d M pk pr pd m : Nat} {keys : List (List UInt8)} {w w' : World} {s : List UInt8} {D : DataW Unit} (h : CapO rb d M pk pr pd m keys w) (hs : s.length ≤ 1099511627776) (hsz : w.heap.size ≤ w'.heap.size) (hb : ∀ k, k < w.heap.size → k ≠ m → w'.heap[k]? = w.heap[k]?)
    (ho : w.ownsMap Tryz.prog 9 unitElem m keys.length D) (hD : KeyD D keys) (hown : w'.ownsMap Tryz.prog 9 unitElem m (keys.length + 1) (D.put (.string s) (.agg []))) : CapO rb d M pk pr pd m (keys ++ [s]) w' := by
  have hne : ∀ k cs (t : TypeId) fz, w.heap[k]? = some (.cells cs t fz) → k ≠ m := fun k cs t fz h1 e => by
    obtain ⟨es, clock, h2, _⟩ := ho
    rw [e, h2] at h1; cases h1
  refine ⟨h.cl.keep (hb pr (lt_of_block h.cl.r) (hne _ _ _ _ h.cl.r)) (hb pd (lt_of_block h.cl.d) (hne _ _ _ _ h.cl.d)), (hb pk (lt_of_block h.k) (hne _ _ _ _ h.k)).trans h.k, h.lk, h.lm, _, ?_, hD.more ho.isMap (skey.key (skey_of s hs)) (.agg [])⟩
  rw [List.length_append]; exact hown
set_option maxRecDepth 20000 in
set_option maxHeartbeats 4000000 in
theorem gobj_some {cb rb B f : Nat} (hv : ValC cb rb B f) {M d pk pr pd m : Nat} (w : World) (v : Value) (L : List ND) (u : TK) (keys : List (List UInt8)) (ts : List TK) (la : Option Int)
    (h : GHyp cb rb B M (f + 1) d true w v L u keys ts la) (hc : CapO rb d M pk pr pd m keys w) (hu : u.1 = 115) (hin : ¬ u.2 ∈ keys) :
    Calls Tryz.prog 73 #[tkV u, .pointer (some ⟨pk, 0, none⟩), .pointer (some ⟨pr, 0, none⟩), .pointer (some ⟨pd, 0, none⟩)] w (GPost M cb rb B L la (gTr (eE la) (f + 1) true u (d + 1) keys ts) (CapO rb d M pk pr pd m (addK true keys u)) w) := by
  obtain ⟨h1, hBM, hM, hs, hd, hf, hL, hKL, hk⟩ := h
  have hlen := (hs u List.mem_cons_self).2
  have g0 := tk_laid (w := w) u 68
  have b0 := alloc_below w (.cells #[.int .u8 (u.1.toNat : Int), .string (bA u.2)] 68)
  have n0 := hc.next b0
  have s0 := h1.next b0
  have y0 := g0.c0; have y1 := g0.c1
  have hcB := h1.lc
  have hrB := h1.lr
  have T0 := Lib.hid (TkK.below (B := B) b0)
  have hcM : cb < M := by have := h1.lc; omega
  have hrM : rb < M := by have := h1.lr; omega
  have hmx : keys.length < maxLen := by unfold maxLen; omega
  have HM := Lib.hid (fun w => mustN_ok u 115 115 w rfl hu)
  have HKY := Lib.hid (skey_of u.2 hlen)
  have B0 := Lib.hid b0
  have HH := Lib.hid (And.intro hs (And.intro hf (And.intro hL (And.intro hKL hk))))
  have HU := Lib.hid hu
  have HI := Lib.hid hin
  generalize hRR : gTr (eE la) (f + 1) true u (d + 1) keys ts = R at *
  have HR := Lib.hid hRR
  clear h1 hc hu b0 hs hf hL hKL hk hRR
  unfold tkV
  go_enter Tryz.func73, Tryz.ntmps73
  go_wp2_with fail
  generalize w.alloc (.cells #[.int .u8 (u.1.toNat : Int), .string (bA u.2)] 68) = w0 at *
  with_reducible refine (HM.out _).mono ?_
  rintro e w1 ⟨rfl, b1⟩
  have g1 := g0.below b1 g0.lt
  have n1 := n0.next b1
  have s1 := s0.next b1
  obtain ⟨D, ho, hs⟩ := n1.own
  have hh := hs u.2
  rw [decide_eq_false hin] at hh
  have cm := n1.cm
  have z0 := g1.c0; have z1 := g1.c1
  have HQ := Lib.hid (show Kp M cb rb B w w1 from (Kp.of_below B0.out hM).trans (Kp.of_below b1 (Nat.le_trans hM B0.out.size)))
  have hsz := Lib.hid (show M ≤ w1.heap.size from Nat.le_trans hM (Nat.le_trans B0.out.size b1.size))
  have HO := Lib.hid ho
  have b2 := alloc_below w1 (.cells #[] 109)
  have n2 := n1.next b2
  have cm2 := n2.cm
  have g2 := g1.below b2 g1.lt
  have zz0 := g2.c0; have zz1 := g2.c1
  have G2 := Lib.hid g2
  have N2 := Lib.hid n2
  have T2 := Lib.hid ((T0.out.trans (TkK.below b1)).trans (TkK.below b2))
  have S2 := Lib.hid (s1.next b2)
  have K2 := Lib.hid (HQ.out.trans (Kp.of_below b2 hsz.out))
  have HO2 := Lib.hid (ho.alloc (.cells #[] 109))
  have HD := Lib.hid hs
  have hT1 : w.heap.size ≠ m := fun e => by
    obtain ⟨es, clock, h2, _⟩ := ho
    have h3 := g1
    unfold TkT at h3
    rw [e, h2] at h3; cases h3
  clear g0 n0 s0 y0 y1 b1 g1 n1 s1 hs hin ho n2 g2 b2
  go_wp2_with (first
    | (at_lookup; refine wpList_lookup_own_unit _ rfl _ _ 107 rfl 9 109 skey Tryz.underlying107 (sunit _) m keys.length D rfl HO.out _ _ rfl HKY.out ?_)
    | (at_mapUpdate; refine wpList_mapUpdate_in _ rfl _ _ _ 107 rfl 9 109 skey Tryz.underlying107 unitElem m keys.length D rfl HO2.out hmx _ _ (.string u.2) rfl rfl HKY.out (.agg []) [] unitElem_mk ?_; intro w2 hown2 hturn2; have HG2 := Lib.hid hturn2.grown; have X2 := Lib.hid hown2; clear hown2 hturn2; have n3 := key_put N2.out hlen HG2.out.size (fun k hk hne => HG2.out.block k hk (fun e => hne (Option.some.inj e))) HO2.out HD.out X2.out; have cr3 := n3.cl.c0; have N3 := Lib.hid n3; clear n3))
  have hlt2 : ∀ k, k < (w1.alloc (.cells #[] 109)).heap.size → k ≠ m → w2.heap[k]? = (w1.alloc (.cells #[] 109)).heap[k]? := fun k hk hne => HG2.out.block k hk (fun e => hne (Option.some.inj e))
  have hmM := N2.out.lm
  have S3 := Lib.hid (S2.out.keepX HG2.out.size hlt2 (Nat.le_trans hBM hmM) N2.out.nm)
  have hszA : M ≤ (w1.alloc (.cells #[] 109)).heap.size := Nat.le_trans hM K2.out.size
  have K3 := Lib.hid (show Kp M cb rb B w w2 from K2.out.trans ⟨HG2.out.os, HG2.out.tape, HG2.out.output, HG2.out.size, fun k hk _ _ _ => hlt2 k (by omega) (by omega)⟩)
  have G3 := Lib.hid (show TkT 68 w2 w.heap.size u from (hlt2 _ G2.out.lt hT1).trans G2.out)
  have hM2 : M ≤ w2.heap.size := Nat.le_trans hM K3.out.size
  have T3 := Lib.hid (T2.out.trans (TkK.turned hlt2 (by obtain ⟨es, clock, h2, _⟩ := HO2.out; exact ⟨es, clock, h2⟩)))
  clear T0 T2 hlt2 hmM hszA hT1 HO HO2 HD HG2 X2 G2 N2 S2 K2 HQ hsz cm cm2 z0 z1 zz0 zz1 HM B0 hh HKY hmx
  obtain ⟨hs, hf, hL, hKL, hk⟩ := HH.out
  have HC := Lib.hid (show ∀ e w', VPost M cb rb B L la R w e w' → (R.e = 0 → CapO rb d M pk pr pd m (keys ++ [u.2]) w' ∧ TkK B w w') → GPost M cb rb B L la R (CapO rb d M pk pr pd m (addK true keys u)) w e w' from fun e w' h hc => by
    rcases h with ⟨⟨a1, a2, a3⟩ | a1, a4⟩
    · exact ⟨.inl ⟨a1, a2, a3, hc a1⟩, a4⟩
    · exact ⟨.inr a1, a4⟩)
  match ts, HH, hs, hf, hL, hKL, hk, HR, S3 with
  | [], HH, hs, hf, hL, hKL, hk, HR, S3 =>
    have hR := HR.out
    rw [gTr_cut HU.out HI.out] at hR
    obtain ⟨x, rfl⟩ : ∃ x, la = some x := by
      cases la with
      | some x => exact ⟨x, rfl⟩
      | none => exact absurd (show R.e = -1 by rw [← hR]; rfl) (hk rfl)
    have HN := Lib.hid (token_none S3.out)
    have HE := Lib.hid (show R.e = eE (some x) by rw [← hR])
    clear hR
    with_reducible refine HN.out.mono ?_
    rintro e w3 ⟨rfl, o3⟩
    have HQ := Lib.hid (vpost_no (L := L) (la := some x) HE.out (eE_ne _) (K3.out.trans (Kp.of_only o3 hM2)))
    clear o3
    unfold pan
    go_wp2
    exact ⟨rfl, HC.out _ _ HQ.out (fun e => absurd e (by rw [HE.out]; exact eE_ne _))⟩
  | c :: ts1, HH, hs, hf, hL, hKL, hk, HR, S3 =>
    have HN := Lib.hid (token_some S3.out)
    with_reducible refine HN.out.mono ?_
    rintro e w3 ⟨rfl, s4, o3⟩
    have N4 := Lib.hid (N3.out.only o3 hcM)
    have K4 := Lib.hid (K3.out.trans (Kp.of_only o3 hM2))
    have hM3 : M ≤ w3.heap.size := Nat.le_trans hM2 o3.size
    have T4 := Lib.hid (T3.out.trans (TkK.only o3 hcB))
    have G4 := Lib.hid (G3.out.only o3 (show w.heap.size ≠ cb by omega))
    have S4 := Lib.hid s4
    clear s4 o3 HN S3 N3 K3 G3 cr3
    unfold tkV
    by_cases h58 : c.1 = 58
    · have HM := Lib.hid (fun w => mustN_ok c 58 58 w rfl h58)
      have H58 := Lib.hid h58
      clear h58
      go_wp2_with fail
      with_reducible refine (HM.out _).mono ?_
      rintro e w4 ⟨rfl, b4⟩
      have S5 := Lib.hid (S4.out.next b4)
      have N5 := Lib.hid (N4.out.next b4)
      have K5 := Lib.hid (K4.out.trans (Kp.of_below b4 hM3))
      have T5 := Lib.hid (T4.out.trans (TkK.below b4))
      have G5 := Lib.hid (G4.out.below b4 G4.out.lt)
      have hM4 : M ≤ w4.heap.size := Nat.le_trans hM3 b4.size
      clear b4 HM S4 N4 K4 G4
      have zw : IntKind.i64.wrap ((d : Int) + 1) = (d : Int) + 1 := i64_small (by omega) (by omega)
      go_wp2_with fail
      refine wp_region_held_drew (S := fun wx => wx.cell? ⟨pr, 0, none⟩ = some (.pointer (some ⟨rb, 0, none⟩)) ∧ wx.cell? ⟨w.heap.size, 1, none⟩ = some (.string (bA u.2)) ∧ wx.cell? ⟨pd, 0, none⟩ = some (.int .i64 (d : Nat))) (by kernel_rfl) ⟨N5.out.cl.c0, G5.out.c1, N5.out.cl.c1⟩ (fun hS => ?_)
      refine wpAnyH_take (i := 0) (oi := ⟨some 25, .load 61 (.tmp 2), _, _, _, none⟩) (v := ?_) rfl (by kernel_rfl) (by kernel_rfl) (by kernel_rfl) (fun _ _ _ h => h) (Or.inl ⟨by rfl, ?_⟩) hS ?_
      rotate_left 1
      · intro wS hSw; have hc := hSw.1; clear hSw; go_simp; (try with_reducible rfl)
      simp only [Act.put, List.setIfInBounds_toArray, List.set_cons_zero, List.set_cons_succ]
      refine wpAnyH_take (i := 1) (oi := ⟨some 26, .load 61 (.tmp 2), _, _, _, none⟩) (v := ?_) rfl (by kernel_rfl) (by kernel_rfl) (by kernel_rfl) (fun _ _ _ h => h) (Or.inl ⟨by rfl, ?_⟩) hS ?_
      rotate_left 1
      · intro wS hSw; have hc := hSw.1; clear hSw; go_simp; (try with_reducible rfl)
      simp only [Act.put, List.setIfInBounds_toArray, List.set_cons_zero, List.set_cons_succ]
      refine wpAnyH_take (i := 3) (oi := ⟨some 28, .fieldAddr 68 (.tmp 4) 1, _, _, _, none⟩) (v := ?_) rfl (by kernel_rfl) (by kernel_rfl) (by kernel_rfl) (fun _ _ _ h => h) (Or.inl ⟨by rfl, ?_⟩) hS ?_
      rotate_left 1
      · intro wS hSw; clear hSw; go_simp; (try with_reducible rfl)
      simp only [Act.put, List.setIfInBounds_toArray, List.set_cons_zero, List.set_cons_succ]
      refine wpAnyH_take (i := 4) (oi := ⟨some 29, .load 9 (.tmp 28), _, _, _, none⟩) (v := ?_) rfl (by kernel_rfl) (by kernel_rfl) (by kernel_rfl) (fun _ _ _ h => h) (Or.inl ⟨by rfl, ?_⟩) hS ?_
      rotate_left 1
      · intro wS hSw; have hc := hSw.2.1; clear hSw; go_simp; (try with_reducible rfl)
      simp only [Act.put, List.setIfInBounds_toArray, List.set_cons_zero, List.set_cons_succ]
      refine wpAnyH_take (i := 5) (oi := ⟨some 30, .load 3 (.tmp 3), _, _, _, none⟩) (v := ?_) rfl (by kernel_rfl) (by kernel_rfl) (by kernel_rfl) (fun _ _ _ h => h) (Or.inl ⟨by rfl, ?_⟩) hS ?_
      rotate_left 1
      · intro wS hSw; have hc := hSw.2.2; clear hSw; go_simp; (try with_reducible rfl)
      simp only [Act.put, List.setIfInBounds_toArray, List.set_cons_zero, List.set_cons_succ]
      refine wpAnyH_take (i := 6) (oi := ⟨some 31, .binOp .add 3 (.tmp 30) (.const (.int .i64 1)) 3, _, _, _, none⟩) (v := ?_) rfl (by kernel_rfl) (by kernel_rfl) (by kernel_rfl) (fun _ _ _ h => h) (Or.inl ⟨by rfl, ?_⟩) hS ?_
      rotate_left 1
      · intro wS hSw; clear hSw; go_simp; (try with_reducible rfl)
      simp only [Act.put, List.setIfInBounds_toArray, List.set_cons_zero, List.set_cons_succ]
      refine wpAnyH_ready (rs := [2]) (by kernel_rfl) (by simp) ?_
      refine AllReadyH.cons (o := ⟨some 27, .call { callee := .value (.func 31), args := #[.tmp 26], argTypes := #[61] }, _, _, _, none⟩) rfl (fun K hK => ?_) AllReadyH.nil
      rw [if_pos (by rfl)]
      go_simp
      cases ts1 with
      | nil =>
        have hR := HR.out
        rw [gTr_cut2 HU.out HI.out H58.out] at hR
        obtain ⟨x, rfl⟩ : ∃ x, la = some x := by
          cases la with
          | some x => exact ⟨x, rfl⟩
          | none => exact absurd (show R.e = -1 by rw [← hR]; rfl) (hk rfl)
        have HE := Lib.hid (show R.e = eE (some x) by rw [← hR])
        have HN := Lib.hid (token_none S5.out.drew)
        clear hR
        with_reducible refine HN.out.mono ?_
        rintro e w5 ⟨rfl, o5⟩
        have HQ := Lib.hid (vpost_no (L := L) (la := some x) HE.out (eE_ne _) (K5.out.drew.trans (Kp.of_only o5 hM4)))
        clear o5 hK
        unfold pan
        exact ⟨rfl, HC.out _ _ HQ.out (fun e => absurd e (by rw [HE.out]; exact eE_ne _))⟩
      | cons v2 ts2 =>
        have hR := HR.out
        rw [gTr_some HU.out HI.out H58.out] at hR
        have hs2 := hs.tail.tail
        simp only [List.length_cons] at hf hL
        have HV := Lib.hid (fun w5 (s6 : RdS w5 cb rb B v L ts2 la) => hv w5 v L v2 u.2 (d + 1) ts2 la s6 hs2 (by omega) (by omega) (by omega) (by rw [hR]; exact hk))
        rw [hR] at HV
        unfold tkV at HV
        rw [show ((d + 1 : Nat) : Int) = (d : Int) + 1 from rfl] at HV
        have HN := Lib.hid (token_some S5.out.drew)
        clear hR hs hf hL hKL hk HH hs2
        with_reducible refine HN.out.mono ?_
        rintro e w5 ⟨rfl, s6, o5⟩
        have N6 := Lib.hid ((N5.out.next (drew_below w4 1)).only o5 hcM)
        have G6 := Lib.hid ((show TkT 68 w4.drew w.heap.size u from G5.out).only o5 (show w.heap.size ≠ cb by omega))
        have T6 := Lib.hid (T5.out.trans ((TkK.below (drew_below w4 1)).trans (TkK.only o5 hcB)))
        have K6 := Lib.hid (K5.out.drew.trans (Kp.of_only o5 hM4))
        have hM5 : M ≤ w5.heap.size := Nat.le_trans hM4 o5.size
        refine hK.out _ _ ⟨N6.out.cl.c0, G6.out.c1, N6.out.cl.c1⟩ (fun hS2 => ?_)
        have HVV := Lib.hid (HV.out w5 s6)
        clear hK K hS HV HN S5 N5 G5 K5 o5 s6 HR
        unfold tkV
        try simp only [Act.put, List.setIfInBounds_toArray, List.set_cons_zero, List.set_cons_succ]
        refine wpAnyH_ready (rs := [7]) (by kernel_rfl) (by simp) ?_
        refine AllReadyH.cons (o := ⟨some 32, .call { callee := .value (.func 30), args := #[.tmp 25, .tmp 27, .tmp 29, .tmp 31], argTypes := #[61, 68, 9, 3] }, _, _, _, none⟩) rfl (fun K hK => ?_) AllReadyH.nil
        rw [if_pos (by rfl)]
        go_simp
        with_reducible refine HVV.out.mono ?_
        rintro e w6 ⟨⟨e3, rfl, v6, s7⟩ | ⟨e3, rfl⟩, k6⟩
        · have N7 := Lib.hid (N6.out.kp k6 (Nat.le_refl _) hcM hrM)
          have G7 := Lib.hid (show TkT 68 w6 w.heap.size u from (k6.block _ G6.out.lt (by omega) (by omega) (.inr (nn_of G6.out (by decide)))).trans G6.out)
          have T7 := Lib.hid (T6.out.trans (TkK.kp k6 (Nat.le_refl _) hcB hrB))
          have HQ := Lib.hid (show VPost M cb rb B L la R w (.returned (.tuple #[])) w6 from ⟨.inl ⟨e3, rfl, v6, s7⟩, K6.out.trans (k6.mono hM5)⟩)
          clear s7 k6 e3
          refine hK.out _ _ ⟨N7.out.cl.c0, G7.out.c1, N7.out.cl.c1⟩ (fun _ => wpAnyH_done (by kernel_rfl) ?_ _)
          clear hK K
          go_wp2
          go_end0
          exact HC.out _ _ HQ.out (fun _ => ⟨N7.out, T7.out⟩)
        · have HQ := Lib.hid (show VPost M cb rb B L la R w (pan R.e) w6 from ⟨.inr ⟨e3, rfl⟩, K6.out.trans (k6.mono hM5)⟩)
          clear k6 hK
          unfold pan
          exact ⟨rfl, HC.out _ _ HQ.out (fun e => absurd e e3)⟩
    · have HM := Lib.hid (fun w => mustN_no c 58 58 w rfl h58)
      have hR := HR.out
      rw [gTr_form HU.out HI.out h58] at hR
      have HE := Lib.hid (show R.e = 3 by rw [← hR])
      clear hR h58
      go_wp2_with fail
      with_reducible refine (HM.out _).mono ?_
      rintro e w4 ⟨rfl, b4⟩
      have HQ := Lib.hid (vpost_no (L := L) (la := la) HE.out (by decide) (K4.out.trans (Kp.of_below b4 hM3)))
      clear b4
      unfold pan
      go_wp2
      exact ⟨rfl, HC.out _ _ HQ.out (fun e => absurd e (by rw [HE.out]; decide))⟩
end Go.Proofs.YtnbhhnkcfbfdcaaGreatDoor
