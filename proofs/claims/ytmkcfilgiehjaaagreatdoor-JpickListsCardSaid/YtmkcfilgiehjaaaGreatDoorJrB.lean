/- Package jtree: value, over what list and object do. -/
import Derived.Test.YtmkcfilgiehjaaaGreatDoorZS
import Derived.Deep.RegionLaw
import Derived.Deep.Cut
import Derived.Deep.CutRange
import Derived.Deep.RegionHeld3
namespace Go.Proofs.YtmkcfilgiehjaaaGreatDoor
open Go Go.RowKit
set_option linter.unusedVariables false

/-- What reading a part of a tree leaves: its nodes behind those that were there, or given up. -/
def VPost (M cb rb B : Nat) (L : List ND) (la : Option Int) (R : TRs) (w : World) (e : Ending) (w' : World) : Prop :=
  ((R.e = 0 ∧ e = .returned (.tuple #[]) ∧ ∃ v', RdS w' cb rb B v' (L ++ R.l) R.r la) ∨ (R.e ≠ 0 ∧ e = pan R.e)) ∧ Kp M cb rb B w w'
/-- Where it is not told what stands behind the tokens, that is not come to. -/
def Kn (la : Option Int) (R : TRs) : Prop := la = none → R.e ≠ -1
def pF (ob : Bool) : Nat := if ob then 58 else 57
def PartC (cb rb B f : Nat) : Prop := ∀ (ob : Bool) (w : World) (v : Value) (L : List ND) (d : Nat) (ts : List TK) (la : Option Int), RdS w cb rb B v L ts la → SgE ts → d ≤ 32 → 4 * ts.length + 1 ≤ f → L.length + ts.length ≤ 1099511627776 → Kn la (pTr (eE la) f ob d ts) →
  Calls Tryz.prog (pF ob) #[.pointer (some ⟨rb, 0, none⟩), .int .i64 (d : Nat)] w (VPost w.heap.size cb rb B L la (pTr (eE la) f ob d ts) w)
def ValC (cb rb B f : Nat) : Prop := ∀ (w : World) (v : Value) (L : List ND) (t : TK) (key : List UInt8) (d : Nat) (ts : List TK) (la : Option Int), RdS w cb rb B v L ts la → SgE (t :: ts) → d ≤ 32 → 4 * ts.length + 2 ≤ f → L.length + ts.length + 1 ≤ 1099511627776 → Kn la (vTr (eE la) f t key d ts) →
  Calls Tryz.prog 37 #[.pointer (some ⟨rb, 0, none⟩), tkV t, .string (bA key), .int .i64 (d : Nat)] w (VPost w.heap.size cb rb B L la (vTr (eE la) f t key d ts) w)

section
variable {cb rb B : Nat} {w w1 : World} {v : Value} {L : List ND} {ts : List TK} {la : Option Int}
theorem RdS.grown_cells (h : RdS w cb rb B v L ts la) (hg : w.grownBy w1 v.ownBlock) : w1.cell? ⟨rb, 1, none⟩ = some v ∧ w1.frozen? ⟨rb, 1, none⟩ = false := by
  have hrl := Nat.lt_of_lt_of_le h.lr h.hB
  have hrd := (hg.block rb hrl (fun e => by have := (h.row.own e.symm).1; have := h.lr; omega)).trans h.rd
  exact ⟨by rw [cell_of_row w1 rb 1 _ _ _ hrd]; rfl, by simp [World.frozen?, hrd]⟩
theorem RdS.grown_tok {b : Nat} {x : TK} (h : RdS w cb rb B v L ts la) (hg : w.grownBy w1 v.ownBlock) (ht : TkT 80 w b x) : TkT 80 w1 b x := by
  refine (hg.block b ht.lt (fun e => ?_)).trans ht
  obtain ⟨_, _, cur, h3⟩ := h.row.own e.symm
  unfold TkT at ht
  rw [ht] at h3
  simp only [Option.some.injEq, Obj.cells.injEq] at h3
  exact absurd h3.2.1 (by decide)
theorem TkT.setRd {b : Nat} {x : TK} (h : TkT 80 w b x) (hne : b ≠ rb) (o : Nat) (u : Value) : TkT 80 (w.setCell ⟨rb, o, none⟩ u) b x :=
  (RowKit.Below.heap_setCell _ _ _ _ hne).trans h
/-- A node's size, written. -/
theorem RdS.sized {k : UInt8} {key t : List UInt8} {a n m g cap : Nat} {R : List ND} (h : RdS w cb rb B (.slice (some ⟨g, 0, none⟩) n cap) (L ++ [(k, key, t, a)] ++ R) ts la) :
    RdS (w.setCell ⟨g, L.length * 4 + 3, none⟩ (.int .i64 (m : Nat))) cb rb B (.slice (some ⟨g, 0, none⟩) n cap) (L ++ (k, key, t, m) :: R) ts la ∧ ∀ M, M ≤ w.heap.size → Kp M cb rb B w (w.setCell ⟨g, L.length * 4 + 3, none⟩ (.int .i64 (m : Nat))) := by
  have hl : (L ++ [(k, key, t, a)] ++ R).length = (L ++ (k, key, t, m) :: R).length := by simp
  have hrow := h.row
  obtain ⟨a2, cap2, e2, _⟩ := hrow.inn
  simp only [Value.slice.injEq] at e2
  obtain ⟨e3, e4, e5⟩ := e2
  subst e4
  obtain ⟨o1, o2⟩ := World.ownsRow.stored hrow (L.length * 4 + 3) (.int .i64 (m : Nat))
  rw [ndCs_set] at o1
  have hgB := (hrow.own (g := g) rfl).1
  have hk : ∀ M, M ≤ w.heap.size → Kp M cb rb B w (w.setCell ⟨g, L.length * 4 + 3, none⟩ (.int .i64 (m : Nat))) := fun M hM => Kp.grown (v := .slice (some ⟨g, 0, none⟩) _ cap) o2 hrow hM
  refine ⟨?_, hk⟩
  have hblk : ∀ j, j < B → (w.setCell ⟨g, L.length * 4 + 3, none⟩ (.int .i64 (m : Nat))).heap[j]? = w.heap[j]? := fun j hj => RowKit.Below.heap_setCell _ _ _ _ (show j ≠ g by omega)
  refine ⟨?_, (hblk rb h.lr).trans h.rd, ?_, h.lc, h.lr, h.ne, ?_, ?_, h.hg⟩
  · obtain ⟨c, h1, h2⟩ := h.cur
    exact ⟨c, (hblk cb h.lc).trans h1, h2⟩
  · unfold NRow; rw [← hl]; exact o1
  · have := h.hB; simp; omega
  · exact fun k hk => (World.cell?_of_block (hblk _ h.hg.1)).trans (h.hd k hk)
end
theorem slice_form {e : TypeId} {w : World} {B : Nat} {v : Value} {l : List ND} (h : NRow e w B v l) (hl : 0 < l.length) : ∃ g cap, v = .slice (some ⟨g, 0, none⟩) l.length cap ∧ g < w.heap.size ∧ B ≤ g ∧ (∀ j, w.frozen? ⟨g, j, none⟩ = false) ∧ ∀ j, j < l.length * 4 → ∃ u, w.cell? ⟨g, j, none⟩ = some u := by
  obtain ⟨g, cap, rfl⟩ : ∃ g cap, v = .slice (some ⟨g, 0, none⟩) l.length cap := by
    rcases h.2 with ⟨_, hn⟩ | ⟨g, cap, cur, rfl, _⟩
    · omega
    · exact ⟨g, cap, rfl⟩
  refine ⟨g, cap, rfl, (h.own rfl).2.1, (h.own rfl).1, fun j => World.ownsRow.frozenAt h j, fun j hj => ?_⟩
  rw [World.ownsRow.cellAt h j (by omega)]
  exact ⟨_, List.getElem?_eq_getElem (by rw [ndCs_length]; exact hj)⟩
theorem vpost_ok {M cb rb B : Nat} {L : List ND} {la : Option Int} {R : TRs} {w w' : World} {v' : Value} {N : List ND} {r : List TK} (hR : R = ⟨N, r, 0⟩) (h : RdS w' cb rb B v' (L ++ N) r la) (hk : Kp M cb rb B w w') : VPost M cb rb B L la R w (.returned (.tuple #[])) w' := by
  subst hR; exact ⟨.inl ⟨rfl, rfl, v', h⟩, hk⟩
theorem vpost_no {M cb rb B : Nat} {L : List ND} {la : Option Int} {R : TRs} {w w' : World} {k : Int} (hR : R.e = k) (h0 : k ≠ 0) (hk : Kp M cb rb B w w') : VPost M cb rb B L la R w (pan k) w' := by
  subst hR; exact ⟨.inr ⟨h0, rfl⟩, hk⟩
/-- Behind the append of value: the node without its size. -/
def VMid (cb rb B T : Nat) (L : List ND) (t : TK) (key : List UInt8) (ts : List TK) (la : Option Int) (w wx : World) : Prop :=
  (∃ v1, RdS wx cb rb B v1 (L ++ [(t.1, key, t.2, 0)]) ts la) ∧ TkT 80 wx T t ∧ Kp T cb rb B w wx
set_option maxRecDepth 20000 in
set_option maxHeartbeats 4000000 in
theorem value_any {cb rb B f : Nat} (hp : PartC cb rb B f) : ValC cb rb B (f + 1) := by
  intro w v L t key d ts la h hs hd hf hL hk
  obtain ⟨a, cap, rfl, _⟩ := h.row.inn
  have g0 := tk_laid (w := w) t 80
  have s0 := h.alloc (.cells #[.int .u8 (t.1.toNat : Int), .string (bA t.2)] 80)
  have k0 : Kp w.heap.size cb rb B w (w.alloc (.cells #[.int .u8 (t.1.toNat : Int), .string (bA t.2)] 80)) := Kp.of_below (alloc_below _ _) (Nat.le_refl _)
  have hTr : w.heap.size ≠ rb := by have := h.lr; have := h.hB; omega
  have HK := Lib.hid hk
  have HS := Lib.hid hs
  have HF := Lib.hid hf
  have HLn := Lib.hid hL
  have hL2 : L.length ≤ 1099511627776 := by omega
  have c0 := s0.c0; have c1 := s0.c1; have cf := s0.fr
  have b0 := g0.c0; have b1 := g0.c1
  have hz0 : 0 ≤ (L.length : Int) := by omega
  clear h hk hs hf hL
  unfold tkV
  go_enter Tryz.func37, Tryz.ntmps37
  go_wp2_with fail
  generalize hT : w.heap.size = T at *
  generalize w.alloc (.cells #[.int .u8 (t.1.toNat : Int), .string (bA t.2)] 80) = w0 at *
  have S0 := Lib.hid s0
  have G0 := Lib.hid g0
  have K0 := Lib.hid k0
  clear s0 g0 k0
  go_cut [] from 14 (fun wx => VMid cb rb B T L t key ts la w wx)
  case first =>
    have x1 := (S0.out.alloc (.cells #[.int .u8 (t.1.toNat : Int), .string (bA key), .string (bA t.2), .int .i64 0] 62)).c1
    have y0 := (G0.out.alloc (.cells #[.int .u8 (t.1.toNat : Int), .string (bA key), .string (bA t.2), .int .i64 0] 62)).c0
    have y1 := (G0.out.alloc (.cells #[.int .u8 (t.1.toNat : Int), .string (bA key), .string (bA t.2), .int .i64 0] 62)).c1
    have SA := Lib.hid (S0.out.alloc (.cells #[.int .u8 (t.1.toNat : Int), .string (bA key), .string (bA t.2), .int .i64 0] 62)).drew
    have GA := Lib.hid (G0.out.alloc (.cells #[.int .u8 (t.1.toNat : Int), .string (bA key), .string (bA t.2), .int .i64 0] 62)).drew
    have HN := Lib.hid (heap_alloc_new w0 (.cells #[.int .u8 (t.1.toNat : Int), .string (bA key), .string (bA t.2), .int .i64 0] 62))
    have KA := Lib.hid (K0.out.trans (Kp.of_below (alloc_below w0 (.cells #[.int .u8 (t.1.toNat : Int), .string (bA key), .string (bA t.2), .int .i64 0] 62)) (by rw [← hT]; exact K0.out.size))).drew
    have hsz := Lib.hid (show T ≤ (w0.alloc (.cells #[.int .u8 (t.1.toNat : Int), .string (bA key), .string (bA t.2), .int .i64 0] 62)).drew.heap.size by rw [← hT]; exact KA.out.size)
    go_region_law (refine step_append_nd rfl (.tmp 18) (.tmp 25) 27 rfl 62 Tryz.underlying27 infoN _ B L SA.out.row SA.out.hB rfl _ (t.1, key, t.2, 0) HN.out rfl hL2 ?_; intro g1 cap1 w1 hr1 hg1 hlt1; obtain ⟨hd1, hd2⟩ := SA.out.grown_cells hg1; have HM := Lib.hid (SA.out.more hg1 hr1); have HG := Lib.hid ((SA.out.grown_tok hg1 GA.out).setRd hTr 1 (.slice (some ⟨g1, 0, none⟩) (L.length + 1) cap1)); have HKK := Lib.hid ((KA.out.trans (Kp.grown hg1 SA.out.row hsz.out)).trans (Kp.setRd (rb := rb) w1 1 (.slice (some ⟨g1, 0, none⟩) (L.length + 1) cap1))); clear hg1 hr1)
    all_goals go_wp2_with fail
    all_goals go_meet
    all_goals (case rel => exact (⟨⟨_, HM.out⟩, HG.out, HKK.out⟩ : VMid cb rb B T L t key ts la w _))
  case rest =>
    clear c0 c1 cf b0 b1 S0 G0 K0
    obtain ⟨⟨v1, s1⟩, g1, k1⟩ := hcut
    have b0 := g1.c0
    have S1 := Lib.hid s1
    have K1 := Lib.hid k1
    have hT1 := hT
    have hsz1 : T ≤ wc.heap.size := by rw [← hT]; exact k1.size
    clear s1 k1 g1
    by_cases hop : ∃ ob, t.1 = opn ob
    · obtain ⟨ob, hop⟩ := hop
      have HR := Lib.hid (vTr_open (E := eE la) (f := f) (key := key) (d := d) (ts := ts) hop)
      have HB := Lib.hid (show 1 ≤ f ∧ 4 * ts.length + 1 ≤ f from by have := HF.out; omega)
      have HC := Lib.hid (hp ob wc v1 (L ++ [(t.1, key, t.2, 0)]) d ts la S1.out HS.out.tail hd HB.out.2 (by rw [List.length_append, List.length_singleton]; have := HLn.out; omega) (fun e => by
        have := HK.out e
        rw [HR.out, wrap_e] at this
        exact this))
      have htk := Lib.hid (HS.out.sign hop (opn_sign ob))
      have HE := Lib.hid (eE_ne la)
      have HPL := Lib.hid (show (pTr (eE la) f ob d ts).e = 0 → (pTr (eE la) f ob d ts).l.length ≤ ts.length from fun e => by
        obtain ⟨tk, e1, w1⟩ := (tr_wf HE.out f).2.1 ob d ts HS.out.tail e
        have h1 := wf_len w1
        have h2 := congrArg List.length e1
        simp only [List.length_append, List.length_cons] at h2
        omega)
      generalize pTr (eE la) f ob d ts = R at *
      generalize vTr (eE la) (f + 1) t key d ts = V at *
      have HEND2 := Lib.hid (show ∀ (w3 : World) (n m g cap : Nat), RdS w3 cb rb B (.slice (some ⟨g, 0, none⟩) n cap) (L ++ [(t.1, key, t.2, 0)] ++ R.l) R.r la → Kp T cb rb B w w3 → R.e = 0 → n = L.length + m → m = 1 + R.l.length → VPost T cb rb B L la V w (.returned (.tuple #[])) ((w3.drew).setCell ⟨g, L.length * 4 + 3, none⟩ (.int .i64 (m : Nat))) from by
        intro w3 n m g cap s3 k3 e3 hn hm
        obtain ⟨q1, q2⟩ := RdS.sized (m := m) s3.drew
        refine vpost_ok (N := (t.1, key, t.2, m) :: R.l) (r := R.r) ?_ q1 (k3.drew.trans (q2 T (by rw [← hT]; exact k3.size)))
        rw [HR.out, wrap_good e3, ← hop, htk.out, hm, Nat.add_comm])
      have HBAD := Lib.hid (show ∀ w3, Kp T cb rb B w w3 → R.e ≠ 0 → VPost T cb rb B L la V w (pan R.e) w3 from fun w3 k3 e3 => vpost_no (by rw [HR.out, wrap_bad e3]) e3 k3)
      have HO := Lib.hid hop
      clear hop hp HR htk
      cases ob
      · have p1 : ((t.1.toNat : Int) == 91) = true := by rw [HO.out]; rfl
        have HC := Lib.hid (show Calls Tryz.prog 57 #[.pointer (some ⟨rb, 0, none⟩), .int .i64 (d : Nat)] wc (VPost wc.heap.size cb rb B (L ++ [(t.1, key, t.2, 0)]) la R wc) from HC.out)
        go_wp2_with fail
        with_reducible refine HC.out.mono ?_
        rintro e w3 ⟨⟨e3, rfl, v3, s3⟩ | ⟨e3, rfl⟩, k3⟩
        · have hK3 := Lib.hid (K1.out.trans (k3.mono hsz1))
          obtain ⟨g, cap3, rfl, hgl, hgB, hfr, hcs⟩ := slice_form s3.row (by simp; omega)
          obtain ⟨m, hm⟩ : ∃ m, m = 1 + R.l.length := ⟨_, rfl⟩
          obtain ⟨n, hn⟩ : ∃ n, n = L.length + m := ⟨_, rfl⟩
          have hlen : (L ++ [(t.1, key, t.2, 0)] ++ R.l).length = n := by rw [hn, hm]; simp; omega
          rw [hlen] at s3
          have hml := HPL.out e3
          have hLl := HLn.out
          obtain ⟨u, hu⟩ := hcs (L.length * 4 + 3) (by rw [hlen]; omega)
          have hf3 := hfr (L.length * 4 + 3)
          have c1 := s3.c1
          have hne : g ≠ rb := by have := s3.lr; omega
          have z1 : IntKind.i64.wrap ((n : Int) - (L.length : Int)) = (m : Int) := by rw [i64_small (by omega) (by omega)]; omega
          have i1 : (L.length : Int) < (n : Int) := by omega
          have i2 : (0 : Int) ≤ (L.length : Int) := by omega
          have HQ := Lib.hid (HEND2.out w3 n m g cap3 s3 hK3.out e3 hn hm)
          have c1s : (w3.setCell ⟨g, L.length * 4 + 3, none⟩ (.int .i64 (m : Nat))).drew.cell? ⟨rb, 1, none⟩ = some (.slice (some ⟨g, 0, none⟩) n cap3) := by
            show (w3.setCell ⟨g, L.length * 4 + 3, none⟩ (.int .i64 (m : Nat))).cell? ⟨rb, 1, none⟩ = _
            rw [World.cell?_setCell_far _ _ _ _ hne]; exact c1
          clear hcs hfr hml hLl hlen s3 k3 e3 hm hn hgB HEND2 hK3
          go_wp2_with fail
          go_region_held3 (fun wx => wx.cell? ⟨rb, 1, none⟩ = some (.slice (some ⟨g, 0, none⟩) n cap3)) (first | exact c1 | exact c1s) (first | fail)
          go_wp2
          go_end0
          exact HQ.out
        · unfold pan
          go_wp2
          refine ⟨rfl, ?_⟩
          exact HBAD.out _ (K1.out.trans (k3.mono hsz1)) e3
      · have p1 : ((t.1.toNat : Int) == 91) = false := by rw [HO.out]; rfl
        have p2 : ((t.1.toNat : Int) == 123) = true := by rw [HO.out]; rfl
        have HC := Lib.hid (show Calls Tryz.prog 58 #[.pointer (some ⟨rb, 0, none⟩), .int .i64 (d : Nat)] wc (VPost wc.heap.size cb rb B (L ++ [(t.1, key, t.2, 0)]) la R wc) from HC.out)
        go_wp2_with fail
        with_reducible refine HC.out.mono ?_
        rintro e w3 ⟨⟨e3, rfl, v3, s3⟩ | ⟨e3, rfl⟩, k3⟩
        · have hK3 := Lib.hid (K1.out.trans (k3.mono hsz1))
          obtain ⟨g, cap3, rfl, hgl, hgB, hfr, hcs⟩ := slice_form s3.row (by simp; omega)
          obtain ⟨m, hm⟩ : ∃ m, m = 1 + R.l.length := ⟨_, rfl⟩
          obtain ⟨n, hn⟩ : ∃ n, n = L.length + m := ⟨_, rfl⟩
          have hlen : (L ++ [(t.1, key, t.2, 0)] ++ R.l).length = n := by rw [hn, hm]; simp; omega
          rw [hlen] at s3
          have hml := HPL.out e3
          have hLl := HLn.out
          obtain ⟨u, hu⟩ := hcs (L.length * 4 + 3) (by rw [hlen]; omega)
          have hf3 := hfr (L.length * 4 + 3)
          have c1 := s3.c1
          have hne : g ≠ rb := by have := s3.lr; omega
          have z1 : IntKind.i64.wrap ((n : Int) - (L.length : Int)) = (m : Int) := by rw [i64_small (by omega) (by omega)]; omega
          have i1 : (L.length : Int) < (n : Int) := by omega
          have i2 : (0 : Int) ≤ (L.length : Int) := by omega
          have HQ := Lib.hid (HEND2.out w3 n m g cap3 s3 hK3.out e3 hn hm)
          have c1s : (w3.setCell ⟨g, L.length * 4 + 3, none⟩ (.int .i64 (m : Nat))).drew.cell? ⟨rb, 1, none⟩ = some (.slice (some ⟨g, 0, none⟩) n cap3) := by
            show (w3.setCell ⟨g, L.length * 4 + 3, none⟩ (.int .i64 (m : Nat))).cell? ⟨rb, 1, none⟩ = _
            rw [World.cell?_setCell_far _ _ _ _ hne]; exact c1
          clear hcs hfr hml hLl hlen s3 k3 e3 hm hn hgB HEND2 hK3
          go_wp2_with fail
          go_region_held3 (fun wx => wx.cell? ⟨rb, 1, none⟩ = some (.slice (some ⟨g, 0, none⟩) n cap3)) (first | exact c1 | exact c1s) (first | fail)
          go_wp2
          go_end0
          exact HQ.out
        · unfold pan
          go_wp2
          refine ⟨rfl, ?_⟩
          exact HBAD.out _ (K1.out.trans (k3.mono hsz1)) e3
    · have q1 : ((t.1.toNat : Int) == 91) = false := (eq8 t.1 91).trans (decide_eq_false (fun e => hop ⟨false, e⟩))
      have q2 : ((t.1.toNat : Int) == 123) = false := (eq8 t.1 123).trans (decide_eq_false (fun e => hop ⟨true, e⟩))
      by_cases hsg : tSign t.1 = true
      · have HR := Lib.hid (vTr_bad (E := eE la) (f := f) (key := key) (d := d) (ts := ts) hsg (fun ob e => hop ⟨ob, e⟩))
        have HE := Lib.hid (show VPost T cb rb B L la (vTr (eE la) (f + 1) t key d ts) w (pan 3) wc from vpost_no (by rw [HR.out]) (by decide) K1.out)
        have h4 : t.1 = 93 ∨ (t.1 ≠ 93 ∧ t.1 = 125) ∨ (t.1 ≠ 93 ∧ t.1 ≠ 125 ∧ t.1 = 58) ∨ (t.1 ≠ 93 ∧ t.1 ≠ 125 ∧ t.1 ≠ 58 ∧ t.1 = 44) := by
          rcases tSign_iff.mp hsg with e | e | e | e | e | e
          · exact absurd ⟨true, e⟩ hop
          · rw [e]; decide
          · exact absurd ⟨false, e⟩ hop
          · rw [e]; decide
          · rw [e]; decide
          · rw [e]; decide
        clear hp hop hsg
        generalize vTr (eE la) (f + 1) t key d ts = V at *
        rcases h4 with e | ⟨n1, e⟩ | ⟨n1, n2, e⟩ | ⟨n1, n2, n3, e⟩
        · have r1 : ((t.1.toNat : Int) == 93) = true := by rw [e]; rfl
          clear e HS HR
          go_wp2
          exact ⟨rfl, HE.out⟩
        · have r1 : ((t.1.toNat : Int) == 93) = false := (eq8 t.1 93).trans (decide_eq_false n1)
          have r2 : ((t.1.toNat : Int) == 125) = true := by rw [e]; rfl
          clear e n1 HS HR
          go_wp2
          exact ⟨rfl, HE.out⟩
        · have r1 : ((t.1.toNat : Int) == 93) = false := (eq8 t.1 93).trans (decide_eq_false n1)
          have r2 : ((t.1.toNat : Int) == 125) = false := (eq8 t.1 125).trans (decide_eq_false n2)
          have r3 : ((t.1.toNat : Int) == 58) = true := by rw [e]; rfl
          clear e n1 n2 HS HR
          go_wp2
          exact ⟨rfl, HE.out⟩
        · have r1 : ((t.1.toNat : Int) == 93) = false := (eq8 t.1 93).trans (decide_eq_false n1)
          have r2 : ((t.1.toNat : Int) == 125) = false := (eq8 t.1 125).trans (decide_eq_false n2)
          have r3 : ((t.1.toNat : Int) == 58) = false := (eq8 t.1 58).trans (decide_eq_false n3)
          have r4 : ((t.1.toNat : Int) == 44) = true := by rw [e]; rfl
          clear e n1 n2 n3 HS HR
          go_wp2
          exact ⟨rfl, HE.out⟩
      · have HR := Lib.hid (vTr_leaf (E := eE la) (f := f) (key := key) (d := d) (ts := ts) hsg)
        have nn : ∀ k : UInt8, tSign k = true → t.1 ≠ k := fun k hk e => hsg (by rw [e]; exact hk)
        have r1 : ((t.1.toNat : Int) == 93) = false := (eq8 t.1 93).trans (decide_eq_false (nn 93 rfl))
        have r2 : ((t.1.toNat : Int) == 125) = false := (eq8 t.1 125).trans (decide_eq_false (nn 125 rfl))
        have r3 : ((t.1.toNat : Int) == 58) = false := (eq8 t.1 58).trans (decide_eq_false (nn 58 rfl))
        have r4 : ((t.1.toNat : Int) == 44) = false := (eq8 t.1 44).trans (decide_eq_false (nn 44 rfl))
        have s3 := S1.out
        obtain ⟨g, cap3, rfl, hgl, hgB, hfr, hcs⟩ := slice_form s3.row (by simp)
        have HQ := Lib.hid (show VPost T cb rb B L la (vTr (eE la) (f + 1) t key d ts) w (.returned (.tuple #[])) ((wc.drew).setCell ⟨g, L.length * 4 + 3, none⟩ (.int .i64 (1 : Nat))) from by
          have s4 := s3.drew
          rw [← List.append_nil (L ++ [(t.1, key, t.2, 0)])] at s4
          obtain ⟨q1, q2⟩ := RdS.sized (m := 1) s4
          exact vpost_ok (N := [(t.1, key, t.2, 1)]) (r := ts) HR.out q1 (K1.out.drew.trans (q2 T hsz1)))
        generalize vTr (eE la) (f + 1) t key d ts = V at *
        obtain ⟨n, hn⟩ : ∃ n, n = L.length + 1 := ⟨_, rfl⟩
        have hlen : (L ++ [(t.1, key, t.2, 0)]).length = n := by rw [hn]; simp
        rw [hlen] at s3
        obtain ⟨u, hu⟩ := hcs (L.length * 4 + 3) (by rw [hlen]; omega)
        have hf3 := hfr (L.length * 4 + 3)
        have c1 := s3.c1
        have hne : g ≠ rb := by have := s3.lr; omega
        have z1 : IntKind.i64.wrap ((n : Int) - (L.length : Int)) = 1 := by rw [i64_small (by omega) (by omega)]; omega
        have i1 : (L.length : Int) < (n : Int) := by omega
        have i2 : (0 : Int) ≤ (L.length : Int) := by omega
        have c1s : (wc.setCell ⟨g, L.length * 4 + 3, none⟩ (.int .i64 1)).drew.cell? ⟨rb, 1, none⟩ = some (.slice (some ⟨g, 0, none⟩) n cap3) := by
          show (wc.setCell ⟨g, L.length * 4 + 3, none⟩ (.int .i64 1)).cell? ⟨rb, 1, none⟩ = _
          rw [World.cell?_setCell_far _ _ _ _ hne]; exact c1
        clear hcs hfr hlen s3 hn hgB S1 nn hop hsg hp HR
        go_wp2_with fail
        go_region_held3 (fun wx => wx.cell? ⟨rb, 1, none⟩ = some (.slice (some ⟨g, 0, none⟩) n cap3)) (first | exact c1 | exact c1s) (first | fail)
        go_wp2
        go_end0
        exact HQ.out
end Go.Proofs.YtmkcfilgiehjaaaGreatDoor
