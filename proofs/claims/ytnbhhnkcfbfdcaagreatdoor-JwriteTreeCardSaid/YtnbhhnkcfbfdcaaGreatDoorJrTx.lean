/- The document's text, Text (package truchmanref13). -/
import Derived.Test.YtnbhhnkcfbfdcaaGreatDoorJrTk
import Derived.Test.YtnbhhnkcfbfdcaaGreatDoorJrL
import Derived.Test.YtnbhhnkcfbfdcaaGreatDoorJsTxt
import Derived.Test.YtnbhhnkcfbfdcaaGreatDoorZN
import Derived.Deep.Cut
import Derived.Deep.CutRange
namespace Go.Proofs.YtnbhhnkcfbfdcaaGreatDoor
open Go Go.RowKit
set_option linter.unusedVariables false

set_option maxRecDepth 20000 in
set_option maxHeartbeats 1000000 in
theorem rtext_leaf (x : ND) (a : Option Addr) (cap p : Nat) (l : List ND) (w : World) (hp : p < l.length) (hat : l[p] = x) (hsg : ¬ tSign x.1 = true) (hl : l.length ≤ 1099511627776) (hin : NIn w a l) (hx : x.2.2.1.length ≤ 1099511627776) :
    Calls Tryz.prog 33 #[.slice a l.length cap, .int .i64 (p : Nat)] w fun e w' => e = .returned (.string (bA (tPut (x.1, x.2.2.1)))) ∧ Below w.heap.size w w' := by
  obtain ⟨g, rfl, hgl, c0, c1, c2, c3⟩ := hin p hp
  rw [hat] at c0 c1 c2 c3
  have q1 : (p : Int) < (l.length : Int) := by omega
  have q2 : (0 : Int) ≤ (p : Int) := by omega
  have r1 : ((x.1.toNat : Int) != 123) = true := by rw [bne, show ((x.1.toNat : Int) == 123) = false from (eq8 x.1 123).trans (decide_eq_false (fun e => hsg (by rw [e]; rfl)))]; rfl
  have r2 : ((x.1.toNat : Int) != 91) = true := by rw [bne, show ((x.1.toNat : Int) == 91) = false from (eq8 x.1 91).trans (decide_eq_false (fun e => hsg (by rw [e]; rfl)))]; rfl
  have HT := Lib.hid (fun w => tktext_any (x.1, x.2.2.1) w hx)
  have d0 : NdT 28 (w.alloc (.cells (ndC x).toArray 28)) w.heap.size x := heap_alloc_new w (.cells (ndC x).toArray 28)
  have e0 := d0.c0; have e2 := d0.c2
  have b0 := Lib.hid (alloc_below w (.cells (ndC x).toArray 28))
  unfold ndC at e0 e2 b0
  simp only [List.toArray] at e0 e2
  clear hin hat hsg d0 hp
  go_enter Tryz.func33, Tryz.ntmps33
  go_wp2_with fail
  refine (HT.out _).mono ?_
  rintro e w1 ⟨rfl, b1⟩
  have B1 := Lib.hid (b0.out.trans (b1.mono b0.out.size))
  clear b1 b0
  go_wp2
  go_ret
  exact ⟨rfl, B1.out⟩
/-- Between two kids. -/
def TxRel (C : Nat) (l : List ND) (ob : Bool) (T : Nat) (x : ND) (P0 : Nat) (kv : Value) (Kd : List Nat) (E : Nat) (all : List UInt8) (W : World) (v i : Value) (wr : World) : Prop :=
  ∃ (j f : Nat) (pB lr rs : List ND) (tr : List TK) (bs : List UInt8), i = .int .i64 (j : Nat) ∧ j ≤ Kd.length ∧ v = .string (bA bs) ∧ Kd.drop j = kdL l f pB.length E ∧ E ≤ f + pB.length ∧ P0 ≤ pB.length ∧ l = pB ++ (lr ++ rs) ∧ E = pB.length + lr.length ∧ Wf (some (ob, decide (j = 0))) [] lr tr ∧
    (∀ x ∈ tr, TOk x ∧ x.2.length ≤ 1099511627776) ∧ Hid (bs ++ tksB tr = all) ∧ NdT 28 wr T x ∧ IRow wr C kv Kd ∧ Below W.heap.size W wr
/-- What text does with the tree at a place. -/
def TxC (a : Option Addr) (cap : Nat) (l : List ND) (n : Nat) : Prop := ∀ (seg pA rs : List ND) (tk : List TK) (key : List UInt8) (w : World), seg.length ≤ n → Wf none key seg tk → l = pA ++ (seg ++ rs) → (∀ x ∈ tk, TOk x ∧ x.2.length ≤ 1099511627776) → (tksB tk).length ≤ 70368744177664 → NIn w a l →
  Calls Tryz.prog 33 #[.slice a l.length cap, .int .i64 (pA.length : Nat)] w fun e w' => e = .returned (.string (bA (tksB tk))) ∧ Below w.heap.size w w'
theorem bA_cat (l m : List UInt8) : bA l ++ bA m = bA (l ++ m) := bA_append l m
set_option maxRecDepth 20000 in
set_option maxHeartbeats 4000000 in
theorem rtext_nodeL {a : Option Addr} {cap : Nat} {l : List ND} {n : Nat} (hI : TxC a cap l n) (hl : l.length ≤ 1099511627776) (hsz : SzOk l) (key : List UInt8) (lm pA rs : List ND) (km : List TK) (w : World)
    (hn : lm.length ≤ n) (hw : Wf (some (false, true)) [] lm km) (hle : l = pA ++ (((opn false, key, [], lm.length + 1) :: lm) ++ rs)) (ht : ∀ t ∈ km, TOk t ∧ t.2.length ≤ 1099511627776) (hlen : (tksB km).length + 2 ≤ 70368744177664) (hin : NIn w a l) :
    Calls Tryz.prog 33 #[.slice a l.length cap, .int .i64 (pA.length : Nat)] w fun e w' => e = .returned (.string (bA (opn false :: (tksB km ++ [cls false])))) ∧ Below w.heap.size w w' := by
  obtain ⟨x, hxd⟩ : ∃ x : ND, x = (opn false, key, [], lm.length + 1) := ⟨_, rfl⟩
  rw [← hxd] at hle
  have hx0 : x.1 = opn false := by rw [hxd]
  have hx3 : x.2.2.2 = lm.length + 1 := by rw [hxd]
  obtain ⟨hp, hat⟩ := at_front hle (x := x) (r := lm) rfl
  obtain ⟨g, rfl, hgl, c0, c1, c2, c3⟩ := hin pA.length hp
  rw [hat] at c0 c1 c2 c3
  have HUP := Lib.hid (show ∀ wx, Below w.heap.size w wx → NIn wx (some ⟨g, 0, none⟩) l from fun wx hb => hin.below hb (Nat.le_refl _))
  generalize hP : pA.length = p at *
  have q1 : (p : Int) < (l.length : Int) := by omega
  have q2 : (0 : Int) ≤ (p : Int) := by omega
  have d0 : NdT 28 (w.alloc (.cells (ndC x).toArray 28)) w.heap.size x := heap_alloc_new w (.cells (ndC x).toArray 28)
  have b0 := alloc_below w (.cells (ndC x).toArray 28)
  have D0 := Lib.hid d0
  have B0 := Lib.hid b0
  have HTO := Lib.hid (fun w => text_one Tryz.prog 43 5 9 w (x.1.toNat : Int) x.1 rfl Tryz.underlying43 Tryz.underlying5 Tryz.underlying9)
  have HALL := Lib.hid (And.intro hn (And.intro hw (And.intro hx3 (And.intro hle ht))))
  have HSZ := Lib.hid hsz
  have HAT := Lib.hid hat
  have HI := Lib.hid hI
  have HX0 := Lib.hid hx0
  have HL := Lib.hid hlen
  have HPA := Lib.hid hP
  have x1 : ((x.1.toNat : Int) != 123) = true := by rw [hx0]; decide
  have x2 : ((x.1.toNat : Int) != 91) = false := by rw [hx0]; decide
  have x3 : ((x.1.toNat : Int) == 123) = false := by rw [hx0]; decide
  have hcw : IntKind.u8.wrap ((x.1.toNat : Int) + 2) = ((cls false).toNat : Int) := by rw [hx0]; decide
  have HCW := Lib.hid hcw
  have HTC := Lib.hid (fun w => text_one Tryz.prog 43 5 9 w ((cls false).toNat : Int) (cls false) rfl Tryz.underlying43 Tryz.underlying5 Tryz.underlying9)
  unfold ndC at D0 B0
  clear hn hw hx3 hle ht hlen hin hsz hI hat d0 b0 hx0 hxd hP hcw
  go_enter Tryz.func33, Tryz.ntmps33
  go_upto_region 2 with fail
  generalize w.alloc (.cells #[.int .u8 (x.1.toNat : Int), .string (bA x.2.1), .string (bA x.2.2.1), .int .i64 (x.2.2.2 : Nat)] 28) = w0 at *
  have e0 := D0.out.c0
  clear c0 c1 c2 c3
  go_wp2_with fail
  rw [HTO.out]
  have B1 := Lib.hid (B0.out.trans ((alloc_below w0 (.cells #[.int .u8 (x.1.toNat : Int)] 5)).mono B0.out.size))
  have D1 := Lib.hid (show NdT 28 (w0.alloc (.cells #[.int .u8 (x.1.toNat : Int)] 5)) w.heap.size x from ((alloc_below w0 (.cells #[.int .u8 (x.1.toNat : Int)] 5)).block _ (lt_of_block D0.out)).trans D0.out)
  clear e0 D0 B0
  generalize w0.alloc (.cells #[.int .u8 (x.1.toNat : Int)] 5) = w1 at *
  have HKD := Lib.hid (rkids_any (some ⟨g, 0, none⟩) cap l (p : Nat) w1 hl (HUP.out w1 B1.out) HSZ.out (by omega) (by omega))
  go_wp2_with fail
  with_reducible refine HKD.out.mono ?_
  rintro e w3 ⟨kv, rfl, hkv, b3⟩
  have B3 := Lib.hid (B1.out.trans (b3.mono B1.out.size))
  have D3 := Lib.hid (show NdT 28 w3 w.heap.size x from (b3.block _ (lt_of_block D1.out)).trans D1.out)
  obtain ⟨ka, kc, rfl, hki⟩ := hkv.inn
  have HKV := Lib.hid hkv
  have HKL := Lib.hid (show kidsL l (p : Nat) = kdL l l.length (p + 1) (p + x.2.2.2) by
    unfold kidsL
    obtain ⟨hn, hw, hx, hle, ht⟩ := HALL.out
    obtain ⟨hp2, hat2⟩ := at_front hle (x := x) (r := lm) rfl
    have hp3 : p < l.length := by omega
    rw [if_neg (by omega), Int.toNat_natCast, getD_at hp3, HAT.out])
  rw [HKL.out] at hki HKV
  rw [HKL.out]
  have HKB := Lib.hid (show (kdL l l.length (p + 1) (p + x.2.2.2)).length ≤ l.length from kdL_len l _ _ _)
  generalize hKd : kdL l l.length (p + 1) (p + x.2.2.2) = Kd at *
  have HKd := Lib.hid hKd
  clear hkv b3 hki HKD HKL D1 B1 hKd
  go_wp2_with fail
  have R0 := Lib.hid (show TxRel w1.heap.size l false w.heap.size x (p + 1) (.slice ka Kd.length kc) Kd (p + x.2.2.2) (opn false :: tksB km) w (.string (bA [x.1])) (.int .i64 0) w3 from by
    obtain ⟨hn, hw, hx, hle, ht⟩ := HALL.out
    have hll : l.length = p + ((lm.length + 1) + rs.length) := by rw [hle]; simp [HPA.out]; omega
    refine ⟨0, l.length, pA ++ [x], lm, rs, km, [x.1], rfl, Nat.zero_le _, rfl, ?_, by rw [List.length_append, HPA.out]; omega, by rw [List.length_append, HPA.out]; simp, by rw [hle]; simp, by have h1 : (pA ++ [x]).length = p + 1 := by { rw [List.length_append, HPA.out]; rfl }; omega, hw, ht, Lib.hid (by rw [HX0.out]; rfl), D3.out, HKV.out, B3.out⟩
    rw [List.drop_zero, List.length_append, HPA.out, ← HKd.out]; rfl)
  clear D3 HKV B3
  go_loopw [6, 8] (fun v i wr => TxRel w1.heap.size l false w.heap.size x (p + 1) (.slice ka Kd.length kc) Kd (p + x.2.2.2) (opn false :: tksB km) w v i wr) (fun _ i _ => Kd.length - (intOf i).toNat)
  case atStart => exact R0.out
  case round =>
    clear R0
    obtain ⟨j, f, pB, lr, rs2, tr, bs2, rfl, hj, rfl, hdr, hf, hP0, hle, hE, hw, htr, hall, hnd, hik, hbel⟩ := hrel
    have HLE := Lib.hid hle
    clear hle
    obtain ⟨ka2, kc2, ek, hkI⟩ := hik.inn
    simp only [Value.slice.injEq, true_and] at ek
    obtain ⟨rfl, rfl⟩ := ek
    by_cases hlt : j < Kd.length
    · have p3 : decide (j < Kd.length) = true := decide_eq_true hlt
      have p4 : (j : Int) < (Kd.length : Int) := by omega
      have hj1 : (j : Int) ≤ 1099511627776 := by have := HKB.out; omega
      have hj2 : j < 1099511627776 := by have := HKB.out; omega
      obtain ⟨kb, rfl, hkb, hck⟩ := hkI j hlt
      have hd2 : Kd.drop j = Kd[j] :: Kd.drop (j + 1) := List.drop_eq_getElem_cons hlt
      rw [hd2] at hdr
      have hlr : lr ≠ [] := fun e => by
        rw [kdL_end (by rw [hE, e]; simp)] at hdr; cases hdr
      obtain ⟨f, rfl⟩ : ∃ f', f = f' + 1 := by
        cases f with
        | zero => rw [show kdL l 0 pB.length (p + x.2.2.2) = [] from rfl] at hdr; cases hdr
        | succ f => exact ⟨f, rfl⟩
      rcases wf_inv1 hw with ⟨e, _⟩ | ⟨key2, l1, l2, k1, k2, w1', w2', e1, e2⟩
      · exact absurd e hlr
      · obtain ⟨y, ys, hy1, hy2, hy3⟩ := wf_key w1'
        have hll1 := wf_pos w1' rfl
        obtain ⟨hq, hqa⟩ := at_front (l := l) (pA := pB) (seg := l1) (rs := l2 ++ rs2) (by rw [HLE.out, e1]; simp) hy1
        have hlt2 : pB.length < p + x.2.2.2 := by rw [hE, e1, List.length_append]; omega
        rw [kdL_go hlt2 hq, hqa, hy2] at hdr
        obtain ⟨hk0, hkr⟩ := List.cons.inj hdr
        rw [hk0] at hck
        have HE := Lib.hid (And.intro hE (And.intro hkr (And.intro e1 (And.intro hf (And.intro hP0 hlt)))))
        have HW := Lib.hid (And.intro w1' w2')
        have HTR := Lib.hid (And.intro htr e2)
        have HB := Lib.hid hbel
        have HIK := Lib.hid hik
        have HND := Lib.hid hnd
        have HNI := Lib.hid (fun wx h => HUP.out wx (hbel.trans h))
        obtain ⟨g2, eg2, _, n0, n1, _, _⟩ := HUP.out wr hbel pB.length hq
        obtain rfl : g = g2 := by simpa using eg2
        rw [hqa, hy3] at n1
        have hLb := HL.out
        have hkl : True := trivial
        have hall3 := hall.out
        rw [e2, part_bytes] at hall3
        have hLT : (bs2 ++ (sepB j ++ (keyB false key2 ++ (tksB k1 ++ tksB k2)))).length + 2 ≤ 70368744177665 := by
          rw [hall3]; simp only [List.length_cons]; omega
        simp only [List.length_append] at hLT
        have HAL3 := Lib.hid hall3
        have hk1l : (tksB k1).length ≤ 70368744177664 := by omega
        have hln : l1.length ≤ n := by
          obtain ⟨hn, hw0, hx, hle0, ht0⟩ := HALL.out
          have h1 := congrArg List.length e1
          rw [List.length_append] at h1
          omega
        have HC := Lib.hid (fun wx h => HI.out l1 pB (l2 ++ rs2) k1 key2 wx hln w1' (by rw [HLE.out, e1]; simp) (fun t hm => htr t (by rw [e2]; simp [hm])) hk1l (HNI.out wx h))
        generalize hqq : pB.length = q at *
        have HQQ := Lib.hid hqq
        have r1 : (q : Int) < (l.length : Int) := by omega
        have r2 : (0 : Int) ≤ (q : Int) := by omega
        have c0 := hnd.c0
        obtain ⟨S, hS⟩ : ∃ S, S = bA bs2 := ⟨_, rfl⟩
        have hSz : S.size = bs2.length := by rw [hS, bA_size]
        have hSl : S.size + 1 ≤ 70368744177664 := by omega
        have HSS := Lib.hid hS
        have HSZ2 := Lib.hid hSz
        rw [← hS]
        clear hdr hlr hk0 hkr hy1 hy2 hy3 hE e1 e2 hw htr hall hbel hnd hik hd2 hf hP0 hlt2 hkI n0 hqa hll1 w1' w2' eg2 hall3 hLb hS hSz hqq hln hk1l
        go_upto_if 41 with fail
        go_cut [6] from 34 to 66 (fun v1 wx => v1 = .string (bA (bs2 ++ sepB j)) ∧ wx = wr)
        case first =>
          by_cases h0 : j = 0
          · have r3 : decide ((0 : Int) < (j : Int)) = false := decide_eq_false (by omega)
            have r4 : decide (0 < j) = false := decide_eq_false (by omega)
            have r5 : ¬ 0 < j := by omega
            have HQ := Lib.hid (show S = bA (bs2 ++ sepB j) from by unfold sepB; rw [if_pos h0, List.append_nil]; exact HSS.out)
            clear h0 hLT
            go_wp2_with fail
            go_meet
            case rel => exact (⟨congrArg Value.string HQ.out, rfl⟩ : Value.string S = .string (bA (bs2 ++ sepB j)) ∧ wr = wr)
          · have r3 : decide ((0 : Int) < (j : Int)) = true := decide_eq_true (by omega)
            have r4 : decide (0 < j) = true := decide_eq_true (by omega)
            have r5 : 0 < j := by omega
            have HQ := Lib.hid (show S ++ ⟨#[44]⟩ = bA (bs2 ++ sepB j) from by
              unfold sepB
              rw [if_neg h0, HSS.out]
              exact bA_append bs2 [44])
            clear h0 hLT
            go_wp2_with fail
            go_meet
            case rel => exact (⟨congrArg Value.string HQ.out, rfl⟩ : Value.string (S ++ ⟨#[44]⟩) = .string (bA (bs2 ++ sepB j)) ∧ wr = wr)
        case rest =>
          obtain ⟨rfl, hw9⟩ := hcut
          rw [hw9]
          clear hw9
          obtain ⟨U, hU⟩ : ∃ U, U = bA (bs2 ++ sepB j) := ⟨_, rfl⟩
          have hUz : U.size = bs2.length + (sepB j).length := by rw [hU, bA_size, List.length_append]
          have HUU := Lib.hid hU
          rw [← hU]
          clear hU
          go_upto_if 46 with fail
          go_cut [6] from 44 to 66 (fun v2 wx => v2 = .string (bA (bs2 ++ sepB j ++ keyB false key2)) ∧ Below wr.heap.size wr wx)
          case first =>
            have HQ := Lib.hid (show U = bA (bs2 ++ sepB j ++ keyB false key2) from by unfold keyB; simp only [Bool.false_eq_true, if_false, List.append_nil]; exact HUU.out)
            clear hLT
            go_wp2_with fail
            go_meet
            case rel => exact (⟨congrArg Value.string HQ.out, Below.refl _ _⟩ : Value.string U = .string (bA (bs2 ++ sepB j ++ keyB false key2)) ∧ Below wr.heap.size wr wr)
          case rest =>
            obtain ⟨rfl, bB⟩ := hcut
            have HBB := Lib.hid (HB.out.trans (bB.mono HB.out.size))
            have HIB := Lib.hid (HIK.out.below bB (Nat.le_refl _))
            have HNB := Lib.hid (show NdT 28 wc w.heap.size x from (bB.block _ (lt_of_block HND.out)).trans HND.out)
            have hck2 := (bB.cell (p := ⟨kb, j, none⟩) hkb).trans hck
            have HCX := Lib.hid (HC.out wc (bB.mono HB.out.size))
            obtain ⟨Z, hZ⟩ : ∃ Z, Z = bA (bs2 ++ sepB j ++ keyB false key2) := ⟨_, rfl⟩
            have hZz : Z.size = bs2.length + (sepB j).length + (keyB false key2).length := by rw [hZ, bA_size, List.length_append, List.length_append]
            have HZZ := Lib.hid hZ
            rw [← hZ]
            obtain ⟨K1, hK1⟩ : ∃ K1, K1 = bA (tksB k1) := ⟨_, rfl⟩
            have hKz : K1.size = (tksB k1).length := by rw [hK1, bA_size]
            have HK1 := Lib.hid hK1
            rw [← hK1] at HCX
            have hsum : Z.size + K1.size ≤ 70368744177664 := by omega
            clear hZ hK1 hZz hKz hUz hLT bB
            go_wp2_with fail
            with_reducible refine HCX.out.mono ?_
            rintro e wE ⟨rfl, bE⟩
            have BE := Lib.hid (HBB.out.trans (bE.mono HBB.out.size))
            have IE := Lib.hid (HIB.out.below bE (Nat.le_refl _))
            have NE := Lib.hid (show NdT 28 wE w.heap.size x from (bE.block _ (lt_of_block HNB.out)).trans HNB.out)
            clear bE HCX
            go_wp2_with fail
            go_roundw
            case rel =>
              obtain ⟨d1, d2, d3, d4, d5, d6⟩ := HE.out
              obtain ⟨htr, e2⟩ := HTR.out
              have hw1 := HW.out.2
              refine (⟨j + 1, f, pB ++ l1, l2, rs2, k2, bs2 ++ sepB j ++ keyB false key2 ++ tksB k1, by go_num, d6, ?_, ?_, ?_, ?_, ?_, ?_, by simpa using hw1, fun t hm => htr t (by rw [e2]; simp [hm]), Lib.hid ?_, NE.out, IE.out, BE.out⟩ : TxRel w1.heap.size l false w.heap.size x (p + 1) (.slice (some ⟨kb, 0, none⟩) Kd.length kc) Kd (p + x.2.2.2) (opn false :: tksB km) w _ _ wE)
              · rw [HZZ.out, HK1.out, bA_append]
              · rw [List.length_append, HQQ.out]; exact d2
              · rw [List.length_append, HQQ.out]; have := wf_pos HW.out.1 rfl; omega
              · rw [List.length_append, HQQ.out]; omega
              · rw [HLE.out, d3]; simp
              · rw [List.length_append, HQQ.out]
                have h1 := congrArg List.length d3
                rw [List.length_append] at h1
                omega
              · rw [← HAL3.out]; simp
            case measure =>
              simp [intOf]; have := HE.out.2.2.2.2.2; omega
    · have p3 : decide (j < Kd.length) = false := decide_eq_false hlt
      have p4 : ¬ j < Kd.length := hlt
      have hlr : lr = [] := by
        cases lr with
        | nil => rfl
        | cons y ys =>
          have h1 : Kd.drop j = [] := List.drop_eq_nil_of_le (by omega)
          have hE2 := hE
          simp only [List.length_cons] at hE2
          cases f with
          | zero => omega
          | succ f =>
            rw [kdL, if_pos (by omega)] at hdr
            rw [h1] at hdr; cases hdr
      subst hlr
      have htk : tr = [] := by
        rcases wf_inv1 hw with ⟨_, e⟩ | ⟨key, l1, l2, k1, k2, w1, _, e, _⟩
        · exact e
        · have := wf_pos w1 rfl
          have h2 := congrArg List.length e
          rw [List.length_append, List.length_nil] at h2
          omega
      subst htk
      have hall2 : bs2 = opn false :: tksB km := by have := hall.out; simpa [tksB] using this
      obtain ⟨S, hS⟩ : ∃ S, S = bA bs2 := ⟨_, rfl⟩
      have hSz : S.size + 1 ≤ 70368744177664 := by rw [hS, bA_size, hall2, List.length_cons]; have := HL.out; omega
      have HQ := Lib.hid (show S ++ bA [cls false] = bA (opn false :: (tksB km ++ [cls false])) by rw [hS, hall2, bA_append]; rfl)
      have HB := Lib.hid hbel
      have c0 := hnd.c0
      rw [← hS]
      obtain ⟨V, hV⟩ : ∃ V, V = bA [cls false] := ⟨_, rfl⟩
      have hVz : S.size + V.size ≤ 70368744177664 := by rw [hV, bA_size]; simpa using hSz
      rw [← hV] at HQ
      have HTV := Lib.hid (show ∀ w, _ from fun w => hV ▸ HTC.out w)
      have hcw := HCW.out
      clear hall hall2 hdr hw htr hik hnd hkI hbel hlt hS hV hE hf hP0 hSz
      go_wp2_with fail
      rw [HTV.out]
      go_wp2
      go_ret
      exact ⟨by rw [HQ.out]; rfl, HB.out.trans ((alloc_below wr _).mono HB.out.size)⟩
set_option maxRecDepth 20000 in
set_option maxHeartbeats 4000000 in
theorem rtext_nodeO {a : Option Addr} {cap : Nat} {l : List ND} {n : Nat} (hI : TxC a cap l n) (hl : l.length ≤ 1099511627776) (hsz : SzOk l) (key : List UInt8) (lm pA rs : List ND) (km : List TK) (w : World)
    (hn : lm.length ≤ n) (hw : Wf (some (true, true)) [] lm km) (hle : l = pA ++ (((opn true, key, [], lm.length + 1) :: lm) ++ rs)) (ht : ∀ t ∈ km, TOk t ∧ t.2.length ≤ 1099511627776) (hlen : (tksB km).length + 2 ≤ 70368744177664) (hin : NIn w a l) :
    Calls Tryz.prog 33 #[.slice a l.length cap, .int .i64 (pA.length : Nat)] w fun e w' => e = .returned (.string (bA (opn true :: (tksB km ++ [cls true])))) ∧ Below w.heap.size w w' := by
  obtain ⟨x, hxd⟩ : ∃ x : ND, x = (opn true, key, [], lm.length + 1) := ⟨_, rfl⟩
  rw [← hxd] at hle
  have hx0 : x.1 = opn true := by rw [hxd]
  have hx3 : x.2.2.2 = lm.length + 1 := by rw [hxd]
  obtain ⟨hp, hat⟩ := at_front hle (x := x) (r := lm) rfl
  obtain ⟨g, rfl, hgl, c0, c1, c2, c3⟩ := hin pA.length hp
  rw [hat] at c0 c1 c2 c3
  have HUP := Lib.hid (show ∀ wx, Below w.heap.size w wx → NIn wx (some ⟨g, 0, none⟩) l from fun wx hb => hin.below hb (Nat.le_refl _))
  generalize hP : pA.length = p at *
  have q1 : (p : Int) < (l.length : Int) := by omega
  have q2 : (0 : Int) ≤ (p : Int) := by omega
  have d0 : NdT 28 (w.alloc (.cells (ndC x).toArray 28)) w.heap.size x := heap_alloc_new w (.cells (ndC x).toArray 28)
  have b0 := alloc_below w (.cells (ndC x).toArray 28)
  have D0 := Lib.hid d0
  have B0 := Lib.hid b0
  have HTO := Lib.hid (fun w => text_one Tryz.prog 43 5 9 w (x.1.toNat : Int) x.1 rfl Tryz.underlying43 Tryz.underlying5 Tryz.underlying9)
  have HALL := Lib.hid (And.intro hn (And.intro hw (And.intro hx3 (And.intro hle ht))))
  have HSZ := Lib.hid hsz
  have HAT := Lib.hid hat
  have HI := Lib.hid hI
  have HX0 := Lib.hid hx0
  have HL := Lib.hid hlen
  have HPA := Lib.hid hP
  have x1 : ((x.1.toNat : Int) != 123) = false := by rw [hx0]; decide
  have x2 : ((x.1.toNat : Int) != 91) = true := by rw [hx0]; decide
  have x3 : ((x.1.toNat : Int) == 123) = true := by rw [hx0]; decide
  have hcw : IntKind.u8.wrap ((x.1.toNat : Int) + 2) = ((cls true).toNat : Int) := by rw [hx0]; decide
  have HCW := Lib.hid hcw
  have HTC := Lib.hid (fun w => text_one Tryz.prog 43 5 9 w ((cls true).toNat : Int) (cls true) rfl Tryz.underlying43 Tryz.underlying5 Tryz.underlying9)
  unfold ndC at D0 B0
  clear hn hw hx3 hle ht hlen hin hsz hI hat d0 b0 hx0 hxd hP hcw
  go_enter Tryz.func33, Tryz.ntmps33
  go_upto_region 2 with fail
  generalize w.alloc (.cells #[.int .u8 (x.1.toNat : Int), .string (bA x.2.1), .string (bA x.2.2.1), .int .i64 (x.2.2.2 : Nat)] 28) = w0 at *
  have e0 := D0.out.c0
  clear c0 c1 c2 c3
  go_wp2_with fail
  rw [HTO.out]
  have B1 := Lib.hid (B0.out.trans ((alloc_below w0 (.cells #[.int .u8 (x.1.toNat : Int)] 5)).mono B0.out.size))
  have D1 := Lib.hid (show NdT 28 (w0.alloc (.cells #[.int .u8 (x.1.toNat : Int)] 5)) w.heap.size x from ((alloc_below w0 (.cells #[.int .u8 (x.1.toNat : Int)] 5)).block _ (lt_of_block D0.out)).trans D0.out)
  clear e0 D0 B0
  generalize w0.alloc (.cells #[.int .u8 (x.1.toNat : Int)] 5) = w1 at *
  have HKD := Lib.hid (rkids_any (some ⟨g, 0, none⟩) cap l (p : Nat) w1 hl (HUP.out w1 B1.out) HSZ.out (by omega) (by omega))
  go_wp2_with fail
  with_reducible refine HKD.out.mono ?_
  rintro e w3 ⟨kv, rfl, hkv, b3⟩
  have B3 := Lib.hid (B1.out.trans (b3.mono B1.out.size))
  have D3 := Lib.hid (show NdT 28 w3 w.heap.size x from (b3.block _ (lt_of_block D1.out)).trans D1.out)
  obtain ⟨ka, kc, rfl, hki⟩ := hkv.inn
  have HKV := Lib.hid hkv
  have HKL := Lib.hid (show kidsL l (p : Nat) = kdL l l.length (p + 1) (p + x.2.2.2) by
    unfold kidsL
    obtain ⟨hn, hw, hx, hle, ht⟩ := HALL.out
    obtain ⟨hp2, hat2⟩ := at_front hle (x := x) (r := lm) rfl
    have hp3 : p < l.length := by omega
    rw [if_neg (by omega), Int.toNat_natCast, getD_at hp3, HAT.out])
  rw [HKL.out] at hki HKV
  rw [HKL.out]
  have HKB := Lib.hid (show (kdL l l.length (p + 1) (p + x.2.2.2)).length ≤ l.length from kdL_len l _ _ _)
  generalize hKd : kdL l l.length (p + 1) (p + x.2.2.2) = Kd at *
  have HKd := Lib.hid hKd
  clear hkv b3 hki HKD HKL D1 B1 hKd
  go_wp2_with fail
  have R0 := Lib.hid (show TxRel w1.heap.size l true w.heap.size x (p + 1) (.slice ka Kd.length kc) Kd (p + x.2.2.2) (opn true :: tksB km) w (.string (bA [x.1])) (.int .i64 0) w3 from by
    obtain ⟨hn, hw, hx, hle, ht⟩ := HALL.out
    have hll : l.length = p + ((lm.length + 1) + rs.length) := by rw [hle]; simp [HPA.out]; omega
    refine ⟨0, l.length, pA ++ [x], lm, rs, km, [x.1], rfl, Nat.zero_le _, rfl, ?_, by rw [List.length_append, HPA.out]; omega, by rw [List.length_append, HPA.out]; simp, by rw [hle]; simp, by have h1 : (pA ++ [x]).length = p + 1 := by { rw [List.length_append, HPA.out]; rfl }; omega, hw, ht, Lib.hid (by rw [HX0.out]; rfl), D3.out, HKV.out, B3.out⟩
    rw [List.drop_zero, List.length_append, HPA.out, ← HKd.out]; rfl)
  clear D3 HKV B3
  go_loopw [6, 8] (fun v i wr => TxRel w1.heap.size l true w.heap.size x (p + 1) (.slice ka Kd.length kc) Kd (p + x.2.2.2) (opn true :: tksB km) w v i wr) (fun _ i _ => Kd.length - (intOf i).toNat)
  case atStart => exact R0.out
  case round =>
    clear R0
    obtain ⟨j, f, pB, lr, rs2, tr, bs2, rfl, hj, rfl, hdr, hf, hP0, hle, hE, hw, htr, hall, hnd, hik, hbel⟩ := hrel
    have HLE := Lib.hid hle
    clear hle
    obtain ⟨ka2, kc2, ek, hkI⟩ := hik.inn
    simp only [Value.slice.injEq, true_and] at ek
    obtain ⟨rfl, rfl⟩ := ek
    by_cases hlt : j < Kd.length
    · have p3 : decide (j < Kd.length) = true := decide_eq_true hlt
      have p4 : (j : Int) < (Kd.length : Int) := by omega
      have hj1 : (j : Int) ≤ 1099511627776 := by have := HKB.out; omega
      have hj2 : j < 1099511627776 := by have := HKB.out; omega
      obtain ⟨kb, rfl, hkb, hck⟩ := hkI j hlt
      have hd2 : Kd.drop j = Kd[j] :: Kd.drop (j + 1) := List.drop_eq_getElem_cons hlt
      rw [hd2] at hdr
      have hlr : lr ≠ [] := fun e => by
        rw [kdL_end (by rw [hE, e]; simp)] at hdr; cases hdr
      obtain ⟨f, rfl⟩ : ∃ f', f = f' + 1 := by
        cases f with
        | zero => rw [show kdL l 0 pB.length (p + x.2.2.2) = [] from rfl] at hdr; cases hdr
        | succ f => exact ⟨f, rfl⟩
      rcases wf_inv1 hw with ⟨e, _⟩ | ⟨key2, l1, l2, k1, k2, w1', w2', e1, e2⟩
      · exact absurd e hlr
      · obtain ⟨y, ys, hy1, hy2, hy3⟩ := wf_key w1'
        have hll1 := wf_pos w1' rfl
        obtain ⟨hq, hqa⟩ := at_front (l := l) (pA := pB) (seg := l1) (rs := l2 ++ rs2) (by rw [HLE.out, e1]; simp) hy1
        have hlt2 : pB.length < p + x.2.2.2 := by rw [hE, e1, List.length_append]; omega
        rw [kdL_go hlt2 hq, hqa, hy2] at hdr
        obtain ⟨hk0, hkr⟩ := List.cons.inj hdr
        rw [hk0] at hck
        have HE := Lib.hid (And.intro hE (And.intro hkr (And.intro e1 (And.intro hf (And.intro hP0 hlt)))))
        have HW := Lib.hid (And.intro w1' w2')
        have HTR := Lib.hid (And.intro htr e2)
        have HB := Lib.hid hbel
        have HIK := Lib.hid hik
        have HND := Lib.hid hnd
        have HNI := Lib.hid (fun wx h => HUP.out wx (hbel.trans h))
        obtain ⟨g2, eg2, _, n0, n1, _, _⟩ := HUP.out wr hbel pB.length hq
        obtain rfl : g = g2 := by simpa using eg2
        rw [hqa, hy3] at n1
        have hLb := HL.out
        have hkl : key2.length ≤ 1099511627776 := (htr (115, key2) (by rw [e2]; simp)).2
        have hall3 := hall.out
        rw [e2, part_bytes] at hall3
        have hLT : (bs2 ++ (sepB j ++ (keyB true key2 ++ (tksB k1 ++ tksB k2)))).length + 2 ≤ 70368744177665 := by
          rw [hall3]; simp only [List.length_cons]; omega
        simp only [List.length_append] at hLT
        have HAL3 := Lib.hid hall3
        have hk1l : (tksB k1).length ≤ 70368744177664 := by omega
        have hln : l1.length ≤ n := by
          obtain ⟨hn, hw0, hx, hle0, ht0⟩ := HALL.out
          have h1 := congrArg List.length e1
          rw [List.length_append] at h1
          omega
        have HC := Lib.hid (fun wx h => HI.out l1 pB (l2 ++ rs2) k1 key2 wx hln w1' (by rw [HLE.out, e1]; simp) (fun t hm => htr t (by rw [e2]; simp [hm])) hk1l (HNI.out wx h))
        generalize hqq : pB.length = q at *
        have HQQ := Lib.hid hqq
        have r1 : (q : Int) < (l.length : Int) := by omega
        have r2 : (0 : Int) ≤ (q : Int) := by omega
        have c0 := hnd.c0
        obtain ⟨S, hS⟩ : ∃ S, S = bA bs2 := ⟨_, rfl⟩
        have hSz : S.size = bs2.length := by rw [hS, bA_size]
        have hSl : S.size + 1 ≤ 70368744177664 := by omega
        have HSS := Lib.hid hS
        have HSZ2 := Lib.hid hSz
        rw [← hS]
        clear hdr hlr hk0 hkr hy1 hy2 hy3 hE e1 e2 hw htr hall hbel hnd hik hd2 hf hP0 hlt2 hkI n0 hqa hll1 w1' w2' eg2 hall3 hLb hS hSz hqq hln hk1l
        go_upto_if 41 with fail
        go_cut [6] from 34 to 66 (fun v1 wx => v1 = .string (bA (bs2 ++ sepB j)) ∧ wx = wr)
        case first =>
          by_cases h0 : j = 0
          · have r3 : decide ((0 : Int) < (j : Int)) = false := decide_eq_false (by omega)
            have r4 : decide (0 < j) = false := decide_eq_false (by omega)
            have r5 : ¬ 0 < j := by omega
            have HQ := Lib.hid (show S = bA (bs2 ++ sepB j) from by unfold sepB; rw [if_pos h0, List.append_nil]; exact HSS.out)
            clear h0 hLT
            go_wp2_with fail
            go_meet
            case rel => exact (⟨congrArg Value.string HQ.out, rfl⟩ : Value.string S = .string (bA (bs2 ++ sepB j)) ∧ wr = wr)
          · have r3 : decide ((0 : Int) < (j : Int)) = true := decide_eq_true (by omega)
            have r4 : decide (0 < j) = true := decide_eq_true (by omega)
            have r5 : 0 < j := by omega
            have HQ := Lib.hid (show S ++ ⟨#[44]⟩ = bA (bs2 ++ sepB j) from by
              unfold sepB
              rw [if_neg h0, HSS.out]
              exact bA_append bs2 [44])
            clear h0 hLT
            go_wp2_with fail
            go_meet
            case rel => exact (⟨congrArg Value.string HQ.out, rfl⟩ : Value.string (S ++ ⟨#[44]⟩) = .string (bA (bs2 ++ sepB j)) ∧ wr = wr)
        case rest =>
          obtain ⟨rfl, hw9⟩ := hcut
          rw [hw9]
          clear hw9
          obtain ⟨U, hU⟩ : ∃ U, U = bA (bs2 ++ sepB j) := ⟨_, rfl⟩
          have hUz : U.size = bs2.length + (sepB j).length := by rw [hU, bA_size, List.length_append]
          have HUU := Lib.hid hU
          rw [← hU]
          clear hU
          go_upto_if 46 with fail
          go_cut [6] from 44 to 66 (fun v2 wx => v2 = .string (bA (bs2 ++ sepB j ++ keyB true key2)) ∧ Below wr.heap.size wr wx)
          case first =>
            have HJ := Lib.hid (fun w => rjtext_any (bA key2) w (by rw [bA_size]; exact hkl))
            obtain ⟨Y, hY⟩ : ∃ Y, Y = bA (jText key2) := ⟨_, rfl⟩
            have hYz : Y.size = (jText key2).length := by rw [hY, bA_size]
            have hkb2 : (keyB true key2).length = (jText key2).length + 1 := by unfold keyB; simp
            have hs1 : U.size + Y.size ≤ 70368744177664 := by omega
            have hs2 : (U ++ Y).size + 1 ≤ 70368744177664 := by rw [ByteArray.size_append]; omega
            have hs3 : U.size + Y.size + 1 ≤ 70368744177664 := by omega
            have HQ := Lib.hid (show U ++ Y ++ ⟨#[58]⟩ = bA (bs2 ++ sepB j ++ keyB true key2) from by
              unfold keyB
              rw [if_pos rfl, HUU.out, hY, bA_append]
              exact (bA_append _ [58]).trans (by rw [List.append_assoc]))
            have HYY := Lib.hid hY
            clear hLT hY hYz hkb2 hUz
            go_wp2_with fail
            with_reducible refine (HJ.out _).mono ?_
            rintro e wB ⟨rfl, bB⟩
            rw [show bA (jText (bA key2).data.toList) = Y from HYY.out.symm]
            have BB := Lib.hid bB
            clear bB
            go_wp2_with fail
            go_meet
            case rel => exact (⟨congrArg Value.string HQ.out, BB.out⟩ : Value.string (U ++ Y ++ ⟨#[58]⟩) = .string (bA (bs2 ++ sepB j ++ keyB true key2)) ∧ Below wr.heap.size wr wB)
          case rest =>
            obtain ⟨rfl, bB⟩ := hcut
            have HBB := Lib.hid (HB.out.trans (bB.mono HB.out.size))
            have HIB := Lib.hid (HIK.out.below bB (Nat.le_refl _))
            have HNB := Lib.hid (show NdT 28 wc w.heap.size x from (bB.block _ (lt_of_block HND.out)).trans HND.out)
            have hck2 := (bB.cell (p := ⟨kb, j, none⟩) hkb).trans hck
            have HCX := Lib.hid (HC.out wc (bB.mono HB.out.size))
            obtain ⟨Z, hZ⟩ : ∃ Z, Z = bA (bs2 ++ sepB j ++ keyB true key2) := ⟨_, rfl⟩
            have hZz : Z.size = bs2.length + (sepB j).length + (keyB true key2).length := by rw [hZ, bA_size, List.length_append, List.length_append]
            have HZZ := Lib.hid hZ
            rw [← hZ]
            obtain ⟨K1, hK1⟩ : ∃ K1, K1 = bA (tksB k1) := ⟨_, rfl⟩
            have hKz : K1.size = (tksB k1).length := by rw [hK1, bA_size]
            have HK1 := Lib.hid hK1
            rw [← hK1] at HCX
            have hsum : Z.size + K1.size ≤ 70368744177664 := by omega
            clear hZ hK1 hZz hKz hUz hLT bB
            go_wp2_with fail
            with_reducible refine HCX.out.mono ?_
            rintro e wE ⟨rfl, bE⟩
            have BE := Lib.hid (HBB.out.trans (bE.mono HBB.out.size))
            have IE := Lib.hid (HIB.out.below bE (Nat.le_refl _))
            have NE := Lib.hid (show NdT 28 wE w.heap.size x from (bE.block _ (lt_of_block HNB.out)).trans HNB.out)
            clear bE HCX
            go_wp2_with fail
            go_roundw
            case rel =>
              obtain ⟨d1, d2, d3, d4, d5, d6⟩ := HE.out
              obtain ⟨htr, e2⟩ := HTR.out
              have hw1 := HW.out.2
              refine (⟨j + 1, f, pB ++ l1, l2, rs2, k2, bs2 ++ sepB j ++ keyB true key2 ++ tksB k1, by go_num, d6, ?_, ?_, ?_, ?_, ?_, ?_, by simpa using hw1, fun t hm => htr t (by rw [e2]; simp [hm]), Lib.hid ?_, NE.out, IE.out, BE.out⟩ : TxRel w1.heap.size l true w.heap.size x (p + 1) (.slice (some ⟨kb, 0, none⟩) Kd.length kc) Kd (p + x.2.2.2) (opn true :: tksB km) w _ _ wE)
              · rw [HZZ.out, HK1.out, bA_append]
              · rw [List.length_append, HQQ.out]; exact d2
              · rw [List.length_append, HQQ.out]; have := wf_pos HW.out.1 rfl; omega
              · rw [List.length_append, HQQ.out]; omega
              · rw [HLE.out, d3]; simp
              · rw [List.length_append, HQQ.out]
                have h1 := congrArg List.length d3
                rw [List.length_append] at h1
                omega
              · rw [← HAL3.out]; simp
            case measure =>
              simp [intOf]; have := HE.out.2.2.2.2.2; omega
    · have p3 : decide (j < Kd.length) = false := decide_eq_false hlt
      have p4 : ¬ j < Kd.length := hlt
      have hlr : lr = [] := by
        cases lr with
        | nil => rfl
        | cons y ys =>
          have h1 : Kd.drop j = [] := List.drop_eq_nil_of_le (by omega)
          have hE2 := hE
          simp only [List.length_cons] at hE2
          cases f with
          | zero => omega
          | succ f =>
            rw [kdL, if_pos (by omega)] at hdr
            rw [h1] at hdr; cases hdr
      subst hlr
      have htk : tr = [] := by
        rcases wf_inv1 hw with ⟨_, e⟩ | ⟨key, l1, l2, k1, k2, w1, _, e, _⟩
        · exact e
        · have := wf_pos w1 rfl
          have h2 := congrArg List.length e
          rw [List.length_append, List.length_nil] at h2
          omega
      subst htk
      have hall2 : bs2 = opn true :: tksB km := by have := hall.out; simpa [tksB] using this
      obtain ⟨S, hS⟩ : ∃ S, S = bA bs2 := ⟨_, rfl⟩
      have hSz : S.size + 1 ≤ 70368744177664 := by rw [hS, bA_size, hall2, List.length_cons]; have := HL.out; omega
      have HQ := Lib.hid (show S ++ bA [cls true] = bA (opn true :: (tksB km ++ [cls true])) by rw [hS, hall2, bA_append]; rfl)
      have HB := Lib.hid hbel
      have c0 := hnd.c0
      rw [← hS]
      obtain ⟨V, hV⟩ : ∃ V, V = bA [cls true] := ⟨_, rfl⟩
      have hVz : S.size + V.size ≤ 70368744177664 := by rw [hV, bA_size]; simpa using hSz
      rw [← hV] at HQ
      have HTV := Lib.hid (show ∀ w, _ from fun w => hV ▸ HTC.out w)
      have hcw := HCW.out
      clear hall hall2 hdr hw htr hik hnd hkI hbel hlt hS hV hE hf hP0 hSz
      go_wp2_with fail
      rw [HTV.out]
      go_wp2
      go_ret
      exact ⟨by rw [HQ.out]; rfl, HB.out.trans ((alloc_below wr _).mono HB.out.size)⟩
theorem txt_any {a : Option Addr} {cap : Nat} {l : List ND} (hl : l.length ≤ 1099511627776) (hsz : SzOk l) : ∀ n, TxC a cap l n := by
  intro n
  induction n with
  | zero =>
    intro seg pA rs tk key w hn hw
    have := wf_pos hw rfl
    omega
  | succ n ih =>
    intro seg pA rs tk key w hn hw hle ht hlen hin
    rcases wf_inv0 hw with ⟨t, h1, rfl, rfl⟩ | ⟨ob, lm, km, h1, rfl, rfl⟩
    · obtain ⟨hp, hat⟩ := at_front hle (x := (t.1, key, t.2, 1)) (r := []) rfl
      have hc := rtext_leaf (t.1, key, t.2, 1) a cap pA.length l w hp hat h1 hl hin (ht t (by simp)).2
      have e : tksB [t] = tPut (t.1, t.2) := by simp [tksB]
      rw [e]; exact hc
    · have e : tksB ((opn ob, []) :: (km ++ [(cls ob, [])])) = opn ob :: (tksB km ++ [cls ob]) := by
        rw [tksB_cons, tksB_app]
        simp [tksB, tPut_sign (cls_sign ob), tPut_sign (opn_sign ob)]
      rw [e] at hlen ⊢
      simp only [List.length_cons, List.length_append, List.length_nil] at hlen
      have hl2 : lm.length ≤ n := by simp only [List.length_cons] at hn; omega
      cases ob
      · exact rtext_nodeL ih hl hsz key lm pA rs km w hl2 h1 hle (fun t hm => ht t (by simp [hm])) (by omega) hin
      · exact rtext_nodeO ih hl hsz key lm pA rs km w hl2 h1 hle (fun t hm => ht t (by simp [hm])) (by omega) hin
/-- Text, of a tree that was read. -/
theorem rttext_any (a : Option Addr) (cap : Nat) (l : List ND) (tk : List TK) (w : World) (hl : l.length ≤ 1099511627776) (hin : NIn w a l) (hw : l = [] ∧ tk = [] ∨ Wf none [] l tk) (ht : ∀ x ∈ tk, TOk x ∧ x.2.length ≤ 1099511627776) (hlen : (tksB tk).length ≤ 70368744177664) :
    Calls Tryz.prog 12 #[.slice a l.length cap] w fun e w' => e = .returned (.string (bA (tksB tk))) ∧ Below w.heap.size w w' := by
  rcases hw with ⟨rfl, rfl⟩ | hw
  · clear hin ht hlen
    go_enter Tryz.func12, Tryz.ntmps12
    go_wp2_with fail
    go_ret
    exact ⟨rfl, Below.refl _ _⟩
  · have hpos := wf_pos hw rfl
    have HC := Lib.hid (show Calls Tryz.prog 33 #[.slice a l.length cap, .int .i64 0] w fun e w' => e = .returned (.string (bA (tksB tk))) ∧ Below w.heap.size w w' from txt_any hl (wf_sz hw) l.length l [] [] tk [] w (Nat.le_refl _) hw (by simp) ht hlen hin)
    have p1 : ((l.length : Int) == 0) = false := beq_eq_false_iff_ne.mpr (by omega)
    have p2 : (l.length == 0) = false := beq_eq_false_iff_ne.mpr (by omega)
    have p3 : ¬ l = [] := fun e => by rw [e] at hpos; exact absurd hpos (by decide)
    clear hin ht hlen hw hpos
    go_enter Tryz.func12, Tryz.ntmps12
    go_wp2_with fail
    with_reducible refine HC.out.mono ?_
    rintro e w1 ⟨rfl, b1⟩
    go_wp2
    go_ret
    exact ⟨rfl, b1⟩
end Go.Proofs.YtnbhhnkcfbfdcaaGreatDoor
