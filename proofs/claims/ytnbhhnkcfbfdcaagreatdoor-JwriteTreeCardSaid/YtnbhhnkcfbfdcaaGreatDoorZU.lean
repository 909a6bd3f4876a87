/- Several texts in one (JrF, JrG, JrBo): each begins with its own words. -/
import Derived.Test.YtnbhhnkcfbfdcaaGreatDoorJrE
import Derived.Test.YtnbhhnkcfbfdcaaGreatDoorZT
/- Package jtree: end, what Read defers, Read. -/
namespace Go.Proofs.YtnbhhnkcfbfdcaaGreatDoor
open Go Go.RowKit
set_option linter.unusedVariables false

set_option maxRecDepth 20000 in
set_option maxHeartbeats 1000000 in
theorem end_some {cb rb B : Nat} {w : World} {v : Value} {L : List ND} {t : TK} {ts : List TK} {la : Option Int} (h : RdS w cb rb B v L (t :: ts) la) :
    Calls Tryz.prog 32 #[.pointer (some ⟨rb, 0, none⟩)] w fun e w' => e = pan 2 ∧ Only cb w w' := by
  have p1 : ((t.1.toNat : Int) != 0) = true := by
    have := (eq8 t.1 0).trans (decide_eq_false h.tok)
    have e : ((t.1.toNat : Int) == 0) = false := this
    simp only [bne, e, Bool.not_false]
  have HN := Lib.hid (nx_some h)
  have c0 := h.c0
  clear h
  go_enter Tryz.func32, Tryz.ntmps32
  go_wp2_with fail
  with_reducible refine HN.out.mono ?_
  rintro e w1 ⟨rfl, s1, o1⟩
  have g2 := tk_laid (w := w1) t 68
  have o2 := Lib.hid (o1.alloc (.cells #[.int .u8 (t.1.toNat : Int), .string (bA t.2)] 68))
  have a0 := g2.c0
  clear s1 o1 g2 HN
  unfold tkV
  go_wp2
  exact ⟨rfl, rfl, o2.out⟩
set_option maxRecDepth 20000 in
set_option maxHeartbeats 1000000 in
theorem end_none {cb rb B : Nat} {w : World} {v : Value} {L : List ND} {x : Int} (h : RdS w cb rb B v L [] (some x)) :
    Calls Tryz.prog 32 #[.pointer (some ⟨rb, 0, none⟩)] w fun e w' => e = (if x = 0 then .returned (.tuple #[]) else pan 2) ∧ Only cb w w' := by
  have HN := Lib.hid (nx_none h)
  have c0 := h.c0
  have hrl : rb < w.heap.size := Nat.lt_of_lt_of_le h.lr h.hB
  clear h
  go_enter Tryz.func32, Tryz.ntmps32
  go_wp2_with fail
  with_reducible refine HN.out.mono ?_
  rintro e w1 ⟨y, c1, rfl, hy, q1, he1, d1, o1⟩
  have p1 : ((y.1.toNat : Int) != 0) = false := by rw [hy]; rfl
  have g2 := tk_laid (w := w1) y 68
  have q2 := q1.allocOld (.cells #[.int .u8 (y.1.toNat : Int), .string (bA y.2)] 68)
  have o2 := Lib.hid (o1.alloc (.cells #[.int .u8 (y.1.toNat : Int), .string (bA y.2)] 68))
  have d2 : (w1.alloc (.cells #[.int .u8 (y.1.toNat : Int), .string (bA y.2)] 68)).cell? ⟨rb, 0, none⟩ = some (.pointer (some ⟨cb, 0, none⟩)) := by
    rw [World.cell?_alloc_some _ _ _ (by rw [d1]; rfl)]; exact d1
  have a0 := g2.c0
  have HE := Lib.hid (err_any q2)
  rw [he1] at HE
  clear o1 g2 HN q1 q2 he1 d1 hy c0
  unfold tkV
  by_cases hx : x = 0
  · have p2 : (x != 0) = false := by rw [hx]; rfl
    have HX := Lib.hid hx
    clear hx
    go_wp2_with fail
    with_reducible refine HE.out.mono ?_
    rintro e w3 ⟨rfl, hw3⟩
    rw [hw3]
    clear hw3
    go_wp2
    go_end0
    exact ⟨by first | rfl | rw [if_pos HX.out], o2.out⟩
  · have p2 : (x != 0) = true := bne_iff_ne.mpr hx
    have HX := Lib.hid hx
    clear hx
    go_wp2_with fail
    with_reducible refine HE.out.mono ?_
    rintro e w3 ⟨rfl, hw3⟩
    rw [hw3]
    clear hw3
    go_wp2
    exact ⟨rfl, by first | rfl | (rw [if_neg HX.out]; rfl), o2.out⟩
theorem assert_code (k : Int) (w : World) : (Instr.typeAssert (.iface 24 (.int .i64 k)) 20 24 false).run Tryz.prog w = .ok (.int .i64 k) w := by
  simp [Instr.typeAssert, go_sem, Result.andThen]
set_option maxRecDepth 20000 in
theorem catch_panic (p : Addr) (x k : Int) (older : List PanicEntry) (w : World) (hc : w.cell? p = some (.int .i64 x)) (hz : w.frozen? p = false) :
    CallsD Tryz.prog 28 #[.pointer (some p)] (.panicking ({ v := .iface 24 (.int .i64 k), recovered := false } :: older)) w fun e u' w' =>
      e = .returned (.tuple #[]) ∧ u' = .panicking ({ v := .iface 24 (.int .i64 k), recovered := true } :: older) ∧ w' = w.setCell p (.int .i64 k) := by
  have hta := assert_code k
  refine callsD_of_wpS Tryz.func28 rfl fun c₀ cs hu => ?_
  apply wpS_seq
  apply wpS_region
  simp [wpOpsS, go_sem, recoverD, hu, Tryz.ntmps28, Exit.thenS]
  apply wpS_seq
  apply wpS_region
  simp [wpOpsS, go_sem, Exit.thenS]
  refine wpS_cond (t := true) (by simp [Act.eval, Array.replicate]) ?_
  simp only [if_true]
  apply wpS_region
  simp [wpOpsS, go_sem, hta, hc, hz, Result.andThen, bodyPostS, results, Tryz.results28]
set_option maxRecDepth 20000 in
theorem catch_calm (p : Addr) (w : World) :
    CallsD Tryz.prog 28 #[.pointer (some p)] .returning w fun e u' w' => e = .returned (.tuple #[]) ∧ u' = .returning ∧ w' = w := by
  refine callsD_of_wpS Tryz.func28 rfl fun c₀ cs hu => ?_
  apply wpS_seq
  apply wpS_region
  simp [wpOpsS, go_sem, recoverD, hu, Tryz.ntmps28, Exit.thenS]
  apply wpS_seq
  apply wpS_region
  simp [wpOpsS, go_sem, Exit.thenS]
  refine wpS_cond (t := false) (by simp [Act.eval, Array.replicate]) ?_
  simp only [Bool.false_eq_true, if_false]
  refine wpS_of_wp (wp_skip ?_)
  cases c₀
  simp_all [bodyPostS, results, Tryz.results28]
end Go.Proofs.YtnbhhnkcfbfdcaaGreatDoor
/- Package jtree's Read. -/
namespace Go.Proofs.YtnbhhnkcfbfdcaaGreatDoor
open Go Go.RowKit
set_option linter.unusedVariables false

/-- What Read's caller, and Read's own code, may lean on. -/
def RB (N : Nat) (w w' : World) : Prop := Below N w w' ∧ w'.heap[N]? = some (.cells #[.int .i64 0] 24 (0, 0))
theorem RB.only {N cb : Nat} {w w1 w2 : World} (h : RB N w w1) (ho : Only cb w1 w2) (hc : N < cb) (hN : N ≤ w.heap.size) : RB N w w2 :=
  ⟨h.1.trans (ho.below (Nat.le_of_lt hc) (Nat.le_trans hN h.1.size)), (ho.block N (lt_of_block h.2) (by omega)).trans h.2⟩
theorem RB.kp {N M cb rb B : Nat} {w w1 w2 : World} (h : RB N w w1) (hk : Kp M cb rb B w1 w2) (hc : N < cb) (hr : N < rb) (hB : N < B) (hM : N < M) : RB N w w2 :=
  ⟨h.1.trans ⟨hk.os, hk.tape, hk.output, hk.size, fun k hk2 => hk.block k (by omega) (by omega) (by omega) (.inl (by omega))⟩, (hk.block N hM (by omega) (by omega) (.inl hB)).trans h.2⟩
theorem RB.c0 {N : Nat} {w w' : World} (h : RB N w w') : w'.cell? ⟨N, 0, none⟩ = some (.int .i64 0) := by rw [cell_of_row w' N 0 _ _ _ h.2]; rfl
theorem RB.fr {N : Nat} {w w' : World} (h : RB N w w') : w'.frozen? ⟨N, 0, none⟩ = false := by have := h.2; simp [World.frozen?, this]
theorem RB.set {N : Nat} {w w' : World} (h : RB N w w') (k : Int) : Below N w (w'.setCell ⟨N, 0, none⟩ (.int .i64 k)) ∧ (w'.setCell ⟨N, 0, none⟩ (.int .i64 k)).cell? ⟨N, 0, none⟩ = some (.int .i64 k) :=
  ⟨h.1.setCell (Nat.le_refl _) _, by rw [cell_of_row _ N 0 _ _ _ (heap_setCell_block h.2 (.int .i64 k))]; rfl⟩
theorem rd_start {s : ByteArray} {w1 : World} {b : Nat} {ts : List TK} {la : Option Int} (hq : CurT 89 w1 b (CS.new s)) (hs : s.size ≤ 140737488352256) (hsf : SfL ts la s.data.toList) (ht : Hds w1) (hgb : 1 < b) :
    RdS (w1.alloc (.cells #[.pointer (some ⟨b, 0, none⟩), .slice none 0 0] 65)) b w1.heap.size (w1.heap.size + 1) (.slice none 0 0) [] ts la where
  cur := ⟨CS.new s, hq.allocOld _, CS.new_ok (by omega), rfl, hs, by rw [new_bytes]; exact hsf⟩
  rd := heap_alloc_new _ _
  row := nrow_nil _ _ _
  lc := Nat.lt_succ_of_lt hq.lt
  lr := Nat.lt_succ_self _
  ne := Nat.ne_of_lt hq.lt
  hB := by simp
  hd := ht.below (alloc_below w1 _) ht.lt
  hg := ⟨Nat.lt_succ_of_lt ht.lt, by omega, Nat.ne_of_lt ht.lt⟩
set_option maxRecDepth 20000 in
set_option maxHeartbeats 2000000 in
theorem read_cut (s : ByteArray) (w : World) (x : Int) (hs : s.size ≤ 140737488352256) (hsf : SfL [] (some x) s.data.toList) (ht : Hds w) :
    Calls Tryz.prog 11 #[.string s] w fun e w' => e = .returned (.tuple #[.slice none 0 0, .int .i64 (eE (some x))]) ∧ Below w.heap.size w w' := by
  have hgl := ht.lt
  have h0 := heap_alloc_new w (.cells #[.int .i64 0] 24)
  have b0 := alloc_below w (.cells #[.int .i64 0] 24)
  have HN := Lib.hid (new_cur s (w.alloc (.cells #[.int .i64 0] 24)) (by omega))
  have R0 := Lib.hid (show RB w.heap.size w (w.alloc (.cells #[.int .i64 0] 24)) from ⟨b0, h0⟩)
  have T0 := Lib.hid (ht.below b0 hgl)
  have HS := Lib.hid (And.intro hsf hs)
  have hz : (w.alloc (.cells #[.int .i64 0] 24)).heap.size = w.heap.size + 1 := by simp
  have hmf : ∀ (fn : Fn) (first cap : Array Value) (w : World), (Instr.makeFunc fn first cap).run Tryz.prog w = .ok (.func fn first cap) w := fun _ _ _ _ => rfl
  clear h0 b0 hsf ht
  go_enter_defers Tryz.func11, Tryz.ntmps11
  go_wp2_with fail
  with_reducible refine HN.out.mono ?_
  rintro e w1 ⟨b, rfl, hb1, q1, bel1⟩
  rw [hz] at hb1 bel1
  have S2 := Lib.hid (rd_start q1 HS.out.2 HS.out.1 (T0.out.below bel1 (by omega)) (by omega))
  have R1 := Lib.hid (show RB w.heap.size w w1 from ⟨R0.out.1.trans (bel1.mono (Nat.le_succ _)), (bel1.block _ (Nat.lt_succ_self _)).trans R0.out.2⟩)
  have b2 := alloc_below w1 (.cells #[.pointer (some ⟨b, 0, none⟩), .slice none 0 0] 65)
  have hlt := lt_of_block R1.out.2
  have R2 := Lib.hid (show RB w.heap.size w (w1.alloc (.cells #[.pointer (some ⟨b, 0, none⟩), .slice none 0 0] 65)) from ⟨R1.out.1.trans (b2.mono (Nat.le_of_lt hlt)), (b2.block _ hlt).trans R1.out.2⟩)
  clear q1 bel1 b2 HN T0 R0 HS R1
  go_wp2_with fail
  have HT := Lib.hid (token_none S2.out)
  generalize w1.alloc (.cells #[.pointer (some ⟨b, 0, none⟩), .slice none 0 0] 65) = w2 at *
  with_reducible refine HT.out.mono ?_
  rintro e w3 ⟨rfl, o3⟩
  have R3 := Lib.hid (R2.out.only o3 (by omega) (Nat.le_refl _))
  have HQ := Lib.hid (R3.out.set (eE (some x)))
  clear o3 HT S2 R2
  unfold pan
  go_wp2
  refine leaves_cons (f := 28) (args := #[.pointer (some ⟨w.heap.size, 0, none⟩)]) (by simp) (by simp [go_sem]) ?_
  refine (catch_panic ⟨w.heap.size, 0, none⟩ 0 (eE (some x)) [] _ R3.out.c0 R3.out.fr).mono ?_
  rintro e u' w4 ⟨rfl, rfl, rfl⟩
  have c4 := HQ.out.2
  simp [Leaves, settle, results, Tryz.results11, go_sem, c4]
  exact HQ.out.1
set_option maxRecDepth 20000 in
set_option maxHeartbeats 4000000 in
theorem read_some (s : ByteArray) (w : World) (t : TK) (ts1 : List TK) (la : Option Int) (hs : s.size ≤ 140737488352256) (hsf : SfL (t :: ts1) la s.data.toList) (hsg : SgE (t :: ts1)) (hl : ts1.length + 1 ≤ 1099511627776)
    (hk : la = none → (vTr (eE la) (4 * ts1.length + 2) t [] 0 ts1).e ≠ 0 ∧ (vTr (eE la) (4 * ts1.length + 2) t [] 0 ts1).e ≠ -1) (ht : Hds w) :
    Calls Tryz.prog 11 #[.string s] w fun e w' => ∃ v, e = .returned (.tuple #[v, .int .i64 (rdT (t :: ts1) la).2]) ∧ NRow 90 w' w.heap.size v (rdT (t :: ts1) la).1 ∧ Below w.heap.size w w' := by
  have hgl := ht.lt
  have h0 := heap_alloc_new w (.cells #[.int .i64 0] 24)
  have b0 := alloc_below w (.cells #[.int .i64 0] 24)
  have HN := Lib.hid (new_cur s (w.alloc (.cells #[.int .i64 0] 24)) (by omega))
  have R0 := Lib.hid (show RB w.heap.size w (w.alloc (.cells #[.int .i64 0] 24)) from ⟨b0, h0⟩)
  have T0 := Lib.hid (ht.below b0 hgl)
  have HS := Lib.hid (And.intro hsf hs)
  have HG := Lib.hid (And.intro hsg hl)
  have hz : (w.alloc (.cells #[.int .i64 0] 24)).heap.size = w.heap.size + 1 := by simp
  have hmf : ∀ (fn : Fn) (first cap : Array Value) (w : World), (Instr.makeFunc fn first cap).run Tryz.prog w = .ok (.func fn first cap) w := fun _ _ _ _ => rfl
  have HV := Lib.hid (fun (w3 : World) (cb rb B : Nat) (v3 : Value) (h : RdS w3 cb rb B v3 [] ts1 la) => val_all (4 * ts1.length + 2) w3 v3 [] t [] 0 ts1 la h hsg (by omega) (Nat.le_refl _) (by simp; omega) (fun e => (hk e).2))
  have HD : rdT (t :: ts1) la = if (vTr (eE la) (4 * ts1.length + 2) t [] 0 ts1).e = 0 then (if (vTr (eE la) (4 * ts1.length + 2) t [] 0 ts1).r = [] ∧ la = some 0 then ((vTr (eE la) (4 * ts1.length + 2) t [] 0 ts1).l, 0) else ([], 2)) else ([], (vTr (eE la) (4 * ts1.length + 2) t [] 0 ts1).e) := rfl
  generalize vTr (eE la) (4 * ts1.length + 2) t [] 0 ts1 = R at *
  generalize rdT (t :: ts1) la = A at *
  have HDD := Lib.hid HD
  have HK := Lib.hid hk
  have HRES := Lib.hid (show ∀ (w' : World) (k : Int), Below w.heap.size w w' → A = ([], k) → ∃ v, (.slice none 0 0 = v ∧ k = A.2) ∧ NRow 90 w' w.heap.size v A.1 ∧ Below w.heap.size w w' from fun w' k hb e => ⟨_, ⟨rfl, by rw [e]⟩, by rw [e]; exact nrow_nil _ _ _, hb⟩)
  unfold tkV at HV
  clear h0 b0 hsf ht hk HD hsg hl
  go_enter_defers Tryz.func11, Tryz.ntmps11
  go_wp2_with fail
  with_reducible refine HN.out.mono ?_
  rintro e w1 ⟨b, rfl, hb1, q1, bel1⟩
  rw [hz] at hb1 bel1
  have S2 := Lib.hid (rd_start q1 HS.out.2 HS.out.1 (T0.out.below bel1 (by omega)) (by omega))
  have R1 := Lib.hid (show RB w.heap.size w w1 from ⟨R0.out.1.trans (bel1.mono (Nat.le_succ _)), (bel1.block _ (Nat.lt_succ_self _)).trans R0.out.2⟩)
  have b2 := alloc_below w1 (.cells #[.pointer (some ⟨b, 0, none⟩), .slice none 0 0] 65)
  have hlt := lt_of_block R1.out.2
  have R2 := Lib.hid (show RB w.heap.size w (w1.alloc (.cells #[.pointer (some ⟨b, 0, none⟩), .slice none 0 0] 65)) from ⟨R1.out.1.trans (b2.mono (Nat.le_of_lt hlt)), (b2.block _ hlt).trans R1.out.2⟩)
  clear q1 bel1 b2 HN T0 R0 HS R1
  go_wp2_with fail
  have HT := Lib.hid (token_some S2.out)
  generalize w1.alloc (.cells #[.pointer (some ⟨b, 0, none⟩), .slice none 0 0] 65) = w2 at *
  generalize w1.heap.size = rb at *
  with_reducible refine HT.out.mono ?_
  rintro e w3 ⟨rfl, s3, o3⟩
  have R3 := Lib.hid (R2.out.only o3 (by omega) (Nat.le_refl _))
  have HVV := Lib.hid (show Calls Tryz.prog 30 #[.pointer (some ⟨rb, 0, none⟩), .agg #[.int .u8 (t.1.toNat : Int), .string (bA t.2)], .string ⟨#[]⟩, .int .i64 0] w3 _ from HV.out w3 _ _ _ _ s3)
  have hrl := s3.lr
  have hB3 := s3.hB
  clear o3 HT S2 R2 HV s3
  unfold tkV
  go_wp2_with fail
  with_reducible refine HVV.out.mono ?_
  rintro e w4 ⟨⟨e4, rfl, v4, s4⟩ | ⟨e4, rfl⟩, k4⟩
  · have R4 := Lib.hid (R3.out.kp k4 (by omega) (by omega) (by omega) (by omega))
    rw [List.nil_append] at s4
    have hA := HDD.out
    rw [if_pos e4] at hA
    have hne : la ≠ none := fun e => (HK.out e).1 e4
    have E4 := Lib.hid e4
    clear k4 HVV R3 e4
    cases hr : R.r with
    | cons c r1 =>
      have HKE : A = ([], 2) := by rw [hA, if_neg (fun h => by rw [hr] at h; exact absurd h.1 (by simp))]
      rw [hr] at s4
      have HE := Lib.hid (end_some s4)
      clear s4 hA hr hne
      go_wp2_with fail
      with_reducible refine HE.out.mono ?_
      rintro e w5 ⟨rfl, o5⟩
      have R5 := Lib.hid (R4.out.only o5 (by omega) (Nat.le_refl _))
      clear o5
      have HQ := Lib.hid (R5.out.set 2)
      have HR := R5.out
      unfold pan
      go_wp2
      refine leaves_cons (f := 28) (args := #[.pointer (some ⟨w.heap.size, 0, none⟩)]) (by simp) (by simp [go_sem]) ?_
      refine (catch_panic ⟨w.heap.size, 0, none⟩ 0 2 [] _ HR.c0 HR.fr).mono ?_
      rintro e u' w9 ⟨rfl, rfl, rfl⟩
      have c4 := HQ.out.2
      simp [Leaves, settle, results, Tryz.results11, go_sem, c4]
      exact HRES.out _ 2 HQ.out.1 HKE
    | nil =>
      rw [hr] at s4 hA
      obtain ⟨x, rfl⟩ : ∃ x, la = some x := by
        cases la with
        | some x => exact ⟨x, rfl⟩
        | none => exact absurd rfl hne
      have HE := Lib.hid (end_none s4)
      have S4 := Lib.hid s4
      by_cases hx : x = 0
      · have hA2 : A = (R.l, 0) := by rw [hA, if_pos ⟨rfl, by rw [hx]⟩]
        rw [if_pos hx] at HE
        have HA2 := Lib.hid hA2
        clear s4 hA hr hne hx hA2
        go_wp2_with fail
        with_reducible refine HE.out.mono ?_
        rintro e w5 ⟨rfl, o5⟩
        have R5 := Lib.hid (R4.out.only o5 (by omega) (Nat.le_refl _))
        have hrd := (o5.block rb (Nat.lt_of_lt_of_le S4.out.lr S4.out.hB) S4.out.ne.symm).trans S4.out.rd
        have c1 : w5.cell? ⟨rb, 1, none⟩ = some v4 := by rw [cell_of_row w5 rb 1 _ _ _ hrd]; rfl
        have rw5 := S4.out.row.keep (w' := w5) fun g hg => o5.block g (S4.out.row.own hg).2.1 (by have := (S4.out.row.own hg).1; have := S4.out.lc; omega)
        have HQ := Lib.hid (R5.out.set 0)
        have HRW := Lib.hid (show NRow 90 (w5.setCell ⟨w.heap.size, 0, none⟩ (.int .i64 0)) w.heap.size v4 R.l from (rw5.keep fun g hg => RowKit.Below.heap_setCell _ _ _ _ (by have := (rw5.own hg).1; show g ≠ w.heap.size; omega)).base (by omega))
        have c0 := R5.out.c0; have cf := R5.out.fr
        clear o5 hrd rw5 R4 HE
        go_wp2
        refine leaves_cons (f := 28) (args := #[.pointer (some ⟨w.heap.size, 0, none⟩)]) (by simp) (by simp [go_sem]) ?_
        refine (catch_calm ⟨w.heap.size, 0, none⟩ _).mono ?_
        rintro e u' w9 ⟨rfl, rfl, rfl⟩
        have c4 := HQ.out.2
        simp [Leaves, settle, results, Tryz.results11, go_sem, c4]
        exact ⟨v4, ⟨rfl, by rw [HA2.out]⟩, by rw [HA2.out]; exact HRW.out, HQ.out.1⟩
      · have HKE : A = ([], 2) := by rw [hA, if_neg (fun h => hx (Option.some.inj h.2))]
        rw [if_neg hx] at HE
        clear s4 hA hr hne hx S4
        go_wp2_with fail
        with_reducible refine HE.out.mono ?_
        rintro e w5 ⟨rfl, o5⟩
        have R5 := Lib.hid (R4.out.only o5 (by omega) (Nat.le_refl _))
        clear o5
        have HQ := Lib.hid (R5.out.set 2)
        have HR := R5.out
        unfold pan
        go_wp2
        refine leaves_cons (f := 28) (args := #[.pointer (some ⟨w.heap.size, 0, none⟩)]) (by simp) (by simp [go_sem]) ?_
        refine (catch_panic ⟨w.heap.size, 0, none⟩ 0 2 [] _ HR.c0 HR.fr).mono ?_
        rintro e u' w9 ⟨rfl, rfl, rfl⟩
        have c4 := HQ.out.2
        simp [Leaves, settle, results, Tryz.results11, go_sem, c4]
        exact HRES.out _ 2 HQ.out.1 HKE
  · have R4 := Lib.hid (R3.out.kp k4 (by omega) (by omega) (by omega) (by omega))
    have HKE : A = ([], R.e) := by rw [HDD.out, if_neg e4]
    clear k4 HVV R3
    have HQ := Lib.hid (R4.out.set R.e)
    have HR := R4.out
    unfold pan
    go_wp2
    refine leaves_cons (f := 28) (args := #[.pointer (some ⟨w.heap.size, 0, none⟩)]) (by simp) (by simp [go_sem]) ?_
    refine (catch_panic ⟨w.heap.size, 0, none⟩ 0 R.e [] _ HR.c0 HR.fr).mono ?_
    rintro e u' w9 ⟨rfl, rfl, rfl⟩
    have c4 := HQ.out.2
    simp [Leaves, settle, results, Tryz.results11, go_sem, c4]
    exact HRES.out _ R.e HQ.out.1 HKE
/-- What Read tells of a text whose tokens are ts, and la behind them. -/
theorem read_any (s : ByteArray) (w : World) (ts : List TK) (la : Option Int) (hs : s.size ≤ 140737488352256) (hsf : SfL ts la s.data.toList) (hsg : SgE ts) (hl : ts.length ≤ 1099511627776)
    (hk : la = none → ∃ t ts1, ts = t :: ts1 ∧ (vTr (eE la) (4 * ts1.length + 2) t [] 0 ts1).e ≠ 0 ∧ (vTr (eE la) (4 * ts1.length + 2) t [] 0 ts1).e ≠ -1) (ht : Hds w) :
    Calls Tryz.prog 11 #[.string s] w fun e w' => ∃ v, e = .returned (.tuple #[v, .int .i64 (rdT ts la).2]) ∧ NRow 90 w' w.heap.size v (rdT ts la).1 ∧ Below w.heap.size w w' := by
  cases ts with
  | nil =>
    cases la with
    | none => obtain ⟨t, ts1, e, _⟩ := hk rfl; cases e
    | some x =>
      refine (read_cut s w x hs hsf ht).mono ?_
      rintro e w' ⟨rfl, hb⟩
      exact ⟨_, rfl, nrow_nil _ _ _, hb⟩
  | cons t ts1 =>
    refine read_some s w t ts1 la hs hsf hsg (by simpa using hl) (fun e => ?_) ht
    obtain ⟨t', ts', e1, h1⟩ := hk e
    obtain ⟨rfl, rfl⟩ := List.cons.inj e1
    exact h1
end Go.Proofs.YtnbhhnkcfbfdcaaGreatDoor
/- A text read as a tree, by the program and by the document: what both tell. -/
namespace Go.Proofs.YtnbhhnkcfbfdcaaGreatDoor
open Go Go.RowKit
set_option linter.unusedVariables false

theorem rdT_len {ts : List TK} {la : Option Int} (hs : SgE ts) : (rdT ts la).1.length ≤ ts.length := by
  by_cases h : (rdT ts la).2 = 0
  · exact wf_len (rdT_good hs h).2
  · rw [rdT_bad h]; exact Nat.zero_le _
theorem kread_prog (s : ByteArray) (w : World) (ts : List TK) (la : Int) (hs : s.size ≤ 1099511627774) (hsf : SfL ts (some la) s.data.toList) (hsg : SgE ts) (ht : Hds w) :
    Calls Tryz.prog 11 #[.string s] w fun e w' => ∃ a k, e = .returned (.tuple #[.slice a (rdT ts (some la)).1.length k, .int .i64 (rdT ts (some la)).2]) ∧ NIn w' a (rdT ts (some la)).1 ∧ Below w.heap.size w w' := by
  have hl := sf_len _ _ _ hsf
  rw [toList_size] at hl
  refine (read_any s w ts (some la) (by omega) hsf hsg (by omega) (fun e => by cases e) ht).mono ?_
  rintro e w' ⟨v, he, hrow, hb⟩
  obtain ⟨d, k, hv, hi⟩ := hrow.inn
  rw [hv] at he
  exact ⟨d, k, he, hi, hb⟩
theorem kread_ref (s : ByteArray) (w : World) (ts : List TK) (la : Int) (hs : s.size ≤ 1099511627774) (hsf : SfL ts (some la) s.data.toList) (hsg : SgE ts) :
    Calls Tryz.prog 6 #[.string s] w fun e w' => ∃ a k, e = .returned (.tuple #[.slice a (rdT ts (some la)).1.length k, .int .i64 (rdT ts (some la)).2]) ∧ NIn w' a (rdT ts (some la)).1 ∧ Below w.heap.size w w' := by
  refine (rread_any s ts la w hs hsf hsg).mono ?_
  rintro e w' ⟨v, he, hrow, hb⟩
  obtain ⟨d, k, hv, hi⟩ := hrow.inn
  rw [hv] at he
  exact ⟨d, k, he, hi, hb⟩
/-- A text's tokens, and what they are. -/
theorem text_toks (s : ByteArray) (hs : s.size ≤ 1099511627774) : ∃ ts la, SfL ts (some la) s.data.toList ∧ SgE ts ∧ (∀ x ∈ ts, TOk x) ∧ ts.length ≤ s.size ∧ tsz ts ≤ s.size := by
  obtain ⟨ts, la, h1, h2, h3, h4⟩ := sf_all _ s.data.toList rfl
  rw [toList_size] at h2 h3
  exact ⟨ts, la, h1, sg_of h4 (by omega), h4, h2, h3⟩
end Go.Proofs.YtnbhhnkcfbfdcaaGreatDoor
