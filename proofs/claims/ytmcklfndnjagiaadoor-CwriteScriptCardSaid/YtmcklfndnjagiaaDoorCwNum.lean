/- Plain facts, of no program: what a writer of Thrift's compact form is told, and what it wrote; that what it wrote without an error is read as structs, one behind the other; Plain facts, of no program: what a writer of Thrift's compact form wrote without an error is read as structs, one behind the other, to its end. -/
import Derived.Test.YtmcklfndnjagiaaDoorCrNum
namespace Go.Proofs.YtmcklfndnjagiaaDoor
open Go Go.RowKit
set_option linter.unusedVariables false

/-- What was begun: a list, or a struct; the last number; how many are left, of which kind. -/
structure WP where
  li : Bool
  last : Int
  left : Int
  kd : Nat
/-- What a writer is told. -/
structure WO where
  k : Nat
  id : Int
  n : Int
  wh : Nat
  bt : Nat
  tx : List UInt8
/-- A writer: its bytes, what was begun (the last one first), its error. -/
structure WT where
  out : List UInt8
  l : List WP
  er : Int
def WT.bad (s : WT) (e : Int) : WT := { s with er := e }
def oKd (o : WO) : Nat := if o.k = 123 then 12 else if o.k = 91 then 9 else if o.k = 102 then (if o.n = 1 then 1 else 2) else if o.k = 110 then o.wh else if o.k = 100 then 7 else 8
def wBits (k : Nat) : Int := if k = 3 then 8 else if k = 4 then 16 else if k = 5 then 32 else if k = 6 then 64 else 0
def wAlone (s : WT) (o : WO) : Int :=
  if (o.k = 123 ∨ o.k = 91) ∧ 32 ≤ s.l.length then 33
  else if o.k = 91 ∧ (cntB o.n && kB o.wh) = false then 4
  else if o.k = 110 then (if wBits o.wh = 0 then 7 else fitC o.n (wBits o.wh))
  else 0
def wCont (o : WO) (li : Bool) : List UInt8 :=
  if o.k = 123 then [] else if o.k = 91 then lsB o.n o.wh
  else if o.k = 102 then (if li = true then [UInt8.ofNat (oKd o)] else [])
  else if o.k = 110 then (if o.wh = 3 then [UInt8.ofNat (o.n % 256).toNat] else vB (zigI o.n).toNat)
  else if o.k = 100 then lowL o.bt 8
  else vB o.tx.length ++ o.tx
def wBegun (s : WT) (o : WO) : WT := if o.k = 123 then { s with l := ⟨false, 0, 0, 0⟩ :: s.l } else if o.k = 91 then { s with l := ⟨true, 0, o.n, o.wh⟩ :: s.l } else s
def wEnd (s : WT) : WT := match s.l with
  | [] => s.bad 12
  | p :: ps => if 0 < p.left then s.bad 12 else ⟨if p.li = true then s.out else s.out ++ [0], ps, s.er⟩
def wDo (s : WT) (o : WO) : WT :=
  if s.er ≠ 0 then s else if o.k = 101 then wEnd s else if wAlone s o ≠ 0 then s.bad (wAlone s o)
  else match s.l with
  | [] => if o.k ≠ 123 then s.bad 12 else wBegun s o
  | p :: ps =>
    if p.li = true then (if p.left = 0 ∨ sameB p.kd (oKd o) = false then s.bad 12 else wBegun ⟨s.out ++ wCont o true, { p with left := p.left - 1 } :: ps, s.er⟩ o)
    else (if (numB o.id && kB (oKd o)) = false then s.bad 4 else wBegun ⟨s.out ++ (hdB p.last o.id (oKd o) ++ wCont o false), { p with last := o.id } :: ps, s.er⟩ o)
def wAll (l : List WO) : WT := l.foldl wDo ⟨[], [], 0⟩

/-- These bytes, and no more, are gone past. -/
def Rd (f : CS → CS) (b : List UInt8) : Prop := ∀ c : CS, c.ok → c.er = 0 → ∀ r, c.rest = b ++ r → f c = c.past b.length
theorem past_facts {c : CS} (hc : c.ok) (h0 : c.er = 0) {a r : List UInt8} (hr : c.rest = a ++ r) : (c.past a.length).ok ∧ (c.past a.length).er = 0 ∧ (c.past a.length).rest = r := by
  have hl : a.length ≤ c.rest.length := by rw [hr, List.length_append]; omega
  refine ⟨CS.past_ok2 hc hl, h0, ?_⟩
  rw [CS.rest_past hc hl, hr, List.drop_left]
theorem Rd.comp {f g : CS → CS} {a b : List UInt8} (hf : Rd f a) (hg : Rd g b) : Rd (fun c => g (f c)) (a ++ b) := by
  intro c hc h0 r hr
  rw [List.append_assoc] at hr
  obtain ⟨p1, p2, p3⟩ := past_facts hc h0 hr
  show g (f c) = _
  rw [hf c hc h0 _ hr, hg _ p1 p2 r p3, CS.past_past, List.length_append]
theorem Rd.none (f : CS → CS) (h : ∀ c, f c = c) : Rd f [] := fun c _ _ _ _ => h c
theorem Rd.cong {f g : CS → CS} {b : List UInt8} (h : Rd f b) (e : ∀ c, g c = f c) : Rd g b := fun c hc h0 r hr => (e c).trans (h c hc h0 r hr)
/-- What is read of bytes alone is read of them, whatever stands behind. -/
theorem loc_read {α : Type} {f : CS → CS} {v : CS → α} (h : Loc f v) {b : List UInt8} (h0 : f (CS.new (bA b)) = (CS.new (bA b)).past b.length) {c : CS} (hc : c.ok) (he : c.er = 0) {r : List UInt8} (hr : c.rest = b ++ r) :
    f c = c.past b.length ∧ v c = v (CS.new (bA b)) := by
  have hl := CS.rest_length hc
  have hbl : b.length ≤ c.rest.length := by rw [hr, List.length_append]; omega
  have hok : (CS.new (bA b)).ok := CS.new_ok (by rw [bA_size]; obtain ⟨h1, h2, h3⟩ := hc; omega)
  obtain ⟨n, hn, hfn, hN⟩ := h.good (CS.new (bA b)) hok (by rw [h0]; rfl)
  have hnb : n = b.length := by
    rw [h0] at hfn
    have := congrArg CS.at_ hfn
    have e1 : ((CS.new (bA b)).past b.length).at_ = 0 + b.length := rfl
    have e2 : ((CS.new (bA b)).past n).at_ = 0 + n := rfl
    omega
  subst hnb
  have hrn : (CS.new (bA b)).rest = b := by rw [new_rest]; simp [bA]
  obtain ⟨g1, g2⟩ := (hN c hc he).1 hbl (by rw [hrn, hr, List.take_left, List.take_length])
  exact ⟨g1, g2⟩
theorem hd_read {last id : Int} {k : Nat} (h : (numB id && kB k) = true) {c : CS} (hc : c.ok) (he : c.er = 0) {r : List UInt8} (hr : c.rest = hdB last id k ++ r) :
    c.hTo last = c.past (hdB last id k).length ∧ c.hId last = id ∧ c.hKd last = k := by
  obtain ⟨h1, h2, h3⟩ := hd_back last id k h
  have hz : (bA (hdB last id k)).size = (hdB last id k).length := bA_size _
  obtain ⟨g1, g2⟩ := loc_read (Loc.head last) (b := hdB last id k) (by rw [h1, hz]; unfold CS.past CS.new; simp [hz]) hc he hr
  have g3 := Prod.mk.inj g2
  exact ⟨g1, g3.1.trans h2, g3.2.trans h3⟩
theorem ls_read {d k : Nat} (h : (cntB (d : Int) && kB k) = true) {c : CS} (hc : c.ok) (he : c.er = 0) {r : List UInt8} (hr : c.rest = lsB (d : Int) k ++ r) :
    c.lTo = c.past (lsB (d : Int) k).length ∧ c.lCt = d ∧ c.lKd = k := by
  obtain ⟨h1, h2, h3⟩ := ls_back d k h
  have hz : (bA (lsB (d : Int) k)).size = (lsB (d : Int) k).length := bA_size _
  obtain ⟨g1, g2⟩ := loc_read Loc.list (b := lsB (d : Int) k) (by rw [h1, hz]; unfold CS.past CS.new; simp [hz]) hc he hr
  have g3 := Prod.mk.inj g2
  exact ⟨g1, g3.1.trans h2, g3.2.trans h3⟩
theorem num_read {u : Nat} (hu : u < 18446744073709551616) {c : CS} (he : c.er = 0) {r : List UInt8} (hr : c.rest = vB u ++ r) : c.vTo = c.past (vB u).length ∧ c.vVal = u := by
  have := CS.vread_back he u r hr hu
  exact ⟨this.2, this.1⟩
theorem byte_read (x : UInt8) {c : CS} (hc : c.ok) (he : c.er = 0) {r : List UInt8} (hr : c.rest = [x] ++ r) : c.byte = c.past 1 ∧ c.pB = x.toNat := by
  obtain ⟨f1, f2⟩ := CS.first x []
  obtain ⟨g1, g2⟩ := loc_read Loc.byte (b := [x]) (by rw [f2]; rfl) hc he hr
  exact ⟨g1, g2.trans f1⟩
theorem take_read (b : List UInt8) {c : CS} (hc : c.ok) (he : c.er = 0) {r : List UInt8} (hr : c.rest = b ++ r) : c.take (b.length : Nat) = c.past b.length := by
  have hl := CS.rest_length hc
  have hbl : b.length ≤ c.rest.length := by rw [hr, List.length_append]; omega
  have hw : c.why (b.length : Nat) = 0 := CS.why_mk he (by omega) (by have := hc.1; omega)
  have := take_yes hw
  rwa [Int.toNat_natCast] at this
/-- How values are read at each depth. -/
def fL : Nat → Nat → CS → CS
  | 0 => rdTo 31
  | i + 1 => inTo (30 - i)
theorem fL_flat {k : Nat} (h : hdK k = false) (hb : bitsK k = 0) (i : Nat) (c : CS) : fL i k c = flatTo k c := by
  cases i with
  | zero => show rdTo 31 k c = _; rw [rdTo_flat hb, inTo_flat h]
  | succ i => exact inTo_flat h _ c
theorem fL_num {k : Nat} (hk : 4 ≤ k ∧ k ≤ 6) (i : Nat) {c : CS} (hf : fitB k c.vVal = true) : fL i k c = c.vTo := by
  have h9 : hdK k = false := by unfold hdK; rw [decide_eq_false (show ¬ 9 ≤ k by omega)]; rfl
  cases i with
  | zero => show rdTo 31 k c = _; rw [rdTo_num hk, hf, CS.want_yes]
  | succ i =>
    show inTo (30 - i) k c = _
    have ht : trB k = false := by unfold trB; simp; omega
    rw [inTo_flat h9]
    unfold flatTo
    rw [if_neg (by rw [ht]; decide), if_neg (by omega), if_pos hk]
theorem fL_hold {k : Nat} (h : hdK k = true) {i : Nat} (hi : i ≤ 30) (c : CS) : fL i k c = holdTo (fL (i + 1)) k c := by
  have hb : bitsK k = 0 := by
    apply bitsK_no
    unfold hdK at h; simp at h; omega
  cases i with
  | zero => show rdTo 31 k c = _; rw [rdTo_flat hb, inTo_hold h]; rfl
  | succ i =>
    show inTo (30 - i) k c = holdTo (inTo (30 - (i + 1))) k c
    have e : 30 - i = (30 - (i + 1)) + 1 := by omega
    rw [e, inTo_hold h]
/-- A value that is told, within a struct. -/
theorem val_read (i : Nat) (s : WT) (o : WO) (h1 : o.k ≠ 123) (h2 : o.k ≠ 91) (ha : wAlone s o = 0) (ht : o.tx.length < 18446744073709551616) (hn : -9223372036854775808 ≤ o.n ∧ o.n ≤ 9223372036854775807) : Rd (valTo (fL i) (oKd o)) (wCont o false) := by
  unfold oKd wCont
  rw [if_neg h1, if_neg h1, if_neg h2, if_neg h2]
  by_cases h3 : o.k = 102
  · rw [if_pos h3, if_pos h3, if_neg (show ¬ (false = true) by decide)]
    exact Rd.none _ (fun c => val_tr (by split <;> rfl) c)
  · rw [if_neg h3, if_neg h3]
    by_cases h4 : o.k = 110
    · rw [if_pos h4, if_pos h4]
      unfold wAlone at ha
      rw [if_neg (by omega), if_neg (by omega), if_pos h4] at ha
      have hb : ¬ wBits o.wh = 0 := fun e => by rw [if_pos e] at ha; exact absurd ha (by decide)
      rw [if_neg hb] at ha
      by_cases h5 : o.wh = 3
      · rw [if_pos h5, h5]
        intro c hc he r hr
        rw [val_no rfl, fL_flat rfl rfl]
        exact (byte_read _ hc he hr).1
      · rw [if_neg h5]
        have hk : 4 ≤ o.wh ∧ o.wh ≤ 6 := by
          unfold wBits at hb
          rw [if_neg h5] at hb
          by_cases e4 : o.wh = 4
          · omega
          · rw [if_neg e4] at hb
            by_cases e5 : o.wh = 5
            · omega
            · rw [if_neg e5] at hb
              by_cases e6 : o.wh = 6
              · omega
              · rw [if_neg e6] at hb; exact absurd rfl hb
        have hbk : bitsK o.wh = wBits o.wh := by unfold bitsK wBits; rw [if_neg h5]
        intro c hc he r hr
        have hz : 0 ≤ zigI o.n ∧ zigI o.n < 18446744073709551616 := by unfold zigI; split <;> omega
        obtain ⟨g1, g2⟩ := num_read (u := (zigI o.n).toNat) (by omega) he hr
        have hf : fitB o.wh c.vVal = true := by
          unfold fitB
          rw [g2, Int.toNat_of_nonneg hz.1, zag_zig, hbk, decide_eq_true ha, Bool.or_true]
        rw [val_no (by unfold trB; simp; omega), fL_num hk i hf, g1]
    · rw [if_neg h4, if_neg h4]
      by_cases h5 : o.k = 100
      · rw [if_pos h5, if_pos h5]
        intro c hc he r hr
        rw [val_no rfl, fL_flat rfl rfl]
        have := take_read (lowL o.bt 8) hc he hr
        rw [lowL_length] at this ⊢
        exact this
      · rw [if_neg h5, if_neg h5]
        intro c hc he r hr
        rw [val_no rfl, fL_flat rfl rfl]
        rw [List.append_assoc] at hr
        obtain ⟨g1, g2⟩ := num_read (u := o.tx.length) ht he hr
        obtain ⟨p1, p2, p3⟩ := past_facts hc he hr
        have hl := CS.rest_length p1
        show c.txt = _
        unfold CS.txt txTo
        rw [g1, g2]
        have hle : o.tx.length ≤ (c.past (vB o.tx.length).length).lf := by
          unfold CS.lf
          rw [← hl, p3, List.length_append]; omega
        rw [if_pos hle, take_read o.tx p1 p2 p3, CS.past_past, List.length_append]
/-- .. within a list. -/
theorem itm_read (i : Nat) (s : WT) (o : WO) (kd : Nat) (h1 : o.k ≠ 123) (h2 : o.k ≠ 91) (ha : wAlone s o = 0) (ht : o.tx.length < 18446744073709551616) (hn : -9223372036854775808 ≤ o.n ∧ o.n ≤ 9223372036854775807) (hs : sameB kd (oKd o) = true) : Rd (fL i kd) (wCont o true) := by
  by_cases h3 : o.k = 102
  · have hk : oKd o = 1 ∨ oKd o = 2 := by
      unfold oKd
      rw [if_neg h1, if_neg h2, if_pos h3]
      split
      · exact .inl rfl
      · exact .inr rfl
    have hkd : trB kd = true := by
      unfold sameB at hs
      rw [Bool.or_eq_true, Bool.and_eq_true] at hs
      rcases hs with e | e
      · have := of_decide_eq_true e
        rw [this]; rcases hk with e | e <;> (rw [e]; rfl)
      · exact e.1
    have hc1 : wCont o true = [UInt8.ofNat (oKd o)] := by
      unfold wCont
      rw [if_neg h1, if_neg h2, if_pos h3, if_pos rfl]
    rw [hc1]
    have h9 : hdK kd = false ∧ bitsK kd = 0 := by
      unfold trB at hkd; simp at hkd
      rcases hkd with rfl | rfl <;> exact ⟨rfl, rfl⟩
    intro c hc he r hr
    obtain ⟨g1, g2⟩ := byte_read _ hc he hr
    rw [fL_flat h9.1 h9.2]
    unfold flatTo
    rw [if_pos hkd]
    have hp : c.pB ≤ 2 := by rw [g2]; rcases hk with e | e <;> (rw [e]; decide)
    unfold CS.tru
    rw [decide_eq_true hp, CS.want_yes, g1]; rfl
  · have hc1 : wCont o true = wCont o false := by
      unfold wCont
      rw [if_neg h1, if_neg h1, if_neg h2, if_neg h2, if_neg h3, if_neg h3]
    have hnt : trB (oKd o) = false := by
      unfold oKd
      rw [if_neg h1, if_neg h2, if_neg h3]
      by_cases h4 : o.k = 110
      · rw [if_pos h4]
        unfold wAlone at ha
        rw [if_neg (by omega), if_neg (by omega), if_pos h4] at ha
        by_cases e1 : o.wh = 1
        · rw [e1, if_pos (show wBits 1 = 0 by decide)] at ha; exact absurd ha (by decide)
        · by_cases e2 : o.wh = 2
          · rw [e2, if_pos (show wBits 2 = 0 by decide)] at ha; exact absurd ha (by decide)
          · unfold trB; rw [decide_eq_false e1, decide_eq_false e2]; rfl
      · rw [if_neg h4]; split <;> rfl
    have hkd : kd = oKd o := by
      unfold sameB at hs
      rw [hnt, Bool.and_false, Bool.or_false] at hs
      exact of_decide_eq_true hs
    rw [hc1, hkd]
    exact (val_read i s o h1 h2 ha ht hn).cong (fun c => (val_no hnt c).symm)
/-- Fields of a struct, up to a number; .. and the head of one more. -/
def StP (f : Nat → CS → CS) (last : Int) (b : List UInt8) : Prop := ∃ j, j ≤ b.length ∧ ∀ c : CS, c.ok → c.er = 0 → ∀ r, c.rest = b ++ r → ∀ m, j ≤ m → fldTo f m 0 c = fldTo f (m - j) last (c.past b.length)
def PenS (f : Nat → CS → CS) (id : Int) (k : Nat) (b : List UInt8) : Prop := ∃ j, j ≤ b.length ∧ ∀ c : CS, c.ok → c.er = 0 → ∀ r, c.rest = b ++ r → ∀ m, j ≤ m → fldTo f m 0 c = fldTo f (m - j) id (valTo f k (c.past b.length))
theorem StP.new (f : Nat → CS → CS) : StP f 0 [] := ⟨0, Nat.le_refl _, fun c _ _ _ _ m _ => rfl⟩
theorem hdB_pos {last id : Int} {k : Nat} (h : (numB id && kB k) = true) : 1 ≤ (hdB last id k).length := by
  unfold hdB
  rw [if_pos h]
  split <;> simp
theorem StP.head {f : Nat → CS → CS} {last : Int} {a : List UInt8} (h : StP f last a) {id : Int} {k : Nat} (hk : (numB id && kB k) = true) : PenS f id k (a ++ hdB last id k) := by
  obtain ⟨j, hj, hr⟩ := h
  have hp := hdB_pos (last := last) hk
  refine ⟨j + 1, by rw [List.length_append]; omega, fun c hc he r hrest m hm => ?_⟩
  rw [List.append_assoc] at hrest
  obtain ⟨p1, p2, p3⟩ := past_facts hc he hrest
  obtain ⟨g1, g2, g3⟩ := hd_read (last := last) hk p1 p2 p3
  have hk0 : ¬ k = 0 := by
    rw [Bool.and_eq_true] at hk
    have := kB_yes hk.2; omega
  rw [hr c hc he _ hrest m (by omega), fld_next _ (by omega), g3, if_neg hk0, g2, g1, CS.past_past, List.length_append, Nat.sub_sub]
theorem PenS.done {f : Nat → CS → CS} {id : Int} {k : Nat} {b v : List UInt8} (h : PenS f id k b) (hv : Rd (valTo f k) v) : StP f id (b ++ v) := by
  obtain ⟨j, hj, hr⟩ := h
  refine ⟨j, by rw [List.length_append]; omega, fun c hc he r hrest m hm => ?_⟩
  rw [List.append_assoc] at hrest
  obtain ⟨p1, p2, p3⟩ := past_facts hc he hrest
  rw [hr c hc he _ hrest m hm, hv _ p1 p2 r p3, CS.past_past, List.length_append]
theorem StP.fin {f : Nat → CS → CS} {last : Int} {b : List UInt8} (h : StP f last b) : Rd (fun c => fldTo f fuelN 0 c) (b ++ [0]) := by
  obtain ⟨j, hj, hr⟩ := h
  intro c hc he r hrest
  rw [List.append_assoc] at hrest
  obtain ⟨p1, p2, p3⟩ := past_facts hc he hrest
  obtain ⟨g1, g2⟩ := byte_read 0 p1 p2 p3
  have hl := CS.rest_length hc
  have hjf : j < fuelN := by
    rw [hrest, List.length_append] at hl
    obtain ⟨h1, h2, h3⟩ := hc
    unfold fuelN; omega
  obtain ⟨e1, e2, e3⟩ := CS.h_end (c := c.past b.length) (by rw [g2]; rfl) last
  show fldTo f fuelN 0 c = _
  rw [hr c hc he _ hrest fuelN (by omega), fld_next _ (by omega), e3, if_pos rfl, e1, g1, CS.past_past, List.length_append]; rfl
/-- A list's head, and its values but so many; .. and one more is to come. -/
def LsP (f : Nat → CS → CS) (kd left : Nat) (b : List UInt8) : Prop := ∀ c : CS, c.ok → c.er = 0 → ∀ r, c.rest = b ++ r → holdTo f 9 c = eachTo f [kd] left (c.past b.length)
def PenL (f : Nat → CS → CS) (kd left : Nat) (b : List UInt8) : Prop := ∀ c : CS, c.ok → c.er = 0 → ∀ r, c.rest = b ++ r → holdTo f 9 c = eachTo f [kd] left (f kd (c.past b.length))
theorem hold_nine (f : Nat → CS → CS) (c : CS) : holdTo f 9 c = eachTo f [c.lKd] c.lCt c.lTo := by unfold holdTo; rw [if_neg (by decide), if_neg (by decide)]
theorem hold_twelve (f : Nat → CS → CS) (c : CS) : holdTo f 12 c = fldTo f fuelN 0 c := by unfold holdTo; rw [if_pos rfl]
theorem LsP.new (f : Nat → CS → CS) {n kd : Nat} (h : (cntB (n : Int) && kB kd) = true) : LsP f kd n (lsB (n : Int) kd) := by
  intro c hc he r hrest
  obtain ⟨g1, g2, g3⟩ := ls_read h hc he hrest
  rw [hold_nine, g1, g2, g3]
theorem LsP.pen {f : Nat → CS → CS} {kd left : Nat} {b : List UInt8} (h : LsP f kd (left + 1) b) : PenL f kd left b := fun c hc he r hrest => h c hc he r hrest
theorem PenL.done {f : Nat → CS → CS} {kd left : Nat} {b v : List UInt8} (h : PenL f kd left b) (hv : Rd (f kd) v) : LsP f kd left (b ++ v) := by
  intro c hc he r hrest
  rw [List.append_assoc] at hrest
  obtain ⟨p1, p2, p3⟩ := past_facts hc he hrest
  rw [h c hc he _ hrest, hv _ p1 p2 r p3, CS.past_past, List.length_append]
theorem LsP.fin {f : Nat → CS → CS} {kd : Nat} {b : List UInt8} (h : LsP f kd 0 b) : Rd (holdTo f 9) b := fun c hc he r hrest => h c hc he r hrest

/-- What was begun, with what stands in it; .. where something within it was begun. -/
def pK (p : WP) : Nat := if p.li = true then 9 else 12
theorem pK_or (p : WP) : pK p = 9 ∨ pK p = 12 := by unfold pK; split; exact .inl rfl; exact .inr rfl
def Part (f : Nat → CS → CS) (p : WP) (b : List UInt8) : Prop := if p.li = true then 0 ≤ p.left ∧ LsP f p.kd p.left.toNat b else p.left = 0 ∧ StP f p.last b
def Pend (f : Nat → CS → CS) (p : WP) (k : Nat) (b : List UInt8) : Prop := if p.li = true then 0 ≤ p.left ∧ p.kd = k ∧ PenL f k p.left.toNat b else p.left = 0 ∧ PenS f p.last k b
theorem Pend.done {f : Nat → CS → CS} {p : WP} {k : Nat} {b v : List UInt8} (h : Pend f p k b) (hk : k = 9 ∨ k = 12) (hv : Rd (f k) v) : Part f p (b ++ v) := by
  unfold Pend at h
  unfold Part
  by_cases hl : p.li = true
  · rw [if_pos hl] at h ⊢
    obtain ⟨h1, rfl, h3⟩ := h
    exact ⟨h1, h3.done hv⟩
  · rw [if_neg hl] at h ⊢
    refine ⟨h.1, h.2.done (hv.cong fun c => ?_)⟩
    exact val_no (by rcases hk with rfl | rfl <;> rfl) c
def TopS (v : List UInt8) : Prop := v ≠ [] ∧ Rd (fun c => fldTo (rdTo 31) fuelN 0 c) v
def Tops (N : Nat) (o : List UInt8) : Prop := ∃ L : List (List UInt8), o = L.flatten ∧ L.length ≤ N ∧ ∀ v ∈ L, TopS v
theorem Tops.more {N : Nat} {o : List UInt8} (h : Tops N o) : Tops (N + 1) o := by
  obtain ⟨L, h1, h2, h3⟩ := h
  exact ⟨L, h1, by omega, h3⟩
def PnS (N : Nat) : List WP → List UInt8 → Nat → Prop
  | [], a, k => Tops N a ∧ k = 12
  | q :: qs, a, k => ∃ a' b', a = a' ++ b' ∧ Pend (fL qs.length) q k b' ∧ PnS N qs a' (pK q)
def Stk (N : Nat) : List WP → List UInt8 → Prop
  | [], o => Tops N o
  | p :: ps, o => ∃ a b, o = a ++ b ∧ Part (fL ps.length) p b ∧ PnS N ps a (pK p)
theorem PnS.more {N : Nat} : ∀ {ps : List WP} {a : List UInt8} {k : Nat}, PnS N ps a k → PnS (N + 1) ps a k
  | [], _, _, h => ⟨h.1.more, h.2⟩
  | q :: qs, _, _, ⟨a', b', h1, h2, h3⟩ => ⟨a', b', h1, h2, PnS.more h3⟩
theorem Stk.more {N : Nat} : ∀ {ps : List WP} {o : List UInt8}, Stk N ps o → Stk (N + 1) ps o
  | [], _, h => Tops.more h
  | p :: ps, _, ⟨a, b, h1, h2, h3⟩ => ⟨a, b, h1, h2, h3.more⟩
/-- A thing that was ended is one of those ahead of it. -/
theorem stk_thing {N : Nat} {ps : List WP} {a v : List UInt8} {k : Nat} (h : PnS N ps a k) (hk : k = 9 ∨ k = 12) (hv : Rd (holdTo (fL ps.length) k) v) (hne : v ≠ []) (hlen : ps.length ≤ 31) : Stk (N + 1) ps (a ++ v) := by
  match ps, h, hv, hlen with
  | [], h, hv, _ =>
    obtain ⟨⟨L, h1, h2, h3⟩, rfl⟩ := h
    refine ⟨L ++ [v], by rw [h1]; simp, by rw [List.length_append]; simp; omega, fun x hx => ?_⟩
    rcases List.mem_append.mp hx with hx | hx
    · exact h3 x hx
    · obtain rfl : x = v := by simpa using hx
      exact ⟨hne, hv.cong fun c => (hold_twelve _ c).symm⟩
  | q :: qs, h, hv, hlen =>
    obtain ⟨a', b', rfl, h2, h3⟩ := h
    have hkd : hdK k = true := by rcases hk with rfl | rfl <;> rfl
    have hv' : Rd (fL qs.length k) v := hv.cong fun c => fL_hold hkd (by simp at hlen; omega) c
    exact ⟨a', b' ++ v, by rw [List.append_assoc], h2.done hk hv', h3.more⟩
theorem stk_end {N : Nat} {p : WP} {ps : List WP} {o : List UInt8} (h : Stk N (p :: ps) o) (hl : ¬ 0 < p.left) (hlen : ps.length ≤ 31) : Stk (N + 1) ps (if p.li = true then o else o ++ [0]) := by
  obtain ⟨a, b, rfl, h2, h3⟩ := h
  unfold Part at h2
  by_cases hli : p.li = true
  · rw [if_pos hli] at h2 ⊢
    have h0 : p.left.toNat = 0 := by omega
    rw [h0] at h2
    have hk : pK p = 9 := by unfold pK; rw [if_pos hli]
    rw [hk] at h3
    by_cases hne : b = []
    · exfalso
      have := h2.2 (CS.new (bA [0])) (CS.new_ok (by rw [bA_size]; decide)) rfl [0] (by rw [hne, new_rest]; simp [bA])
      rw [hold_nine, hne] at this
      have e1 : (CS.new (bA [0])).byte = ⟨bA [0], 1, 1, 0⟩ := (CS.first 0 []).2
      have e2 := CS.l_kind (c := CS.new (bA [0])) (by rw [e1]) (by rw [(CS.first 0 []).1]; rfl)
      rw [e2.1, e2.2.1] at this
      have := congrArg CS.er this
      rw [show (eachTo (fL ps.length) [(CS.new (bA [0])).lKd] 0 ((CS.new (bA [0])).byte.fail 7)).er = ((CS.new (bA [0])).byte.fail 7).er from rfl, e1] at this
      have e5 : ((⟨bA [0], 1, 1, 0⟩ : CS).fail 7).er = 7 := by unfold CS.fail; rw [if_pos rfl]
      rw [e5] at this
      exact absurd (show (7 : Int) = 0 from this) (by decide)
    · exact stk_thing h3 (.inl rfl) h2.2.fin hne hlen
  · rw [if_neg hli] at h2 ⊢
    have hk : pK p = 12 := by unfold pK; rw [if_neg hli]
    rw [hk] at h3
    rw [List.append_assoc]
    exact stk_thing h3 (.inr rfl) (h2.2.fin.cong fun c => hold_twelve _ c) (by simp) hlen
theorem bad_no {s : WT} : ¬ (s.bad 12).er = 0 := (by decide : ¬ (12 : Int) = 0)
theorem bad_no4 {s : WT} : ¬ (s.bad 4).er = 0 := (by decide : ¬ (4 : Int) = 0)
def wOk (o : WO) : Prop := o.tx.length < 18446744073709551616 ∧ -9223372036854775808 ≤ o.n ∧ o.n ≤ 9223372036854775807
/-- What holds of a writer that has no error. -/
def WJ (N : Nat) (s : WT) : Prop := s.er = 0 → Stk N s.l s.out ∧ s.l.length ≤ 32
theorem wj_do {N : Nat} {s : WT} {o : WO} (h : WJ N s) (ho : wOk o) : WJ (N + 1) (wDo s o) := by
  unfold wDo
  by_cases he : s.er = 0
  · rw [if_neg (fun x => x he)]
    obtain ⟨hs, hlen⟩ := h he
    by_cases h1 : o.k = 101
    · rw [if_pos h1]
      unfold wEnd
      match hl : s.l with
      | [] => exact fun e => absurd (show (12 : Int) = 0 from e) (by decide)
      | p :: ps =>
        rw [hl] at hs hlen
        simp only
        by_cases hp : 0 < p.left
        · rw [if_pos hp]; exact fun e => absurd e bad_no
        · rw [if_neg hp]
          intro _
          simp at hlen
          exact ⟨stk_end hs hp (by omega), by show ps.length ≤ 32; omega⟩
    · rw [if_neg h1]
      by_cases ha : wAlone s o = 0
      · rw [if_neg (fun x => x ha)]
        have hroom : o.k = 123 ∨ o.k = 91 → s.l.length ≤ 31 := by
          intro hb
          rcases Nat.lt_or_ge 31 s.l.length with hx | hx
          · unfold wAlone at ha
            rw [if_pos ⟨hb, by omega⟩] at ha; exact absurd ha (by decide)
          · exact hx
        have hls : o.k = 91 → ∃ n : Nat, o.n = n ∧ (cntB (n : Int) && kB o.wh) = true := by
          intro hb
          have hc : (cntB o.n && kB o.wh) = true := by
            cases hc : (cntB o.n && kB o.wh) with
            | true => rfl
            | false =>
              unfold wAlone at ha
              rw [if_neg (fun x => by have := hroom x.1; omega), if_pos ⟨hb, hc⟩] at ha
              exact absurd ha (by decide)
          have h0 : 0 ≤ o.n := by rw [Bool.and_eq_true] at hc; exact (cntB_yes hc.1).1
          exact ⟨o.n.toNat, (Int.toNat_of_nonneg h0).symm, by rw [Int.toNat_of_nonneg h0]; exact hc⟩
        match hl : s.l with
        | [] =>
          simp only
          by_cases h2 : o.k = 123
          · rw [if_neg (fun x => x h2)]
            unfold wBegun
            rw [if_pos h2]
            intro _
            rw [hl] at hs ⊢
            refine ⟨⟨s.out, [], by simp, ?_, hs.more, by unfold pK; rfl⟩, by simp⟩
            unfold Part
            rw [if_neg (by decide)]
            exact ⟨rfl, StP.new _⟩
          · rw [if_pos h2]; exact fun e => absurd e bad_no
        | p :: ps =>
          rw [hl] at hs hlen hroom
          obtain ⟨a, b, ho1, hp1, hp2⟩ := hs
          simp only
          unfold Part at hp1
          by_cases hli : p.li = true
          · rw [if_pos hli] at hp1 ⊢
            by_cases hx : p.left = 0 ∨ sameB p.kd (oKd o) = false
            · rw [if_pos hx]; exact fun e => absurd e bad_no
            · rw [if_neg hx]
              have hsm : sameB p.kd (oKd o) = true := by
                cases hsm : sameB p.kd (oKd o) with
                | true => rfl
                | false => exact absurd (.inr hsm) hx
              have hl0 : ¬ p.left = 0 := fun e => hx (.inl e)
              obtain ⟨m, hm⟩ : ∃ m, p.left.toNat = m + 1 := ⟨p.left.toNat - 1, by omega⟩
              have hm2 : (p.left - 1).toNat = m := by omega
              have hpen := hp1.2
              rw [hm] at hpen
              have hpen := hpen.pen
              unfold wBegun
              by_cases h3 : o.k = 123
              · rw [if_pos h3]
                intro _
                have hkd : p.kd = 12 := by
                  have e : oKd o = 12 := by unfold oKd; rw [if_pos h3]
                  rw [e] at hsm
                  unfold sameB at hsm
                  rw [show trB 12 = false from rfl, Bool.and_false, Bool.or_false] at hsm
                  exact of_decide_eq_true hsm
                have hc : wCont o true = [] := by unfold wCont; rw [if_pos h3]
                rw [hc]
                have hr := hroom (.inl h3)
                refine ⟨⟨s.out, [], by simp, ?_, ⟨a, b, ho1, ?_, hp2.more⟩⟩, by simp at hr ⊢; omega⟩
                · unfold Part; rw [if_neg (by decide)]; exact ⟨rfl, StP.new _⟩
                · unfold Pend
                  rw [if_pos hli]
                  refine ⟨by show 0 ≤ p.left - 1; omega, hkd, ?_⟩
                  show PenL _ 12 (p.left - 1).toNat b
                  rw [hm2, ← hkd]; exact hpen
              · rw [if_neg h3]
                by_cases h4 : o.k = 91
                · rw [if_pos h4]
                  intro _
                  have hkd : p.kd = 9 := by
                    have e : oKd o = 9 := by unfold oKd; rw [if_neg h3, if_pos h4]
                    rw [e] at hsm
                    unfold sameB at hsm
                    rw [show trB 9 = false from rfl, Bool.and_false, Bool.or_false] at hsm
                    exact of_decide_eq_true hsm
                  obtain ⟨n, hn1, hn2⟩ := hls h4
                  have hc : wCont o true = lsB (n : Int) o.wh := by unfold wCont; rw [if_neg h3, if_pos h4, hn1]
                  rw [hc]
                  have hr := hroom (.inr h4)
                  refine ⟨⟨s.out, lsB (n : Int) o.wh, rfl, ?_, ⟨a, b, ho1, ?_, hp2.more⟩⟩, by simp at hr ⊢; omega⟩
                  · unfold Part
                    rw [if_pos rfl]
                    refine ⟨by show 0 ≤ o.n; omega, ?_⟩
                    show LsP _ o.wh o.n.toNat _
                    rw [hn1, Int.toNat_natCast]
                    exact LsP.new _ hn2
                  · unfold Pend
                    rw [if_pos hli]
                    refine ⟨by show 0 ≤ p.left - 1; omega, hkd, ?_⟩
                    show PenL _ 9 (p.left - 1).toNat b
                    rw [hm2, ← hkd]; exact hpen
                · rw [if_neg h4]
                  intro _
                  refine ⟨⟨a, b ++ wCont o true, by rw [ho1, List.append_assoc], ?_, hp2.more⟩, hlen⟩
                  unfold Part
                  rw [if_pos hli]
                  refine ⟨by show 0 ≤ p.left - 1; omega, ?_⟩
                  show LsP _ p.kd (p.left - 1).toNat _
                  rw [hm2]
                  exact hpen.done (itm_read _ s o p.kd h3 h4 ha ho.1 ho.2 hsm)
          · rw [if_neg hli] at hp1 ⊢
            by_cases hx : (numB o.id && kB (oKd o)) = false
            · rw [if_pos hx]; exact fun e => absurd e bad_no4
            · rw [if_neg hx]
              have hx' : (numB o.id && kB (oKd o)) = true := by
                cases hy : (numB o.id && kB (oKd o)) with
                | true => rfl
                | false => exact absurd hy hx
              have hpen := hp1.2.head hx'
              unfold wBegun
              by_cases h3 : o.k = 123
              · rw [if_pos h3]
                intro _
                have e : oKd o = 12 := by unfold oKd; rw [if_pos h3]
                have hc : wCont o false = [] := by unfold wCont; rw [if_pos h3]
                rw [hc, List.append_nil]
                have hr := hroom (.inl h3)
                refine ⟨⟨s.out ++ hdB p.last o.id (oKd o), [], by simp, ?_, ⟨a, b ++ hdB p.last o.id (oKd o), by rw [ho1, List.append_assoc], ?_, ?_⟩⟩, by simp at hr ⊢; omega⟩
                · unfold Part; rw [if_neg (by decide)]; exact ⟨rfl, StP.new _⟩
                · unfold Pend
                  rw [if_neg hli]
                  refine ⟨hp1.1, ?_⟩
                  show PenS _ o.id 12 _
                  rw [e] at hpen ⊢; exact hpen
                · exact hp2.more
              · rw [if_neg h3]
                by_cases h4 : o.k = 91
                · rw [if_pos h4]
                  intro _
                  have e : oKd o = 9 := by unfold oKd; rw [if_neg h3, if_pos h4]
                  obtain ⟨n, hn1, hn2⟩ := hls h4
                  have hc : wCont o false = lsB (n : Int) o.wh := by unfold wCont; rw [if_neg h3, if_pos h4, hn1]
                  rw [hc]
                  have hr := hroom (.inr h4)
                  refine ⟨⟨s.out ++ hdB p.last o.id (oKd o), lsB (n : Int) o.wh, by rw [List.append_assoc], ?_, ⟨a, b ++ hdB p.last o.id (oKd o), by rw [ho1, List.append_assoc], ?_, ?_⟩⟩, by simp at hr ⊢; omega⟩
                  · unfold Part
                    rw [if_pos rfl]
                    refine ⟨by show 0 ≤ o.n; omega, ?_⟩
                    show LsP _ o.wh o.n.toNat _
                    rw [hn1, Int.toNat_natCast]
                    exact LsP.new _ hn2
                  · unfold Pend
                    rw [if_neg hli]
                    refine ⟨hp1.1, ?_⟩
                    show PenS _ o.id 9 _
                    rw [e] at hpen ⊢; exact hpen
                  · exact hp2.more
                · rw [if_neg h4]
                  intro _
                  refine ⟨⟨a, b ++ (hdB p.last o.id (oKd o) ++ wCont o false), by rw [ho1, List.append_assoc], ?_, hp2.more⟩, hlen⟩
                  unfold Part
                  rw [if_neg hli]
                  refine ⟨hp1.1, ?_⟩
                  show StP _ o.id _
                  rw [← List.append_assoc]
                  exact hpen.done (val_read _ s o h3 h4 ha ho.1 ho.2)
      · rw [if_pos ha]; exact fun e => absurd e ha
  · rw [if_pos he]; exact fun e => absurd e he
theorem wj_all : ∀ (l : List WO) (N : Nat) (s : WT), WJ N s → (∀ o ∈ l, wOk o) → WJ (N + l.length) (l.foldl wDo s)
  | [], N, s, h, _ => h
  | o :: l, N, s, h, ho => by
    have := wj_all l (N + 1) (wDo s o) (wj_do h (ho o List.mem_cons_self)) (fun x hx => ho x (List.mem_cons_of_mem _ hx))
    rw [List.length_cons, show N + (l.length + 1) = N + 1 + l.length by omega]
    exact this
/-- What was written without an error, and nothing was begun that did not end: structs, at most as many as was told. -/
theorem wj_tops (l : List WO) (ho : ∀ o ∈ l, wOk o) (he : (wAll l).er = 0) (hl : (wAll l).l = []) : Tops l.length (wAll l).out := by
  have h0 : WJ 0 ⟨[], [], 0⟩ := fun _ => ⟨⟨[], rfl, Nat.le_refl _, fun v hv => by simp at hv⟩, by simp⟩
  have := (wj_all l 0 _ h0 ho he).1
  rw [Nat.zero_add] at this
  unfold wAll at hl ⊢
  rw [hl] at this
  exact this
theorem top_read {v r : List UInt8} (hv : TopS v) (hsz : (v ++ r).length ≤ 9223372036854775807) : stR (bA (v ++ r)) 0 = ⟨bA (v ++ r), v.length, (v ++ r).length, 0⟩ ∧ stN (bA (v ++ r)) 0 = v.length ∧ 1 ≤ v.length := by
  have hz : (bA (v ++ r)).size = (v ++ r).length := bA_size _
  have hok : (CS.new (bA (v ++ r))).ok := CS.new_ok (by rw [hz]; exact hsz)
  have hrest : (CS.new (bA (v ++ r))).rest = v ++ r := by rw [new_rest]; simp [bA]
  have hR : stR (bA (v ++ r)) 0 = (CS.new (bA (v ++ r))).past v.length := by
    have := hv.2 _ hok rfl r hrest
    unfold stR
    rw [show cAt (bA (v ++ r)) 0 = CS.new (bA (v ++ r)) by unfold cAt; rw [if_neg (by decide)]]
    exact this
  have hR2 : stR (bA (v ++ r)) 0 = ⟨bA (v ++ r), v.length, (v ++ r).length, 0⟩ := by
    rw [hR]; unfold CS.past CS.new; simp [hz]
  refine ⟨hR2, ?_, ?_⟩
  · unfold stN; rw [hR2]; rfl
  · rcases Nat.eq_zero_or_pos v.length with h | h
    · exact absurd (List.eq_nil_of_length_eq_zero h) hv.1
    · exact h
end Go.Proofs.YtmcklfndnjagiaaDoor
