/- Plain facts, of no program: fields that were written one behind the other are read as these; Plain facts, of no program: a struct of four fields, as it is written here, and as it is read; CwriteFields, walked. -/
import Derived.Test.YtmcklfndnjagiaaDoorCwNum
import Derived.Test.YtmcklfndnjagiaaDoorCwB
import Derived.Test.YtmcklfndnjagiaaDoorCwLaw
import Derived.Test.YtmcklfndnjagiaaDoorCrD
namespace Go.Proofs.YtmcklfndnjagiaaDoor
open Go Go.RowKit
set_option linter.unusedVariables false

/-- Fields, up to a number, and what they say. -/
def FsP (f : Nat → CS → CS) (last : Int) (b : List UInt8) (L : List GD) : Prop := ∃ j, j ≤ b.length ∧ ∀ c : CS, c.ok → c.er = 0 → ∀ r, c.rest = b ++ r → ∀ m, j ≤ m → fldTo f m 0 c = fldTo f (m - j) last (c.past b.length) ∧ stL f m 0 c = L ++ stL f (m - j) last (c.past b.length)
theorem FsP.new (f : Nat → CS → CS) : FsP f 0 [] [] := ⟨0, Nat.le_refl _, fun c _ _ _ _ m _ => ⟨rfl, rfl⟩⟩
/-- The bytes that were gone past. -/
theorem cut_is {c : CS} (hc : c.ok) {v r : List UInt8} (hr : c.rest = v ++ r) : c.s.extract c.at_ (c.past v.length).at_ = bA v := by
  show c.s.extract c.at_ (c.at_ + v.length) = bA v
  have hl := CS.rest_length hc
  have hvl : v.length ≤ c.rest.length := by rw [hr, List.length_append]; omega
  apply ByteArray.ext
  apply Array.toList_inj.mp
  rw [sub_list, Nat.add_sub_cancel_left]
  have : ((c.s.data.toList.drop c.at_).take (c.en - c.at_)).take v.length = v := by
    have e : ((c.s.data.toList.drop c.at_).take (c.en - c.at_)) = v ++ r := hr
    rw [e, List.take_left]
  rw [List.take_take, Nat.min_eq_left (by omega)] at this
  rw [this]; simp [bA]
theorem FsP.more {f : Nat → CS → CS} {last : Int} {a : List UInt8} {L : List GD} (h : FsP f last a L) {id : Int} {k : Nat} (hk : (numB id && kB k) = true) {v : List UInt8} (hv : Rd (valTo f k) v) :
    FsP f id (a ++ (hdB last id k ++ v)) (L ++ [gOf id k (bA v)]) := by
  obtain ⟨j, hj, hr⟩ := h
  have hp := hdB_pos (last := last) hk
  refine ⟨j + 1, by rw [List.length_append, List.length_append]; omega, fun c hc he r hrest m hm => ?_⟩
  rw [List.append_assoc, List.append_assoc] at hrest
  obtain ⟨p1, p2, p3⟩ := past_facts hc he hrest
  obtain ⟨g1, g2, g3⟩ := hd_read (last := last) hk p1 p2 p3
  obtain ⟨u1, u2, u3⟩ := past_facts p1 p2 p3
  have hk0 : ¬ k = 0 := by
    rw [Bool.and_eq_true] at hk
    have := kB_yes hk.2; omega
  have e0 := hv _ u1 u2 r u3
  obtain ⟨r1, r2⟩ := hr c hc he _ hrest m (by omega)
  have hx : gAt f id k ((c.past a.length).past (hdB last id k).length) = gOf id k (bA v) := by
    unfold gAt
    rw [e0, cut_is u1 u3]
  constructor
  · rw [r1, fld_next _ (by omega), g3, if_neg hk0, g2, g1, e0, CS.past_past, CS.past_past, List.length_append, List.length_append, Nat.sub_sub]
  · rw [r2, stL_next _ (by omega), g3, if_neg hk0, g2, g1, e0, hx, CS.past_past, CS.past_past, List.length_append, List.length_append, Nat.sub_sub, List.append_assoc]
    congr 1
theorem FsP.fin {f : Nat → CS → CS} {last : Int} {b : List UInt8} {L : List GD} (h : FsP f last b L) {c : CS} (hc : c.ok) (he : c.er = 0) {r : List UInt8} (hrest : c.rest = b ++ ([0] ++ r)) :
    fldTo f fuelN 0 c = c.past (b.length + 1) ∧ stL f fuelN 0 c = L := by
  obtain ⟨j, hj, hr⟩ := h
  obtain ⟨p1, p2, p3⟩ := past_facts hc he hrest
  obtain ⟨g1, g2⟩ := byte_read 0 p1 p2 p3
  have hl := CS.rest_length hc
  have hjf : j < fuelN := by
    rw [hrest, List.length_append] at hl
    obtain ⟨h1, h2, h3⟩ := hc
    unfold fuelN; omega
  obtain ⟨e1, e2, e3⟩ := CS.h_end (c := c.past b.length) (by rw [g2]; rfl) last
  obtain ⟨r1, r2⟩ := hr c hc he _ hrest fuelN (by omega)
  constructor
  · rw [r1, fld_next _ (by omega), e3, if_pos rfl, e1, g1, CS.past_past]
  · rw [r2, stL_next _ (by omega), e3, if_pos rfl, List.append_nil]
theorem gnum_is (id : Int) {n : Int} (hn : -9223372036854775808 ≤ n ∧ n ≤ 9223372036854775807) : gOf id 6 (bA (vB (zigI n).toNat)) = (id, 6, n, 0, ⟨#[]⟩, ⟨#[]⟩) := by
  have hz : 0 ≤ zigI n ∧ zigI n < 18446744073709551616 := by unfold zigI; split <;> omega
  have hv := (num_read (u := (zigI n).toNat) (by omega) (c := CS.new (bA (vB (zigI n).toNat))) rfl (r := []) (by rw [new_rest, List.append_nil]; simp [bA])).2
  unfold gOf
  rw [if_neg (by decide), if_neg (by decide), if_neg (by decide), if_neg (by decide), if_neg (by decide), if_neg (by decide), hv, Int.toNat_of_nonneg hz.1, zag_zig]
theorem gdbl_is (id : Int) {u : Nat} (hu : u < 18446744073709551616) : gOf id 7 (bA (lowL u 8)) = (id, 7, 0, u, ⟨#[]⟩, ⟨#[]⟩) := by
  unfold gOf
  rw [if_neg (by decide), if_neg (by decide), if_pos (by decide), if_pos rfl, if_neg (by decide), if_neg (by decide)]
  have : valL (bA (lowL u 8)).data.toList = u := by
    have e : (bA (lowL u 8)).data.toList = lowL u 8 := by simp [bA]
    rw [e, valL_lowL]
    exact Nat.mod_eq_of_lt hu
  rw [this]
theorem gtxt_is (id : Int) {t : List UInt8} (ht : t.length < 18446744073709551616) : gOf id 8 (bA (vB t.length ++ t)) = (id, 8, 0, 0, bA t, ⟨#[]⟩) := by
  have hv := (num_read (u := t.length) ht (c := CS.new (bA (vB t.length ++ t))) rfl (r := t) (by rw [new_rest]; simp [bA])).1
  unfold gOf
  rw [if_neg (by decide), if_neg (by decide), if_pos (by decide), if_neg (by decide), if_pos rfl, if_neg (by decide), hv]
  have : (bA (vB t.length ++ t)).extract ((CS.new (bA (vB t.length ++ t))).past (vB t.length).length).at_ (bA (vB t.length ++ t)).size = bA t := by
    have e : ((CS.new (bA (vB t.length ++ t))).past (vB t.length).length).at_ = (vB t.length).length := Nat.zero_add _
    rw [e]
    apply ByteArray.ext
    apply Array.toList_inj.mp
    rw [sub_list, bA_size, List.length_append, Nat.add_sub_cancel_left]
    simp [bA]
  rw [this]
/-- A writer within one struct, behind the field of a number. -/
def stW (last : Int) (out : List UInt8) : WT := ⟨out, [⟨false, last, 0, 0⟩], 0⟩
theorem stW_ok (last : Int) (out : List UInt8) {M : Nat} (h : out.length ≤ M) : OkW M (stW last out) := fun _ =>
  ⟨fun p hp => by
    obtain rfl : p = ⟨false, last, 0, 0⟩ := by simpa [stW] using hp
    exact ⟨by show (0 : Int) ≤ 0; decide, by show (0 : Int) ≤ 2147483647; decide, by show 0 < 256; decide⟩, by simp [stW], h⟩
theorem ent_fld {last id : Int} {out : List UInt8} {k : Nat} (h : (numB id && kB k) = true) : entW (stW last out) id k = stW id (out ++ hdB last id k) := by
  rw [entW_strt (s := stW last out) (p := ⟨false, last, 0, 0⟩) (ps := []) rfl rfl (by simp)]
  rw [hdB_len, h, wantW_yes]; rfl
theorem fit_64 {n : Int} (hn : -9223372036854775808 ≤ n ∧ n ≤ 9223372036854775807) : fitC n 64 = 0 := by
  unfold fitC
  rw [if_neg (by omega), if_pos]
  unfold wideI
  rw [if_neg (by omega), show pw (64 : Int).toNat = 18446744073709551616 from rfl]
  split <;> omega
theorem stW_str : strW ⟨[], [], 0⟩ 0 = stW 0 [] := rfl
theorem stW_who {last id n : Int} {out : List UInt8} (h : numB id = true) (hn : -9223372036854775808 ≤ n ∧ n ≤ 9223372036854775807) : whoW (stW last out) id 6 n = stW id (out ++ (hdB last id 6 ++ vB (zigI n).toNat)) := by
  have h6 : (numB id && kB 6) = true := by rw [h]; rfl
  unfold whoW
  rw [show wBits 6 = 64 from rfl, fit_64 hn, show decide ((0 : Int) < 64) = true from rfl, show decide ((0 : Int) = 0) = true from rfl, wantW_yes, wantW_yes, ent_fld h6, layW_ok (s := stW id (out ++ hdB last id 6)) rfl, ← List.append_assoc]
  rfl
theorem stW_dbl {last id : Int} {u : Nat} {out : List UInt8} (h : numB id = true) : dblW (stW last out) id u = stW id (out ++ (hdB last id 7 ++ lowL u 8)) := by
  have h6 : (numB id && kB 7) = true := by rw [h]; rfl
  unfold dblW
  rw [ent_fld h6, layW_ok (s := stW id (out ++ hdB last id 7)) rfl, ← List.append_assoc]
  rfl
theorem stW_txt {last id : Int} {out t : List UInt8} (h : numB id = true) : txtW (stW last out) id t = stW id (out ++ (hdB last id 8 ++ (vB t.length ++ t))) := by
  have h6 : (numB id && kB 8) = true := by rw [h]; rfl
  unfold txtW
  rw [ent_fld h6, layW_ok (s := stW id (out ++ hdB last id 8)) rfl]
  show layW (stW id (out ++ hdB last id 8 ++ vB t.length)) t = _
  rw [layW_ok (s := stW id (out ++ hdB last id 8 ++ vB t.length)) rfl]
  show stW id (out ++ hdB last id 8 ++ vB t.length ++ t) = _
  simp only [List.append_assoc]
theorem stW_flg {last id : Int} {k : Nat} {out : List UInt8} (h : (numB id && kB k) = true) : flgW (stW last out) id k = stW id (out ++ (hdB last id k ++ [])) := by
  unfold flgW
  rw [ent_fld h, if_neg (by simp [isL, stW]), List.append_nil]
theorem stW_end {last : Int} {out : List UInt8} : endW (stW last out) = ⟨out ++ [0], [], 0⟩ := rfl
theorem v_who (id : Int) {n : Int} (hn : -9223372036854775808 ≤ n ∧ n ≤ 9223372036854775807) : Rd (valTo (fL 0) 6) (vB (zigI n).toNat) := by
  refine val_read 0 ⟨[], [], 0⟩ ⟨110, id, n, 6, 0, []⟩ (by show ¬ (110 : Nat) = 123; decide) (by show ¬ (110 : Nat) = 91; decide) ?_ (by show 0 < 18446744073709551616; decide) hn
  show (if ((110 : Nat) = 123 ∨ (110 : Nat) = 91) ∧ 32 ≤ 0 then 33 else if (110 : Nat) = 91 ∧ (cntB n && kB 6) = false then 4 else if (110 : Nat) = 110 then (if wBits 6 = 0 then 7 else fitC n (wBits 6)) else 0) = (0 : Int)
  rw [if_neg (by decide), if_neg (fun e => absurd e.1 (by decide)), if_pos rfl, if_neg (by decide)]
  exact fit_64 hn
theorem v_dbl (id : Int) (u : Nat) : Rd (valTo (fL 0) 7) (lowL u 8) :=
  val_read 0 ⟨[], [], 0⟩ ⟨100, id, 0, 0, u, []⟩ (by show ¬ (100 : Nat) = 123; decide) (by show ¬ (100 : Nat) = 91; decide) rfl (by show 0 < 18446744073709551616; decide) (by show -9223372036854775808 ≤ (0 : Int) ∧ (0 : Int) ≤ 9223372036854775807; decide)
theorem v_txt (id : Int) {t : List UInt8} (ht : t.length < 18446744073709551616) : Rd (valTo (fL 0) 8) (vB t.length ++ t) :=
  val_read 0 ⟨[], [], 0⟩ ⟨115, id, 0, 0, 0, t⟩ (by show ¬ (115 : Nat) = 123; decide) (by show ¬ (115 : Nat) = 91; decide) rfl ht (by show -9223372036854775808 ≤ (0 : Int) ∧ (0 : Int) ≤ 9223372036854775807; decide)
theorem v_flg (id : Int) {k : Nat} (hk : k = 1 ∨ k = 2) : Rd (valTo (fL 0) k) [] := by
  rcases hk with rfl | rfl
  · exact val_read 0 ⟨[], [], 0⟩ ⟨102, id, 1, 0, 0, []⟩ (by show ¬ (102 : Nat) = 123; decide) (by show ¬ (102 : Nat) = 91; decide) rfl (by show 0 < 18446744073709551616; decide) (by show -9223372036854775808 ≤ (1 : Int) ∧ (1 : Int) ≤ 9223372036854775807; decide)
  · exact val_read 0 ⟨[], [], 0⟩ ⟨102, id, 0, 0, 0, []⟩ (by show ¬ (102 : Nat) = 123; decide) (by show ¬ (102 : Nat) = 91; decide) rfl (by show 0 < 18446744073709551616; decide) (by show -9223372036854775808 ≤ (0 : Int) ∧ (0 : Int) ≤ 9223372036854775807; decide)
/-- The fields' bytes. -/
def fB1 (x0 n : Int) : List UInt8 := [] ++ (hdB 0 x0 6 ++ vB (zigI n).toNat)
def fB2 (x0 x1 n : Int) (u : Nat) : List UInt8 := fB1 x0 n ++ (hdB x0 x1 7 ++ lowL u 8)
def fB3 (x0 x1 x2 n : Int) (u : Nat) (t : List UInt8) : List UInt8 := fB2 x0 x1 n u ++ (hdB x1 x2 8 ++ (vB t.length ++ t))
def fB4 (x0 x1 x2 x3 n : Int) (u k : Nat) (t : List UInt8) : List UInt8 := fB3 x0 x1 x2 n u t ++ (hdB x2 x3 k ++ [])
def gL4 (x0 x1 x2 x3 n : Int) (u k : Nat) (t : List UInt8) : List GD := [(x0, 6, n, 0, ⟨#[]⟩, ⟨#[]⟩), (x1, 7, 0, u, ⟨#[]⟩, ⟨#[]⟩), (x2, 8, 0, 0, bA t, ⟨#[]⟩), (x3, k, if k = 1 then 1 else 0, 0, ⟨#[]⟩, ⟨#[]⟩)]
theorem fields_read {x0 x1 x2 x3 n : Int} {u k : Nat} {t : List UInt8} (h0 : numB x0 = true) (h1 : numB x1 = true) (h2 : numB x2 = true) (h3 : numB x3 = true) (hn : -9223372036854775808 ≤ n ∧ n ≤ 9223372036854775807) (hu : u < 18446744073709551616) (hk : k = 1 ∨ k = 2)
    (ht : t.length < 18446744073709551616) (hz : (fB4 x0 x1 x2 x3 n u k t ++ [0]).length ≤ 9223372036854775807) :
    stN (bA (fB4 x0 x1 x2 x3 n u k t ++ [0])) 0 = (fB4 x0 x1 x2 x3 n u k t ++ [0]).length ∧ (stR (bA (fB4 x0 x1 x2 x3 n u k t ++ [0])) 0).er = 0 ∧ stF (bA (fB4 x0 x1 x2 x3 n u k t ++ [0])) 0 = gL4 x0 x1 x2 x3 n u k t := by
  have e0 : (⟨[], [], 0⟩ : WT).er = 0 := rfl
  have v1 := v_who x0 hn
  have v2 := v_dbl x1 u
  have v3 := v_txt x2 ht
  have v4 := v_flg x3 hk
  have f1 := (FsP.new (fL 0)).more (id := x0) (k := 6) (by rw [h0]; rfl) v1
  have f2 := f1.more (id := x1) (k := 7) (by rw [h1]; rfl) v2
  have f3 := f2.more (id := x2) (k := 8) (by rw [h2]; rfl) v3
  have f4 := f3.more (id := x3) (k := k) (by rw [h3]; rcases hk with rfl | rfl <;> rfl) v4
  obtain ⟨T, hT⟩ : ∃ T, T = bA (fB4 x0 x1 x2 x3 n u k t ++ [0]) := ⟨_, rfl⟩
  have hTz : T.size = (fB4 x0 x1 x2 x3 n u k t ++ [0]).length := by rw [hT, bA_size]
  have hok : (CS.new T).ok := CS.new_ok (by omega)
  have hrest : (CS.new T).rest = fB4 x0 x1 x2 x3 n u k t ++ ([0] ++ []) := by rw [new_rest, hT]; simp [bA]
  obtain ⟨g1, g2⟩ := f4.fin hok rfl hrest
  rw [← hT]
  have hc : cAt T 0 = CS.new T := by unfold cAt; rw [if_neg (by decide)]
  have hR : stR T 0 = (CS.new T).past ((fB4 x0 x1 x2 x3 n u k t).length + 1) := by
    unfold stR
    rw [hc]; exact g1
  have hE : (stR T 0).er = 0 := by rw [hR]; rfl
  refine ⟨?_, hE, ?_⟩
  · unfold stN
    rw [if_pos hE, hR]
    show 0 + _ = _
    rw [List.length_append]; simp
  · unfold stF
    rw [if_pos hE, hc]
    refine Eq.trans g2 ?_
    show ([] ++ [gOf x0 6 (bA (vB (zigI n).toNat))] ++ [gOf x1 7 (bA (lowL u 8))] ++ [gOf x2 8 (bA (vB t.length ++ t))] ++ [gOf x3 k (bA [])]) = _
    rw [gnum_is _ hn, gdbl_is _ hu, gtxt_is _ ht]
    rcases hk with rfl | rfl <;> rfl
/-- Four numbers: the one at a place. -/
def ix (x0 x1 x2 x3 : Int) : Nat → Int
  | 0 => x0
  | 1 => x1
  | 2 => x2
  | _ => x3
/-- Block g is four numbers. -/
def IdT (w : World) (g : Nat) (x0 x1 x2 x3 : Int) : Prop := w.heap[g]? = some (.cells #[.int .i64 x0, .int .i64 x1, .int .i64 x2, .int .i64 x3] 42 (0, 0))
section
variable {w w' : World} {g : Nat} {x0 x1 x2 x3 : Int}
theorem IdT.at (h : IdT w g x0 x1 x2 x3) : ∀ j, j < 4 → w.cell? ⟨g, j, none⟩ = some (.int .i64 (ix x0 x1 x2 x3 j)) := by
  intro j hj
  unfold IdT at h
  rw [cell_of_row w g j _ _ _ h]
  match j, hj with
  | 0, _ => rfl
  | 1, _ => rfl
  | 2, _ => rfl
  | 3, _ => rfl
theorem IdT.below {N : Nat} (h : IdT w g x0 x1 x2 x3) (hb : Below N w w') (hN : g < N) : IdT w' g x0 x1 x2 x3 := (hb.block g hN).trans h
end
def CfRel1 (W0 : World) (x0 x1 x2 x3 : Int) (i : Value) (wr : World) : Prop := ∃ j : Nat, j ≤ 4 ∧ i = .int .i64 (j : Nat) ∧ wr = W0 ∧ ∀ m, m < j → numB (ix x0 x1 x2 x3 m) = true
def CfRel2 (W0 : World) (g gb : Nat) (x0 x1 x2 x3 : Int) (L : List GD) (i : Value) (wr : World) : Prop := ∃ j : Nat, j ≤ 4 ∧ i = .int .i64 (j : Nat) ∧ IdT wr g x0 x1 x2 x3 ∧ (∀ m (hm : m < L.length), GdAt wr gb m L[m]) ∧ Below W0.heap.size W0 wr
theorem CfRel2.drewN {W0 wr : World} {g gb : Nat} {x0 x1 x2 x3 : Int} {L : List GD} {i : Value} (h : CfRel2 W0 g gb x0 x1 x2 x3 L i wr) (n : Nat) : CfRel2 W0 g gb x0 x1 x2 x3 L i (wr.drewN n) := by
  obtain ⟨j, h1, h2, h3, h4, h5⟩ := h
  exact ⟨j, h1, h2, h3, h4, Below.drewN h5 n⟩
theorem ix_last {x0 x1 x2 x3 n : Int} {u k : Nat} {t : List UInt8} : ∀ j (hj : j < (gL4 x0 x1 x2 x3 n u k t).length), (gL4 x0 x1 x2 x3 n u k t)[j].1 = ix x0 x1 x2 x3 j
  | 0, _ => rfl
  | 1, _ => rfl
  | 2, _ => rfl
  | 3, _ => rfl
set_option maxRecDepth 100000 in
set_option maxHeartbeats 4000000 in
theorem cwf_any (x0 x1 x2 x3 n : Int) (u k : Nat) (t : ByteArray) (x : Bool) (w : World) (hx : x = decide (0 < n)) (hk : k = if x = true then 1 else 2) (hn : -9223372036854775808 ≤ n ∧ n ≤ 9223372036854775807) (hu : u < 18446744073709551616) (hs : t.size ≤ 140737488351232) (ht : Tab w) :
    Calls Tryd.prog 5 #[.agg #[.int .i64 x0, .int .i64 x1, .int .i64 x2, .int .i64 x3], .int .i64 n, .int .u64 (u : Nat), .string t] w fun e w' => e = .returned (.bool true) ∧ Below w.heap.size w w' := by
  have hid : IdT (w.alloc (.cells #[.int .i64 x0, .int .i64 x1, .int .i64 x2, .int .i64 x3] 42)) w.heap.size x0 x1 x2 x3 := heap_alloc_new w _
  have hb0 := new_grow w (.cells #[.int .i64 x0, .int .i64 x1, .int .i64 x2, .int .i64 x3] 42)
  obtain ⟨W0, hW0⟩ : ∃ W0, W0 = w.alloc (.cells #[.int .i64 x0, .int .i64 x1, .int .i64 x2, .int .i64 x3] 42) := ⟨_, rfl⟩
  rw [← hW0] at hid hb0
  have HB0 := Lib.hid hb0
  have HT := Lib.hid (show ∀ w', Below W0.heap.size W0 w' → Tab w' from fun w' hb => ht.below (grown_then hb0 hb) ht.lt)
  obtain ⟨g, hg⟩ : ∃ g, g = w.heap.size := ⟨_, rfl⟩
  rw [← hg] at hid
  have hlt := lt_of_block hid
  have HID := Lib.hid (show ∀ w', Below W0.heap.size W0 w' → IdT w' g x0 x1 x2 x3 from fun w' hb => hid.below hb hlt)
  have HN := Lib.hid hn
  have HU := Lib.hid hu
  have HS := Lib.hid hs
  have HK := Lib.hid hk
  have HX := Lib.hid hx
  have px : decide (0 < n) = x := hx.symm
  clear hn hu hs hk ht hb0 hid hlt hx
  go_enter Tryd.func5, Tryd.ntmps5
  go_upto_region 1 with fail
  rw [← hW0, ← hg]
  clear hW0 hg
  go_wp2_with fail
  go_loopw [9] (fun i wr => CfRel1 W0 x0 x1 x2 x3 i wr) (fun i _ => 4 - (intOf i).toNat)
  case atStart => exact ⟨0, by decide, rfl, rfl, fun m hm => by omega⟩
  case round =>
    obtain ⟨j, hj, rfl, hwr, hnum⟩ := hrel
    obtain rfl : W0 = wr := hwr.symm
    by_cases hlt : j < 4
    · have q1 : decide (j < 4) = true := decide_eq_true hlt
      have q2 : (j : Int) < 4 := by omega
      have q3 : (0 : Int) ≤ (j : Int) := by omega
      have hc := (HID.out W0 (Below.refl _ _)).at j hlt
      obtain ⟨y, hy⟩ : ∃ y, y = ix x0 x1 x2 x3 j := ⟨_, rfl⟩
      rw [← hy] at hc
      by_cases hok : numB y = true
      · have h1 := numB_yes hok
        have r1 : decide (y < -32768) = false := decide_eq_false (by omega)
        have r2 : decide (32767 < y) = false := decide_eq_false (by omega)
        have HR := Lib.hid (show CfRel1 W0 x0 x1 x2 x3 (.int .i64 ((j + 1 : Nat) : Int)) W0 from ⟨j + 1, hlt, rfl, rfl, fun m hm => by
          by_cases e : m = j
          · rw [e, ← hy]; exact hok
          · exact hnum m (by omega)⟩)
        clear hnum hok hy h1
        go_wp2_with fail
        go_roundw
        case rel =>
          obtain ⟨j1, h1, h2, h3⟩ := HR.out
          exact ⟨j1, h1, by rw [← h2]; go_num, h3⟩
        case measure => simp [intOf]; omega
      · have HX := Lib.hid (works23_any W0 (HT.out W0 (Below.refl _ _)))
        by_cases h1 : y < -32768
        · have r1 : decide (y < -32768) = true := decide_eq_true h1
          clear hnum hok hy h1
          go_wp2_with fail
          refine HX.out.mono ?_
          rintro e w2 ⟨rfl, hb2⟩
          have B2 := Lib.hid (grown_then HB0.out hb2)
          clear hb2
          go_wp2
          go_ret
          exact ⟨rfl, B2.out⟩
        · have r1 : decide (y < -32768) = false := decide_eq_false h1
          have r2 : decide (32767 < y) = true := decide_eq_true (by
            unfold numB at hok
            by_cases e : 32767 < y
            · exact e
            · rw [decide_eq_true (by omega), decide_eq_true (by omega)] at hok; exact absurd rfl hok)
          clear hnum hok hy h1
          go_wp2_with fail
          refine HX.out.mono ?_
          rintro e w2 ⟨rfl, hb2⟩
          have B2 := Lib.hid (grown_then HB0.out hb2)
          clear hb2
          go_wp2
          go_ret
          exact ⟨rfl, B2.out⟩
    · have q1 : decide (j < 4) = false := decide_eq_false hlt
      have q2 : ¬ (j : Int) < 4 := by omega
      have n0 : numB x0 = true := hnum 0 (by omega)
      have n1 : numB x1 = true := hnum 1 (by omega)
      have n2 : numB x2 = true := hnum 2 (by omega)
      have n3 : numB x3 = true := hnum 3 (by omega)
      have hkk : k = 1 ∨ k = 2 := by rw [HK.out]; split <;> simp
      have hkb : (numB x3 && kB k) = true := by rw [n3]; rcases hkk with e | e <;> rw [e] <;> rfl
      have hss := HS.out
      have hnn := HN.out
      have l0 : (vB (zigI n).toNat).length ≤ 10 := vB_le (by unfold zigI; split <;> omega)
      have lt : (vB t.size).length ≤ 10 := vB_le (by omega)
      have htl : t.data.toList.length = t.size := toList_size t
      have l1 : (fB1 x0 n).length ≤ 30 := by unfold fB1; have := hdB_le 0 x0 6; simp; omega
      have l2 : (fB2 x0 x1 n u).length ≤ 60 := by unfold fB2; have := hdB_le x0 x1 7; have := lowL_length 8 u; simp only [List.length_append]; omega
      have l3 : (fB3 x0 x1 x2 n u t.data.toList).length ≤ 90 + t.size := by unfold fB3; have := hdB_le x1 x2 8; rw [htl]; simp only [List.length_append]; omega
      have l4 : (fB4 x0 x1 x2 x3 n u k t.data.toList).length ≤ 120 + t.size := by unfold fB4; have := hdB_le x2 x3 k; simp only [List.length_append, List.length_nil]; omega
      have l5 : (fB4 x0 x1 x2 x3 n u k t.data.toList ++ [0]).length ≤ 121 + t.size := by rw [List.length_append]; simp; omega
      have HNW := Lib.hid (cwnew_any W0)
      have H1 := Lib.hid (fun w1 vb vh (h : WrE W0.heap.size W0.heap.size w1 vb vh ⟨[], [], 0⟩) => by
        have := cwstruct_any h o0s (by decide) 0
        rw [stW_str] at this; exact this)
      have H2 := Lib.hid (fun w1 vb vh (h : WrE W0.heap.size W0.heap.size w1 vb vh (stW 0 [])) => by
        have := cwwhole_any h (stW_ok 0 [] (M := 0) (Nat.le_refl _)) (by decide) x0 6 (by decide) n hnn
        rw [stW_who n0 hnn, show [] ++ (hdB 0 x0 6 ++ vB (zigI n).toNat) = fB1 x0 n from rfl] at this; exact this)
      have H3 := Lib.hid (fun w1 vb vh (h : WrE W0.heap.size W0.heap.size w1 vb vh (stW x0 (fB1 x0 n))) (hT : ∀ w', Below W0.heap.size w1 w' → Tab w') => by
        have := cwdouble_any h (stW_ok x0 _ l1) (by decide) x1 u HU.out hT
        rw [stW_dbl n1, show fB1 x0 n ++ (hdB x0 x1 7 ++ lowL u 8) = fB2 x0 x1 n u from rfl] at this; exact this)
      have H4 := Lib.hid (fun w1 vb vh (h : WrE W0.heap.size W0.heap.size w1 vb vh (stW x1 (fB2 x0 x1 n u))) => by
        have := cwtext_any h (stW_ok x1 _ l2) x2 t (by omega)
        rw [stW_txt n2, show fB2 x0 x1 n u ++ (hdB x1 x2 8 ++ (vB t.data.toList.length ++ t.data.toList)) = fB3 x0 x1 x2 n u t.data.toList from rfl] at this; exact this)
      have H5 := Lib.hid (fun w1 vb vh (h : WrE W0.heap.size W0.heap.size w1 vb vh (stW x2 (fB3 x0 x1 x2 n u t.data.toList))) => by
        have := cwflag_is h (stW_ok x2 _ l3) (by omega) x3 x k HK.out
        rw [stW_flg hkb, show fB3 x0 x1 x2 n u t.data.toList ++ (hdB x2 x3 k ++ []) = fB4 x0 x1 x2 x3 n u k t.data.toList from rfl] at this; exact this)
      have H6 := Lib.hid (fun w1 vb vh (h : WrE W0.heap.size W0.heap.size w1 vb vh (stW x3 (fB4 x0 x1 x2 x3 n u k t.data.toList))) => by
        have := cwend_any h (stW_ok x3 _ l4) (by omega)
        rw [stW_end] at this; exact this)
      obtain ⟨O, hO⟩ : ∃ O, O = fB4 x0 x1 x2 x3 n u k t.data.toList ++ [0] := ⟨_, rfl⟩
      have H7 := Lib.hid (fun w1 vb vh (h : WrE W0.heap.size W0.heap.size w1 vb vh ⟨O, [], 0⟩) => by
        have := cwdone_any h
        rw [show doneW ⟨O, [], 0⟩ = (O, 0) from rfl] at this; exact this)
      obtain ⟨g1, g2, g3⟩ := fields_read (t := t.data.toList) n0 n1 n2 n3 hnn HU.out hkk (by omega) (by omega)
      rw [← hO] at g1 g2 g3 l5 H6
      obtain ⟨T, hT⟩ : ∃ T, T = bA O := ⟨_, rfl⟩
      have hTz : T.size = O.length := by rw [hT, bA_size]
      rw [← hT] at g1 g2 g3
      have H8 := Lib.hid (fun w1 (hT : Tab w1) => by
        have := struct_wide T 0 w1 (by omega) (.inr ⟨g2, by rw [g3]; simp [gL4]⟩) (by decide) hT
        rw [g1, g2, g3, ← hTz] at this; exact this)
      have hNum : ((if k = 1 then (1 : Int) else 0) == min 1 (max 0 n)) = true := by
        rw [HK.out, HX.out]
        by_cases e : 0 < n
        · rw [decide_eq_true e]; simp; omega
        · rw [decide_eq_false e]; simp; omega
      obtain ⟨L, hL⟩ : ∃ L, L = gL4 x0 x1 x2 x3 n u k t.data.toList := ⟨_, rfl⟩
      rw [← hL] at H8
      have HL := Lib.hid hL
      have HXI := Lib.hid (fun j (hj : j < L.length) => (show L[j].1 = ix x0 x1 x2 x3 j by subst hL; exact ix_last j hj))
      have hLl : L.length = 4 := by rw [hL]; rfl
      have T0 := Lib.hid hT
      clear hnum n0 n1 n2 n3 hkk hkb hss hnn l0 lt htl l1 l2 l3 l4 l5 g1 g2 g3 hO hTz hL HS HN hT
      generalize fB4 x0 x1 x2 x3 n u k t.data.toList = F4 at *
      generalize fB3 x0 x1 x2 n u t.data.toList = F3 at *
      generalize fB2 x0 x1 n u = F2 at *
      generalize fB1 x0 n = F1 at *
      go_wp2_with fail
      refine HNW.out.mono ?_
      rintro e u0 ⟨rfl, ⟨vb, vh, h0⟩, b0⟩
      have A0 := Lib.hid (And.intro h0 b0)
      have i0 := (HID.out _ b0).at 0 (by decide)
      clear h0 b0
      go_wp2_with fail
      refine (H1.out _ _ _ A0.out.1).mono ?_
      rintro e u1 ⟨rfl, vb1, vh1, h1, k1⟩
      have A1 := Lib.hid (And.intro h1 (A0.out.2.trans (Kb k1 A0.out.1)))
      clear i0 h1 k1
      have i0 := (HID.out _ A1.out.2).at 0 (by decide)
      unfold ix at i0
      go_wp2_with fail
      refine (H2.out _ _ _ A1.out.1).mono ?_
      rintro e u2 ⟨rfl, vb2, vh2, h2, k2⟩
      have A2 := Lib.hid (And.intro h2 (A1.out.2.trans (Kb k2 A1.out.1)))
      clear i0 h2 k2
      have i0 := (HID.out _ A2.out.2).at 1 (by decide)
      unfold ix at i0
      go_wp2_with fail
      refine (H3.out _ _ _ A2.out.1 (fun w' hb => HT.out w' (A2.out.2.trans hb))).mono ?_
      rintro e u3 ⟨rfl, vb3, vh3, h3, k3⟩
      have A3 := Lib.hid (And.intro h3 (A2.out.2.trans (Kb k3 A2.out.1)))
      clear i0 h3 k3
      have i0 := (HID.out _ A3.out.2).at 2 (by decide)
      unfold ix at i0
      go_wp2_with fail
      refine (H4.out _ _ _ A3.out.1).mono ?_
      rintro e u4 ⟨rfl, vb4, vh4, h4, k4⟩
      have A4 := Lib.hid (And.intro h4 (A3.out.2.trans (Kb k4 A3.out.1)))
      clear i0 h4 k4
      have i0 := (HID.out _ A4.out.2).at 3 (by decide)
      unfold ix at i0
      go_wp2_with fail
      refine (H5.out _ _ _ A4.out.1).mono ?_
      rintro e u5 ⟨rfl, vb5, vh5, h5, k5⟩
      have A5 := Lib.hid (And.intro h5 (A4.out.2.trans (Kb k5 A4.out.1)))
      clear i0 h5 k5
      have i0 := (HID.out _ A5.out.2).at 0 (by decide)
      unfold ix at i0
      go_wp2_with fail
      refine (H6.out _ _ _ A5.out.1).mono ?_
      rintro e u6 ⟨rfl, vb6, vh6, h6, k6⟩
      have A6 := Lib.hid (And.intro h6 (A5.out.2.trans (Kb k6 A5.out.1)))
      clear i0 h6 k6
      have i0 := (HID.out _ A6.out.2).at 0 (by decide)
      unfold ix at i0
      go_wp2_with fail
      refine (H7.out _ _ _ A6.out.1).mono ?_
      rintro e u7 ⟨rfl, b7⟩
      have B7 := Lib.hid (grown_then A6.out.2 b7)
      clear i0 b7
      rw [← T0.out]
      go_wp2_with fail
      refine (H8.out _ (HT.out _ B7.out)).mono ?_
      rintro e u8 ⟨v8, rfl, r8, b8⟩
      have B8 := Lib.hid (grown_then B7.out b8)
      obtain ⟨a8, c8, rfl, i8⟩ := r8.inn
      obtain ⟨gb, rfl, hgb, hat⟩ := i8.block (fun e => by rw [e] at hLl; cases hLl)
      have R8 := Lib.hid (show CfRel2 W0 g gb x0 x1 x2 x3 L (.int .i64 0) u8 from ⟨0, by decide, rfl, HID.out _ B8.out, hat, B8.out⟩)
      rw [hLl]
      clear r8 i8 hat b8 hgb
      go_wp2_with fail
      go_loopw [16] (fun i wr => CfRel2 W0 g gb x0 x1 x2 x3 L i wr) (fun i _ => 4 - (intOf i).toNat)
      case atStart => exact R8.out
      case round =>
        clear R8 B8
        obtain ⟨j, hj, rfl, hid, hat, hbel⟩ := hrel
        by_cases hlt : j < 4
        · have q1 : decide (j < 4) = true := decide_eq_true hlt
          have q2 : (j : Int) < 4 := by omega
          have q3 : (0 : Int) ≤ (j : Int) := by omega
          have hc := hid.at j hlt
          have hd := (hat j (by omega)).1
          rw [HXI.out j (by omega)] at hd
          have HR := Lib.hid (show CfRel2 W0 g gb x0 x1 x2 x3 L (.int .i64 ((j + 1 : Nat) : Int)) wr from ⟨j + 1, hlt, rfl, hid, hat, hbel⟩)
          generalize ix x0 x1 x2 x3 j = y at *
          clear hid hat hbel
          go_wp2_with fail
          go_quiet (fail)
          go_wp2
          go_roundw
          case rel =>
            obtain ⟨j1, h1, h2, h3⟩ := HR.out.drewN _
            exact ⟨j1, h1, by rw [← h2]; go_num, h3⟩
          case measure => simp [intOf]; omega
        · have q1 : decide (j < 4) = false := decide_eq_false hlt
          have q2 : ¬ (j : Int) < 4 := by omega
          have m0 := (hat 0 (by omega)).2.2.1
          have m1 := (hat 1 (by omega)).2.2.2.1
          have m2 := (hat 2 (by omega)).2.2.2.2.1
          have m3 := (hat 3 (by omega)).2.2.1
          have hL := HL.out
          subst hL
          simp only [gL4, List.getElem_cons_zero, List.getElem_cons_succ] at m0 m1 m2 m3
          rw [bA_of] at m2
          have HW := Lib.hid (works23_any wr (HT.out _ hbel))
          have HBL := Lib.hid (grown_then HB0.out hbel)
          clear hat hbel hid
          generalize (if k = 1 then (1 : Int) else 0) = nk at *
          go_wp2_with fail
          refine HW.out.mono ?_
          rintro e u9 ⟨rfl, b9⟩
          have B9 := Lib.hid (grown_then HBL.out b9)
          clear b9
          go_wp2
          go_ret
          exact ⟨rfl, B9.out⟩
theorem cwf_law (x0 x1 x2 x3 n u : Int) (t : ByteArray) (w : World) (h1 : -9223372036854775808 ≤ n) (h2 : n ≤ 9223372036854775807) (hu1 : 0 ≤ u) (hu2 : u ≤ 18446744073709551615) (hs : t.size ≤ 140737488351232) (ht : Tab w) :
    Calls Tryd.prog 5 #[.agg #[.int .i64 x0, .int .i64 x1, .int .i64 x2, .int .i64 x3], .int .i64 n, .int .u64 u, .string t] w fun e w' => e = .returned (.bool true) ∧ Below w.heap.size w w' := by
  obtain ⟨v, rfl⟩ := Int.eq_ofNat_of_zero_le hu1
  exact cwf_any x0 x1 x2 x3 n v _ t _ w rfl rfl ⟨h1, h2⟩ (by omega) hs ht
end Go.Proofs.YtmcklfndnjagiaaDoor
