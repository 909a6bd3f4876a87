/- Several texts in one (PrBkN, PmNum, PmTot): each begins with its own words. -/
import Derived.Test.YtipnaonagepolaaDoorZJ
/- A field's bytes are read as that field, but for what its wire type does not keep. Of no program. -/
namespace Go.Proofs.YtipnaonagepolaaDoor
open Go Go.RowKit
set_option linter.unusedVariables false

/-- A number's bytes are read as that number, whatever stands behind. -/
theorem lv_back (u : Nat) (m : List UInt8) (hu : u < 18446744073709551616) : lvC (vB u ++ m) = 0 ∧ lvK (vB u ++ m) = (vB u).length ∧ lvV (vB u ++ m) = u := by
  have hl := vlead_VF (vB u) m (VF_vB u)
  have h10 := vB_le10 hu
  have hk : lvK (vB u ++ m) = (vB u).length := hl
  have hc : lvC (vB u ++ m) = 0 := by
    unfold lvC
    rw [if_neg, if_neg]
    · rw [List.length_append]; omega
    · rintro ⟨h1, h2⟩
      have h9 : 9 < (vB u).length := by omega
      rw [List.getElem?_append_left h9, List.getElem?_eq_getElem h9] at h2
      have := vB_tenth hu h9
      simp only [Option.getD_some] at h2
      omega
  refine ⟨hc, hk, ?_⟩
  unfold lvV
  rw [if_pos hc, hk, List.take_left, vvL_vB]
/-- What of Num, of Text a field of wire type v keeps. -/
def kU (v : Int) (u : Nat) : Nat := if v = 2 then 0 else if v = 5 then u % 4294967296 else u
def kS (v : Int) (s : ByteArray) : ByteArray := if v = 2 then s else ⟨#[]⟩
theorem cRd_back {v : Int} (h : v = 0 ∨ v = 1 ∨ v = 2 ∨ v = 5) (u : Nat) (s : ByteArray) (hu : u < 18446744073709551616) (hs : s.size ≤ 140737488351232) :
    cRd v (bB v u s) = (0, (bB v u s).length, kU v u, kS v s) := by
  rcases h with rfl | rfl | rfl | rfl
  · obtain ⟨a1, a2, a3⟩ := lv_back u [] hu
    rw [List.append_nil] at a1 a2 a3
    have e : bB 0 u s = vB u := rfl
    have e1 : kU 0 u = u := rfl
    have e2 : kS 0 s = ⟨#[]⟩ := rfl
    rw [e, e1, e2]
    unfold cRd
    rw [if_pos rfl, if_neg (by rw [a1]; simp), a2, a3]
  · have a1 : (lowL u 8).length = 8 := lowL_length 8 u
    have a2 : valL (lowL u 8) = u := by rw [valL_lowL, Nat.mod_eq_of_lt hu]
    have e : bB 1 u s = lowL u 8 := rfl
    have e1 : kU 1 u = u := rfl
    have e2 : kS 1 s = ⟨#[]⟩ := rfl
    rw [e, e1, e2]
    unfold cRd
    rw [if_neg (by decide), if_pos rfl, if_neg (by rw [a1]; omega), List.take_of_length_le (by rw [a1]; omega), a1, a2]
  · obtain ⟨a1, a2, a3⟩ := lv_back s.size s.data.toList (by omega)
    have hz := toList_size s
    have e : bB 2 u s = vB s.size ++ s.data.toList := rfl
    have e1 : kU 2 u = 0 := rfl
    have e2 : kS 2 s = s := rfl
    rw [e, e1, e2]
    unfold cRd
    rw [if_neg (by decide), if_neg (by decide), if_neg (by decide), if_neg (by rw [a1]; simp), a2, a3, if_neg (by rw [List.length_append]; omega), List.drop_left, List.take_of_length_le (by omega), List.length_append, hz]
    rfl
  · have a1 : (lowL u 4).length = 4 := lowL_length 4 u
    have a2 : valL (lowL u 4) = u % 4294967296 := by rw [valL_lowL]
    have e : bB 5 u s = lowL u 4 := rfl
    have e1 : kU 5 u = u % 4294967296 := rfl
    have e2 : kS 5 s = ⟨#[]⟩ := rfl
    rw [e, e1, e2]
    unfold cRd
    rw [if_neg (by decide), if_neg (by decide), if_pos rfl, if_neg (by rw [a1]; omega), List.take_of_length_le (by rw [a1]; omega), a1, a2]
theorem fRd_back {n v : Int} (h : tagB n v = true) (u : Nat) (s : ByteArray) (hu : u < 18446744073709551616) (hs : s.size ≤ 140737488351232) :
    fRd (fB n v u s) = (0, (fB n v u s).length, (n, v, kU v u, kS v s)) := by
  have hU := tagU_lt h
  have hL : tagL n v = vB (tagU n v) := if_pos h
  obtain ⟨a1, a2, a3⟩ := lv_back (tagU n v) (bB v u s) (by omega)
  obtain ⟨b1, b2⟩ := tagU_back h
  have ht := tag_yes h
  have hN : ¬ mN (tagU n v) = 0 := by omega
  have hc := cRd_back ht.2.2 u s hu hs
  have hf : fB n v u s = vB (tagU n v) ++ bB v u s := by unfold fB; rw [if_pos h, hL]
  rw [hf]
  unfold fRd
  rw [if_neg (by rw [a1]; simp), a3, if_neg hN, a2, List.drop_left, b1, b2, hc, if_neg (by simp), List.length_append]
theorem fAll_back {n v : Int} (h : tagB n v = true) (u : Nat) (s : ByteArray) (hu : u < 18446744073709551616) (hs : s.size ≤ 140737488351232) :
    fAll (fB n v u s) = ([(n, v, kU v u, kS v s)], 0) := by
  have hr := fRd_back h u s hu hs
  have hne : fB n v u s ≠ [] := by
    unfold fB
    rw [if_pos h]
    have := tagL_ne h
    simp [this]
  rw [fAll_more hne (by rw [hr]), hr]
  simp only [List.drop_length, fAll_nil]
  simp
theorem fB_no {n v : Int} (h : tagB n v = false) (u : Nat) (s : ByteArray) : fB n v u s = [] := by unfold fB; rw [h]; rfl
end Go.Proofs.YtipnaonagepolaaDoor
/- What a message's fields say together, over lists: those of a number and a wire type, the last one of some tags, how many have none of these. Of no program. -/
namespace Go.Proofs.YtipnaonagepolaaDoor
open Go Go.RowKit
set_option linter.unusedVariables false

/-- A tag: a number and a wire type. -/
abbrev TG := Int × Int
/-- Has a field this tag? -/
def tHas (t : TG) (x : FD) : Bool := decide (x.1 = t.1) && decide (x.2.1 = t.2)
/-- Has it one of these? -/
def tKn (T : List TG) (x : FD) : Bool := T.any fun t => tHas t x
/-- The fields of a tag. -/
def fOf (l : List FD) (t : TG) : List FD := l.filter (tHas t)
/-- The last one of those that are asked for. -/
def fLast (l : List FD) (q : FD → Bool) : FD := ((l.filter q).getLast?).getD fZ
def fIs (l : List FD) (q : FD → Bool) : Bool := l.any q
def fNum (l : List FD) (n v : Int) : Nat := if v = 2 then 0 else (fLast l (tHas (n, v))).2.2.1
def fNis (l : List FD) (n v : Int) : Bool := if v = 2 then false else fIs l (tHas (n, v))
def fEach (l : List FD) (n : Int) : List ByteArray := (fOf l (n, 2)).map fun x => x.2.2.2
def fJoin (l : List ByteArray) : List UInt8 := l.flatMap fun s => s.data.toList
def fRest (l : List FD) (T : List TG) : Nat := l.countP fun x => !tKn T x

theorem fIs_of (l : List FD) (q : FD → Bool) : fIs l q = decide (0 < (l.filter q).length) := by
  unfold fIs
  rw [Bool.eq_iff_iff, decide_eq_true_iff, List.any_eq_true, List.length_pos_iff_exists_mem]
  exact ⟨fun ⟨x, h1, h2⟩ => ⟨x, List.mem_filter.2 ⟨h1, h2⟩⟩, fun ⟨x, h⟩ => ⟨x, (List.mem_filter.1 h).1, (List.mem_filter.1 h).2⟩⟩
theorem fLast_none {l : List FD} {q : FD → Bool} (h : ∀ x ∈ l, q x = false) : fLast l q = fZ ∧ fIs l q = false := by
  have e : l.filter q = [] := List.filter_eq_nil_iff.2 fun x hx => by rw [h x hx]; simp
  refine ⟨by unfold fLast; rw [e]; rfl, ?_⟩
  rw [fIs_of, e]; rfl
theorem fLast_some {a b : List FD} {x : FD} {q : FD → Bool} (hx : q x = true) (hb : ∀ y ∈ b, q y = false) : fLast (a ++ x :: b) q = x ∧ fIs (a ++ x :: b) q = true := by
  have e : b.filter q = [] := List.filter_eq_nil_iff.2 fun y hy => by rw [hb y hy]; simp
  have f : (a ++ x :: b).filter q = a.filter q ++ [x] := by rw [List.filter_append, List.filter_cons, if_pos hx, e]
  refine ⟨by unfold fLast; rw [f]; simp, ?_⟩
  rw [fIs_of, f]; simp
/-- Where the last one of a set of places stands, and what is there. -/
def LsAt (l : List FD) (p : Nat → Bool) (at_ : Int) (x : FD) : Prop :=
  (at_ = -1 ∧ x = fZ ∧ ∀ i, i < l.length → p i = false) ∨ ∃ i, ∃ h : i < l.length, at_ = (i : Nat) ∧ x = l[i] ∧ p i = true ∧ ∀ k, i < k → k < l.length → p k = false
theorem LsAt.first (l : List FD) : LsAt l (fun _ => false) (-1) fZ := .inl ⟨rfl, rfl, fun _ _ => rfl⟩
theorem LsAt.alike {l : List FD} {p p' : Nat → Bool} {a : Int} {x : FD} (h : LsAt l p a x) (e : ∀ i, i < l.length → p' i = p i) : LsAt l p' a x := by
  rcases h with ⟨h1, h2, h3⟩ | ⟨i, hi, h1, h2, h3, h4⟩
  · exact .inl ⟨h1, h2, fun i hi => by rw [e i hi]; exact h3 i hi⟩
  · exact .inr ⟨i, hi, h1, h2, by rw [e i hi]; exact h3, fun k hk hl => by rw [e k hl]; exact h4 k hk hl⟩
/-- One place more, which is behind the one that is known. -/
theorem LsAt.more {l : List FD} {p : Nat → Bool} {a : Int} {x : FD} (h : LsAt l p a x) {j : Nat} (hj : j < l.length) (hgt : a < (j : Nat)) : LsAt l (fun i => p i || decide (i = j)) (j : Nat) l[j] := by
  refine .inr ⟨j, hj, rfl, rfl, by simp, fun k hk hl => ?_⟩
  have e : decide (k = j) = false := decide_eq_false (by omega)
  rcases h with ⟨h1, h2, h3⟩ | ⟨i, hi, h1, h2, h3, h4⟩
  · simp [e, h3 k hl]
  · simp [e, h4 k (by omega) hl]
/-- .. or not. -/
theorem LsAt.less {l : List FD} {p : Nat → Bool} {a : Int} {x : FD} (h : LsAt l p a x) {j : Nat} (hgt : ¬ a < (j : Nat)) : LsAt l (fun i => p i || decide (i = j)) a x := by
  rcases h with ⟨h1, h2, h3⟩ | ⟨i, hi, h1, h2, h3, h4⟩
  · omega
  · refine .inr ⟨i, hi, h1, h2, by simp [h3], fun k hk hl => ?_⟩
    have e : decide (k = j) = false := decide_eq_false (by omega)
    simp [e, h4 k hk hl]
theorem LsAt.last {l : List FD} {q : FD → Bool} {p : Nat → Bool} {a : Int} {x : FD} (h : LsAt l p a x) (e : ∀ i (hi : i < l.length), p i = q l[i]) : x = fLast l q ∧ decide ((0 : Int) ≤ a) = fIs l q := by
  rcases h with ⟨h1, h2, h3⟩ | ⟨i, hi, h1, h2, h3, h4⟩
  · have := fLast_none (l := l) (q := q) fun y hy => by
      obtain ⟨i, hi, rfl⟩ := List.getElem_of_mem hy
      rw [← e i hi]; exact h3 i hi
    rw [this.1, this.2, h1, h2]; exact ⟨rfl, rfl⟩
  · have hd : l = l.take i ++ l[i] :: l.drop (i + 1) := by rw [← List.drop_eq_getElem_cons hi, List.take_append_drop]
    have := fLast_some (a := l.take i) (b := l.drop (i + 1)) (x := l[i]) (q := q) (by rw [← e i hi]; exact h3) fun y hy => by
      obtain ⟨k, hk, rfl⟩ := List.getElem_of_mem hy
      rw [List.length_drop] at hk
      rw [List.getElem_drop, ← e _ (by omega)]
      exact h4 _ (by omega) (by omega)
    rw [← hd] at this
    rw [this.1, this.2, h1, h2]
    exact ⟨rfl, decide_eq_true (by omega)⟩
/-- The places of some tags, and of the first j of one more. -/
def pKn (l : List FD) (T : List TG) (t : TG) (j : Nat) (i : Nat) : Bool := match l[i]? with | some x => tKn T x || (decide (i < j) && tHas t x) | none => false
theorem pKn_zero (l : List FD) (T : List TG) (t : TG) (i : Nat) : pKn l T t 0 i = match l[i]? with | some x => tKn T x | none => false := by
  unfold pKn; split <;> simp
theorem pKn_hit {l : List FD} {T : List TG} {t : TG} {j : Nat} (hj : j < l.length) (h : tHas t l[j] = true) (i : Nat) (hi : i < l.length) : pKn l T t (j + 1) i = (pKn l T t j i || decide (i = j)) := by
  unfold pKn
  rw [List.getElem?_eq_getElem hi]
  dsimp only
  by_cases e : i = j
  · subst e; simp [h]
  · have : decide (i < j + 1) = decide (i < j) := by rw [decide_eq_decide]; omega
    simp [e, this]
theorem pKn_miss {l : List FD} {T : List TG} {t : TG} {j : Nat} (hj : j < l.length) (h : tHas t l[j] = false) (i : Nat) (hi : i < l.length) : pKn l T t (j + 1) i = pKn l T t j i := by
  unfold pKn
  rw [List.getElem?_eq_getElem hi]
  dsimp only
  by_cases e : i = j
  · subst e; simp [h]
  · have : decide (i < j + 1) = decide (i < j) := by rw [decide_eq_decide]; omega
    simp [this]
theorem tKn_snoc (T : List TG) (t : TG) (x : FD) : tKn (T ++ [t]) x = (tKn T x || tHas t x) := by simp [tKn]
theorem pKn_all (l : List FD) (T : List TG) (t u : TG) (i : Nat) (hi : i < l.length) : pKn l T t l.length i = pKn l (T ++ [t]) u 0 i := by
  unfold pKn
  rw [List.getElem?_eq_getElem hi]
  simp [tKn_snoc, hi]

theorem fEach_le (l : List FD) (n : Int) : (fEach l n).length ≤ l.length := by
  unfold fEach fOf; rw [List.length_map]; exact List.length_filter_le _ _
theorem fOf_snoc (l : List FD) (x : FD) (t : TG) : fOf (l ++ [x]) t = fOf l t ++ (if tHas t x then [x] else []) := by
  unfold fOf; rw [List.filter_append]; congr 1; by_cases h : tHas t x <;> simp [h]
theorem fEach_hit (l : List FD) (x : FD) (n : Int) (h : tHas (n, 2) x = true) : fEach (l ++ [x]) n = fEach l n ++ [x.2.2.2] := by
  unfold fEach; rw [fOf_snoc, if_pos h, List.map_append]; rfl
theorem fEach_miss (l : List FD) (x : FD) (n : Int) (h : tHas (n, 2) x = false) : fEach (l ++ [x]) n = fEach l n := by
  unfold fEach; rw [fOf_snoc, if_neg (by simp [h]), List.append_nil]
theorem fLast_of (l : List FD) (t : TG) : fLast l (tHas t) = ((fOf l t).getLast?).getD fZ := rfl
theorem fIs_each (l : List FD) (n : Int) : fIs l (tHas (n, 2)) = decide (0 < (fEach l n).length) := by
  rw [fIs_of]; unfold fEach fOf; rw [List.length_map]
theorem tKn_one (t : TG) : tKn [t] = tHas t := by funext x; simp [tKn]

/-- How many fields stand under a key of the map: k tells the key of a field. -/
def kCnt {K : Type} [DecidableEq K] (k : FD → K) (z : K) (l : List FD) : Nat := l.countP fun x => decide (k x = z)
theorem kCnt_le {K : Type} [DecidableEq K] (k : FD → K) (z : K) (l : List FD) : kCnt k z l ≤ l.length := List.countP_le_length
theorem kCnt_snoc {K : Type} [DecidableEq K] (k : FD → K) (z : K) (l : List FD) (x : FD) : kCnt k z (l ++ [x]) = kCnt k z l + (if k x = z then 1 else 0) := by
  unfold kCnt; rw [List.countP_append]; simp [List.countP_cons]
/-- The fields whose keys are still to come, less those of one key. -/
theorem countP_strike {K : Type} [DecidableEq K] (k : FD → K) (z : K) (left : K → Bool) (hz : left z = true) : ∀ l : List FD,
    (l.countP fun x => left (k x)) = kCnt k z l + l.countP fun x => left (k x) && !decide (k x = z)
  | [] => rfl
  | x :: l => by
    have ih := countP_strike k z left hz l
    unfold kCnt at *
    simp only [List.countP_cons]
    by_cases e : k x = z
    · simp [e, hz]; omega
    · simp [e]; omega
end Go.Proofs.YtipnaonagepolaaDoor
/- How many bytes the texts of a message's fields have; which numbers their tags have. Of no program. -/
namespace Go.Proofs.YtipnaonagepolaaDoor
open Go Go.RowKit
set_option linter.unusedVariables false

def fTot (l : List FD) : Nat := (l.map fun x => x.2.2.2.size).sum
theorem fTot_app (l m : List FD) : fTot (l ++ m) = fTot l + fTot m := by unfold fTot; rw [List.map_append, List.sum_append]
theorem cRd_txt (v : Int) (r : List UInt8) : (cRd v r).2.2.2.size ≤ (cRd v r).2.1 := by
  unfold cRd
  split
  · split <;> exact Nat.zero_le _
  · split
    · split <;> exact Nat.zero_le _
    · split
      · split <;> exact Nat.zero_le _
      · split
        · exact Nat.zero_le _
        · split
          · exact Nat.zero_le _
          · show (bA ((r.drop (lvK r)).take (lvV r))).size ≤ lvK r + lvV r
            rw [bA_size, List.length_take]
            omega
theorem fRd_txt {l : List UInt8} (h : (fRd l).1 = 0) : (fRd l).2.2.2.2.2.size ≤ (fRd l).2.1 := by
  obtain ⟨_, _, _, h4⟩ := fRd_good h
  rw [h4]
  have := cRd_txt (mW (lvV l) : Nat) (l.drop (lvK l))
  show (cRd _ _).2.2.2.size ≤ lvK l + _
  omega
/-- What holds of each field holds of all. -/
theorem fAll_ind (P : List FD → Nat → Prop) (h0 : ∀ n, P [] n) (h1 : ∀ l : List UInt8, (fRd l).1 = 0 → ∀ m, P m (l.drop (fRd l).2.1).length → P ((fRd l).2.2 :: m) l.length) (l : List UInt8) : P (fAll l).1 l.length := by
  refine len_ind (P := fun l => P (fAll l).1 l.length) ?_ l
  intro l ih
  by_cases e : l = []
  · subst e; rw [fAll_nil]; exact h0 _
  · by_cases e1 : (fRd l).1 = 0
    · have hp := fRd_pos e1
      have := ih (l.drop (fRd l).2.1) (by rw [List.length_drop]; omega)
      rw [fAll_more e e1]
      split
      · exact h0 _
      · exact h1 l e1 _ this
    · rw [fAll_bad e e1]; exact h0 _
theorem fAll_tot (l : List UInt8) : fTot (fAll l).1 ≤ l.length :=
  fAll_ind (fun m n => fTot m ≤ n) (fun n => Nat.zero_le _) (fun l h m hm => by
    have := fRd_txt h
    have := fRd_pos h
    rw [List.length_drop] at hm
    unfold fTot at hm ⊢
    rw [List.map_cons, List.sum_cons]
    omega) l
theorem mN_lt (v : Nat) : mN v < 4294967296 ∧ mW v < 8 := by
  have := mN_le v
  omega
/-- Tags that are told are small numbers. -/
def fSm (x : FD) : Prop := 0 ≤ x.1 ∧ x.1 < 4294967296 ∧ 0 ≤ x.2.1 ∧ x.2.1 < 8
theorem fAll_sm (l : List UInt8) : ∀ x ∈ (fAll l).1, fSm x :=
  fAll_ind (fun m _ => ∀ x ∈ m, fSm x) (fun n => by simp) (fun l h m hm => by
    obtain ⟨_, _, _, h4⟩ := fRd_good h
    have hn := mN_lt (lvV l)
    rw [h4]
    intro x hx
    rcases List.mem_cons.1 hx with rfl | hx
    · unfold fSm; dsimp only; omega
    · exact hm x hx) l
theorem fJoin_le (l : List FD) (n : Int) : (fJoin (fEach l n)).length ≤ fTot l := by
  induction l with
  | nil => exact Nat.le_refl _
  | cons x l ih =>
    unfold fEach fOf fJoin fTot at ih ⊢
    have e : x.2.2.2.data.toList.length = x.2.2.2.size := by rw [Array.length_toList]; rfl
    rw [List.map_cons, List.sum_cons]
    by_cases h : tHas (n, 2) x = true
    · rw [List.filter_cons, if_pos h, List.map_cons, List.flatMap_cons, List.length_append]
      omega
    · rw [List.filter_cons, if_neg h]
      omega
end Go.Proofs.YtipnaonagepolaaDoor
