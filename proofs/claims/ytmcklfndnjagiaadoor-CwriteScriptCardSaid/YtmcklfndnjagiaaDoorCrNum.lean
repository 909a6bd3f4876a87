/- Plain facts, of no program: fields of Thrift's structs, and values of its lists, as they are read of a cursor and as their bytes say. -/
import Derived.Test.YtmcklfndnjagiaaDoorSkLoc
import Derived.Test.YtmcklfndnjagiaaDoorCrMem
namespace Go.Proofs.YtmcklfndnjagiaaDoor
open Go Go.RowKit
set_option linter.unusedVariables false

/-- How many bits numbers of a kind have; whether a number that was read fits. -/
def bitsK (k : Nat) : Int := if k = 4 then 16 else if k = 5 then 32 else if k = 6 then 64 else 0
def fitB (k u : Nat) : Bool := decide (bitsK k = 0) || decide (fitC (zagI (u : Nat)) (bitsK k) = 0)
theorem fitB_no {k : Nat} (h : bitsK k = 0) (u : Nat) : fitB k u = true := by unfold fitB; rw [decide_eq_true h]; rfl
theorem bitsK_no {k : Nat} (h : ¬ (4 ≤ k ∧ k ≤ 6)) : bitsK k = 0 := by
  unfold bitsK
  rw [if_neg (by omega), if_neg (by omega), if_neg (by omega)]
/-- Past a value, which fits. -/
def rdTo (d k : Nat) (c : CS) : CS := (inTo d k c).want (fitB k c.vVal) 4
theorem rdTo_flat {k : Nat} (h : bitsK k = 0) (d : Nat) (c : CS) : rdTo d k c = inTo d k c := by unfold rdTo; rw [fitB_no h]; rfl
theorem rd_std (d k : Nat) : Std (rdTo d k) := fun c hc => ((in_std d k).comp (Std.want (fitB k c.vVal) 4)) c hc
theorem rdTo_num {k : Nat} (h : 4 ≤ k ∧ k ≤ 6) (d : Nat) (c : CS) : rdTo d k c = c.vTo.want (fitB k c.vVal) 4 := by
  have h9 : hdK k = false := by unfold hdK; rw [decide_eq_false (show ¬ 9 ≤ k by omega)]; rfl
  have ht : trB k = false := by unfold trB; simp; omega
  unfold rdTo
  rw [inTo_flat h9]
  unfold flatTo
  rw [if_neg (by rw [ht]; decide), if_neg (by omega), if_pos h]
theorem val_no {f : Nat → CS → CS} {k : Nat} (h : trB k = false) (c : CS) : valTo f k c = f k c := by unfold valTo; rw [if_neg (by rw [h]; decide)]
theorem val_tr {f : Nat → CS → CS} {k : Nat} (h : trB k = true) (c : CS) : valTo f k c = c := by unfold valTo; rw [if_pos h]
theorem vrd_std (d k : Nat) : Std (valTo (rdTo d) k) := by
  unfold valTo
  intro c hc
  split
  · exact Std.id c hc
  · exact rd_std d k c hc

/-- 22.1: what the bytes of a value say. -/
def gOf (id : Int) (k : Nat) (s : ByteArray) : GD :=
  (id, k, (if k = 1 then 1 else if k = 3 then wideI (((s.data[0]?).getD 0).toNat : Int) 8 else if bitsK k = 0 then 0 else zagI ((CS.new s).vVal : Nat)), (if k = 7 then valL s.data.toList else 0), (if k = 8 then s.extract (CS.new s).vTo.at_ s.size else ⟨#[]⟩), (if 9 ≤ k then s else ⟨#[]⟩))
def gAt (f : Nat → CS → CS) (id : Int) (k : Nat) (c : CS) : GD := gOf id k (c.s.extract c.at_ (valTo f k c).at_)
/-- A value within a list: its kind, what it says. -/
def kOf (k : Nat) (c : CS) : Nat := if trB k = true then (if c.pB = 1 then 1 else 2) else k
def iAt (f : Nat → CS → CS) (j : Nat) (k : Nat) (c : CS) : GD := gOf (j : Nat) (kOf k c) (c.s.extract c.at_ (f k c).at_)
/-- The fields of a struct; the values of a list, from place j on. -/
def stL (f : Nat → CS → CS) : Nat → Int → CS → List GD
  | 0, _, _ => []
  | n + 1, last, c => if c.hKd last = 0 then [] else gAt f (c.hId last) (c.hKd last) (c.hTo last) :: stL f n (c.hId last) (valTo f (c.hKd last) (c.hTo last))
def itL (f : Nat → CS → CS) (k : Nat) : Nat → Nat → CS → List GD
  | 0, _, _ => []
  | n + 1, j, c => iAt f j k c :: itL f k n (j + 1) (f k c)

/-- A cursor over the bytes that were gone past. -/
theorem sub_list (s : ByteArray) (a b : Nat) : (s.extract a b).data.toList = (s.data.toList.drop a).take (b - a) := by simp
theorem sub_size {c : CS} (hc : c.ok) {n : Nat} (hn : n ≤ c.rest.length) : (c.s.extract c.at_ (c.at_ + n)).size = n := by
  have hl := CS.rest_length hc
  obtain ⟨h1, h2, h3⟩ := hc
  rw [ByteArray.size_extract]; omega
theorem sub_rest {c : CS} (hc : c.ok) {n : Nat} (hn : n ≤ c.rest.length) : (CS.new (c.s.extract c.at_ (c.at_ + n))).rest = c.rest.take n := by
  have hl := CS.rest_length hc
  have hz := sub_size hc hn
  show (((c.s.extract c.at_ (c.at_ + n)).data.toList.drop 0).take ((c.s.extract c.at_ (c.at_ + n)).size - 0)) = ((c.s.data.toList.drop c.at_).take (c.en - c.at_)).take n
  rw [hz, List.drop_zero, sub_list, List.take_take, List.take_take]
  congr 1; omega
theorem sub_ok {c : CS} (hc : c.ok) {n : Nat} (hn : n ≤ c.rest.length) : (CS.new (c.s.extract c.at_ (c.at_ + n))).ok := by
  have := sub_size hc hn
  have hl := CS.rest_length hc
  exact CS.new_ok (by obtain ⟨h1, h2, h3⟩ := hc; omega)
/-- A number, read again of bytes that begin with its own. -/
theorem sub_num {c : CS} (hc : c.ok) (h0 : c.vTo.er = 0) : ∃ n, n ≤ c.rest.length ∧ c.vTo = c.past n ∧ ∀ m, n + m ≤ c.rest.length → (CS.new (c.s.extract c.at_ (c.at_ + (n + m)))).vVal = c.vVal ∧ (CS.new (c.s.extract c.at_ (c.at_ + (n + m)))).vTo.at_ = n ∧ (CS.new (c.s.extract c.at_ (c.at_ + (n + m)))).vTo.er = 0 := by
  obtain ⟨n, hn, hfn, hN⟩ := Loc.num.good c hc h0
  refine ⟨n, hn, hfn, fun m hm => ?_⟩
  have hr := sub_rest hc hm
  obtain ⟨e1, e2⟩ := (hN _ (sub_ok hc hm) rfl).1 (by rw [hr, List.length_take]; omega) (by rw [hr, List.take_take, Nat.min_eq_left (by omega)])
  exact ⟨e2, by rw [e1]; exact Nat.zero_add n, by rw [e1]; rfl⟩
theorem sub_text {c : CS} (hc : c.ok) (h0 : c.txt.er = 0) : c.vVal ≤ c.vTo.lf ∧ c.vTo.er = 0 ∧ c.txt = c.vTo.take (c.vVal : Nat) ∧
    (c.s.extract c.at_ c.txt.at_).extract (CS.new (c.s.extract c.at_ c.txt.at_)).vTo.at_ (c.s.extract c.at_ c.txt.at_).size = c.vTo.takeS (c.vVal : Nat) ∧ (CS.new (c.s.extract c.at_ c.txt.at_)).vTo.er = 0 := by
  have hle : c.vVal ≤ c.vTo.lf := by
    by_cases hle : c.vVal ≤ c.vTo.lf
    · exact hle
    · exfalso
      unfold CS.txt txTo at h0
      rw [if_neg hle] at h0
      unfold CS.fail at h0
      split at h0
      · exact absurd (show (1 : Int) = 0 from h0) (by decide)
      · rename_i h; exact h h0
  have e1 : c.txt = c.vTo.take (c.vVal : Nat) := by unfold CS.txt txTo; rw [if_pos hle]
  have hok := CS.vTo_ok hc
  have he : c.vTo.er = 0 := (Std.take (c.vVal : Nat)).er hok (by show (c.vTo.take (c.vVal : Nat)).er = 0; rw [← e1]; exact h0)
  refine ⟨hle, he, e1, ?_⟩
  obtain ⟨n, hn, hfn, hN⟩ := sub_num hc he
  have hw : c.vTo.why (c.vVal : Nat) = 0 := CS.why_mk he (by omega) (by have := hok.1; unfold CS.lf at hle; omega)
  have e2 := take_yes hw
  rw [Int.toNat_natCast] at e2
  have hl := CS.rest_length hc
  have hat : c.vTo.at_ = c.at_ + n := by rw [hfn]; rfl
  have hen : c.vTo.en = c.en := by rw [hfn]; rfl
  have hs : c.vTo.s = c.s := by rw [hfn]; rfl
  have ha : c.txt.at_ = c.at_ + (n + c.vVal) := by
    rw [e1, e2]
    show c.vTo.at_ + c.vVal = _
    omega
  have hm : n + c.vVal ≤ c.rest.length := by
    have := hok.1
    unfold CS.lf at hle; omega
  obtain ⟨_, g2, g3⟩ := hN c.vVal hm
  rw [ha, g2, takeS_yes hw, Int.toNat_natCast, hs, hat, sub_size hc hm]
  refine ⟨?_, g3⟩
  apply ByteArray.ext
  apply Array.toList_inj.mp
  rw [sub_list, sub_list, sub_list, List.drop_take, List.drop_drop, List.take_take]
  congr 1; omega
theorem sub_byte {c : CS} (hc : c.ok) (h0 : c.byte.er = 0) : (((c.s.extract c.at_ c.byte.at_).data[0]?).getD 0).toNat = c.pB := by
  have hp : c.peekIs = true := by
    cases hp : c.peekIs with
    | true => rfl
    | false =>
      exfalso
      rw [CS.byte_no hc hp] at h0
      unfold CS.fail at h0
      split at h0
      · exact absurd (show (1 : Int) = 0 from h0) (by decide)
      · rename_i h; exact h h0
  have hlt : c.at_ < c.en := (of_decide_eq_true hp).2
  obtain ⟨h1, h2, h3⟩ := hc
  have hat : c.byte.at_ = c.at_ + 1 := by rw [CS.byte_yes hp]
  rw [hat]
  unfold CS.pB CS.peekB
  rw [if_pos hp]
  have e : (c.s.extract c.at_ (c.at_ + 1)).data[0]? = c.s.data[c.at_]? := by
    have hz : c.at_ < c.s.data.size := by have : c.s.data.size = c.s.size := rfl; omega
    rw [ByteArray.data_extract, Array.getElem?_extract]
    rw [if_pos (by omega), Nat.add_zero]
  rw [e]; simp
theorem sub_eight {c : CS} (hc : c.ok) (h0 : (c.take 8).er = 0) : c.s.extract c.at_ (c.take 8).at_ = c.takeS (8 : Nat) ∧ (c.s.extract c.at_ (c.take 8).at_).size = 8 := by
  have hw : c.why 8 = 0 := by
    by_cases hw : c.why 8 = 0
    · exact hw
    · unfold CS.take at h0; rw [if_neg hw] at h0; exact absurd h0 hw
  have e2 := take_yes hw
  have ha : (c.take 8).at_ = c.at_ + 8 := by rw [e2]; rfl
  have e3 := takeS_yes hw
  have hz := CS.why_zero hw
  have hl := CS.rest_length hc
  rw [ha]
  refine ⟨e3.symm, sub_size hc (by have := hc.1; omega)⟩

/-- Behind an error. -/
theorem head_bad {c : CS} (hc : c.ok) {last : Int} (h : ¬ c.er = 0) : c.hKd last = 0 ∧ c.hTo last = c := by
  refine ⟨?_, (head_std last c hc).2.2.2.2 h⟩
  by_cases hk : c.hKd last = 0
  · exact hk
  · exact absurd (head_more hc hk).2.2 h
theorem fldg_bad (f : Nat → CS → CS) {c : CS} (hc : c.ok) (h : ¬ c.er = 0) : ∀ (n : Nat) (last : Int), fldTo f n last c = c
  | 0, _ => rfl
  | n + 1, last => by rw [fldTo, if_pos (head_bad hc h).1]; exact (head_bad hc h).2
theorem fld_next (f : Nat → CS → CS) {m : Nat} (hm : 0 < m) (last : Int) (c : CS) : fldTo f m last c = if c.hKd last = 0 then c.hTo last else fldTo f (m - 1) (c.hId last) (valTo f (c.hKd last) (c.hTo last)) := by
  cases m with
  | zero => omega
  | succ m => rfl
theorem stL_next (f : Nat → CS → CS) {m : Nat} (hm : 0 < m) (last : Int) (c : CS) : stL f m last c = if c.hKd last = 0 then [] else gAt f (c.hId last) (c.hKd last) (c.hTo last) :: stL f (m - 1) (c.hId last) (valTo f (c.hKd last) (c.hTo last)) := by
  cases m with
  | zero => omega
  | succ m => rfl
theorem eachTo_one (f : Nat → CS → CS) (k n : Nat) (c : CS) : eachTo f [k] (n + 1) c = eachTo f [k] n (f k c) := rfl
/-- What stands within so many others: where it begins. -/
def cAt (s : ByteArray) (deep : Int) : CS := if 32 ≤ deep then (CS.new s).fail 33 else CS.new s
theorem cAt_ok {s : ByteArray} (h : s.size ≤ 9223372036854775807) (deep : Int) : (cAt s deep).ok := by
  unfold cAt; split
  · exact CS.fail_ok (CS.new_ok h) 33
  · exact CS.new_ok h
theorem cAt_s (s : ByteArray) (deep : Int) : (cAt s deep).s = s ∧ (cAt s deep).en = s.size ∧ (cAt s deep).at_ = 0 := by
  unfold cAt; split
  · exact ⟨rfl, rfl, rfl⟩
  · exact ⟨rfl, rfl, rfl⟩
/-- How deep a value within may nest. -/
def dAt (deep : Int) : Nat := (32 - (deep + 1)).toNat
/-- 22.2, 22.3: where it ends, or what is wrong; the fields. -/
def stR (s : ByteArray) (deep : Int) : CS := fldTo (rdTo (dAt deep)) fuelN 0 (cAt s deep)
def stF (s : ByteArray) (deep : Int) : List GD := if (stR s deep).er = 0 then stL (rdTo (dAt deep)) fuelN 0 (cAt s deep) else []
def stN (s : ByteArray) (deep : Int) : Nat := if (stR s deep).er = 0 then (stR s deep).at_ else 0
def itR (s : ByteArray) (deep : Int) : CS := eachTo (rdTo (dAt deep)) [(cAt s deep).lKd] (cAt s deep).lCt (cAt s deep).lTo
def itF (s : ByteArray) (deep : Int) : List GD := if (itR s deep).endC = 0 then itL (rdTo (dAt deep)) (cAt s deep).lKd (cAt s deep).lCt 0 (cAt s deep).lTo else []
/-- 22.4. -/
def hasG (id : Int) (k : Nat) (x : GD) : Bool := decide (x.1 = id) && sameB x.2.1 k
def lastG (id : Int) (k : Nat) (l : List GD) : Option GD := l.reverse.find? (hasG id k)
end Go.Proofs.YtmcklfndnjagiaaDoor
