/- Several texts in one (JrTk, JnWor, JpNum, JpFnd): each begins with its own words. -/
import Derived.Test.YtmkcfilgiehjaaaGreatDoorZK
import Derived.Deep.Cut
import Derived.Deep.CutRange
import Derived.Test.YtmkcfilgiehjaaaGreatDoorZC
import Derived.Lib.TrimByte
import Derived.Test.YtmkcfilgiehjaaaGreatDoorZD
/- The document's Kids (package truchmanref13). -/
namespace Go.Proofs.YtmkcfilgiehjaaaGreatDoor
open Go Go.RowKit
set_option linter.unusedVariables false

set_option maxRecDepth 20000 in
set_option maxHeartbeats 2000000 in
theorem rkids_any (a : Option Addr) (cap : Nat) (l : List ND) (x : Int) (w : World) (hl : l.length ≤ 1099511627776) (hin : NIn w a l) (hsz : SzOk l) (h0 : -9223372036854775808 ≤ x) (h1 : x ≤ 9223372036854775807) :
    Calls Tryz.prog 19 #[.slice a l.length cap, .int .i64 x] w fun e w' => ∃ v, e = .returned v ∧ IRow w' w.heap.size v (kidsL l x) ∧ Below w.heap.size w w' := by
  by_cases hx : x < 0
  · have p1 : decide (x < 0) = true := decide_eq_true hx
    have HK := Lib.hid (show kidsL l x = [] by unfold kidsL; rw [if_pos (.inl hx)])
    clear hin hsz
    go_enter Tryz.func19, Tryz.ntmps19
    go_wp2
    go_ret
    exact ⟨_, rfl, by rw [HK.out]; exact irow_nil _ _, Below.refl _ _⟩
  · have p1 : decide (x < 0) = false := decide_eq_false hx
    by_cases hx2 : (l.length : Int) ≤ x
    · have p2 : decide ((l.length : Int) ≤ x) = true := decide_eq_true hx2
      have HK := Lib.hid (show kidsL l x = [] by unfold kidsL; rw [if_pos (.inr hx2)])
      clear hin hsz
      go_enter Tryz.func19, Tryz.ntmps19
      go_wp2
      go_ret
      exact ⟨_, rfl, by rw [HK.out]; exact irow_nil _ _, Below.refl _ _⟩
    · have p2 : decide ((l.length : Int) ≤ x) = false := decide_eq_false hx2
      obtain ⟨p, rfl⟩ : ∃ p : Nat, x = p := ⟨x.toNat, by omega⟩
      have hp : p < l.length := by omega
      have HK := Lib.hid (show kidsL l (p : Nat) = kdL l l.length (p + 1) (p + l[p].2.2.2) by
        unfold kidsL
        rw [if_neg (by omega), Int.toNat_natCast, getD_at hp])
      obtain ⟨b, rfl, hb, _, _, _, hc3⟩ := hin p hp
      have HC := Lib.hid (show ∀ j (h : j < l.length), w.cell? ⟨b, j * 4 + 3, none⟩ = some (.int .i64 (l[j].2.2.2 : Nat)) from fun j h => by
        obtain ⟨b', e, _, _, _, _, hc⟩ := hin j h
        obtain rfl : b = b' := by simpa using e
        exact hc)
      have HS := Lib.hid hsz
      obtain ⟨z1, z2⟩ := hsz p hp
      obtain ⟨E, hE⟩ : ∃ E, E = p + l[p].2.2.2 := ⟨_, rfl⟩
      rw [← hE] at HK
      generalize hm : l[p].2.2.2 = m at *
      have q1 : (p : Int) < (l.length : Int) := by omega
      have q2 : (0 : Int) ≤ (p : Int) := by omega
      have zw : IntKind.i64.wrap ((p : Int) + (m : Int)) = (E : Int) := by rw [i64_small (by omega) (by omega)]; omega
      have zw1 : IntKind.i64.wrap ((p : Int) + 1) = ((p + 1 : Nat) : Int) := by rw [i64_small (by omega) (by omega)]; rfl
      have HE := Lib.hid (And.intro hE (And.intro z1 z2))
      have HX := Lib.hid (And.intro hx hx2)
      clear hin hsz hE z1 z2 hx hx2 hm h0 h1
      go_enter Tryz.func19, Tryz.ntmps19
      go_wp2_with fail
      go_loopw [5, 6] (fun v i wr => KdRel l p E w v i wr) (fun _ i _ => l.length - (intOf i).toNat)
      case atStart => exact ⟨p + 1, l.length, [], by go_num, irow_nil _ _, Nat.le_refl _, by omega, by have := HE.out; omega, Nat.zero_le _, Lib.hid rfl, Below.refl _ _⟩
      case round =>
        obtain ⟨k, f, D, rfl, hrow, hk1, hk2, hf, hD, hq, hbel⟩ := hrel
        have hcp := (hbel.cell (p := ⟨b, p * 4 + 3, none⟩) hb).trans hc3
        by_cases hlt : k < E
        · have p3 : decide (k < E) = true := decide_eq_true hlt
          have p4 : (k : Int) < (E : Int) := by omega
          have hkl : k < l.length := by have := HE.out; omega
          have hck := (hbel.cell (p := ⟨b, k * 4 + 3, none⟩) hb).trans (HC.out k hkl)
          obtain ⟨f, rfl⟩ : ∃ f', f = f' + 1 := ⟨f - 1, by omega⟩
          have HQ := Lib.hid (kdL_go (f := f) hlt hkl)
          obtain ⟨y1, y2⟩ := HS.out k hkl
          generalize l[k].2.2.2 = m2 at *
          have p5 : decide (k < l.length) = true := decide_eq_true hkl
          have p6 : (k : Int) < (l.length : Int) := by omega
          have hmx : max (1 : Int) (m2 : Int) = (m2 : Int) := by omega
          have r1 : (k : Int) < (l.length : Int) := by omega
          have r2 : (0 : Int) ≤ (k : Int) := by omega
          have zw2 : IntKind.i64.wrap ((k : Int) + max 1 (m2 : Int)) = ((k + m2 : Nat) : Int) := by rw [hmx, i64_small (by omega) (by omega)]; omega
          have HF := Lib.hid (And.intro hf (And.intro y1 (And.intro y2 (And.intro hD hk1))))
          have hDl : D.length ≤ 1099511627776 := by omega
          have HH := Lib.hid hq
          have hsz := hbel.size
          clear hmx hf y1 y2 hD hq hlt hk1
          go_wp2_with (at_builtin; go_loud (refine wpList_append_nat rfl (.tmp 40) (.tmp 42) rfl _ wr w.heap.size D hrow hsz rfl _ k rfl rfl hDl ?_; intro v5 w5 hv5 hb5; have hck5 := (hb5.cell (p := ⟨b, k * 4 + 3, none⟩) hb).trans hck))
          have hbel5 := hbel.trans hb5
          go_roundw
          case rel =>
            obtain ⟨hf, y1, y2, hD, hk1⟩ := HF.out
            refine ⟨k + m2, f, D ++ [k], by go_num, hv5, by omega, y2, by omega, by rw [List.length_append, List.length_singleton]; omega, Lib.hid ?_, hbel5⟩
            rw [HH.out.out, HQ.out]; simp
          case measure =>
            obtain ⟨hf, y1, y2, hD, hk1⟩ := HF.out
            simp [intOf]; omega
        · have p3 : decide (k < E) = false := decide_eq_false hlt
          have p4 : ¬ k < E := hlt
          have HQ := Lib.hid (show kdL l l.length (p + 1) E = D by rw [hq.out, kdL_end hlt, List.append_nil])
          have HR := Lib.hid (And.intro hrow hbel)
          clear hrow hq hlt hf
          go_wp2
          go_ret
          exact ⟨_, rfl, by rw [HK.out, HQ.out]; exact HR.out.1, HR.out.2⟩
end Go.Proofs.YtmkcfilgiehjaaaGreatDoor
/- What a number's text is worth, over bytes: 'nWorth', 'wEnd'; that a power beyond all numbers may be cut; the digits without noughts at either end; the texts of a whole number with noughts. Of no program. -/
namespace Go.Proofs.YtmkcfilgiehjaaaGreatDoor
open Go Go.RowKit
set_option linter.unusedVariables false

/-- Digits without noughts ahead; how many noughts stand at the end; digits without these. -/
def lz (d : List UInt8) : List UInt8 := d.dropWhile (· == 48)
def zR (d : List UInt8) : Nat := (d.reverse.takeWhile (· == 48)).length
def cnt (d : List UInt8) : List UInt8 := (d.reverse.dropWhile (· == 48)).reverse
/-- The number of a power's text; the same, cut at m. -/
def pwV (P : List UInt8) : Int := if P.head? = some 45 then -(dV (P.filter dIs) : Int) else (dV (P.filter dIs) : Int)
def capV (m : Nat) (P : List UInt8) : Int := if P.head? = some 45 then -((min m (dV (P.filter dIs)) : Nat) : Int) else ((min m (dV (P.filter dIs)) : Nat) : Int)
/-- What digits are worth times 10 to a power. -/
def dWorth (sg d : List UInt8) (n : Int) : Int × Int :=
  if d = [] then (0, 0) else if n < -(zR d : Int) then (0, 7) else if 30 < (d.length : Int) + n then (0, 4)
  else sEnd (sg ++ (if n < 0 then d.take ((d.length : Int) + n).toNat else d ++ List.replicate n.toNat 48))
def nWorth (sg W B : List UInt8) (v : Int) : Int × Int := dWorth sg (lz (W ++ B)) (v - B.length)
def wEnd (L : List UInt8) : Int × Int := if nCode L = 0 ∧ nE L = L.length then nWorth (L.take (nA L)) (wW L) (wB L) (pwV (wP L)) else (0, 3)

theorem all_eq_rep {l : List UInt8} (h : l.all (· == 48) = true) : l = List.replicate l.length 48 :=
  List.eq_replicate_iff.mpr ⟨rfl, fun b hb => by have := List.all_eq_true.mp h b hb; simpa using this⟩
theorem cnt_rep (d : List UInt8) : d = cnt d ++ List.replicate (zR d) 48 := by
  have h1 : d.reverse.takeWhile (· == 48) = List.replicate (zR d) 48 := all_eq_rep List.all_takeWhile
  have h2 : d.reverse = List.replicate (zR d) 48 ++ d.reverse.dropWhile (· == 48) := by rw [← h1, List.takeWhile_append_dropWhile]
  have h3 := congrArg List.reverse h2
  rw [List.reverse_reverse, List.reverse_append, List.reverse_replicate] at h3
  exact h3
theorem cnt_len (d : List UInt8) : d.length = (cnt d).length + zR d := by
  have := congrArg List.length (cnt_rep d)
  rwa [List.length_append, List.length_replicate] at this
theorem lz_head (l : List UInt8) {x : UInt8} {t : List UInt8} (h : lz l = x :: t) : x ≠ 48 := by
  have := List.head?_dropWhile_not (· == (48 : UInt8)) l
  unfold lz at h
  rw [h, List.head?_cons] at this
  simpa using this
theorem lz_all {l : List UInt8} (h : l.all dIs = true) : (lz l).all dIs = true :=
  List.all_eq_true.mpr fun x hx => List.all_eq_true.mp h x ((List.dropWhile_sublist _).mem hx)
theorem lz_len (l : List UInt8) : (lz l).length ≤ l.length := (List.dropWhile_sublist _).length_le
theorem dV_lz : ∀ (l : List UInt8), dV (lz l) = dV l
  | [] => rfl
  | b :: r => by
    unfold lz
    rw [List.dropWhile_cons]
    by_cases h : (b == (48 : UInt8)) = true
    · rw [if_pos h]
      have hb : b = 48 := by simpa using h
      have ih := dV_lz r
      unfold lz at ih
      rw [ih, dV_cons, hb]
      show dV r = 0 * 10 ^ r.length + dV r
      rw [Nat.zero_mul, Nat.zero_add]
    · rw [if_neg h]
/-- Digits whose first one is no nought. -/
def Lead (d : List UInt8) : Prop := d ≠ [] ∧ d.all dIs = true ∧ ∀ x t, d = x :: t → x ≠ 48
theorem Lead.of {l : List UInt8} (h : l.all dIs = true) (hn : lz l ≠ []) : Lead (lz l) := ⟨hn, lz_all h, fun x t e => lz_head l e⟩
theorem Lead.dok {d : List UInt8} (h : Lead d) : DOK d := ⟨h.1, h.2.1, fun e => by
  match d, h, e with
  | x :: t, h, e => rw [List.head?_cons] at e; exact absurd (Option.some.inj e) (h.2.2 x t rfl)⟩
theorem Lead.big {d : List UInt8} (h : Lead d) : ∃ x t, cnt d = x :: t ∧ 49 ≤ x.toNat := by
  have e := cnt_rep d
  match hc : cnt d with
  | [] =>
    rw [hc, List.nil_append] at e
    obtain ⟨x, t, hx⟩ := List.exists_cons_of_ne_nil h.1
    have := h.2.2 x t hx
    rw [e] at hx
    have hm : x ∈ List.replicate (zR d) (48 : UInt8) := by rw [hx]; exact List.mem_cons_self
    exact absurd (List.eq_of_mem_replicate hm) this
  | x :: t =>
    rw [hc, List.cons_append] at e
    have h1 := h.2.2 x _ e
    have h2 : dIs x = true := List.all_eq_true.mp h.2.1 x (by rw [e]; exact List.mem_cons_self)
    have h3 := dIs_iff.mp h2
    refine ⟨x, t, rfl, ?_⟩
    have : x.toNat ≠ 48 := fun e => h1 (UInt8.toNat_inj.mp (by rw [e]; rfl))
    omega
theorem cnt_ne {d : List UInt8} (h : Lead d) : cnt d ≠ [] := by
  obtain ⟨x, t, e, _⟩ := h.big
  rw [e]; simp
theorem cnt_nil : cnt [] = [] := rfl
/-- The digits, with as many noughts as the power says. -/
theorem worth_text {d : List UInt8} {n : Int} (hn : ¬ n < -(zR d : Int)) : (if n < 0 then d.take ((d.length : Int) + n).toNat else d ++ List.replicate n.toNat 48) = cnt d ++ List.replicate (n + zR d).toNat 48 := by
  have e := cnt_rep d
  have hl := cnt_len d
  by_cases h0 : n < 0
  · rw [if_pos h0]
    obtain ⟨j, hj⟩ : ∃ j : Nat, (j : Int) = n + zR d := ⟨(n + zR d).toNat, by omega⟩
    rw [show ((d.length : Int) + n).toNat = (cnt d).length + j by omega, show (n + zR d).toNat = j by omega]
    have h1 : d.take ((cnt d).length + j) = (cnt d ++ List.replicate (zR d) 48).take ((cnt d).length + j) := by rw [← e]
    rw [h1, List.take_length_add_append, List.take_replicate, Nat.min_eq_left (by omega)]
  · rw [if_neg h0]
    have h1 : d ++ List.replicate n.toNat 48 = (cnt d ++ List.replicate (zR d) 48) ++ List.replicate n.toNat 48 := by rw [← e]
    rw [h1, List.append_assoc, List.replicate_append_replicate, show zR d + n.toNat = (n + zR d).toNat by omega]
theorem sEnd_far {sg l : List UInt8} {x : UInt8} {t : List UInt8} (hs : sg = [] ∨ sg = [45]) (hl : l = x :: t) (hx : 49 ≤ x.toNat) (ha : l.all dIs = true) (ht : 19 ≤ t.length) : sEnd (sg ++ l) = (0, 4) := by
  have h1 := dV_ge x t hx
  have h2 : 10 ^ 19 ≤ 10 ^ t.length := Nat.pow_le_pow_right (by decide) ht
  have h3 : (10 : Nat) ^ 19 = 10000000000000000000 := by decide
  have hd : DOK l := ⟨by rw [hl]; simp, ha, fun e => by
    rw [hl, List.head?_cons] at e
    rw [Option.some.inj e] at hx
    exact absurd hx (by decide)⟩
  rw [← hl] at h1
  rcases hs with rfl | rfl
  · rw [List.nil_append]
    unfold sEnd
    rw [if_neg (not45 ha)]
    unfold iEnd
    rw [if_pos hd, if_neg (by omega)]
  · unfold sEnd
    rw [if_pos (show (([45] : List UInt8) ++ l).head? = some 45 from rfl)]
    show (if l = [48] then ((0 : Int), (3 : Int)) else nEnd l) = (0, 4)
    rw [if_neg (fun e => by rw [e] at hl; have := congrArg List.length (List.cons.inj hl).2; rw [List.length_nil] at this; omega)]
    unfold nEnd
    rw [if_pos hd, if_neg (by omega)]
/-- What the program tells, in its own way. -/
theorem dWorth_prog {sg d : List UInt8} {n p : Int} (hs : sg = [] ∨ sg = [45]) (h : Lead d) (hp : p = n + d.length - (cnt d).length) :
    dWorth sg d n = if p < 0 then (0, 7) else if 19 - ((cnt d).length : Int) < p then (0, 4) else sEnd (sg ++ (cnt d ++ List.replicate p.toNat 48)) := by
  have hl := cnt_len d
  have hpz : p = n + zR d := by omega
  unfold dWorth
  rw [if_neg h.1]
  by_cases h1 : n < -(zR d : Int)
  · rw [if_pos h1, if_pos (by omega)]
  · rw [if_neg h1, if_neg (show ¬ p < 0 by omega), worth_text h1, ← hpz]
    by_cases h2 : 30 < (d.length : Int) + n
    · rw [if_pos h2, if_pos (by omega)]
    · rw [if_neg h2]
      by_cases h3 : 19 - ((cnt d).length : Int) < p
      · rw [if_pos h3]
        obtain ⟨x, t, hc, hx⟩ := h.big
        have hcl : (cnt d).length = t.length + 1 := by rw [hc, List.length_cons]
        refine sEnd_far (x := x) (t := t ++ List.replicate p.toNat 48) hs (by rw [hc]; rfl) hx ?_ (by rw [List.length_append, List.length_replicate]; omega)
        rw [List.all_append, Bool.and_eq_true]
        refine ⟨List.all_eq_true.mpr fun y hy => List.all_eq_true.mp h.2.1 y (by rw [cnt_rep d]; exact List.mem_append_left _ hy), List.all_eq_true.mpr fun y hy => ?_⟩
        rw [List.eq_of_mem_replicate hy]; decide
      · rw [if_neg h3]
theorem dWorth_up {sg d : List UInt8} {n : Int} (h : d ≠ []) (hn : 31 ≤ n) : dWorth sg d n = (0, 4) := by
  unfold dWorth
  rw [if_neg h, if_neg (by omega), if_pos (by omega)]
theorem dWorth_down {sg d : List UInt8} {n : Int} (h : d ≠ []) (hn : n < -(d.length : Int)) : dWorth sg d n = (0, 7) := by
  have := cnt_len d
  unfold dWorth
  rw [if_neg h, if_pos (by omega)]
theorem nWorth_cap {sg W B P : List UInt8} (m : Nat) (hm : 4294967296 ≤ m) (hl : W.length + B.length ≤ 1073741824) : nWorth sg W B (capV m P) = nWorth sg W B (pwV P) := by
  unfold nWorth
  by_cases h0 : lz (W ++ B) = []
  · unfold dWorth; rw [if_pos h0, if_pos h0]
  · have hd := lz_len (W ++ B)
    rw [List.length_append] at hd
    unfold capV pwV
    generalize dV (P.filter dIs) = v
    by_cases hv : v ≤ m
    · rw [Nat.min_eq_right hv]
    · rw [Nat.min_eq_left (by omega)]
      split
      · rw [dWorth_down h0 (by omega), dWorth_down h0 (by omega)]
      · rw [dWorth_up h0 (by omega), dWorth_up h0 (by omega)]
theorem wEnd_form {L sg W F B X P : List UInt8} (h : NForm L sg W F B X P) : wEnd L = nWorth sg W B (pwV P) := by
  obtain ⟨h1, h2, h3, h4, h5, h6, _⟩ := form_to h
  unfold wEnd
  rw [if_pos ⟨h1, h2⟩, h3, h4, h5, h6]
theorem wEnd_no {L : List UInt8} (h : ¬ (nCode L = 0 ∧ nE L = L.length)) : wEnd L = (0, 3) := by unfold wEnd; rw [if_neg h]
end Go.Proofs.YtmkcfilgiehjaaaGreatDoor
/- Members of an object's nodes, by their keys, over lists: where the value of one is ('fdL'), as one of two kinds ('pkL'). Of no program. -/
namespace Go.Proofs.YtmkcfilgiehjaaaGreatDoor
open Go Go.RowKit
set_option linter.unusedVariables false

def kyL (l : List ND) (k : Nat) : List UInt8 := (l.getD k (0, [], [], 0)).2.1
def knL (l : List ND) (k : Nat) : UInt8 := (l.getD k (0, [], [], 0)).1
def txL (l : List ND) (k : Nat) : List UInt8 := (l.getD k (0, [], [], 0)).2.2.1
/-- The first of these places whose node has the key. -/
def fkL (l : List ND) (key : List UInt8) : List Nat → Option Nat
  | [] => none
  | k :: ks => if kyL l k = key then some k else fkL l key ks
/-- Where the member with that key of the object at a place is. -/
def fdL (l : List ND) (x : Int) (key : List UInt8) : Option Nat :=
  if x < 0 ∨ (l.length : Int) ≤ x then none else if knL l x.toNat = 123 then fkL l key (kidsL l x) else none
/-- .. as a number: -1 for none. -/
def fdV : Option Nat → Int
  | none => -1
  | some k => (k : Nat)
/-- Where it is, if it is of one of two kinds, and what is wrong: it is of another one. -/
def pkL (l : List ND) (x : Int) (key : List UInt8) (c d : UInt8) : Option Nat × Int :=
  match fdL l x key with
  | none => (none, 0)
  | some k => if knL l k = 122 then (none, 0) else if knL l k = c ∨ knL l k = d then (some k, 0) else (none, 7)
theorem fkL_mem {l : List ND} {key : List UInt8} : ∀ {ks : List Nat} {k : Nat}, fkL l key ks = some k → k ∈ ks ∧ kyL l k = key
  | [], _, h => by cases h
  | j :: js, k, h => by
    unfold fkL at h
    split at h
    · rename_i e
      simp only [Option.some.injEq] at h
      subst h
      exact ⟨List.mem_cons_self, e⟩
    · obtain ⟨h1, h2⟩ := fkL_mem h
      exact ⟨List.mem_cons_of_mem _ h1, h2⟩
theorem kdL_lt {l : List ND} (hs : SzOk l) : ∀ (f k e : Nat), e ≤ l.length → ∀ j ∈ kdL l f k e, j < l.length
  | 0, _, _, _ => fun j hj => by simp [kdL] at hj
  | f + 1, k, e, he => fun j hj => by
    unfold kdL at hj
    split at hj
    · rcases List.mem_cons.mp hj with rfl | hj
      · omega
      · exact kdL_lt hs f _ e he j hj
    · simp at hj
theorem kidsL_lt {l : List ND} (hs : SzOk l) {x : Int} : ∀ j ∈ kidsL l x, j < l.length := by
  intro j hj
  unfold kidsL at hj
  split at hj
  · simp at hj
  · rename_i h
    have hx : x.toNat < l.length := by omega
    refine kdL_lt hs _ _ _ ?_ j hj
    have := (hs x.toNat hx).2
    rw [List.getD_eq_getElem?_getD, List.getElem?_eq_getElem hx]
    exact this
theorem fdL_at {l : List ND} (hs : SzOk l) {x : Int} {key : List UInt8} {k : Nat} (h : fdL l x key = some k) : k < l.length ∧ kyL l k = key := by
  unfold fdL at h
  split at h
  · cases h
  · split at h
    · obtain ⟨h1, h2⟩ := fkL_mem h
      exact ⟨kidsL_lt hs k h1, h2⟩
    · cases h
theorem pkL_at {l : List ND} (hs : SzOk l) {x : Int} {key : List UInt8} {c d : UInt8} {k : Nat} (h : (pkL l x key c d).1 = some k) : k < l.length ∧ fdL l x key = some k ∧ (pkL l x key c d).2 = 0 ∧ knL l k ≠ 122 ∧ (knL l k = c ∨ knL l k = d) := by
  unfold pkL at h ⊢
  cases hf : fdL l x key with
  | none => rw [hf] at h; cases h
  | some j =>
    rw [hf] at h
    dsimp only at h ⊢
    by_cases h1 : knL l j = 122
    · rw [if_pos h1] at h; cases h
    · rw [if_neg h1] at h ⊢
      by_cases h2 : knL l j = c ∨ knL l j = d
      · rw [if_pos h2] at h ⊢
        simp only [Option.some.injEq] at h
        subst h
        exact ⟨(fdL_at hs hf).1, rfl, rfl, h1, h2⟩
      · rw [if_neg h2] at h; cases h
end Go.Proofs.YtmkcfilgiehjaaaGreatDoor
/- Package jpick's Find; the document's Find (package truchmanref14). -/
namespace Go.Proofs.YtmkcfilgiehjaaaGreatDoor
open Go Go.RowKit
set_option linter.unusedVariables false

theorem ky_at {l : List ND} {k : Nat} (h : k < l.length) : kyL l k = l[k].2.1 := by unfold kyL; rw [getD_at h]
theorem kn_at {l : List ND} {k : Nat} (h : k < l.length) : knL l k = l[k].1 := by unfold knL; rw [getD_at h]
theorem tx_at {l : List ND} {k : Nat} (h : k < l.length) : txL l k = l[k].2.2.1 := by unfold txL; rw [getD_at h]
theorem bA_same (s t : List UInt8) : ((bA s).toList == (bA t).toList) = decide (s = t) := by
  by_cases e : s = t
  · rw [e]; simp
  · rw [decide_eq_false e]
    refine beq_eq_false_iff_ne.mpr (fun e2 => e ?_)
    rw [ByteArray.toList_eq, ByteArray.toList_eq] at e2
    exact e2
theorem fdL_no1 {l : List ND} {x : Int} {key : List UInt8} (h : x < 0 ∨ (l.length : Int) ≤ x) : fdL l x key = none := by unfold fdL; rw [if_pos h]
theorem fdL_no2 {l : List ND} {p : Nat} {key : List UInt8} (hp : p < l.length) (h : ¬ l[p].1 = 123) : fdL l (p : Nat) key = none := by
  unfold fdL
  rw [if_neg (by omega), Int.toNat_natCast, kn_at hp, if_neg h]
theorem fdL_yes {l : List ND} {p : Nat} {key : List UInt8} (hp : p < l.length) (h : l[p].1 = 123) : fdL l (p : Nat) key = fkL l key (kidsL l (p : Nat)) := by
  unfold fdL
  rw [if_neg (by omega), Int.toNat_natCast, kn_at hp, if_pos h]
theorem fkL_end (l : List ND) (key : List UInt8) {K : List Nat} {j : Nat} (h : ¬ j < K.length) : fkL l key (K.drop j) = none := by
  rw [List.drop_eq_nil_of_le (by omega)]; rfl
theorem fkL_hit {l : List ND} {key : List UInt8} {K : List Nat} {j : Nat} (h : j < K.length) (e : kyL l K[j] = key) : fkL l key (K.drop j) = some K[j] := by
  rw [List.drop_eq_getElem_cons h]; unfold fkL; rw [if_pos e]
theorem fkL_miss {l : List ND} {key : List UInt8} {K : List Nat} {j : Nat} (h : j < K.length) (e : ¬ kyL l K[j] = key) : fkL l key (K.drop j) = fkL l key (K.drop (j + 1)) := by
  rw [List.drop_eq_getElem_cons h]; conv => lhs; unfold fkL
  rw [if_neg e]
def FdRel (l : List ND) (key : List UInt8) (K : List Nat) (C : Nat) (kv : Value) (W : World) (i : Value) (wr : World) : Prop :=
  ∃ j : Nat, j ≤ K.length ∧ i = .int .i64 (j : Nat) ∧ Hid (fkL l key K = fkL l key (K.drop j)) ∧ IRow wr C kv K ∧ Below W.heap.size W wr
set_option maxRecDepth 20000 in
set_option maxHeartbeats 2000000 in
theorem jfind_low (a : Option Addr) (cap : Nat) (l : List ND) (x : Int) (key : List UInt8) (w : World) (hx : x < 0) :
    Calls Tryz.prog 9 #[.slice a l.length cap, .int .i64 x, .string (bA key)] w fun e w' => e = .returned (.int .i64 (fdV (fdL l x key))) ∧ Below w.heap.size w w' := by
  have p1 : decide (x < 0) = true := decide_eq_true hx
  have HK := Lib.hid (show fdL l x key = none from fdL_no1 (.inl hx))
  clear hx
  go_enter Tryz.func9, Tryz.ntmps9
  go_wp2
  go_ret
  exact ⟨by rw [HK.out]; rfl, Below.refl _ _⟩
set_option maxRecDepth 20000 in
set_option maxHeartbeats 2000000 in
theorem jfind_high (a : Option Addr) (cap : Nat) (l : List ND) (x : Int) (key : List UInt8) (w : World) (hx : ¬ x < 0) (hx2 : (l.length : Int) ≤ x) :
    Calls Tryz.prog 9 #[.slice a l.length cap, .int .i64 x, .string (bA key)] w fun e w' => e = .returned (.int .i64 (fdV (fdL l x key))) ∧ Below w.heap.size w w' := by
  have p1 : decide (x < 0) = false := decide_eq_false hx
  have p2 : decide ((l.length : Int) ≤ x) = true := decide_eq_true hx2
  have HK := Lib.hid (show fdL l x key = none from fdL_no1 (.inr hx2))
  clear hx hx2
  go_enter Tryz.func9, Tryz.ntmps9
  go_wp2
  go_ret
  exact ⟨by rw [HK.out]; rfl, Below.refl _ _⟩
set_option maxRecDepth 20000 in
set_option maxHeartbeats 2000000 in
theorem jfind_other (a : Option Addr) (cap : Nat) (l : List ND) (p : Nat) (key : List UInt8) (w : World) (hp : p < l.length) (hk : ¬ l[p].1 = 123) (hl : l.length ≤ 1099511627776) (hin : NIn w a l) :
    Calls Tryz.prog 9 #[.slice a l.length cap, .int .i64 (p : Nat), .string (bA key)] w fun e w' => e = .returned (.int .i64 (fdV (fdL l (p : Nat) key))) ∧ Below w.heap.size w w' := by
  have HK := Lib.hid (show fdL l (p : Nat) key = none from fdL_no2 hp hk)
  obtain ⟨g, rfl, hg, c0, -, -, -⟩ := hin p hp
  have r1 : ((l[p].1.toNat : Int) != 123) = true := by rw [bne, show ((l[p].1.toNat : Int) == 123) = false from (eq8 l[p].1 123).trans (decide_eq_false hk)]; rfl
  have r2 : ((l[p].1.toNat : Int) == 123) = false := (eq8 l[p].1 123).trans (decide_eq_false hk)
  have q0 : decide ((p : Int) < 0) = false := decide_eq_false (by omega)
  have q1 : (p : Int) < (l.length : Int) := by omega
  have q2 : (0 : Int) ≤ (p : Int) := by omega
  have q3 : decide ((l.length : Int) ≤ (p : Int)) = false := decide_eq_false (by omega)
  have q4 : decide (l.length ≤ p) = false := decide_eq_false (by omega)
  generalize l[p].1 = y at *
  clear hin hk hp
  go_enter Tryz.func9, Tryz.ntmps9
  go_wp2
  go_ret
  exact ⟨by rw [HK.out]; rfl, Below.refl _ _⟩
set_option maxRecDepth 20000 in
set_option maxHeartbeats 4000000 in
theorem jfind_in (a : Option Addr) (cap : Nat) (l : List ND) (p : Nat) (key : List UInt8) (w : World) (hp : p < l.length) (hk : l[p].1 = 123) (hl : l.length ≤ 1099511627776) (hin : NIn w a l) (hsz : SzOk l) :
    Calls Tryz.prog 9 #[.slice a l.length cap, .int .i64 (p : Nat), .string (bA key)] w fun e w' => e = .returned (.int .i64 (fdV (fdL l (p : Nat) key))) ∧ Below w.heap.size w w' := by
  have HK := Lib.hid (show fdL l (p : Nat) key = fkL l key (kidsL l (p : Nat)) from fdL_yes hp hk)
  have HD := Lib.hid (kids_any a cap l (p : Nat) w hl hin hsz (by omega) (by omega))
  have HLT := Lib.hid (fun j hj => kidsL_lt hsz (x := (p : Nat)) j hj)
  have HKL := Lib.hid (show (kidsL l (p : Nat)).length ≤ l.length from by
    unfold kidsL
    split
    · exact Nat.zero_le _
    · exact kdL_len _ _ _ _)
  obtain ⟨g, rfl, hg, c0, -, -, -⟩ := hin p hp
  have HC := Lib.hid (show ∀ j (h : j < l.length), w.cell? ⟨g, j * 4 + 1, none⟩ = some (.string (bA (kyL l j))) from fun j h => by
    obtain ⟨g', e, _, _, hc, _⟩ := hin j h
    obtain rfl : g = g' := by simpa using e
    rw [ky_at h]; exact hc)
  have r1 : ((l[p].1.toNat : Int) != 123) = false := by rw [hk]; rfl
  have r2 : ((l[p].1.toNat : Int) == 123) = true := by rw [hk]; rfl
  have q0 : decide ((p : Int) < 0) = false := decide_eq_false (by omega)
  have q1 : (p : Int) < (l.length : Int) := by omega
  have q2 : (0 : Int) ≤ (p : Int) := by omega
  have q3 : decide ((l.length : Int) ≤ (p : Int)) = false := decide_eq_false (by omega)
  have q4 : decide (l.length ≤ p) = false := decide_eq_false (by omega)
  generalize l[p].1 = y at *
  generalize kidsL l (p : Nat) = K at *
  clear hin hsz hk hp
  go_enter Tryz.func9, Tryz.ntmps9
  go_wp2_with fail
  with_reducible refine HD.out.mono ?_
  rintro e w3 ⟨kv, rfl, hkv, b3⟩
  have R0 := Lib.hid (show FdRel l key K w.heap.size kv w (.int .i64 0) w3 from ⟨0, Nat.zero_le _, rfl, Lib.hid rfl, hkv, b3⟩)
  obtain ⟨ka, kc, rfl, -⟩ := hkv.inn
  clear hkv b3 HD c0
  have hKl : (K.length : Int) ≤ 1099511627776 := by have := HKL.out; omega
  go_wp2_with fail
  go_loopw [29] (fun i wr => FdRel l key K w.heap.size (.slice ka K.length kc) w i wr) (fun i _ => K.length - (intOf i).toNat)
  case atStart => exact R0.out
  case round =>
    clear R0
    obtain ⟨j, hj, rfl, hq, hrow, hbel⟩ := hrel
    by_cases hlt : j < K.length
    · have p3 : decide (j < K.length) = true := decide_eq_true hlt
      have p4 : (j : Int) < (K.length : Int) := by omega
      obtain ⟨ka2, kc2, ek, hkI⟩ := hrow.inn
      simp only [Value.slice.injEq, true_and] at ek
      obtain ⟨rfl, rfl⟩ := ek
      obtain ⟨kb, rfl, hkb, hck⟩ := hkI j hlt
      have hm := HLT.out K[j] (List.getElem_mem hlt)
      have hc1 := (hbel.cell (p := ⟨g, K[j] * 4 + 1, none⟩) hg).trans (HC.out K[j] hm)
      have HH := Lib.hid (fun e => hq.out.trans (fkL_hit (l := l) (key := key) hlt e))
      have HM := Lib.hid (fun e => hq.out.trans (fkL_miss (l := l) (key := key) hlt e))
      have HR := Lib.hid (And.intro hrow hbel)
      have HLt := Lib.hid hlt
      have hj1 : (j : Int) ≤ 1099511627776 := by omega
      clear hkI hrow hq hbel
      generalize K[j] = m at *
      clear hlt
      have q5 : (m : Int) < (l.length : Int) := by omega
      have q6 : (0 : Int) ≤ (m : Int) := by omega
      have HS := Lib.hid (bA_same (kyL l m) key)
      by_cases e : kyL l m = key
      · have t1 : ((bA (kyL l m)).toList == (bA key).toList) = true := HS.out.trans (decide_eq_true e)
        have HE := Lib.hid (HH.out e)
        generalize kyL l m = z at *
        clear e
        go_wp2
        go_ret
        exact ⟨by rw [HK.out, HE.out]; rfl, HR.out.2⟩
      · have t1 : ((bA (kyL l m)).toList == (bA key).toList) = false := HS.out.trans (decide_eq_false e)
        have HE := Lib.hid (HM.out e)
        generalize kyL l m = z at *
        clear e
        go_wp2
        go_roundw
        case rel => exact ⟨j + 1, by have := HLt.out; omega, by go_num, HE, HR.out.1, HR.out.2⟩
        case measure => have := HLt.out; simp [intOf]; omega
    · have p3 : decide (j < K.length) = false := decide_eq_false hlt
      have p4 : ¬ j < K.length := hlt
      have HE := Lib.hid (hq.out.trans (fkL_end l key hlt))
      have HB := Lib.hid hbel
      clear hrow hq hlt hbel
      go_wp2
      go_ret
      exact ⟨by rw [HK.out, HE.out]; rfl, HB.out⟩
theorem jfind_any (a : Option Addr) (cap : Nat) (l : List ND) (x : Int) (key : List UInt8) (w : World) (hl : l.length ≤ 1099511627776) (hin : NIn w a l) (hsz : SzOk l) (h0 : -9223372036854775808 ≤ x) (h1 : x ≤ 9223372036854775807) :
    Calls Tryz.prog 9 #[.slice a l.length cap, .int .i64 x, .string (bA key)] w fun e w' => e = .returned (.int .i64 (fdV (fdL l x key))) ∧ Below w.heap.size w w' := by
  by_cases hx : x < 0
  · exact jfind_low a cap l x key w hx
  · by_cases hx2 : (l.length : Int) ≤ x
    · exact jfind_high a cap l x key w hx hx2
    · obtain ⟨p, rfl⟩ : ∃ p : Nat, x = p := ⟨x.toNat, by omega⟩
      have hp : p < l.length := by omega
      by_cases hk : l[p].1 = 123
      · exact jfind_in a cap l p key w hp hk hl hin hsz
      · exact jfind_other a cap l p key w hp hk hl hin
set_option maxRecDepth 20000 in
set_option maxHeartbeats 2000000 in
theorem rfind_low (a : Option Addr) (cap : Nat) (l : List ND) (x : Int) (key : List UInt8) (w : World) (hx : x < 0) :
    Calls Tryz.prog 10 #[.slice a l.length cap, .int .i64 x, .string (bA key)] w fun e w' => e = .returned (.int .i64 (fdV (fdL l x key))) ∧ Below w.heap.size w w' := by
  have p1 : decide (x < 0) = true := decide_eq_true hx
  have HK := Lib.hid (show fdL l x key = none from fdL_no1 (.inl hx))
  clear hx
  go_enter Tryz.func10, Tryz.ntmps10
  go_wp2
  go_ret
  exact ⟨by rw [HK.out]; rfl, Below.refl _ _⟩
set_option maxRecDepth 20000 in
set_option maxHeartbeats 2000000 in
theorem rfind_high (a : Option Addr) (cap : Nat) (l : List ND) (x : Int) (key : List UInt8) (w : World) (hx : ¬ x < 0) (hx2 : (l.length : Int) ≤ x) :
    Calls Tryz.prog 10 #[.slice a l.length cap, .int .i64 x, .string (bA key)] w fun e w' => e = .returned (.int .i64 (fdV (fdL l x key))) ∧ Below w.heap.size w w' := by
  have p1 : decide (x < 0) = false := decide_eq_false hx
  have p2 : decide ((l.length : Int) ≤ x) = true := decide_eq_true hx2
  have HK := Lib.hid (show fdL l x key = none from fdL_no1 (.inr hx2))
  clear hx hx2
  go_enter Tryz.func10, Tryz.ntmps10
  go_wp2
  go_ret
  exact ⟨by rw [HK.out]; rfl, Below.refl _ _⟩
set_option maxRecDepth 20000 in
set_option maxHeartbeats 2000000 in
theorem rfind_other (a : Option Addr) (cap : Nat) (l : List ND) (p : Nat) (key : List UInt8) (w : World) (hp : p < l.length) (hk : ¬ l[p].1 = 123) (hl : l.length ≤ 1099511627776) (hin : NIn w a l) :
    Calls Tryz.prog 10 #[.slice a l.length cap, .int .i64 (p : Nat), .string (bA key)] w fun e w' => e = .returned (.int .i64 (fdV (fdL l (p : Nat) key))) ∧ Below w.heap.size w w' := by
  have HK := Lib.hid (show fdL l (p : Nat) key = none from fdL_no2 hp hk)
  obtain ⟨g, rfl, hg, c0, -, -, -⟩ := hin p hp
  have r1 : ((l[p].1.toNat : Int) != 123) = true := by rw [bne, show ((l[p].1.toNat : Int) == 123) = false from (eq8 l[p].1 123).trans (decide_eq_false hk)]; rfl
  have r2 : ((l[p].1.toNat : Int) == 123) = false := (eq8 l[p].1 123).trans (decide_eq_false hk)
  have q0 : decide ((p : Int) < 0) = false := decide_eq_false (by omega)
  have q1 : (p : Int) < (l.length : Int) := by omega
  have q2 : (0 : Int) ≤ (p : Int) := by omega
  have q3 : decide ((l.length : Int) ≤ (p : Int)) = false := decide_eq_false (by omega)
  have q4 : decide (l.length ≤ p) = false := decide_eq_false (by omega)
  generalize l[p].1 = y at *
  clear hin hk hp
  go_enter Tryz.func10, Tryz.ntmps10
  go_wp2
  go_ret
  exact ⟨by rw [HK.out]; rfl, Below.refl _ _⟩
set_option maxRecDepth 20000 in
set_option maxHeartbeats 4000000 in
theorem rfind_in (a : Option Addr) (cap : Nat) (l : List ND) (p : Nat) (key : List UInt8) (w : World) (hp : p < l.length) (hk : l[p].1 = 123) (hl : l.length ≤ 1099511627776) (hin : NIn w a l) (hsz : SzOk l) :
    Calls Tryz.prog 10 #[.slice a l.length cap, .int .i64 (p : Nat), .string (bA key)] w fun e w' => e = .returned (.int .i64 (fdV (fdL l (p : Nat) key))) ∧ Below w.heap.size w w' := by
  have HK := Lib.hid (show fdL l (p : Nat) key = fkL l key (kidsL l (p : Nat)) from fdL_yes hp hk)
  have HD := Lib.hid (rkids_any a cap l (p : Nat) w hl hin hsz (by omega) (by omega))
  have HLT := Lib.hid (fun j hj => kidsL_lt hsz (x := (p : Nat)) j hj)
  have HKL := Lib.hid (show (kidsL l (p : Nat)).length ≤ l.length from by
    unfold kidsL
    split
    · exact Nat.zero_le _
    · exact kdL_len _ _ _ _)
  obtain ⟨g, rfl, hg, c0, -, -, -⟩ := hin p hp
  have HC := Lib.hid (show ∀ j (h : j < l.length), w.cell? ⟨g, j * 4 + 1, none⟩ = some (.string (bA (kyL l j))) from fun j h => by
    obtain ⟨g', e, _, _, hc, _⟩ := hin j h
    obtain rfl : g = g' := by simpa using e
    rw [ky_at h]; exact hc)
  have r1 : ((l[p].1.toNat : Int) != 123) = false := by rw [hk]; rfl
  have r2 : ((l[p].1.toNat : Int) == 123) = true := by rw [hk]; rfl
  have q0 : decide ((p : Int) < 0) = false := decide_eq_false (by omega)
  have q1 : (p : Int) < (l.length : Int) := by omega
  have q2 : (0 : Int) ≤ (p : Int) := by omega
  have q3 : decide ((l.length : Int) ≤ (p : Int)) = false := decide_eq_false (by omega)
  have q4 : decide (l.length ≤ p) = false := decide_eq_false (by omega)
  generalize l[p].1 = y at *
  generalize kidsL l (p : Nat) = K at *
  clear hin hsz hk hp
  go_enter Tryz.func10, Tryz.ntmps10
  go_wp2_with fail
  with_reducible refine HD.out.mono ?_
  rintro e w3 ⟨kv, rfl, hkv, b3⟩
  have R0 := Lib.hid (show FdRel l key K w.heap.size kv w (.int .i64 0) w3 from ⟨0, Nat.zero_le _, rfl, Lib.hid rfl, hkv, b3⟩)
  obtain ⟨ka, kc, rfl, -⟩ := hkv.inn
  clear hkv b3 HD c0
  have hKl : (K.length : Int) ≤ 1099511627776 := by have := HKL.out; omega
  go_wp2_with fail
  go_loopw [8] (fun i wr => FdRel l key K w.heap.size (.slice ka K.length kc) w i wr) (fun i _ => K.length - (intOf i).toNat)
  case atStart => exact R0.out
  case round =>
    clear R0
    obtain ⟨j, hj, rfl, hq, hrow, hbel⟩ := hrel
    by_cases hlt : j < K.length
    · have p3 : decide (j < K.length) = true := decide_eq_true hlt
      have p4 : (j : Int) < (K.length : Int) := by omega
      obtain ⟨ka2, kc2, ek, hkI⟩ := hrow.inn
      simp only [Value.slice.injEq, true_and] at ek
      obtain ⟨rfl, rfl⟩ := ek
      obtain ⟨kb, rfl, hkb, hck⟩ := hkI j hlt
      have hm := HLT.out K[j] (List.getElem_mem hlt)
      have hc1 := (hbel.cell (p := ⟨g, K[j] * 4 + 1, none⟩) hg).trans (HC.out K[j] hm)
      have HH := Lib.hid (fun e => hq.out.trans (fkL_hit (l := l) (key := key) hlt e))
      have HM := Lib.hid (fun e => hq.out.trans (fkL_miss (l := l) (key := key) hlt e))
      have HR := Lib.hid (And.intro hrow hbel)
      have HLt := Lib.hid hlt
      have hj1 : (j : Int) ≤ 1099511627776 := by omega
      clear hkI hrow hq hbel
      generalize K[j] = m at *
      clear hlt
      have q5 : (m : Int) < (l.length : Int) := by omega
      have q6 : (0 : Int) ≤ (m : Int) := by omega
      have HS := Lib.hid (bA_same (kyL l m) key)
      by_cases e : kyL l m = key
      · have t1 : ((bA (kyL l m)).toList == (bA key).toList) = true := HS.out.trans (decide_eq_true e)
        have HE := Lib.hid (HH.out e)
        generalize kyL l m = z at *
        clear e
        go_wp2
        go_ret
        exact ⟨by rw [HK.out, HE.out]; rfl, HR.out.2⟩
      · have t1 : ((bA (kyL l m)).toList == (bA key).toList) = false := HS.out.trans (decide_eq_false e)
        have HE := Lib.hid (HM.out e)
        generalize kyL l m = z at *
        clear e
        go_wp2
        go_roundw
        case rel => exact ⟨j + 1, by have := HLt.out; omega, by go_num, HE, HR.out.1, HR.out.2⟩
        case measure => have := HLt.out; simp [intOf]; omega
    · have p3 : decide (j < K.length) = false := decide_eq_false hlt
      have p4 : ¬ j < K.length := hlt
      have HE := Lib.hid (hq.out.trans (fkL_end l key hlt))
      have HB := Lib.hid hbel
      clear hrow hq hlt hbel
      go_wp2
      go_ret
      exact ⟨by rw [HK.out, HE.out]; rfl, HB.out⟩
theorem rfind_any (a : Option Addr) (cap : Nat) (l : List ND) (x : Int) (key : List UInt8) (w : World) (hl : l.length ≤ 1099511627776) (hin : NIn w a l) (hsz : SzOk l) (h0 : -9223372036854775808 ≤ x) (h1 : x ≤ 9223372036854775807) :
    Calls Tryz.prog 10 #[.slice a l.length cap, .int .i64 x, .string (bA key)] w fun e w' => e = .returned (.int .i64 (fdV (fdL l x key))) ∧ Below w.heap.size w w' := by
  by_cases hx : x < 0
  · exact rfind_low a cap l x key w hx
  · by_cases hx2 : (l.length : Int) ≤ x
    · exact rfind_high a cap l x key w hx hx2
    · obtain ⟨p, rfl⟩ : ∃ p : Nat, x = p := ⟨x.toNat, by omega⟩
      have hp : p < l.length := by omega
      by_cases hk : l[p].1 = 123
      · exact rfind_in a cap l p key w hp hk hl hin hsz
      · exact rfind_other a cap l p key w hp hk hl hin
end Go.Proofs.YtmkcfilgiehjaaaGreatDoor
