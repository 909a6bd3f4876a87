/- Package jtree's Kids; lists of whole numbers from 0 on that the call made ('IRow'), or that are there ('IInt'). -/
import Derived.Test.YtnbhhnkcfbfdcaaGreatDoorZL
namespace Go.Proofs.YtnbhhnkcfbfdcaaGreatDoor
open Go Go.RowKit
set_option linter.unusedVariables false

def iV (l : List Nat) : List Value := l.map fun n => .int .i64 (n : Nat)
theorem iV_length (l : List Nat) : (iV l).length = l.length := List.length_map _
theorem iV_append (l m : List Nat) : iV (l ++ m) = iV l ++ iV m := List.map_append
theorem iV_one (l : List Nat) : ∀ v ∈ iV l, v.oneCell' = true := by
  intro v hv
  obtain ⟨b, _, rfl⟩ := List.mem_map.mp hv
  rfl
theorem iV_get (l : List Nat) (k : Nat) (h : k < l.length) : (iV l)[k]? = some (.int .i64 (l[k] : Nat)) := by
  simp [iV, List.getElem?_eq_getElem h]
/-- The slice v, that the call itself made, holds the numbers l. -/
def IRow (w : World) (B : Nat) (v : Value) (l : List Nat) : Prop := w.ownsRow B 3 1 v l.length (iV l)
/-- The slice at a, of so many numbers, holds l. -/
def IInt (w : World) (a : Option Addr) (l : List Nat) : Prop := ∀ j (h : j < l.length), ∃ b, a = some ⟨b, 0, none⟩ ∧ b < w.heap.size ∧ w.cell? ⟨b, j, none⟩ = some (.int .i64 (l[j] : Nat))
theorem IInt.below {w w' : World} {a : Option Addr} {l : List Nat} {N : Nat} (h : IInt w a l) (hb : Below N w w') (hN : w.heap.size ≤ N) : IInt w' a l := fun j hj => by
  obtain ⟨b, e, hlt, hc⟩ := h j hj
  exact ⟨b, e, Nat.lt_of_lt_of_le hlt hb.size, (hb.cell (p := ⟨b, j, none⟩) (Nat.lt_of_lt_of_le hlt hN)).trans hc⟩
theorem irow_nil (w : World) (B : Nat) : IRow w B (.slice none 0 0) [] := ⟨rfl, .inl ⟨rfl, rfl⟩⟩
theorem IRow.below {w w' : World} {B N : Nat} {v : Value} {l : List Nat} (h : IRow w B v l) (hb : Below N w w') (hN : w.heap.size ≤ N) : IRow w' B v l := by
  refine World.ownsRow.kept (row := none) h ⟨hb.os, hb.tape, hb.output, hb.size, fun k hk _ => hb.block k (by omega)⟩ ?_
  cases v.ownBlock <;> simp
theorem IRow.inn {w : World} {B : Nat} {v : Value} {l : List Nat} (h : IRow w B v l) : ∃ a cap, v = .slice a l.length cap ∧ IInt w a l := by
  rcases h.2 with ⟨rfl, hn⟩ | ⟨g, cap, cur, rfl, _, hg, _⟩
  · have h0 : l = [] := List.eq_nil_of_length_eq_zero hn
    subst h0
    exact ⟨none, 0, rfl, fun j hj => by simp at hj⟩
  · refine ⟨_, cap, rfl, fun j hj => ⟨g, rfl, lt_of_block hg, ?_⟩⟩
    rw [World.ownsRow.cellAt h j (by omega), iV_get l j hj]
theorem infoI : (Tryz.prog.info? 3).map (fun i => (i.zero, i.size, i.bytes)) = some (some (.int .i64 0), 1, 8) := by kernel_rfl
theorem wpList_append_nat {ops : Array Oper} {rest : List Oper} {o : Oper} {a : Act} {Q : Exit → Act → World → Prop} (hgd : o.guard = none) (sl x : Operand)
    (ho : o.op = .call { callee := .builtin .append, args := #[sl, x], argTypes := #[58, 58] })
    (v : Value) (wr : World) (B : Nat) (l : List Nat) (hb : IRow wr B v l) (hB : B ≤ wr.heap.size) (hs : a.eval sl = v)
    (s : Int) (n : Nat) (hn : s = (n : Nat)) (hx : a.eval x = .slice (some ⟨wr.heap.size, 0, none⟩) 1 1) (hlen : l.length ≤ 1099511627776)
    (h : ∀ v' w', IRow w' B v' (l ++ [n]) → Below B wr w' → wpList Tryz.prog ops Q rest (a.put o.dst v') w') :
    wpList Tryz.prog ops Q (o :: rest) a (wr.alloc (.cells #[.int .i64 s] 3)) := by
  subst hn
  obtain ⟨i0, hi, hz, hz1, hz2⟩ := info_parts infoI
  refine wpList_append_own _ hgd sl x 58 ho B 3 i0 (.int .i64 0) 1 8 Tryz.underlying58 hi hz hz1 hz2 rfl (by decide) v l.length (iV l) hs (World.ownsRow.alloc hb _) ⟨wr.heap.size, 0, none⟩ 1 1 [.int .i64 (n : Nat)] hx rfl ?_ ?_ (by unfold maxLen; omega) (by omega) (by simp; omega) ?_
  · intro j u hj
    match j, hj with
    | 0, hj =>
      simp at hj
      subst hj
      have h1 := heap_alloc_new wr (.cells #[.int .i64 (n : Nat)] 3)
      show World.cell? _ ⟨wr.heap.size, 0 + 0, none⟩ = _
      simp only [World.cell?]
      rw [h1]; rfl
  · intro u hu; simp at hu; subst hu; rfl
  · intro v' w' hown hgr _
    refine h v' w' ?_ ?_
    · unfold IRow
      rw [iV_append, List.length_append]
      exact hown
    · refine ⟨hgr.os, hgr.tape, hgr.output, by have := hgr.size; simp at this; omega, fun k hk => ?_⟩
      have hne : some k ≠ v.ownBlock := fun hk' => by
        have := (World.ownsRow.lt hb k hk'.symm).1
        omega
      rw [hgr.block k (by simp; omega) hne]
      exact Below.heap_alloc _ _ _ (by omega)
theorem getD_at {l : List ND} {k : Nat} {d : ND} (h : k < l.length) : l.getD k d = l[k] := by simp [List.getD, List.getElem?_eq_getElem h]
theorem kdL_go {l : List ND} {f k e : Nat} (h : k < e) (hk : k < l.length) : kdL l (f + 1) k e = k :: kdL l f (k + l[k].2.2.2) e := by
  rw [kdL, if_pos h, getD_at hk]
theorem kdL_end {l : List ND} {f k e : Nat} (h : ¬ k < e) : kdL l f k e = [] := by
  cases f with
  | zero => rfl
  | succ f => rw [kdL, if_neg h]
theorem kdL_len (l : List ND) : ∀ f k e, (kdL l f k e).length ≤ f
  | 0, _, _ => Nat.le_refl _
  | f + 1, k, e => by
    rw [kdL]
    by_cases h : k < e
    · rw [if_pos h, List.length_cons]
      have := kdL_len l f (k + (l.getD k (0, [], [], 0)).2.2.2) e
      omega
    · rw [if_neg h]; exact Nat.zero_le _
def KdRel (l : List ND) (p e : Nat) (W : World) (v i : Value) (wr : World) : Prop :=
  ∃ (k f : Nat) (D : List Nat), i = .int .i64 (k : Nat) ∧ IRow wr W.heap.size v D ∧ p + 1 ≤ k ∧ k ≤ l.length ∧ e ≤ f + k ∧ D.length ≤ k ∧ Hid (kdL l l.length (p + 1) e = D ++ kdL l f k e) ∧ Below W.heap.size W wr
set_option maxRecDepth 20000 in
set_option maxHeartbeats 2000000 in
theorem kids_any (a : Option Addr) (cap : Nat) (l : List ND) (x : Int) (w : World) (hl : l.length ≤ 1099511627776) (hin : NIn w a l) (hsz : SzOk l) (h0 : -9223372036854775808 ≤ x) (h1 : x ≤ 9223372036854775807) :
    Calls Tryz.prog 59 #[.slice a l.length cap, .int .i64 x] w fun e w' => ∃ v, e = .returned v ∧ IRow w' w.heap.size v (kidsL l x) ∧ Below w.heap.size w w' := by
  by_cases hx : x < 0
  · have p1 : decide (x < 0) = true := decide_eq_true hx
    have HK := Lib.hid (show kidsL l x = [] by unfold kidsL; rw [if_pos (.inl hx)])
    clear hin hsz
    go_enter Tryz.func59, Tryz.ntmps59
    go_wp2
    go_ret
    exact ⟨_, rfl, by rw [HK.out]; exact irow_nil _ _, Below.refl _ _⟩
  · have p1 : decide (x < 0) = false := decide_eq_false hx
    by_cases hx2 : (l.length : Int) ≤ x
    · have p2 : decide ((l.length : Int) ≤ x) = true := decide_eq_true hx2
      have HK := Lib.hid (show kidsL l x = [] by unfold kidsL; rw [if_pos (.inr hx2)])
      clear hin hsz
      go_enter Tryz.func59, Tryz.ntmps59
      go_wp2
      go_ret
      exact ⟨_, rfl, by rw [HK.out]; exact irow_nil _ _, Below.refl _ _⟩
    · have p2 : decide ((l.length : Int) ≤ x) = false := decide_eq_false hx2
      obtain ⟨p, rfl⟩ : ∃ p : Nat, x = p := ⟨x.toNat, by omega⟩
      have hp : p < l.length := by omega
      have HK := Lib.hid (show kidsL l (p : Nat) = kdL l l.length (p + 1) (p + l[p].2.2.2) by
        unfold kidsL
        rw [if_neg (by omega), Int.toNat_natCast, getD_at hp])
      obtain ⟨b, rfl, hb, _, _, _, hc3⟩ := hin p hp
      have HC := Lib.hid (show ∀ j (h : j < l.length), w.cell? ⟨b, j * 4 + 3, none⟩ = some (.int .i64 (l[j].2.2.2 : Nat)) from fun j h => by
        obtain ⟨b', e, _, _, _, _, hc⟩ := hin j h
        obtain rfl : b = b' := by simpa using e
        exact hc)
      have HS := Lib.hid hsz
      obtain ⟨z1, z2⟩ := hsz p hp
      obtain ⟨E, hE⟩ : ∃ E, E = p + l[p].2.2.2 := ⟨_, rfl⟩
      rw [← hE] at HK
      generalize hm : l[p].2.2.2 = m at *
      have q1 : (p : Int) < (l.length : Int) := by omega
      have q2 : (0 : Int) ≤ (p : Int) := by omega
      have zw : IntKind.i64.wrap ((p : Int) + (m : Int)) = (E : Int) := by rw [i64_small (by omega) (by omega)]; omega
      have zw1 : IntKind.i64.wrap ((p : Int) + 1) = ((p + 1 : Nat) : Int) := by rw [i64_small (by omega) (by omega)]; rfl
      have HE := Lib.hid (And.intro hE (And.intro z1 z2))
      have HX := Lib.hid (And.intro hx hx2)
      clear hin hsz hE z1 z2 hx hx2 hm h0 h1
      go_enter Tryz.func59, Tryz.ntmps59
      go_wp2_with fail
      go_loopw [5, 6] (fun v i wr => KdRel l p E w v i wr) (fun _ i _ => l.length - (intOf i).toNat)
      case atStart => exact ⟨p + 1, l.length, [], by go_num, irow_nil _ _, Nat.le_refl _, by omega, by have := HE.out; omega, Nat.zero_le _, Lib.hid rfl, Below.refl _ _⟩
      case round =>
        obtain ⟨k, f, D, rfl, hrow, hk1, hk2, hf, hD, hq, hbel⟩ := hrel
        have hcp := (hbel.cell (p := ⟨b, p * 4 + 3, none⟩) hb).trans hc3
        by_cases hlt : k < E
        · have p3 : decide (k < E) = true := decide_eq_true hlt
          have p4 : (k : Int) < (E : Int) := by omega
          have hkl : k < l.length := by have := HE.out; omega
          have hck := (hbel.cell (p := ⟨b, k * 4 + 3, none⟩) hb).trans (HC.out k hkl)
          obtain ⟨f, rfl⟩ : ∃ f', f = f' + 1 := ⟨f - 1, by omega⟩
          have HQ := Lib.hid (kdL_go (f := f) hlt hkl)
          obtain ⟨y1, y2⟩ := HS.out k hkl
          generalize l[k].2.2.2 = m2 at *
          have r1 : (k : Int) < (l.length : Int) := by omega
          have r2 : (0 : Int) ≤ (k : Int) := by omega
          have zw2 : IntKind.i64.wrap ((k : Int) + (m2 : Int)) = ((k + m2 : Nat) : Int) := by rw [i64_small (by omega) (by omega)]; omega
          have HF := Lib.hid (And.intro hf (And.intro y1 (And.intro y2 (And.intro hD hk1))))
          have hDl : D.length ≤ 1099511627776 := by omega
          have HH := Lib.hid hq
          have hsz := hbel.size
          clear hf y1 y2 hD hq hlt hk1
          go_wp2_with (at_builtin; go_loud (refine wpList_append_nat rfl (.tmp 33) (.tmp 35) rfl _ wr w.heap.size D hrow hsz rfl _ k rfl rfl hDl ?_; intro v5 w5 hv5 hb5; have hck5 := (hb5.cell (p := ⟨b, k * 4 + 3, none⟩) hb).trans hck))
          have hbel5 := hbel.trans hb5
          go_roundw
          case rel =>
            obtain ⟨hf, y1, y2, hD, hk1⟩ := HF.out
            refine ⟨k + m2, f, D ++ [k], by go_num, hv5, by omega, y2, by omega, by rw [List.length_append, List.length_singleton]; omega, Lib.hid ?_, hbel5⟩
            rw [HH.out.out, HQ.out]; simp
          case measure =>
            obtain ⟨hf, y1, y2, hD, hk1⟩ := HF.out
            simp [intOf]; omega
        · have p3 : decide (k < E) = false := decide_eq_false hlt
          have p4 : ¬ k < E := hlt
          have HQ := Lib.hid (show kdL l l.length (p + 1) E = D by rw [hq.out, kdL_end hlt, List.append_nil])
          have HR := Lib.hid (And.intro hrow hbel)
          clear hrow hq hlt hf
          go_wp2
          go_ret
          exact ⟨_, rfl, by rw [HK.out, HQ.out]; exact HR.out.1, HR.out.2⟩
end Go.Proofs.YtnbhhnkcfbfdcaaGreatDoor
