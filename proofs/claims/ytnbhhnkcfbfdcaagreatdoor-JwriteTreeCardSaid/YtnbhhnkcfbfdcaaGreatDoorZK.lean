/- Several texts in one (JtMem, JtA, JtB): each begins with its own words. -/
import Derived.Test.YtnbhhnkcfbfdcaaGreatDoorZC
import Derived.Test.YtnbhhnkcfbfdcaaGreatDoorZG
import Derived.Deep.MidRow
import Derived.Deep.Cut
import Derived.Deep.RegionWith
import Derived.OneCell
import Derived.OwnWalk
/- Tokens in memory: a block that is one, lists of them; 'append' of one. Of no package but the types' facts. -/
namespace Go.Proofs.YtnbhhnkcfbfdcaaGreatDoor
open Go Go.RowKit
set_option linter.unusedVariables false

def tkV (x : TK) : Value := .agg #[.int .u8 (x.1.toNat : Int), .string (bA x.2)]
/-- Block b is the token x, of type t. -/
def TkT (t : TypeId) (w : World) (b : Nat) (x : TK) : Prop := w.heap[b]? = some (.cells #[.int .u8 (x.1.toNat : Int), .string (bA x.2)] t (0, 0))
theorem TkT.lt {t : TypeId} {w : World} {b : Nat} {x : TK} (h : TkT t w b x) : b < w.heap.size := lt_of_block h
theorem TkT.c0 {t : TypeId} {w : World} {b : Nat} {x : TK} (h : TkT t w b x) : w.cell? ⟨b, 0, none⟩ = some (.int .u8 (x.1.toNat : Int)) := by unfold TkT at h; simp [World.cell?, h]
theorem TkT.c1 {t : TypeId} {w : World} {b : Nat} {x : TK} (h : TkT t w b x) : w.cell? ⟨b, 1, none⟩ = some (.string (bA x.2)) := by unfold TkT at h; simp [World.cell?, h]
theorem TkT.fr {t : TypeId} {w : World} {b : Nat} {x : TK} (h : TkT t w b x) (o : Nat) : w.frozen? ⟨b, o, none⟩ = false := by unfold TkT at h; simp [World.frozen?, h]
theorem TkT.drewN {t : TypeId} {w : World} {b : Nat} {x : TK} (h : TkT t w b x) (n : Nat) : TkT t (w.drewN n) b x := h
theorem TkT.drew {t : TypeId} {w : World} {b : Nat} {x : TK} (h : TkT t w b x) : TkT t w.drew b x := h
theorem TkT.below {t : TypeId} {w w' : World} {b N : Nat} {x : TK} (h : TkT t w b x) (hb : Below N w w') (hN : b < N) : TkT t w' b x := (hb.block b hN).trans h
theorem TkT.only {t : TypeId} {w w' : World} {b d : Nat} {x : TK} (h : TkT t w b x) (ho : Only d w w') (hd : b ≠ d) : TkT t w' b x := (ho.block b h.lt hd).trans h
theorem TkT.alloc {t : TypeId} {w : World} {b : Nat} {x : TK} (h : TkT t w b x) (o : Obj) : TkT t (w.alloc o) b x := by
  have h2 := h.lt
  show (w.heap.push o)[b]? = _
  rw [Array.getElem?_push_lt h2]
  rw [← Array.getElem?_eq_getElem h2]; exact h
theorem tk_alloc {w : World} (x : TK) (t : TypeId) : TkT t (w.alloc (.cells #[.int .u8 (x.1.toNat : Int), .string (bA x.2)] t (0, 0))) w.heap.size x := by
  show (w.heap.push _)[w.heap.size]? = _
  simp
theorem TkT.setAll {t : TypeId} {w : World} {b : Nat} {x : TK} (h : TkT t w b x) (y : TK) :
    TkT t ((w.setCell ⟨b, 0, none⟩ (.int .u8 (y.1.toNat : Int))).setCell ⟨b, 1, none⟩ (.string (bA y.2))) b y :=
  heap_setCell_block (heap_setCell_block h _) _
theorem Only.setTk (w : World) (b : Nat) (y : TK) : Only b w ((w.setCell ⟨b, 0, none⟩ (.int .u8 (y.1.toNat : Int))).setCell ⟨b, 1, none⟩ (.string (bA y.2))) :=
  ((Only.refl _ _).setCell _ _).setCell _ _

/-- Tokens as cells. -/
def tV (l : List TK) : List Value := l.flatMap fun x => [.int .u8 (x.1.toNat : Int), .string (bA x.2)]
theorem tV_cons (x : TK) (l : List TK) : tV (x :: l) = .int .u8 (x.1.toNat : Int) :: .string (bA x.2) :: tV l := rfl
theorem tV_append (l m : List TK) : tV (l ++ m) = tV l ++ tV m := List.flatMap_append
theorem tV_length : ∀ l : List TK, (tV l).length = l.length * 2
  | [] => rfl
  | x :: l => by rw [tV_cons, List.length_cons, List.length_cons, List.length_cons, tV_length l]; omega
theorem tV_one (l : List TK) : ∀ v ∈ tV l, v.oneCell' = true := by
  intro v hv
  obtain ⟨x, _, hx⟩ := List.mem_flatMap.mp hv
  simp at hx
  rcases hx with rfl | rfl <;> rfl
theorem tV_get : ∀ (l : List TK) (k : Nat) (h : k < l.length), (tV l)[k * 2]? = some (.int .u8 (l[k].1.toNat : Int)) ∧ (tV l)[k * 2 + 1]? = some (.string (bA l[k].2))
  | x :: l, 0, _ => ⟨rfl, rfl⟩
  | x :: l, k + 1, h => by
    have := tV_get l k (by simpa using h)
    rw [tV_cons, show (k + 1) * 2 = k * 2 + 1 + 1 by omega]
    exact this
/-- The slice v, that the call itself made, holds the tokens l. -/
def TRow (e : TypeId) (w : World) (B : Nat) (v : Value) (l : List TK) : Prop := w.ownsRow B e 2 v l.length (tV l)
/-- The slice at a, of so many tokens, holds l. -/
def TIn (w : World) (a : Option Addr) (l : List TK) : Prop :=
  ∀ j (h : j < l.length), ∃ b, a = some ⟨b, 0, none⟩ ∧ b < w.heap.size ∧ w.cell? ⟨b, j * 2, none⟩ = some (.int .u8 (l[j].1.toNat : Int)) ∧ w.cell? ⟨b, j * 2 + 1, none⟩ = some (.string (bA l[j].2))
theorem TIn.below {w w' : World} {a : Option Addr} {l : List TK} {N : Nat} (h : TIn w a l) (hb : Below N w w') (hN : w.heap.size ≤ N) : TIn w' a l := fun j hj => by
  obtain ⟨b, e, hlt, h1, h2⟩ := h j hj
  exact ⟨b, e, Nat.lt_of_lt_of_le hlt hb.size, (hb.cell (p := ⟨b, j * 2, none⟩) (Nat.lt_of_lt_of_le hlt hN)).trans h1, (hb.cell (p := ⟨b, j * 2 + 1, none⟩) (Nat.lt_of_lt_of_le hlt hN)).trans h2⟩
theorem trow_nil (e : TypeId) (w : World) (B : Nat) : TRow e w B (.slice none 0 0) [] := ⟨rfl, .inl ⟨rfl, rfl⟩⟩
theorem TRow.below {e : TypeId} {w w' : World} {B N : Nat} {v : Value} {l : List TK} (h : TRow e w B v l) (hb : Below N w w') (hN : w.heap.size ≤ N) : TRow e w' B v l := by
  refine World.ownsRow.kept (row := none) h ⟨hb.os, hb.tape, hb.output, hb.size, fun k hk _ => hb.block k (by omega)⟩ ?_
  cases v.ownBlock <;> simp
theorem TRow.only {e : TypeId} {w w' : World} {B b : Nat} {v : Value} {l : List TK} (h : TRow e w B v l) (ho : Only b w w') (hb : b < B) : TRow e w' B v l := by
  obtain ⟨hl, h⟩ := h
  refine ⟨hl, ?_⟩
  rcases h with h | ⟨g, cap, cur, h1, h2, h3, h4⟩
  · exact .inl h
  · exact .inr ⟨g, cap, cur, h1, h2, (ho.block g (lt_of_block h3) (by omega)).trans h3, h4⟩
theorem TRow.base {e : TypeId} {w : World} {B N : Nat} {v : Value} {l : List TK} (h : TRow e w N v l) (hB : B ≤ N) : TRow e w B v l := by
  obtain ⟨hl, h⟩ := h
  refine ⟨hl, ?_⟩
  rcases h with h | ⟨g, cap, cur, h1, h2, h3, h4⟩
  · exact .inl h
  · exact .inr ⟨g, cap, cur, h1, by omega, h3, h4⟩
theorem TRow.inn {e : TypeId} {w : World} {B : Nat} {v : Value} {l : List TK} (h : TRow e w B v l) : ∃ a cap, v = .slice a l.length cap ∧ TIn w a l := by
  rcases h.2 with ⟨rfl, hn⟩ | ⟨g, cap, cur, rfl, _, hg, _⟩
  · have h0 : l = [] := List.eq_nil_of_length_eq_zero hn
    subst h0
    exact ⟨none, 0, rfl, fun j hj => by simp at hj⟩
  · refine ⟨_, cap, rfl, fun j hj => ⟨g, rfl, lt_of_block hg, ?_, ?_⟩⟩
    · rw [World.ownsRow.cellAt h (j * 2) (by omega), (tV_get l j hj).1]
    · rw [World.ownsRow.cellAt h (j * 2 + 1) (by omega), (tV_get l j hj).2]
theorem infoJ : (Tryz.prog.info? 68).map (fun i => (i.zero, i.size, i.bytes)) = some (some (.agg #[.int .u8 0, .string ⟨#[]⟩]), 2, 24) := by kernel_rfl
theorem infoR : (Tryz.prog.info? 78).map (fun i => (i.zero, i.size, i.bytes)) = some (some (.agg #[.int .u8 0, .string ⟨#[]⟩]), 2, 24) := by kernel_rfl
/-- 'append(list, x)' on a list that the call itself made. -/
theorem wpList_append_tok {P : Program} {ops : Array Oper} {rest : List Oper} {o : Oper} {a : Act} {Q : Exit → Act → World → Prop} (hgd : o.guard = none) (sl x : Operand) (t : TypeId)
    (ho : o.op = .call { callee := .builtin .append, args := #[sl, x], argTypes := #[t, t] })
    (e : TypeId) (ht : P.underlying t = some (.slice e)) (hi : (P.info? e).map (fun i => (i.zero, i.size, i.bytes)) = some (some (.agg #[.int .u8 0, .string ⟨#[]⟩]), 2, 24))
    (v : Value) (wr : World) (B : Nat) (l : List TK) (hb : TRow e wr B v l) (hB : B ≤ wr.heap.size) (hs : a.eval sl = v)
    (k : Int) (s : ByteArray) (y : TK) (hk : k = (y.1.toNat : Int)) (hss : s = bA y.2) (hx : a.eval x = .slice (some ⟨wr.heap.size, 0, none⟩) 1 1) (hlen : l.length ≤ 1099511627776)
    (h : ∀ v' w', TRow e w' B v' (l ++ [y]) → Below B wr w' → wpList P ops Q rest (a.put o.dst v') w') :
    wpList P ops Q (o :: rest) a (wr.alloc (.cells #[.int .u8 k, .string s] e)) := by
  subst hk hss
  obtain ⟨i0, hi, hz, hz1, hz2⟩ := info_parts hi
  refine wpList_append_own _ hgd sl x t ho B e i0 (.agg #[.int .u8 0, .string ⟨#[]⟩]) 2 24 ht hi hz hz1 hz2 rfl (by decide) v l.length (tV l) hs (World.ownsRow.alloc hb _) ⟨wr.heap.size, 0, none⟩ 1 1 (tV [y]) hx rfl ?_ (tV_one _) (by unfold maxLen; omega) (by omega) (by simp; omega) ?_
  · intro j u hj
    have h1 := heap_alloc_new wr (.cells #[.int .u8 (y.1.toNat : Int), .string (bA y.2)] e)
    have e1 : (Addr.mk wr.heap.size 0 none).add j = ⟨wr.heap.size, j, none⟩ := by unfold Addr.add; split <;> simp_all
    rw [e1]
    simp only [World.cell?]
    rw [h1]
    match j, hj with
    | 0, hj => simpa [tV] using hj
    | 1, hj => simpa [tV] using hj
    | j + 2, hj => simp [tV] at hj
  · intro v' w' hown hgr _
    refine h v' w' ?_ ?_
    · unfold TRow
      rw [tV_append, List.length_append]
      exact hown
    · refine ⟨hgr.os, hgr.tape, hgr.output, by have := hgr.size; simp at this; omega, fun k hk => ?_⟩
      have hne : some k ≠ v.ownBlock := fun hk' => by
        have := (World.ownsRow.lt hb k hk'.symm).1
        omega
      rw [hgr.block k (by simp; omega) hne]
      exact Below.heap_alloc _ _ _ (by omega)
theorem ret_tk {x y : TK} (h : x = y) : Ending.returned (tkV x) = .returned (tkV y) := by rw [h]
theorem tok_result {fn : Func} {p : Tmp} (h : fn.results = #[.cell p 68]) {tmps : Array Value} {w : World} {g : Nat} {x : TK} (hg : TkT 68 w g x) (hp : tmps.getD p undef = .pointer (some ⟨g, 0, none⟩)) :
    (results fn tmps).run Tryz.prog w = .ok (tkV x) w := by
  have hq := run_loadVar_row (P := Tryz.prog) w g 68 68 #[.int .u8 (x.1.toNat : Int), .string (bA x.2)] (0, 0) _ hg Tryz.underlying68 rfl (by kernel_rfl)
  have hp' : tmps[p]?.getD undef = .pointer (some ⟨g, 0, none⟩) := by simpa using hp
  simp [results, h, hp', asAddr, hq, tkV]
theorem ctok_result {fn : Func} {p q : Tmp} (h : fn.results = #[.cell p 76, .cell q 78]) {tmps : Array Value} {w : World} {g d : Nat} {c : CS} {x : TK} (hg : CurT 76 w g c) (hd : TkT 78 w d x) (hp : tmps.getD p undef = .pointer (some ⟨g, 0, none⟩)) (hq : tmps.getD q undef = .pointer (some ⟨d, 0, none⟩)) :
    (results fn tmps).run Tryz.prog w = .ok (.tuple #[c.val, tkV x]) w := by
  have h1 := run_loadVar_row (P := Tryz.prog) w g 76 76 #[.string c.s, .int .i64 c.at_, .int .i64 c.en, .int .i64 c.er] (0, 0) _ hg Tryz.underlying76 rfl (by kernel_rfl)
  have h2 := run_loadVar_row (P := Tryz.prog) w d 78 78 #[.int .u8 (x.1.toNat : Int), .string (bA x.2)] (0, 0) _ hd Tryz.underlying78 rfl (by kernel_rfl)
  have hp' : tmps[p]?.getD undef = .pointer (some ⟨g, 0, none⟩) := by simpa using hp
  have hq' : tmps[q]?.getD undef = .pointer (some ⟨d, 0, none⟩) := by simpa using hq
  simp [results, h, hp', hq', asAddr, h1, h2, tkV, CS.val]
end Go.Proofs.YtnbhhnkcfbfdcaaGreatDoor
/- Package jtoken's among, sign, word; the document's Sign, Spelled. -/
namespace Go.Proofs.YtnbhhnkcfbfdcaaGreatDoor
open Go Go.RowKit
set_option linter.unusedVariables false

/-- A list that has just been written out. -/
theorem bin_new (w : World) (l : List UInt8) (C : Array Value) (t : TypeId) (hC : C = (bV l).toArray) : BIn (w.alloc (.cells C t)) (some ⟨w.heap.size, 0, none⟩) l := by
  subst hC
  intro j hj
  have h1 := heap_alloc_new w (.cells (bV l).toArray t)
  refine ⟨w.heap.size, 0, rfl, by simp, ?_⟩
  rw [Nat.zero_add]
  simp only [World.cell?]
  rw [h1]
  show ((bV l).toArray)[j]? = _
  rw [← Array.getElem?_toList]
  exact bV_get l j hj
def AmRel (W : World) (b : UInt8) (l : List UInt8) (i : Value) (wr : World) : Prop := ∃ j : Nat, j ≤ l.length ∧ i = .int .i64 (j : Nat) ∧ ¬ b ∈ l.take j ∧ wr = W
theorem among_nil (b : UInt8) (cap : Nat) (a : Option Addr) (w : World) :
    Calls Tryz.prog 85 #[.int .u8 (b.toNat : Int), .slice a 0 cap] w fun e w' => e = .returned (.bool false) ∧ w' = w := by
  go_enter Tryz.func85, Tryz.ntmps85
  go_wp2_with fail
  refine wp_loop_once ?_
  go_wp2
  go_ret
  exact ⟨rfl, rfl⟩
theorem among_any (b : UInt8) (a : Option Addr) (cap : Nat) (l : List UInt8) (w : World) (hl : l.length ≤ 1000) (hin : BIn w a l) :
    Calls Tryz.prog 85 #[.int .u8 (b.toNat : Int), .slice a l.length cap] w fun e w' => e = .returned (.bool (l.contains b)) ∧ w' = w := by
  by_cases h0 : l = []
  · subst h0; exact among_nil b cap a w
  · obtain ⟨g, off, rfl, hg, -⟩ := hin 0 (Nat.pos_of_ne_zero (fun e => h0 (List.eq_nil_of_length_eq_zero e)))
    clear h0
    have HC : ∀ j (h : j < l.length), w.cell? ⟨g, off + j, none⟩ = some (.int .u8 (l[j].toNat : Int)) := fun j h => by
      obtain ⟨g', off', e, _, hc⟩ := hin j h
      obtain ⟨rfl, rfl⟩ : g = g' ∧ off = off' := by simpa using e
      exact hc
    have HC' := Lib.hid HC
    clear HC hin
    go_enter Tryz.func85, Tryz.ntmps85
    go_wp2_with fail
    go_loopw [4, 6, 9] (fun r x i wr => AmRel w b l i wr) (fun _ _ i _ => l.length - (intOf i).toNat)
    case atStart => exact ⟨0, Nat.zero_le _, rfl, by simp, rfl⟩
    case round =>
      obtain ⟨j, hj, rfl, hn, hwr⟩ := hrel
      subst hwr
      by_cases hlt : j < l.length
      · have p1 : decide ((j : Int) < (l.length : Int)) = true := decide_eq_true (by omega)
        have p2 : (j : Int) < (l.length : Int) := by omega
        have hc := HC'.out j hlt
        have HQ := Lib.hid (show (l.take (j + 1)) = l.take j ++ [l[j]] from List.take_succ_eq_append_getElem hlt)
        have HM := Lib.hid (show l[j] ∈ l from List.getElem_mem hlt)
        have HN := Lib.hid hn
        clear hn
        generalize l[j] = y at *
        by_cases he : b = y
        · have d1 : ((b.toNat : Int) == (y.toNat : Int)) = true := by rw [he]; simp
          have HR := Lib.hid (show l.contains b = true from by rw [he]; simpa using HM.out)
          clear he
          go_wp2
          go_ret
          exact ⟨ret_b HR.out.symm, rfl⟩
        · have d1 : ((b.toNat : Int) == (y.toNat : Int)) = false := beq_eq_false_iff_ne.mpr (fun e => he (UInt8.toNat_inj.mp (by omega)))
          have HR := Lib.hid (show ¬ b ∈ l.take (j + 1) by rw [HQ.out]; simp [HN.out, he])
          clear he
          go_wp2
          go_roundw
          case rel => exact ⟨j + 1, by omega, by go_num, HR.out, rfl⟩
          case measure => simp [intOf]; omega
      · have p1 : decide ((j : Int) < (l.length : Int)) = false := decide_eq_false (by omega)
        have HR := Lib.hid (show l.contains b = false from by
          have : l.take j = l := List.take_of_length_le (by omega)
          rw [this] at hn; simpa using hn)
        clear hn
        go_wp2
        go_ret
        exact ⟨ret_b HR.out.symm, rfl⟩
theorem alloc_below (w : World) (o : Obj) : Below w.heap.size w (w.alloc o) := (Below.refl _ _).alloc (Nat.le_refl _) _
theorem among_new (b : UInt8) (w : World) (n : Nat) (l : List UInt8) (C : Array Value) (t : TypeId) (v : Bool) (hv : l.contains b = v) (hC : C = (bV l).toArray) (hl : l.length = n) (hn : n ≤ 1000) :
    Calls Tryz.prog 85 #[.int .u8 (b.toNat : Int), .slice (some ⟨w.heap.size, 0, none⟩) n n] (w.alloc (.cells C t)) fun e w' => e = .returned (.bool v) ∧ Below w.heap.size w w' := by
  subst hl hv
  refine (among_any b _ _ l _ hn (bin_new w l C t hC)).mono ?_
  rintro e w' ⟨rfl, hw⟩
  rw [hw]
  exact ⟨rfl, alloc_below w _⟩
theorem sign_any (b : UInt8) (w : World) :
    Calls Tryz.prog 87 #[.int .u8 (b.toNat : Int)] w fun e w' => e = .returned (.bool (tSign b)) ∧ Below w.heap.size w w' := by
  have HR := Lib.hid (show [123, 125, 91, 93, 58, 44].contains b = tSign b from rfl)
  generalize tSign b = v at *
  go_enter Tryz.func87, Tryz.ntmps87
  go_wp2_with fail
  with_reducible refine (among_new b w 6 [123, 125, 91, 93, 58, 44] #[.int .u8 123, .int .u8 125, .int .u8 91, .int .u8 93, .int .u8 58, .int .u8 44] _ v HR.out rfl rfl (by decide)).mono ?_
  rintro e w1 ⟨rfl, h1⟩
  go_wp2
  go_ret
  exact ⟨rfl, h1⟩
theorem word_any (k : UInt8) (w : World) :
    Calls Tryz.prog 91 #[.int .u8 (k.toNat : Int)] w fun e w' => e = .returned (.string (bA (tW k))) ∧ w' = w := by
  have hb : ∀ y : UInt8, ((k.toNat : Int) == (y.toNat : Int)) = decide (k = y) := fun y => by
    by_cases e : k = y
    · rw [e]; simp
    · rw [decide_eq_false e]
      exact beq_eq_false_iff_ne.mpr (fun e2 => e (UInt8.toNat_inj.mp (by omega)))
  have b1 : ((k.toNat : Int) == 116) = decide (k = 116) := hb 116
  have b2 : ((k.toNat : Int) == 102) = decide (k = 102) := hb 102
  have b3 : ((k.toNat : Int) == 122) = decide (k = 122) := hb 122
  clear hb
  by_cases c1 : k = 116
  · rw [decide_eq_true c1] at b1
    have HR := Lib.hid (show bA (tW k) = ⟨#[116, 114, 117, 101]⟩ by rw [c1]; rfl)
    clear c1 b2 b3
    go_enter Tryz.func91, Tryz.ntmps91
    go_wp2
    go_ret
    exact ⟨ret_string HR.out.symm, rfl⟩
  · rw [decide_eq_false c1] at b1
    by_cases c2 : k = 102
    · rw [decide_eq_true c2] at b2
      have HR := Lib.hid (show bA (tW k) = ⟨#[102, 97, 108, 115, 101]⟩ by rw [c2]; rfl)
      clear c1 c2 b3
      go_enter Tryz.func91, Tryz.ntmps91
      go_wp2
      go_ret
      exact ⟨ret_string HR.out.symm, rfl⟩
    · rw [decide_eq_false c2] at b2
      by_cases c3 : k = 122
      · rw [decide_eq_true c3] at b3
        have HR := Lib.hid (show bA (tW k) = ⟨#[110, 117, 108, 108]⟩ by rw [c3]; rfl)
        clear c1 c2 c3
        go_enter Tryz.func91, Tryz.ntmps91
        go_wp2
        go_ret
        exact ⟨ret_string HR.out.symm, rfl⟩
      · rw [decide_eq_false c3] at b3
        have HR := Lib.hid (show bA (tW k) = ⟨#[]⟩ by unfold tW; rw [if_neg c1, if_neg c2, if_neg c3]; rfl)
        clear c1 c2 c3
        go_enter Tryz.func91, Tryz.ntmps91
        go_wp2
        go_ret
        exact ⟨ret_string HR.out.symm, rfl⟩
theorem rspelled_any (k : UInt8) (w : World) :
    Calls Tryz.prog 77 #[.int .u8 (k.toNat : Int)] w fun e w' => e = .returned (.string (bA (tW k))) ∧ w' = w := by
  have hb : ∀ y : UInt8, ((k.toNat : Int) == (y.toNat : Int)) = decide (k = y) := fun y => by
    by_cases e : k = y
    · rw [e]; simp
    · rw [decide_eq_false e]
      exact beq_eq_false_iff_ne.mpr (fun e2 => e (UInt8.toNat_inj.mp (by omega)))
  have b1 : ((k.toNat : Int) == 116) = decide (k = 116) := hb 116
  have b2 : ((k.toNat : Int) == 102) = decide (k = 102) := hb 102
  have b3 : ((k.toNat : Int) == 122) = decide (k = 122) := hb 122
  clear hb
  by_cases c1 : k = 116
  · rw [decide_eq_true c1] at b1
    have HR := Lib.hid (show bA (tW k) = ⟨#[116, 114, 117, 101]⟩ by rw [c1]; rfl)
    clear c1 b2 b3
    go_enter Tryz.func77, Tryz.ntmps77
    go_wp2
    go_ret
    exact ⟨ret_string HR.out.symm, rfl⟩
  · rw [decide_eq_false c1] at b1
    by_cases c2 : k = 102
    · rw [decide_eq_true c2] at b2
      have HR := Lib.hid (show bA (tW k) = ⟨#[102, 97, 108, 115, 101]⟩ by rw [c2]; rfl)
      clear c1 c2 b3
      go_enter Tryz.func77, Tryz.ntmps77
      go_wp2
      go_ret
      exact ⟨ret_string HR.out.symm, rfl⟩
    · rw [decide_eq_false c2] at b2
      by_cases c3 : k = 122
      · rw [decide_eq_true c3] at b3
        have HR := Lib.hid (show bA (tW k) = ⟨#[110, 117, 108, 108]⟩ by rw [c3]; rfl)
        clear c1 c2 c3
        go_enter Tryz.func77, Tryz.ntmps77
        go_wp2
        go_ret
        exact ⟨ret_string HR.out.symm, rfl⟩
      · rw [decide_eq_false c3] at b3
        have HR := Lib.hid (show bA (tW k) = ⟨#[]⟩ by unfold tW; rw [if_neg c1, if_neg c2, if_neg c3]; rfl)
        clear c1 c2 c3
        go_enter Tryz.func77, Tryz.ntmps77
        go_wp2
        go_ret
        exact ⟨ret_string HR.out.symm, rfl⟩
set_option maxHeartbeats 1000000 in
theorem rsign_any (k : UInt8) (w : World) :
    Calls Tryz.prog 47 #[.int .u8 (k.toNat : Int)] w fun e w' => e = .returned (.bool (tSign k)) ∧ w' = w := by
  have hb : ∀ y : UInt8, ((k.toNat : Int) == (y.toNat : Int)) = (k == y) := fun y => by
    by_cases e : k = y
    · rw [e]; simp
    · rw [beq_eq_false_iff_ne.mpr e]
      exact beq_eq_false_iff_ne.mpr (fun e2 => e (UInt8.toNat_inj.mp (by omega)))
  have b1 : ((k.toNat : Int) == 123) = (k == 123) := hb 123
  have b2 : ((k.toNat : Int) == 125) = (k == 125) := hb 125
  have b3 : ((k.toNat : Int) == 91) = (k == 91) := hb 91
  have b4 : ((k.toNat : Int) == 93) = (k == 93) := hb 93
  have b5 : ((k.toNat : Int) == 58) = (k == 58) := hb 58
  have b6 : ((k.toNat : Int) == 44) = (k == 44) := hb 44
  have HR := Lib.hid (show tSign k = (k == 123 || (k == 125 || (k == 91 || (k == 93 || (k == 58 || (k == 44 || false)))))) from rfl)
  clear hb
  generalize (k == 123) = a1 at *
  generalize (k == 125) = a2 at *
  generalize (k == 91) = a3 at *
  generalize (k == 93) = a4 at *
  generalize (k == 58) = a5 at *
  generalize (k == 44) = a6 at *
  go_enter Tryz.func47, Tryz.ntmps47
  cases a1
  · cases a2
    · cases a3
      · cases a4
        · cases a5
          · cases a6
            · go_wp2
              go_ret
              exact ⟨ret_b HR.out.symm, rfl⟩
            · go_wp2
              go_ret
              exact ⟨ret_b HR.out.symm, rfl⟩
          · go_wp2
            go_ret
            exact ⟨ret_b HR.out.symm, rfl⟩
        · go_wp2
          go_ret
          exact ⟨ret_b HR.out.symm, rfl⟩
      · go_wp2
        go_ret
        exact ⟨ret_b HR.out.symm, rfl⟩
    · go_wp2
      go_ret
      exact ⟨ret_b HR.out.symm, rfl⟩
  · go_wp2
    go_ret
    exact ⟨ret_b HR.out.symm, rfl⟩
end Go.Proofs.YtnbhhnkcfbfdcaaGreatDoor
/- Package jtoken's first, spelt. -/
namespace Go.Proofs.YtnbhhnkcfbfdcaaGreatDoor
open Go Go.RowKit
set_option linter.unusedVariables false

theorem peek_bad {b : Nat} {c : CS} {w : World} (h : CurT 89 w b c) (hc : c.ok) (h0 : ¬ c.er = 0) :
    Calls Tryz.prog 84 #[.pointer (some ⟨b, 0, none⟩)] w fun e w' => e = .returned (.tuple #[.int .u8 (((0 : UInt8).toNat : Nat) : Int), .bool false]) ∧ CurT 89 w' b c ∧ Below w.heap.size w w' := by
  have h1 : c.peekIs = false := by unfold CS.peekIs; simp [h0]
  have := peek_any h hc
  rw [CS.peekB_no h1, h1] at this
  refine this.mono ?_
  rintro e w' ⟨he, n, hw⟩
  rw [hw]
  exact ⟨he, h.drewN n, drew_below w n⟩
theorem peek_no {b : Nat} {c : CS} {w : World} (h : CurT 89 w b c) (hc : c.ok) (hb : c.bs = []) :
    Calls Tryz.prog 84 #[.pointer (some ⟨b, 0, none⟩)] w fun e w' => e = .returned (.tuple #[.int .u8 (((0 : UInt8).toNat : Nat) : Int), .bool false]) ∧ CurT 89 w' b c ∧ Below w.heap.size w w' := peek_none h hc hb
theorem bl_in {l : List UInt8} {k : Nat} (hk : k ≤ bL l) {x : UInt8} {t : List UInt8} (hd : l.drop k = x :: t) : (tBl x = true → k + 1 ≤ bL l) ∧ (tBl x = false → k = bL l) := by
  constructor
  · intro hx
    rcases Nat.lt_or_ge k (bL l) with h | h
    · exact h
    · obtain rfl : k = bL l := by omega
      rw [drop_bl l x t hd] at hx; cases hx
  · intro hx
    rcases Nat.lt_or_ge k (bL l) with h | h
    · have h1 : k < l.length := Nat.lt_of_lt_of_le h (bl_len l)
      have h2 : l[k] = x := by
        have := List.drop_eq_getElem_cons h1
        rw [hd] at this
        exact (List.cons.inj this).1.symm
      have h3 : l[k] ∈ l.takeWhile tBl := by
        have h4 : l.takeWhile tBl = l.take (bL l) := List.prefix_iff_eq_take.1 (List.takeWhile_prefix tBl)
        rw [h4, List.mem_take_iff_getElem]
        exact ⟨k, by omega, rfl⟩
      have h5 := List.all_eq_true.mp (List.all_takeWhile (p := tBl) (l := l)) _ h3
      rw [h2, hx] at h5; cases h5
    · omega
theorem sz_drop (s : ByteArray) (k : Nat) (h : k < s.size) : s.data.toList.drop k = s[k] :: s.data.toList.drop (k + 1) := by
  have h' : k < s.data.toList.length := by rw [toList_size]; exact h
  rw [List.drop_eq_getElem_cons h', byte_at s k h h']
theorem bl_end {l : List UInt8} {k : Nat} (hk : k ≤ bL l) (hd : l.drop k = []) : k = bL l := by
  have := congrArg List.length hd
  have := bl_len l
  simp at *
  omega
/-- The byte behind the blanks, and whether there is one. -/
def fB (l : List UInt8) : UInt8 × Bool := match l.drop (bL l) with
  | [] => (0, false)
  | x :: _ => (x, true)
def FstRel (c : CS) (b : Nat) (W wr : World) : Prop := ∃ k, k ≤ bL c.bs ∧ CurT 89 wr b (c.past k) ∧ Only b W wr
theorem am_bl (x : UInt8) (w : World) :
    Calls Tryz.prog 85 #[.int .u8 (x.toNat : Int), .slice (some ⟨w.heap.size, 0, none⟩) 4 4] (w.alloc (.cells #[.int .u8 32, .int .u8 9, .int .u8 10, .int .u8 13] 5)) fun e w' => e = .returned (.bool (tBl x)) ∧ Below w.heap.size w w' :=
  among_new x w 4 [32, 9, 10, 13] _ _ _ rfl rfl rfl (by decide)
theorem am_zero (w : World) :
    Calls Tryz.prog 85 #[.int .u8 0, .slice (some ⟨w.heap.size, 0, none⟩) 4 4] (w.alloc (.cells #[.int .u8 32, .int .u8 9, .int .u8 10, .int .u8 13] 5)) fun e w' => e = .returned (.bool false) ∧ Below w.heap.size w w' := by
  have := am_bl 0 w
  rw [show tBl 0 = false by decide] at this; exact this
set_option maxRecDepth 20000 in
set_option maxHeartbeats 1000000 in
theorem first_any {b : Nat} {c : CS} {w : World} (h : CurT 89 w b c) (hc : c.ok) (h0 : c.er = 0) :
    Calls Tryz.prog 75 #[.pointer (some ⟨b, 0, none⟩)] w fun e w' => e = .returned (.tuple #[.int .u8 ((fB c.bs).1.toNat : Int), .bool (fB c.bs).2]) ∧ CurT 89 w' b (c.past (bL c.bs)) ∧ Only b w w' := by
  have HC := Lib.hid (And.intro hc h0)
  have hbl := h.lt
  have hlen := CS.bs_length hc
  have hbb := bl_len c.bs
  clear hc h0
  go_enter Tryz.func75, Tryz.ntmps75
  go_wp2_with fail
  go_loopw [2, 3, 4, 5] (fun _ _ _ _ wr => FstRel c b w wr) (fun _ _ _ _ wr => c.en + 1 - atOf b wr)
  case atStart => exact ⟨0, Nat.zero_le _, h, Only.refl _ _⟩
  case round =>
    obtain ⟨k, hk, hq, ho⟩ := hrel
    have hok := Lib.hid (CS.past_fine HC.out.1 (Nat.le_trans hk hbb))
    have hat := Lib.hid (atOf_cur hq)
    have hbp := CS.bs_past c k
    have hsz := ho.size
    match hd : c.bs.drop k with
    | [] =>
      have HP := Lib.hid (peek_no hq hok.out (hbp.trans hd))
      have he := bl_end hk hd
      have HR := Lib.hid (show fB c.bs = (0, false) ∧ k = bL c.bs from ⟨by unfold fB; rw [← he, hd], he⟩)
      have HA := Lib.hid (fun w => am_zero w)
      clear hd he hbp
      go_wp2_with fail
      with_reducible refine HP.out.mono ?_
      rintro e w1 ⟨rfl, hq1, hb1⟩
      have ho1 := only_then ho hb1 hsz
      clear hb1 hq
      go_wp2_with fail
      with_reducible refine (HA.out _).mono ?_
      rintro e w2 ⟨rfl, hb2⟩
      have hq2 := Below.cur hb2 hq1 hq1.lt
      have ho2 := only_then ho1 hb2 ho1.size
      clear hb2 hq1
      go_wp2
      go_ret2
      exact ⟨ret_peek (by rw [HR.out.1]; rfl) (by rw [HR.out.1]), by rw [← HR.out.2]; exact hq2, ho2⟩
    | x :: t =>
      have HP := Lib.hid (peek_next hq hok.out HC.out.2 (hbp.trans hd))
      have hin := bl_in hk hd
      have HA := Lib.hid (fun w => am_bl x w)
      by_cases hx : tBl x = true
      · have HB := Lib.hid (fun w h => byte_next (w := w) (b := b) h hok.out HC.out.2 (hbp.trans hd))
        rw [CS.past_past] at HB
        have HK := Lib.hid (hin.1 hx)
        rw [hx] at HA
        clear hx hin hbp hd
        go_wp2_with fail
        with_reducible refine HP.out.mono ?_
        rintro e w1 ⟨rfl, hq1, hb1⟩
        have ho1 := only_then ho hb1 hsz
        clear hb1 hq
        go_wp2_with fail
        with_reducible refine (HA.out _).mono ?_
        rintro e w2 ⟨rfl, hb2⟩
        have hq2 := Below.cur hb2 hq1 hq1.lt
        have ho2 := only_then ho1 hb2 ho1.size
        clear hb2 hq1
        go_wp2_with fail
        with_reducible refine (HB.out _ hq2).mono ?_
        rintro e w3 ⟨rfl, hq3, ho3⟩
        have ho4 := ho2.trans ho3
        go_wp2
        go_roundw
        case rel => exact ⟨k + 1, HK.out, hq3, ho4⟩
        case measure =>
          have h1 := HC.out.1.1
          have h2 := HK.out
          rw [atOf_cur hq3, hat.out]
          show c.en + 1 - (c.at_ + (k + 1)) < c.en + 1 - (c.at_ + k)
          omega
      · have hx2 := (Bool.not_eq_true _).mp hx
        rw [hx2] at HA
        have he := hin.2 hx2
        have HR := Lib.hid (show fB c.bs = (x, true) ∧ k = bL c.bs from ⟨by unfold fB; rw [← he, hd], he⟩)
        clear hx hx2 hin hbp hd he
        go_wp2_with fail
        with_reducible refine HP.out.mono ?_
        rintro e w1 ⟨rfl, hq1, hb1⟩
        have ho1 := only_then ho hb1 hsz
        clear hb1 hq
        go_wp2_with fail
        with_reducible refine (HA.out _).mono ?_
        rintro e w2 ⟨rfl, hb2⟩
        have hq2 := Below.cur hb2 hq1 hq1.lt
        have ho2 := only_then ho1 hb2 ho1.size
        clear hb2 hq1
        go_wp2
        go_ret2
        exact ⟨ret_peek (by rw [HR.out.1]) (by rw [HR.out.1]), by rw [← HR.out.2]; exact hq2, ho2⟩
theorem first_bad {b : Nat} {c : CS} {w : World} (h : CurT 89 w b c) (hc : c.ok) (h0 : ¬ c.er = 0) :
    Calls Tryz.prog 75 #[.pointer (some ⟨b, 0, none⟩)] w fun e w' => e = .returned (.tuple #[.int .u8 0, .bool false]) ∧ CurT 89 w' b c ∧ Only b w w' := by
  have HP := Lib.hid (peek_bad h hc h0)
  have HA := Lib.hid (fun w => am_zero w)
  clear hc h0
  go_enter Tryz.func75, Tryz.ntmps75
  go_wp2_with fail
  refine wp_loop_once ?_
  go_wp2_with fail
  with_reducible refine HP.out.mono ?_
  rintro e w1 ⟨rfl, hq1, hb1⟩
  have ho1 := only_then (Only.refl b w) hb1 (Nat.le_refl _)
  clear hb1
  go_wp2_with fail
  with_reducible refine (HA.out _).mono ?_
  rintro e w2 ⟨rfl, hb2⟩
  have hq2 := Below.cur hb2 hq1 hq1.lt
  have ho2 := only_then ho1 hb2 ho1.size
  clear hb2 hq1
  go_wp2
  go_ret2
  exact ⟨rfl, hq2, ho2⟩

/-- The next byte, whatever the cursor; where it stands then beside a word that has to stand here. -/
theorem byte_word {b : Nat} {c ci : CS} {s : List UInt8} {a : UInt8} {t : List UInt8} {j : Nat} (hs : s.drop j = a :: t) (ha : a.toNat ≠ 0) (hj : j ≤ c.bs.length ∨ ¬ tWd (s.take j) c.bs = 0) (hc : c.ok) (h0 : c.er = 0) (hA : CAt c j (tWd (s.take j) c.bs) ci) :
    ∃ (y : Int) (cj : CS), (∀ w, CurT 89 w b ci → Calls Tryz.prog 86 #[.pointer (some ⟨b, 0, none⟩)] w (fun e w' => e = .returned (.int .u8 y) ∧ CurT 89 w' b cj ∧ Only b w w')) ∧
      ((y = (a.toNat : Int) ∧ CAt c (j + 1) (tWd (s.take (j + 1)) c.bs) cj) ∨ (¬ y = (a.toNat : Int) ∧ CAt c (j + 1) (tWd (s.take (j + 1)) c.bs) (cj.fail 3))) := by
  have hjs : j < s.length := by
    have := congrArg List.length hs
    rw [List.length_drop, List.length_cons] at this; omega
  have hsn : s.take (j + 1) = s.take j ++ [a] := by
    rw [List.take_succ_eq_append_getElem hjs]
    congr 1
    have := List.drop_eq_getElem_cons hjs
    rw [hs] at this
    rw [(List.cons.inj this).1]
  have hlj : (s.take j).length = j := by rw [List.length_take]; omega
  have hst := tWd_snoc (s.take j) c.bs a
  rw [← hsn, hlj] at hst
  have hciok := hA.1
  by_cases he : tWd (s.take j) c.bs = 0
  · rw [if_pos he] at hst
    rw [he] at hA
    have hci := hA.2.2.2.2 rfl
    subst hci
    have hjl : j ≤ c.bs.length := by
      rcases hj with h | h
      · exact h
      · exact absurd he h
    have hbp := CS.bs_past c j
    match hd : c.bs.drop j with
    | [] =>
      rw [hd] at hst
      refine ⟨0, _, fun w hq => byte_lacks hq hciok h0 (hbp.trans hd), .inr ⟨by omega, ?_⟩⟩
      rw [hst, CS.fail_bad (show ¬ ((c.past j).bad 1).er = 0 from (by decide : ¬ (1 : Int) = 0))]
      exact CAt.bad hc hjl _ (show (1 : Int) ≠ 0 by decide)
    | x :: u =>
      rw [hd] at hst
      simp only at hst
      have hlt : j < c.bs.length := by
        have := congrArg List.length hd
        rw [List.length_drop, List.length_cons] at this; omega
      have hB := fun w (hq : CurT 89 w b (c.past j)) => byte_next hq hciok h0 (hbp.trans hd)
      rw [CS.past_past] at hB
      refine ⟨_, _, hB, ?_⟩
      by_cases hx : x = a
      · rw [if_pos hx] at hst
        refine .inl ⟨by rw [hx], ?_⟩
        rw [hst]
        exact CAt.past hc h0 hlt
      · rw [if_neg hx] at hst
        refine .inr ⟨fun e => hx (UInt8.toNat_inj.mp (by omega)), ?_⟩
        rw [hst, CS.fail_good (show (c.past (j + 1)).er = 0 from h0)]
        exact CAt.bad hc hlt _ (show (3 : Int) ≠ 0 by decide)
  · rw [if_neg he] at hst
    have her : ¬ ci.er = 0 := by rw [hA.2.2.2.1]; exact he
    refine ⟨0, _, fun w hq => byte_bad hq hciok her, .inr ⟨by omega, ?_⟩⟩
    rw [hst, CS.fail_bad her]
    exact hA.no he
def SpRel (c : CS) (b G : Nat) (W : World) (s : List UInt8) (n : Value) (wr : World) : Prop :=
  ∃ (j : Nat) (ci : CS), j ≤ s.length ∧ n = .int .i64 (j : Nat) ∧ CurT 89 wr b ci ∧ CAt c j (tWd (s.take j) c.bs) ci ∧ TkT 68 wr G (0, []) ∧ Only b W wr
set_option maxRecDepth 20000 in
set_option maxHeartbeats 2000000 in
theorem spelt_any {b : Nat} {c : CS} {w : World} (k : UInt8) (hk : k = 116 ∨ k = 102 ∨ k = 122) (h : CurT 89 w b c) (hc : c.ok) (h0 : c.er = 0) :
    Calls Tryz.prog 90 #[.pointer (some ⟨b, 0, none⟩), .int .u8 (k.toNat : Int)] w fun e w' => e = .returned (tkV (k, [])) ∧ (∃ c', CurT 89 w' b c' ∧ CAt c (tW k).length (tWd (tW k) c.bs) c') ∧ Only b w w' := by
  have HC := Lib.hid (And.intro hc h0)
  have hbl := h.lt
  have hsl := (tW_some hk).2
  have HW := Lib.hid (word_any k)
  have HS0 := Lib.hid (show ∀ a ∈ tW k, a.toNat ≠ 0 by rcases hk with rfl | rfl | rfl <;> decide)
  obtain ⟨S, hS⟩ : ∃ S, S = bA (tW k) := ⟨_, rfl⟩
  have hsz : S.size = (tW k).length := by rw [hS, bA_size]
  have hSl := Lib.hid (show S.data.toList = tW k by rw [hS]; rfl)
  rw [← hS] at HW
  clear hS
  have q0 := h.allocOld (.cells #[.int .u8 0, .string ⟨#[]⟩] 68)
  have g0 := tk_alloc (w := w) ((0, []) : TK) 68
  have HR := Lib.hid (show SpRel c b w.heap.size w (tW k) (.int .i64 0) (w.alloc (.cells #[.int .u8 0, .string ⟨#[]⟩] 68)) from
    ⟨0, c, Nat.zero_le _, rfl, q0, CAt.past hc h0 (Nat.zero_le _), g0, (Only.refl _ _).alloc _⟩)
  clear q0 g0 hk hc h0 h
  generalize hs : tW k = s at *
  have HSE := Lib.hid hs
  clear hs
  go_enter Tryz.func90, Tryz.ntmps90
  go_wp2_with fail
  with_reducible refine (HW.out _).mono ?_
  rintro e w1 ⟨rfl, hw1⟩
  rw [hw1]; clear hw1
  go_wp2_with fail
  generalize w.alloc (.cells #[.int .u8 0, .string ⟨#[]⟩] 68) = W1 at *
  go_loopw [6, 11] (fun i n wr => SpRel c b w.heap.size w s n wr) (fun _ n _ => s.length - (intOf n).toNat)
  case atStart => exact HR.out
  case round =>
    obtain ⟨j, ci, hj, rfl, hq, hA, hg, ho⟩ := hrel
    have HA := Lib.hid hA
    have hne : w.heap.size ≠ b := by omega
    by_cases hlt : j < s.length
    · have p1 : decide ((j : Int) < (s.length : Int)) = true := decide_eq_true (by omega)
      have p2 : (j : Int) < (S.size : Int) := by omega
      have hjS : j < S.size := by omega
      have hd : s.drop j = S[j] :: s.drop (j + 1) := by
        have := sz_drop S j hjS
        rw [hSl.out] at this; exact this
      have hjb : j ≤ c.bs.length ∨ ¬ tWd (s.take j) c.bs = 0 := by
        rcases Int.decEq (tWd (s.take j) c.bs) 0 with h | h
        · exact .inr h
        · have := tWd_len _ _ h
          rw [List.length_take] at this
          exact .inl (by omega)
      obtain ⟨y, cj, hB, hyz⟩   := byte_word (b := b) hd (HS0.out _ (List.mem_of_mem_drop (hd ▸ List.mem_cons_self))) hjb HC.out.1 HC.out.2 hA
      have HB := Lib.hid hB
      have hsl2 : S.size = s.length := hsz
      clear hB hd hjb hA
      rcases hyz with ⟨hy, hY⟩ | ⟨hy, hY⟩
      · have d1 : (y != (S[j].toNat : Int)) = false := by rw [hy]; simp
        have HY := Lib.hid hY
        clear hy hY
        have hqD : CurT 89 wr.drew b ci := hq
        have hgD := hg.drew
        have hoD := ho.drew
        clear hq
        go_wp2_with fail
        go_region_with (go_at_call 86; (with_reducible refine (HB.out _ hqD).mono ?_); rintro e w2 ⟨rfl, hq2, ho2⟩)
        all_goals
          go_wp2
          go_roundw
          case rel => exact ⟨j + 1, cj, by omega, by go_num, hq2, HY.out, hgD.only ho2 hne, hoD.trans ho2⟩
          case measure => simp [intOf]; omega
      · have d1 : (y != (S[j].toNat : Int)) = true := bne_iff_ne.mpr hy
        have HY := Lib.hid hY
        clear hy hY
        have hqD : CurT 89 wr.drew b ci := hq
        have hgD := hg.drew
        have hoD := ho.drew
        clear hq
        go_wp2_with fail
        go_region_with (go_at_call 86; (with_reducible refine (HB.out _ hqD).mono ?_); rintro e w2 ⟨rfl, hq2, ho2⟩)
        all_goals
          go_wp2_with fail
          with_reducible refine (fail_any hq2 3).mono ?_
          rintro e w3 ⟨rfl, hq3, ho3⟩
          go_wp2
          go_roundw
          case rel => exact ⟨j + 1, _, by omega, by go_num, hq3, HY.out, (hgD.only ho2 hne).only ho3 hne, (hoD.trans ho2).trans ho3⟩
          case measure => simp [intOf]; omega
    · have p1 : decide ((j : Int) < (s.length : Int)) = false := decide_eq_false (by omega)
      have HE := Lib.hid (show j = s.length by omega)
      have c0 := hg.c0; have c1 := hg.c1; have cf := hg.fr
      have hq5 := (Only.setTk wr w.heap.size (k, [])).cur hq (Ne.symm hne)
      have HZ := hg.setAll (k, [])
      have ho5 : Only b w ((wr.setCell ⟨w.heap.size, 0, none⟩ (.int .u8 (k.toNat : Int))).setCell ⟨w.heap.size, 1, none⟩ (.string ⟨#[]⟩)) :=
        only_then ho ((Only.setTk wr w.heap.size (k, [])).below (Nat.le_refl _) ho.size) (Nat.le_refl _)
      clear hq
      go_wp2
      refine bodyPost_ret (tok_result Tryz.results90 HZ rfl) rfl ?_
      have hA2 := HA.out
      rw [HE.out, List.take_length] at hA2
      exact ⟨rfl, ⟨ci, hq5, hA2⟩, ho5⟩
end Go.Proofs.YtnbhhnkcfbfdcaaGreatDoor
