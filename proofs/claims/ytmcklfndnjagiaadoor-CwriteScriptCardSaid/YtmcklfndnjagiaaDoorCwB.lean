/- Thrift's writer in memory: its bytes, and what was begun (a list that may be cut with three indices: its block may be larger than its room); what appends and stores make of it. Of no package but the types' facts; Plain facts, of no program: Thrift's writer piece by piece, as it is written here; what each call does is what the document says of it; Package cwrite's small calls: rests, want, wantRoom, inner, lay, begin, bitsOf; Package cwrite: enter: a value is entered. -/
import Derived.Test.YtmcklfndnjagiaaDoorCwNum
import Derived.Test.YtmcklfndnjagiaaDoorChAp
import Derived.Deep.AppendLies
import Derived.Test.YtmcklfndnjagiaaDoorChD
import Derived.Laws.EntriesVeiled
import Derived.Deep.RegionLaw
import Derived.Deep.QuietTactic
import Derived.BigQuiet
namespace Go.Proofs.YtmcklfndnjagiaaDoor
open Go Go.RowKit
set_option linter.unusedVariables false

/-- What was begun, as cells. -/
def hV (l : List WP) : List Value := l.flatMap fun p => [.int .i64 p.last, .bool p.li, .int .u8 (p.kd : Nat), .int .i64 p.left]
theorem hV_cons (p : WP) (l : List WP) : hV (p :: l) = .int .i64 p.last :: .bool p.li :: .int .u8 (p.kd : Nat) :: .int .i64 p.left :: hV l := rfl
theorem hV_append (l m : List WP) : hV (l ++ m) = hV l ++ hV m := List.flatMap_append
theorem hV_length : ∀ l : List WP, (hV l).length = l.length * 4
  | [] => rfl
  | x :: l => by rw [hV_cons]; simp only [List.length_cons]; rw [hV_length l]; omega
theorem hV_one (l : List WP) : ∀ v ∈ hV l, v.oneCell' = true := by
  intro v hv
  obtain ⟨x, _, hx⟩ := List.mem_flatMap.mp hv
  simp at hx
  rcases hx with rfl | rfl | rfl | rfl <;> rfl
theorem hV_last (l : List WP) (p : WP) (i : Nat) (hi : i < 4) : (hV (l ++ [p]))[l.length * 4 + i]? = (hV [p])[i]? := by
  rw [hV_append, List.getElem?_append_right (by rw [hV_length]; omega), hV_length, Nat.add_sub_cancel_left]
theorem hV_set (l : List WP) (p : WP) (i : Nat) (hi : i < 4) (x : Value) : (hV (l ++ [p])).set (l.length * 4 + i) x = hV l ++ (hV [p]).set i x := by
  rw [hV_append, List.set_append_right _ _ (by rw [hV_length]; omega), hV_length, Nat.add_sub_cancel_left]
/-- The slice v is what was begun, the last one last. -/
def HRow (w : World) (B : Nat) (v : Value) (l : List WP) : Prop :=
  (v = .slice none 0 0 ∧ l = []) ∨ ∃ g cap cur, v = .slice (some ⟨g, 0, none⟩) l.length cap ∧ B ≤ g ∧ w.heap[g]? = some (.cells cur 78 (0, 0)) ∧ l.length ≤ cap ∧ cap ≤ maxLen ∧ cap * 4 ≤ cur.size ∧ cur.toList.take (l.length * 4) = hV l
theorem hrow_nil (w : World) (B : Nat) : HRow w B (.slice none 0 0) [] := .inl ⟨rfl, rfl⟩
theorem HRow.keep {w w' : World} {B : Nat} {v : Value} {l : List WP} (h : HRow w B v l) (hk : ∀ g, v.ownBlock = some g → w'.heap[g]? = w.heap[g]?) : HRow w' B v l := by
  rcases h with h | ⟨g, cap, cur, h1, h2, h3, h4⟩
  · exact .inl h
  · exact .inr ⟨g, cap, cur, h1, h2, (hk g (by rw [h1]; rfl)).trans h3, h4⟩
theorem HRow.own {w : World} {B : Nat} {v : Value} {l : List WP} (h : HRow w B v l) {g : Nat} (hg : v.ownBlock = some g) : B ≤ g ∧ g < w.heap.size ∧ ∃ cur, w.heap[g]? = some (.cells cur 78 (0, 0)) := by
  rcases h with ⟨rfl, _⟩ | ⟨g', cap, cur, rfl, h2, h3, _⟩
  · cases hg
  · simp [Value.ownBlock] at hg
    subst hg
    exact ⟨h2, lt_of_block h3, _, h3⟩
theorem HRow.form {w : World} {B : Nat} {v : Value} {l : List WP} (h : HRow w B v l) : ∃ a cap, v = .slice a l.length cap := by
  rcases h with ⟨rfl, rfl⟩ | ⟨g, cap, cur, rfl, _⟩
  · exact ⟨_, _, rfl⟩
  · exact ⟨_, _, rfl⟩
/-- Where the last one lies. -/
theorem HRow.top {w : World} {B : Nat} {v : Value} {l : List WP} {p : WP} (h : HRow w B v (l ++ [p])) : ∃ g cap, v = .slice (some ⟨g, 0, none⟩) (l.length + 1) cap ∧ l.length + 1 ≤ cap ∧ g < w.heap.size ∧ B ≤ g ∧
    w.cell? ⟨g, l.length * 4, none⟩ = some (.int .i64 p.last) ∧ w.cell? ⟨g, l.length * 4 + 1, none⟩ = some (.bool p.li) ∧ w.cell? ⟨g, l.length * 4 + 2, none⟩ = some (.int .u8 (p.kd : Nat)) ∧ w.cell? ⟨g, l.length * 4 + 3, none⟩ = some (.int .i64 p.left) ∧ ∀ o, w.frozen? ⟨g, o, none⟩ = false := by
  rcases h with ⟨_, h⟩ | ⟨g, cap, cur, h1, h2, h3, h4, h5, h6, h7⟩
  · simp at h
  · have hc : ∀ i, i < 4 → w.cell? ⟨g, l.length * 4 + i, none⟩ = (hV [p])[i]? := by
      intro i hi
      rw [cell_of_row w g _ cur _ _ h3, ← hV_last l p i hi, ← h7, List.getElem?_take_of_lt (by simp; omega)]
      simp
    rw [List.length_append] at h1 h4
    refine ⟨g, cap, h1, h4, lt_of_block h3, h2, ?_, ?_, ?_, ?_, fun o => by simp [World.frozen?, h3]⟩
    · have := hc 0 (by decide); simpa [hV] using this
    · have := hc 1 (by decide); simpa [hV] using this
    · have := hc 2 (by decide); simpa [hV] using this
    · have := hc 3 (by decide); simpa [hV] using this
theorem HRow.put {w : World} {B : Nat} {l : List WP} {p q : WP} {g n cap i : Nat} (h : HRow w B (.slice (some ⟨g, 0, none⟩) n cap) (l ++ [p])) (hi : i < 4) (x : Value) (hq : (hV [p]).set i x = hV [q]) :
    HRow (w.setCell ⟨g, l.length * 4 + i, none⟩ x) B (.slice (some ⟨g, 0, none⟩) n cap) (l ++ [q]) := by
  rcases h with ⟨h, _⟩ | ⟨g', cap', cur, h1, h2, h3, h4, h5, h6, h7⟩
  · cases h
  · simp only [Value.slice.injEq, Option.some.injEq, Addr.mk.injEq] at h1
    obtain ⟨⟨rfl, _⟩, rfl, rfl⟩ := h1
    simp only [List.length_append, List.length_cons, List.length_nil] at h4 h7 ⊢
    refine .inr ⟨g, cap, _, by simp, h2, heap_setCell_block h3 x, by simpa using h4, h5, by simpa using h6, ?_⟩
    simp only [List.length_append, List.length_cons, List.length_nil]
    rw [Array.toList_setIfInBounds, List.take_set, h7, hV_set l p i hi, hq, hV_append]
theorem HRow.cut {w : World} {B : Nat} {l : List WP} {p : WP} {g n cap : Nat} (h : HRow w B (.slice (some ⟨g, 0, none⟩) n cap) (l ++ [p])) : HRow w B (.slice (some ⟨g, 0, none⟩) l.length l.length) l := by
  rcases h with ⟨h, _⟩ | ⟨g', cap', cur, h1, h2, h3, h4, h5, h6, h7⟩
  · cases h
  · simp only [Value.slice.injEq, Option.some.injEq, Addr.mk.injEq] at h1
    obtain ⟨⟨rfl, _⟩, rfl, rfl⟩ := h1
    simp only [List.length_append, List.length_cons, List.length_nil] at h4 h7
    refine .inr ⟨g, l.length, cur, rfl, h2, h3, Nat.le_refl _, by omega, by omega, ?_⟩
    have e : cur.toList.take (l.length * 4) = (cur.toList.take ((l.length + 1) * 4)).take (l.length * 4) := by rw [List.take_take, Nat.min_eq_left (by omega)]
    rw [e, h7, hV_append, ← hV_length l, List.take_left]
/-- What an append to the list v leaves: its own block apart, all that was there; the new list lies there, or is new. -/
structure Apc (w w1 : World) (v v' : Value) : Prop where
  gr : w.grownBy w1 v.ownBlock
  at_ : ∀ g, v'.ownBlock = some g → v.ownBlock = some g ∨ w.heap.size ≤ g
theorem infoH : (Tryd.prog.info? 78).map (fun i => (i.zero, i.size, i.bytes)) = some (some (.agg #[.int .i64 0, .bool false, .int .u8 0, .int .i64 0]), 4, 24) := by kernel_rfl
theorem run_append_h (w : World) (B : Nat) (t ty : TypeId) (ht : Tryd.prog.underlying t = some (.slice 78)) (v : Value) (l : List WP) (hrow : HRow w B v l) (a : Addr) (c : Nat) (p : WP)
    (hnews : ∀ j u, (hV [p])[j]? = some u → w.cell? (a.add j) = some u) (hlen : l.length ≤ 1099511627776) (hB : B ≤ w.heap.size) :
    ∃ g cap w', (Builtin.append_ #[t, t] ty #[v, .slice (some a) 1 c]).run Tryd.prog w = .ok (.slice (some ⟨g, 0, none⟩) (l.length + 1) cap) w' ∧ HRow w' B (.slice (some ⟨g, 0, none⟩) (l.length + 1) cap) (l ++ [p]) ∧ Apc w w' v (.slice (some ⟨g, 0, none⟩) (l.length + 1) cap) := by
  obtain ⟨i, hi, hz, hsize, hby⟩ := info_parts infoH
  have hl : (hV [p]).length = 1 * i.size := by rw [hsize]; rfl
  have grown : ∀ old : Nat, old < l.length + 1 → ∀ row : Option Nat,
      HRow (w.drew.alloc (.cells ((hV l).toArray ++ (hV [p]).toArray ++ Builtin.zeroCells (Value.agg #[.int .i64 0, .bool false, .int .u8 0, .int .i64 0]).cells (grownCap w (l.length + 1) old 78 - (l.length + 1))) 78)) B
        (.slice (some ⟨w.heap.size, 0, none⟩) (l.length + 1) (grownCap w (l.length + 1) old 78)) (l ++ [p]) ∧
      w.grownBy (w.drew.alloc (.cells ((hV l).toArray ++ (hV [p]).toArray ++ Builtin.zeroCells (Value.agg #[.int .i64 0, .bool false, .int .u8 0, .int .i64 0]).cells (grownCap w (l.length + 1) old 78 - (l.length + 1))) 78)) row := by
    intro old ho row
    have hge := grownCap_ge w (l.length + 1) old 78
    have hcm : grownCap w (l.length + 1) old 78 ≤ maxLen := grownCap_le_maxLen w (l.length + 1) old _ (by unfold maxLen; omega)
    refine ⟨.inr ⟨w.heap.size, _, _, by rw [List.length_append]; rfl, hB, heap_alloc_new w.drew _, by rw [List.length_append]; exact hge, hcm, ?_, ?_⟩, ⟨rfl, rfl, rfl, by simp, fun k hk _ => heap_alloc_old w.drew _ hk⟩⟩
    · simp only [Array.size_append, List.size_toArray, size_zeroCells, hV_length]
      rw [show (Value.agg #[.int .i64 0, .bool false, .int .u8 0, .int .i64 0]).cells.size = 4 from rfl]
      simp only [List.length_cons, List.length_nil]
      omega
    · simp only [Array.toList_append]
      rw [← hV_append, show (l ++ [p]).length * 4 = (hV (l ++ [p])).length from (hV_length _).symm]
      exact List.take_left
  rcases hrow with ⟨rfl, rfl⟩ | ⟨g, cap, cur, rfl, hbg, hg, hnc, hcm, hcs, htake⟩
  · have hr := run_append_nil (P := Tryd.prog) w t ty 78 i _ ht hi hz a 1 c (hV [p]) hl hnews (by decide) (by decide) (by rw [hby]; decide)
    have hgr := grown 0 (by decide) (Value.ownBlock (.slice none 0 0))
    simp only [List.length_nil, Nat.zero_add, List.nil_append, show hV [] = [] from rfl, Array.empty_append] at hgr ⊢
    exact ⟨_, _, _, hr, hgr.1, hgr.2, fun k hk => by simp [Value.ownBlock] at hk; exact .inr (by omega)⟩
  · by_cases hroom : l.length + 1 ≤ cap
    · have hr := run_append_room (P := Tryd.prog) w t ty 78 i ht hi g l.length cap cur hg a 1 c (hV [p]) hl hnews (hV_one _) hroom (by rw [hsize]; simp only [hV_length, List.length_cons, List.length_nil]; omega)
      rw [hsize] at hr
      refine ⟨_, _, _, hr, .inr ⟨g, cap, _, by rw [List.length_append]; rfl, hbg, setRow_heap w g cur _ _ _ hg, by rw [List.length_append]; exact hroom, hcm, ?_, ?_⟩, ⟨⟨rfl, rfl, rfl, by simp, fun k _ hk => setRow_other w g k _ (fun e => hk (by simp [Value.ownBlock, e]))⟩, fun k hk => .inl hk⟩⟩
      · simp only [List.size_toArray, List.length_append, List.length_take, List.length_drop, Array.length_toList, hV_length, List.length_cons, List.length_nil]
        omega
      · simp only []
        rw [htake, ← hV_append, show (l ++ [p]).length * 4 = (hV (l ++ [p])).length from (hV_length _).symm]
        exact List.take_left
    · have holds : ∀ j u, (hV l)[j]? = some u → w.cell? ((⟨g, 0, none⟩ : Addr).add j) = some u := by
        intro j u hu
        have hadd : (⟨g, 0, none⟩ : Addr).add j = ⟨g, j, none⟩ := by unfold Addr.add; split <;> simp_all
        rw [hadd, cell_of_row w g j cur _ (0, 0) hg]
        rw [← htake, List.getElem?_take] at hu
        split at hu
        · simpa using hu
        · cases hu
      have hr := run_append_grow (P := Tryd.prog) w t ty 78 i _ ht hi hz ⟨g, 0, none⟩ l.length cap (hV l) (by rw [hsize, hV_length]) holds a 1 c (hV [p]) hl hnews (by omega) (by omega) (by rw [hby]; exact growslice_fits (by omega) (by omega))
      have hgr := grown cap (by omega) (Value.ownBlock (.slice (some ⟨g, 0, none⟩) l.length cap))
      exact ⟨_, _, _, hr, hgr.1, hgr.2, fun k hk => by simp [Value.ownBlock] at hk; exact .inr (by omega)⟩
/-- 'append(w.begun, h)', in a region that draws its order. -/
theorem step_append_h {ops : Array Oper} {o : Oper} {a : Act} {w : World} {K : Act → World → Prop} {Q : Exit → Act → World → Prop} {E : Prop} (hgd : o.guard = none) (sl x : Operand) (t : TypeId)
    (ho : o.op = .call { callee := .builtin .append, args := #[sl, x], argTypes := #[t, t] }) (ht : Tryd.prog.underlying t = some (.slice 78))
    (v : Value) (B : Nat) (l : List WP) (hrow : HRow w B v l) (hB : B ≤ w.heap.size) (hs : a.eval sl = v)
    (g : Nat) (p : WP) (hg : w.heap[g]? = some (.cells (hV [p]).toArray 78 (0, 0))) (hx : a.eval x = .slice (some ⟨g, 0, none⟩) 1 1) (hlen : l.length ≤ 1099511627776)
    (h : ∀ g cap w', HRow w' B (.slice (some ⟨g, 0, none⟩) (l.length + 1) cap) (l ++ [p]) → Apc w w' v (.slice (some ⟨g, 0, none⟩) (l.length + 1) cap) → K (a.put o.dst (.slice (some ⟨g, 0, none⟩) (l.length + 1) cap)) w') :
    if Region.wanted o (yielded ops a.tmps) = true then Oper.wp Tryd.prog o a w K Q else E := by
  have hw : Region.wanted o (yielded ops a.tmps) = true := by simp [Region.wanted, hgd]
  rw [if_pos hw]
  obtain ⟨g', cap, w', hr, h2, h3⟩ := run_append_h w B t o.type ht v l hrow ⟨g, 0, none⟩ 1 p (World.news_of_block hg) hlen hB
  unfold Oper.wp execOp
  simp only [ho, resolve, invoke, builtin, Sem.run_bind, Sem.run_pure, Result.andThen_ok, List.map_toArray, List.map_cons, List.map_nil, hs, hx, hr]
  exact h g' cap w' h2 h3

/-- A block that is none of a writer's, by its type. -/
def Oth (w : World) (k : Nat) : Prop := ∃ cs t z, w.heap[k]? = some (.cells cs t z) ∧ t ≠ 5 ∧ t ≠ 55 ∧ t ≠ 78
theorem Oth.lt {w : World} {k : Nat} (h : Oth w k) : k < w.heap.size := by obtain ⟨_, _, _, h, _⟩ := h; exact lt_of_block h
theorem Oth.same {w w' : World} {k : Nat} (h : Oth w k) (e : w'.heap[k]? = w.heap[k]?) : Oth w' k := by obtain ⟨cs, t, z, h, r⟩ := h; exact ⟨cs, t, z, e.trans h, r⟩
/-- What lay below B, and what is none of a writer's, stays. -/
structure Kt (B : Nat) (w w' : World) : Prop where
  os : w'.os = w.os
  tape : w'.tape = w.tape
  output : w'.output = w.output
  size : w.heap.size ≤ w'.heap.size
  block : ∀ k, k < w.heap.size → k < B ∨ Oth w k → w'.heap[k]? = w.heap[k]?
theorem Kt.refl {B : Nat} (w : World) : Kt B w w := ⟨rfl, rfl, rfl, Nat.le_refl _, fun _ _ _ => rfl⟩
theorem Kt.oth {B : Nat} {w w1 : World} (h : Kt B w w1) {k : Nat} (ho : Oth w k) : Oth w1 k := ho.same (h.block k ho.lt (.inr ho))
theorem Kt.trans {B : Nat} {w w1 w2 : World} (h : Kt B w w1) (h2 : Kt B w1 w2) : Kt B w w2 :=
  ⟨h2.os.trans h.os, h2.tape.trans h.tape, h2.output.trans h.output, Nat.le_trans h.size h2.size, fun k hk hz => (h2.block k (Nat.lt_of_lt_of_le hk h.size) (hz.imp id h.oth)).trans (h.block k hk hz)⟩
theorem Kt.of_below {B : Nat} {w w1 : World} (h : Below w.heap.size w w1) : Kt B w w1 := ⟨h.os, h.tape, h.output, h.size, fun k hk _ => h.block k hk⟩
theorem Kt.below {B : Nat} {w w1 : World} (h : Kt B w w1) (hB : B ≤ w.heap.size) : Below B w w1 := ⟨h.os, h.tape, h.output, h.size, fun k hk => h.block k (by omega) (.inl hk)⟩
theorem Kt.drewN {B : Nat} {w w1 : World} (h : Kt B w w1) (n : Nat) : Kt B w (w1.drewN n) := ⟨h.os, h.tape, h.output, h.size, h.block⟩
theorem Kt.drew {B : Nat} {w w1 : World} (h : Kt B w w1) : Kt B w w1.drew := ⟨h.os, h.tape, h.output, h.size, h.block⟩
theorem Kt.set {B b : Nat} {w w1 : World} (h : Kt B w w1) (hb : B ≤ b) (hn : ¬ Oth w b) (o : Nat) (x : Value) : Kt B w (w1.setCell ⟨b, o, none⟩ x) :=
  ⟨h.os, h.tape, h.output, by simp; exact h.size, fun k hk hz => (RowKit.Below.heap_setCell _ _ _ _ (show k ≠ b from fun e => by subst e; rcases hz with hz | hz; omega; exact hn hz)).trans (h.block k hk hz)⟩
theorem Kt.cell {B : Nat} {w w1 : World} (h : Kt B w w1) {a : Addr} (ha : Oth w a.block) : w1.cell? a = w.cell? a := World.cell?_of_block (h.block a.block ha.lt (.inr ha))
/-- A list of bytes is kept where its block is. -/
theorem bts_keep {t : TypeId} {w w' : World} {B : Nat} {v : Value} {l : List UInt8} (h : Bts t w B v l) (hk : ∀ g, v.ownBlock = some g → w'.heap[g]? = w.heap[g]?) : Bts t w' B v l := by
  obtain ⟨hl, h⟩ := h
  refine ⟨hl, ?_⟩
  rcases h with h | ⟨g, cap, cur, h1, h2, h3, h4⟩
  · exact .inl h
  · exact .inr ⟨g, cap, cur, h1, h2, (hk g (by rw [h1]; rfl)).trans h3, h4⟩
theorem bts_own {t : TypeId} {w : World} {B : Nat} {v : Value} {l : List UInt8} (h : Bts t w B v l) {g : Nat} (hg : v.ownBlock = some g) : B ≤ g ∧ g < w.heap.size ∧ ∃ cur, w.heap[g]? = some (.cells cur t (0, 0)) := by
  rcases h.2 with ⟨rfl, _⟩ | ⟨g', cap, cur, rfl, h2, h3, _⟩
  · cases hg
  · simp [Value.ownBlock] at hg
    subst hg
    exact ⟨h2, lt_of_block h3, _, h3⟩
theorem bts_none (t : TypeId) (w : World) (B : Nat) : Bts t w B (.slice none 0 0) [] := ⟨rfl, .inl ⟨rfl, rfl⟩⟩
/-- Block b is the writer s: its bytes are vb, what was begun is vh. -/
structure WrE (B b : Nat) (w : World) (vb vh : Value) (s : WT) : Prop where
  blk : w.heap[b]? = some (.cells #[vb, vh, .int .i64 s.er] 55 (0, 0))
  l : Bts 5 w B vb s.out
  h : HRow w B vh s.l.reverse
  hb : B ≤ b
def WrX (B b : Nat) (w : World) (s : WT) : Prop := ∃ vb vh, WrE B b w vb vh s
/-- But for a writer's three blocks all stays; its lists lie where they lay, or are new. -/
structure Ky (b : Nat) (w w' : World) (vb vh vb' vh' : Value) : Prop where
  os : w'.os = w.os
  tape : w'.tape = w.tape
  output : w'.output = w.output
  size : w.heap.size ≤ w'.heap.size
  block : ∀ k, k < w.heap.size → k ≠ b → vb.ownBlock ≠ some k → vh.ownBlock ≠ some k → w'.heap[k]? = w.heap[k]?
  fb : ∀ g, vb'.ownBlock = some g → vb.ownBlock = some g ∨ w.heap.size ≤ g
  fh : ∀ g, vh'.ownBlock = some g → vh.ownBlock = some g ∨ w.heap.size ≤ g
theorem Ky.refl (b : Nat) (w : World) (vb vh : Value) : Ky b w w vb vh vb vh := ⟨rfl, rfl, rfl, Nat.le_refl _, fun _ _ _ _ _ => rfl, fun _ h => .inl h, fun _ h => .inl h⟩
theorem Ky.of_below {b : Nat} {w w' : World} {vb vh : Value} (h : Below w.heap.size w w') : Ky b w w' vb vh vb vh := ⟨h.os, h.tape, h.output, h.size, fun k hk _ _ _ => h.block k hk, fun _ h => .inl h, fun _ h => .inl h⟩
theorem Ky.drew {b : Nat} {w w' : World} {vb vh vb' vh' : Value} (h : Ky b w w' vb vh vb' vh') : Ky b w w'.drew vb vh vb' vh' := ⟨h.os, h.tape, h.output, h.size, h.block, h.fb, h.fh⟩
theorem Ky.trans {b : Nat} {w w1 w2 : World} {vb vh vb1 vh1 vb2 vh2 : Value} (h : Ky b w w1 vb vh vb1 vh1) (h2 : Ky b w1 w2 vb1 vh1 vb2 vh2) : Ky b w w2 vb vh vb2 vh2 := by
  refine ⟨h2.os.trans h.os, h2.tape.trans h.tape, h2.output.trans h.output, Nat.le_trans h.size h2.size, fun k hk n1 n2 n3 => ?_, fun g hg => ?_, fun g hg => ?_⟩
  · refine (h2.block k (Nat.lt_of_lt_of_le hk h.size) n1 (fun e => ?_) (fun e => ?_)).trans (h.block k hk n1 n2 n3)
    · exact (h.fb k e).elim n2 (fun e => by omega)
    · exact (h.fh k e).elim n3 (fun e => by omega)
  · exact (h2.fb g hg).elim (h.fb g) (fun e => .inr (Nat.le_trans h.size e))
  · exact (h2.fh g hg).elim (h.fh g) (fun e => .inr (Nat.le_trans h.size e))
/-- A list beside a writer. -/
def Apart (v : Value) (w : World) (b : Nat) (vb vh : Value) : Prop := ∀ g, v.ownBlock = some g → g < w.heap.size ∧ g ≠ b ∧ vb.ownBlock ≠ some g ∧ vh.ownBlock ≠ some g
theorem Ky.apart {b : Nat} {w w' : World} {vb vh vb' vh' v : Value} (k : Ky b w w' vb vh vb' vh') (ha : Apart v w b vb vh) : Apart v w' b vb' vh' := by
  intro g hg
  obtain ⟨h1, h2, h3, h4⟩ := ha g hg
  exact ⟨Nat.lt_of_lt_of_le h1 k.size, h2, fun e => (k.fb g e).elim h3 (fun e => by omega), fun e => (k.fh g e).elim h4 (fun e => by omega)⟩
theorem Ky.bts {t : TypeId} {b N : Nat} {w w' : World} {vb vh vb' vh' v : Value} {l : List UInt8} (k : Ky b w w' vb vh vb' vh') (ha : Apart v w b vb vh) (h : Bts t w N v l) : Bts t w' N v l :=
  bts_keep h fun g hg => by
    obtain ⟨h1, h2, h3, h4⟩ := ha g hg
    exact k.block g h1 h2 h3 h4
section
variable {B b : Nat} {w w1 w2 : World} {vb vh v' : Value} {s : WT}
theorem WrE.lt (h : WrE B b w vb vh s) : b < w.heap.size := lt_of_block h.blk
theorem WrE.hB (h : WrE B b w vb vh s) : B ≤ w.heap.size := Nat.le_of_lt (Nat.lt_of_le_of_lt h.hb h.lt)
theorem WrE.c0 (h : WrE B b w vb vh s) : w.cell? ⟨b, 0, none⟩ = some vb := by rw [cell_of_row w b 0 _ _ _ h.blk]; rfl
theorem WrE.c1 (h : WrE B b w vb vh s) : w.cell? ⟨b, 1, none⟩ = some vh := by rw [cell_of_row w b 1 _ _ _ h.blk]; rfl
theorem WrE.c2 (h : WrE B b w vb vh s) : w.cell? ⟨b, 2, none⟩ = some (.int .i64 s.er) := by rw [cell_of_row w b 2 _ _ _ h.blk]; rfl
theorem WrE.fr (h : WrE B b w vb vh s) (o : Nat) : w.frozen? ⟨b, o, none⟩ = false := by have := h.blk; simp [World.frozen?, this]
theorem WrE.nb (h : WrE B b w vb vh s) : ∀ g, vb.ownBlock = some g → g ≠ b := by
  rintro g hg rfl
  obtain ⟨_, _, cur, h1⟩ := bts_own h.l hg
  rw [h.blk] at h1
  simp at h1
theorem WrE.nh (h : WrE B b w vb vh s) : ∀ g, vh.ownBlock = some g → g ≠ b := by
  rintro g hg rfl
  obtain ⟨_, _, cur, h1⟩ := h.h.own hg
  rw [h.blk] at h1
  simp at h1
theorem WrE.nn (h : WrE B b w vb vh s) : ∀ g, vb.ownBlock = some g → vh.ownBlock ≠ some g := by
  intro g hg hg2
  obtain ⟨_, _, cur, h1⟩ := bts_own h.l hg
  obtain ⟨_, _, cur2, h2⟩ := h.h.own hg2
  rw [h1] at h2
  simp at h2
theorem no_oth {t : TypeId} {cs : Array Value} {z : Nat × Nat} {g : Nat} (h : w.heap[g]? = some (.cells cs t z)) (ht : t = 5 ∨ t = 55 ∨ t = 78) : ¬ Oth w g := by
  rintro ⟨cs', t', z', h', n1, n2, n3⟩
  rw [h] at h'
  simp only [Option.some.injEq, Obj.cells.injEq] at h'
  obtain ⟨_, rfl, _⟩ := h'
  rcases ht with e | e | e
  · exact n1 e
  · exact n2 e
  · exact n3 e
theorem WrE.ob (h : WrE B b w vb vh s) : ¬ Oth w b := no_oth h.blk (.inr (.inl rfl))
theorem WrE.next (h : WrE B b w vb vh s) (hb : Below w.heap.size w w1) : WrE B b w1 vb vh s :=
  ⟨(hb.block b h.lt).trans h.blk, h.l.below hb (Nat.le_refl _), h.h.keep fun g hg => hb.block g (h.h.own hg).2.1, h.hb⟩
theorem WrE.drew (h : WrE B b w vb vh s) : WrE B b w.drew vb vh s := h.next (Below.drewN (Below.refl _ _) 1)
theorem WrX.next (h : WrX B b w s) (hb : Below w.heap.size w w1) : WrX B b w1 s := by
  obtain ⟨vb, vh, h⟩ := h
  exact ⟨vb, vh, h.next hb⟩
/-- A store into a block that is none of its. -/
theorem WrE.other (h : WrE B b w vb vh s) {c : Nat} (ho : Only c w w1) (hc : Oth w c) : WrE B b w1 vb vh s := by
  have hk : ∀ g, g < w.heap.size → g ≠ c → w1.heap[g]? = w.heap[g]? := fun g hg hn => ho.block g hg hn
  refine ⟨(hk b h.lt (fun e => h.ob (e ▸ hc))).trans h.blk, bts_keep h.l fun g hg => ?_, h.h.keep fun g hg => ?_, h.hb⟩
  · obtain ⟨_, h2, cur, h3⟩ := bts_own h.l hg
    exact hk g h2 (fun e => no_oth h3 (.inl rfl) (e ▸ hc))
  · obtain ⟨_, h2, cur, h3⟩ := h.h.own hg
    exact hk g h2 (fun e => no_oth h3 (.inr (.inr rfl)) (e ▸ hc))
theorem WrX.other (h : WrX B b w s) {c : Nat} (ho : Only c w w1) (hc : Oth w c) : WrX B b w1 s := by
  obtain ⟨vb, vh, h⟩ := h
  exact ⟨vb, vh, h.other ho hc⟩
theorem Ky.kt {vb' vh' : Value} (k : Ky b w w1 vb vh vb' vh') (h : WrE B b w vb vh s) : Kt B w w1 := by
  refine ⟨k.os, k.tape, k.output, k.size, fun j hj hz => k.block j hj (fun e => ?_) (fun e => ?_) (fun e => ?_)⟩
  · subst e
    rcases hz with hz | hz
    · have := h.hb; omega
    · exact h.ob hz
  · obtain ⟨h1, _, cur, h3⟩ := bts_own h.l e
    rcases hz with hz | hz
    · omega
    · exact no_oth h3 (.inl rfl) hz
  · obtain ⟨h1, _, cur, h3⟩ := h.h.own e
    rcases hz with hz | hz
    · omega
    · exact no_oth h3 (.inr (.inr rfl)) hz
/-- What is made now lies beside a writer. -/
theorem WrE.apart {N : Nat} {t : TypeId} {v : Value} {l : List UInt8} (h : WrE B b w vb vh s) (hN : w.heap.size ≤ N) (hv : Bts t w1 N v l) : Apart v w1 b vb vh := by
  intro g hg
  obtain ⟨h1, h2, _⟩ := bts_own hv hg
  refine ⟨h2, fun e => by have := h.lt; omega, fun e => ?_, fun e => ?_⟩
  · have := (bts_own h.l e).2.1; omega
  · have := (h.h.own e).2.1; omega
/-- An error. -/
theorem WrE.setE (h : WrE B b w vb vh s) (c : Int) : WrE B b (w.setCell ⟨b, 2, none⟩ (.int .i64 c)) vb vh (s.bad c) ∧ Ky b w (w.setCell ⟨b, 2, none⟩ (.int .i64 c)) vb vh vb vh := by
  have hk : ∀ g, g ≠ b → (w.setCell ⟨b, 2, none⟩ (.int .i64 c)).heap[g]? = w.heap[g]? := fun g hg => RowKit.Below.heap_setCell _ _ _ _ hg
  exact ⟨⟨heap_setCell_block h.blk _, bts_keep h.l fun g hg => hk g (h.nb g hg), h.h.keep fun g hg => hk g (h.nh g hg), h.hb⟩, ⟨rfl, rfl, rfl, by simp, fun k _ n1 _ _ => hk k n1, fun _ h => .inl h, fun _ h => .inl h⟩⟩
theorem WrE.apL (h : WrE B b w vb vh s) (ha : Apc w w1 vb v') (o : Nat) : w1.heap[b]? = w.heap[b]? ∧ w1.cell? ⟨b, o, none⟩ = w.cell? ⟨b, o, none⟩ ∧ w1.frozen? ⟨b, o, none⟩ = false := by
  have e : w1.heap[b]? = w.heap[b]? := ha.gr.block b h.lt (fun e => h.nb b e.symm rfl)
  exact ⟨e, World.cell?_of_block e, by rw [← h.fr o]; simp [World.frozen?, e]⟩
theorem WrE.apH (h : WrE B b w vb vh s) (ha : Apc w w1 vh v') (o : Nat) : w1.heap[b]? = w.heap[b]? ∧ w1.cell? ⟨b, o, none⟩ = w.cell? ⟨b, o, none⟩ ∧ w1.frozen? ⟨b, o, none⟩ = false := by
  have e : w1.heap[b]? = w.heap[b]? := ha.gr.block b h.lt (fun e => h.nh b e.symm rfl)
  exact ⟨e, World.cell?_of_block e, by rw [← h.fr o]; simp [World.frozen?, e]⟩
theorem own_ne (ha : Apc w w1 vb v') (hn : ∀ g, vb.ownBlock = some g → g ≠ b) (hlt : b < w.heap.size) : ∀ g, v'.ownBlock = some g → g ≠ b := fun g hg => (ha.at_ g hg).elim (hn g) (fun e => by omega)
/-- The bytes, more of them, stored. -/
theorem WrE.stL {l' : List UInt8} (h : WrE B b w vb vh s) (ha : Apc w w1 vb v') (hl : Bts 5 w1 B v' l') : WrE B b (w1.setCell ⟨b, 0, none⟩ v') v' vh ⟨l', s.l, s.er⟩ ∧ Ky b w (w1.setCell ⟨b, 0, none⟩ v') vb vh v' vh := by
  have hblk := (h.apL ha 0).1.trans h.blk
  have hne := own_ne ha h.nb h.lt
  refine ⟨⟨heap_setCell_block hblk _, bts_keep hl fun g hg => RowKit.Below.heap_setCell _ _ _ _ (hne g hg), h.h.keep fun g hg => ?_, h.hb⟩, ?_⟩
  · exact (RowKit.Below.heap_setCell _ _ _ _ (h.nh g hg)).trans (ha.gr.block g (h.h.own hg).2.1 (fun e => h.nn g e.symm hg))
  · exact ⟨ha.gr.os, ha.gr.tape, ha.gr.output, by simp; exact ha.gr.size, fun k hk n1 n2 _ => (RowKit.Below.heap_setCell _ _ _ _ n1).trans (ha.gr.block k hk (fun e => n2 e.symm)), ha.at_, fun _ h => .inl h⟩
/-- One more that was begun, stored. -/
theorem WrE.stH {p : WP} (h : WrE B b w vb vh s) (ha : Apc w w1 vh v') (hl : HRow w1 B v' (s.l.reverse ++ [p])) : WrE B b (w1.setCell ⟨b, 1, none⟩ v') vb v' ⟨s.out, p :: s.l, s.er⟩ ∧ Ky b w (w1.setCell ⟨b, 1, none⟩ v') vb vh vb v' := by
  have hblk := (h.apH ha 0).1.trans h.blk
  have hne := own_ne ha h.nh h.lt
  refine ⟨⟨heap_setCell_block hblk _, bts_keep h.l fun g hg => ?_, ?_, h.hb⟩, ?_⟩
  · exact (RowKit.Below.heap_setCell _ _ _ _ (h.nb g hg)).trans (ha.gr.block g (bts_own h.l hg).2.1 (fun e => h.nn g hg e.symm))
  · show HRow _ B v' (p :: s.l).reverse
    rw [List.reverse_cons]
    exact hl.keep fun g hg => RowKit.Below.heap_setCell _ _ _ _ (hne g hg)
  · exact ⟨ha.gr.os, ha.gr.tape, ha.gr.output, by simp; exact ha.gr.size, fun k hk n1 _ n3 => (RowKit.Below.heap_setCell _ _ _ _ n1).trans (ha.gr.block k hk (fun e => n3 e.symm)), fun _ h => .inl h, ha.at_⟩
/-- The last that was begun, turned. -/
theorem WrE.stP {p q : WP} {ps : List WP} {g n cap i : Nat} (h : WrE B b w vb (.slice (some ⟨g, 0, none⟩) n cap) s) (hl : s.l = p :: ps) (hi : i < 4) (x : Value) (hq : (hV [p]).set i x = hV [q]) :
    WrE B b (w.setCell ⟨g, ps.length * 4 + i, none⟩ x) vb (.slice (some ⟨g, 0, none⟩) n cap) ⟨s.out, q :: ps, s.er⟩ ∧ Ky b w (w.setCell ⟨g, ps.length * 4 + i, none⟩ x) vb (.slice (some ⟨g, 0, none⟩) n cap) vb (.slice (some ⟨g, 0, none⟩) n cap) := by
  have hr := h.h
  rw [hl, List.reverse_cons] at hr
  have hp := hr.put hi x hq
  rw [List.length_reverse] at hp
  have hg := h.h.own (g := g) rfl
  have hgb := h.nh g rfl
  refine ⟨⟨(RowKit.Below.heap_setCell _ _ _ _ (show b ≠ g from fun e => hgb e.symm)).trans h.blk, bts_keep h.l fun k hk => RowKit.Below.heap_setCell _ _ _ _ (fun e => h.nn k hk (by rw [e]; rfl)), ?_, h.hb⟩, ?_⟩
  · show HRow _ B _ (q :: ps).reverse
    rw [List.reverse_cons]; exact hp
  · exact ⟨rfl, rfl, rfl, by simp, fun k _ _ _ n3 => RowKit.Below.heap_setCell _ _ _ _ (fun e => n3 (by rw [e]; rfl)), fun _ h => .inl h, fun _ h => .inl h⟩
/-- .. ended. -/
theorem WrE.stC {p : WP} {ps : List WP} {g n cap : Nat} (h : WrE B b w vb (.slice (some ⟨g, 0, none⟩) n cap) s) (hl : s.l = p :: ps) :
    WrE B b (w.setCell ⟨b, 1, none⟩ (.slice (some ⟨g, 0, none⟩) ps.length ps.length)) vb (.slice (some ⟨g, 0, none⟩) ps.length ps.length) ⟨s.out, ps, s.er⟩ ∧ Ky b w (w.setCell ⟨b, 1, none⟩ (.slice (some ⟨g, 0, none⟩) ps.length ps.length)) vb (.slice (some ⟨g, 0, none⟩) n cap) vb (.slice (some ⟨g, 0, none⟩) ps.length ps.length) := by
  have hr := h.h
  rw [hl, List.reverse_cons] at hr
  have hp := hr.cut
  rw [List.length_reverse] at hp
  have hk : ∀ k, k ≠ b → (w.setCell ⟨b, 1, none⟩ (.slice (some ⟨g, 0, none⟩) ps.length ps.length)).heap[k]? = w.heap[k]? := fun k hk => RowKit.Below.heap_setCell _ _ _ _ hk
  exact ⟨⟨heap_setCell_block h.blk _, bts_keep h.l fun k hk2 => hk k (h.nb k hk2), hp.keep fun k hk2 => hk k (h.nh k hk2), h.hb⟩, ⟨rfl, rfl, rfl, by simp, fun k _ n1 _ _ => hk k n1, fun _ h => .inl h, fun _ h => .inl h⟩⟩
end
def wantW (s : WT) (x : Bool) (c : Int) : WT := if x = false ∧ s.er = 0 then s.bad c else s
def layW (s : WT) (l : List UInt8) : WT := if s.er = 0 then ⟨s.out ++ l, s.l, s.er⟩ else s
def begW (s : WT) (p : WP) : WT := if s.er = 0 then ⟨s.out, p :: s.l, s.er⟩ else s
def entW (s : WT) (id : Int) (k : Nat) : WT := if s.er = 0 then (match s.l with
  | [] => wantW s (decide (k = 12)) 12
  | p :: ps => if p.li = true then ⟨s.out, { p with left := p.left - 1 } :: ps, (wantW s (decide (0 < p.left) && sameB p.kd k) 12).er⟩
    else ⟨s.out ++ hdB p.last id k, { p with last := id } :: ps, (wantW s (decide (0 < (hdB p.last id k).length)) 4).er⟩) else s
def roomW (s : WT) : WT := wantW s (decide (s.er ≠ 0) || decide (s.l.length < 32)) 33
def strW (s : WT) (id : Int) : WT := begW (entW (roomW s) id 12) ⟨false, 0, 0, 0⟩
def lstW (s : WT) (id n : Int) (k : Nat) : WT := begW (layW (entW (wantW (roomW s) (decide (0 < (lsB n k).length)) 4) id 9) (lsB n k)) ⟨true, 0, n, k⟩
def endW (s : WT) : WT := if s.er = 0 then (match s.l with
  | [] => s.bad 12
  | p :: ps => if p.left = 0 then ⟨if p.li = true then s.out else s.out ++ [0], ps, s.er⟩ else s.bad 12) else s
def isL (s : WT) : Bool := match s.l with
  | [] => false
  | p :: _ => p.li
def flgW (s : WT) (id : Int) (k : Nat) : WT := if (entW s id k).er = 0 ∧ isL (entW s id k) = true then layW (entW s id k) [UInt8.ofNat k] else entW s id k
def whoB (k : Nat) (n : Int) : List UInt8 := if k = 3 then [UInt8.ofNat (n % 256).toNat] else vB (zigI n).toNat
def whoW (s : WT) (id : Int) (k : Nat) (n : Int) : WT := layW (entW (wantW (wantW s (decide (0 < wBits k)) 7) (decide (fitC n (wBits k) = 0)) 4) id k) (whoB k n)
def dblW (s : WT) (id : Int) (u : Nat) : WT := layW (entW s id 7) (lowL u 8)
def txtW (s : WT) (id : Int) (t : List UInt8) : WT := layW (layW (entW s id 8) (vB t.length)) t
def pDo (s : WT) (o : WO) : WT :=
  if o.k = 123 then strW s o.id else if o.k = 91 then lstW s o.id o.n o.wh else if o.k = 101 then endW s
  else if o.k = 102 then flgW s o.id (if o.n = 1 then 1 else 2) else if o.k = 110 then whoW s o.id o.wh o.n else if o.k = 100 then dblW s o.id o.bt else txtW s o.id o.tx
/-- Alike: of one error; while there is none, the same. -/
def RelW (p d : WT) : Prop := p.er = d.er ∧ (d.er = 0 → p = d)
theorem RelW.refl (s : WT) : RelW s s := ⟨rfl, fun _ => rfl⟩
theorem RelW.bad {p d : WT} {c : Int} (hp : p.er = c) (hd : d.er = c) (hc : ¬ c = 0) : RelW p d := ⟨hp.trans hd.symm, fun e => absurd (hd.symm.trans e) hc⟩
section
variable {s : WT}
theorem wantW_er (h : ¬ s.er = 0) (x : Bool) (c : Int) : wantW s x c = s := by unfold wantW; rw [if_neg (fun e => h e.2)]
theorem wantW_yes (s : WT) (c : Int) : wantW s true c = s := by unfold wantW; rw [if_neg (fun e => by cases e.1)]
theorem wantW_no (h : s.er = 0) (c : Int) : wantW s false c = s.bad c := by unfold wantW; rw [if_pos ⟨rfl, h⟩]
theorem layW_er (h : ¬ s.er = 0) (l : List UInt8) : layW s l = s := by unfold layW; rw [if_neg h]
theorem layW_ok (h : s.er = 0) (l : List UInt8) : layW s l = ⟨s.out ++ l, s.l, s.er⟩ := by unfold layW; rw [if_pos h]
theorem begW_er (h : ¬ s.er = 0) (p : WP) : begW s p = s := by unfold begW; rw [if_neg h]
theorem begW_ok (h : s.er = 0) (p : WP) : begW s p = ⟨s.out, p :: s.l, s.er⟩ := by unfold begW; rw [if_pos h]
theorem entW_er (h : ¬ s.er = 0) (id : Int) (k : Nat) : entW s id k = s := by unfold entW; rw [if_neg h]
theorem roomW_er (h : ¬ s.er = 0) : roomW s = s := wantW_er h _ _
theorem entW_none (h : s.er = 0) (hl : s.l = []) (id : Int) (k : Nat) : entW s id k = wantW s (decide (k = 12)) 12 := by
  unfold entW; rw [if_pos h]
  simp only [hl]
theorem entW_list (h : s.er = 0) {p : WP} {ps : List WP} (hl : s.l = p :: ps) (hp : p.li = true) (id : Int) (k : Nat) : entW s id k = ⟨s.out, { p with left := p.left - 1 } :: ps, (wantW s (decide (0 < p.left) && sameB p.kd k) 12).er⟩ := by
  unfold entW; rw [if_pos h]
  simp only [hl]
  rw [if_pos hp]
theorem entW_strt (h : s.er = 0) {p : WP} {ps : List WP} (hl : s.l = p :: ps) (hp : ¬ p.li = true) (id : Int) (k : Nat) : entW s id k = ⟨s.out ++ hdB p.last id k, { p with last := id } :: ps, (wantW s (decide (0 < (hdB p.last id k).length)) 4).er⟩ := by
  unfold entW; rw [if_pos h]
  simp only [hl]
  rw [if_neg hp]
theorem endW_er (h : ¬ s.er = 0) : endW s = s := by unfold endW; rw [if_neg h]
theorem pDo_er (h : ¬ s.er = 0) (o : WO) : pDo s o = s := by
  unfold pDo strW lstW flgW whoW dblW txtW
  have e1 := entW_er h
  split
  · rw [roomW_er h, e1, begW_er h]
  split
  · rw [roomW_er h, wantW_er h, e1, layW_er h, begW_er h]
  split
  · exact endW_er h
  split
  · rw [e1, if_neg (fun e => h e.1)]
  split
  · rw [wantW_er h, wantW_er h, e1, layW_er h]
  split
  · rw [e1, layW_er h]
  · rw [e1, layW_er h, layW_er h]
theorem wDo_er (h : ¬ s.er = 0) (o : WO) : wDo s o = s := by unfold wDo; rw [if_pos h]
theorem hdB_len (last id : Int) (k : Nat) : decide (0 < (hdB last id k).length) = (numB id && kB k) := by
  cases hh : (numB id && kB k) with
  | true =>
    refine decide_eq_true ?_
    unfold hdB
    rw [if_pos hh]
    split <;> simp
  | false =>
    refine decide_eq_false ?_
    unfold hdB
    rw [if_neg (by rw [hh]; decide)]; simp
theorem lsB_len (n : Int) (k : Nat) : decide (0 < (lsB n k).length) = (cntB n && kB k) := by
  cases hh : (cntB n && kB k) with
  | true =>
    refine decide_eq_true ?_
    unfold lsB
    rw [if_pos hh]
    split <;> simp
  | false =>
    refine decide_eq_false ?_
    unfold lsB
    rw [if_neg (by rw [hh]; decide)]; simp
/-- What stands within each of what was begun. -/
def WfP (p : WP) : Prop := 0 ≤ p.left ∧ p.left ≤ 2147483647 ∧ p.kd < 256
def WfW (s : WT) : Prop := s.er = 0 → (∀ p ∈ s.l, WfP p) ∧ s.l.length ≤ 32
/-- A value is entered, its bytes are laid, it is begun. -/
def begO (o : WO) (t : WT) : WT := if o.k = 123 then begW t ⟨false, 0, 0, 0⟩ else if o.k = 91 then begW t ⟨true, 0, o.n, o.wh⟩ else t
theorem begO_er {o : WO} (h : ¬ s.er = 0) : begO o s = s := by
  unfold begO
  split
  · exact begW_er h _
  split
  · exact begW_er h _
  · rfl
theorem begO_lay {o : WO} (h : s.er = 0) (c : List UInt8) : begO o (layW s c) = wBegun ⟨s.out ++ c, s.l, s.er⟩ o := by
  rw [layW_ok h]
  have h' : (⟨s.out ++ c, s.l, s.er⟩ : WT).er = 0 := h
  unfold begO wBegun
  split
  · rw [begW_ok h']
  split
  · rw [begW_ok h']
  · rfl
theorem layW_nil (s : WT) : layW s [] = s := by
  unfold layW
  split
  · rw [List.append_nil]
  · rfl
theorem okd_no {o : WO} (hk : ¬ o.k = 123) (ha : wAlone s o = 0) : ¬ oKd o = 12 := by
  unfold oKd
  rw [if_neg hk]
  split
  · decide
  split
  · split <;> decide
  split
  · rename_i h1 h2 h3
    intro hw
    unfold wAlone at ha
    rw [if_neg (by omega), if_neg (by omega), if_pos h3, hw, if_pos (show wBits 12 = 0 by decide)] at ha
    exact absurd ha (by decide)
  split <;> decide
theorem RelW.lay {p d : WT} (h : RelW p d) (l : List UInt8) : RelW (layW p l) (layW d l) := by
  by_cases hd : d.er = 0
  · rw [h.2 hd]; exact RelW.refl _
  · have hp : ¬ p.er = 0 := by rw [h.1]; exact hd
    rw [layW_er hp, layW_er hd]; exact h
theorem RelW.beg {p d : WT} (h : RelW p d) (x : WP) : RelW (begW p x) (begW d x) := by
  by_cases hd : d.er = 0
  · rw [h.2 hd]; exact RelW.refl _
  · have hp : ¬ p.er = 0 := by rw [h.1]; exact hd
    rw [begW_er hp, begW_er hd]; exact h
theorem RelW.trans {a b c : WT} (h : RelW a b) (h2 : RelW b c) : RelW a c := ⟨h.1.trans h2.1, fun e => (h.2 (h2.1.trans e)).trans (h2.2 e)⟩
theorem of_eq {a b : WT} (h : a = b) : RelW a b := h ▸ RelW.refl _
theorem wDo_end (h : s.er = 0) {o : WO} (hk : o.k = 101) : wDo s o = wEnd s := by unfold wDo; rw [if_neg (fun x => x h), if_pos hk]
theorem wDo_bad (h : s.er = 0) {o : WO} (hk : ¬ o.k = 101) (ha : ¬ wAlone s o = 0) : wDo s o = s.bad (wAlone s o) := by unfold wDo; rw [if_neg (fun x => x h), if_neg hk, if_pos ha]
theorem val_rel (h : s.er = 0) (hw : WfW s) {o : WO} (hk : ¬ o.k = 101) (ha : wAlone s o = 0) : RelW (begO o (layW (entW s o.id (oKd o)) (wCont o (isL s)))) (wDo s o) := by
  unfold wDo
  rw [if_neg (fun x => x h), if_neg hk, if_neg (fun x => x ha)]
  have bad : ∀ t : WT, ∀ c : Int, ¬ c = 0 → t.er = c → RelW (begO o (layW t (wCont o (isL s)))) (s.bad c) := by
    intro t c hc ht
    have ht' : ¬ t.er = 0 := by rw [ht]; exact hc
    rw [layW_er ht', begO_er ht']
    exact RelW.bad ht rfl hc
  match hl : s.l with
  | [] =>
    simp only
    rw [entW_none h hl]
    by_cases h1 : o.k = 123
    · rw [if_neg (fun e => e h1)]
      have hd : oKd o = 12 := by unfold oKd; rw [if_pos h1]
      have hc : wCont o (isL s) = [] := by unfold wCont; rw [if_pos h1]
      rw [hd, decide_eq_true rfl, wantW_yes, hc, begO_lay h, List.append_nil]
      exact RelW.refl _
    · rw [if_pos h1, decide_eq_false (okd_no h1 ha), wantW_no h]
      exact bad _ 12 (by decide) rfl
  | p :: ps =>
    simp only
    have hp := (hw h).1 p (by rw [hl]; exact List.mem_cons_self)
    by_cases hli : p.li = true
    · have hL : isL s = true := by unfold isL; rw [hl]; exact hli
      rw [entW_list h hl hli, if_pos hli]
      by_cases hx : p.left = 0 ∨ sameB p.kd (oKd o) = false
      · rw [if_pos hx]
        have : (decide (0 < p.left) && sameB p.kd (oKd o)) = false := by
          rcases hx with e | e
          · rw [e]; rfl
          · rw [e, Bool.and_false]
        rw [this, wantW_no h]
        exact bad _ 12 (by decide) rfl
      · rw [if_neg hx]
        have : (decide (0 < p.left) && sameB p.kd (oKd o)) = true := by
          rw [decide_eq_true (by have := hp.1; have : ¬ p.left = 0 := fun e => hx (.inl e); omega)]
          cases hs : sameB p.kd (oKd o) with
          | true => rfl
          | false => exact absurd (.inr hs) hx
        rw [this, wantW_yes]
        have e := begO_lay (s := ⟨s.out, { p with left := p.left - 1 } :: ps, s.er⟩) (o := o) h (wCont o (isL s))
        rw [e, hL]
        exact RelW.refl _
    · have hL : isL s = false := by unfold isL; rw [hl]; exact (Bool.not_eq_true _).mp hli
      rw [entW_strt h hl hli, if_neg hli, hdB_len]
      cases hx : (numB o.id && kB (oKd o)) with
      | true =>
        rw [wantW_yes, if_neg (by decide)]
        have e := begO_lay (s := ⟨s.out ++ hdB p.last o.id (oKd o), { p with last := o.id } :: ps, s.er⟩) (o := o) h (wCont o (isL s))
        rw [e, hL, List.append_assoc]; exact RelW.refl _
      | false => rw [wantW_no h, if_pos rfl]; exact bad _ 4 (by decide) rfl
theorem isL_ent (h : s.er = 0) (id : Int) (k : Nat) : isL (entW s id k) = isL s := by
  match hl : s.l with
  | [] =>
    rw [entW_none h hl]
    unfold wantW
    split <;> rfl
  | p :: ps =>
    by_cases hli : p.li = true
    · rw [entW_list h hl hli]
      unfold isL; rw [hl]
    · rw [entW_strt h hl hli]
      unfold isL; rw [hl]
theorem fit_two (n : Int) {k : Nat} (h : ¬ wBits k = 0) : fitC n (wBits k) = 0 ∨ fitC n (wBits k) = 4 := by
  have hb : ¬ (wBits k < 1 ∨ 64 < wBits k) := by
    unfold wBits at h ⊢
    split
    · decide
    split
    · decide
    split
    · decide
    split
    · decide
    · simp_all
  unfold fitC
  rw [if_neg hb]
  split
  · exact .inl rfl
  · exact .inr rfl
theorem room_no (h : s.er = 0) (hl : 32 ≤ s.l.length) : roomW s = s.bad 33 := by
  unfold roomW
  rw [decide_eq_false (by omega), decide_eq_false (by omega)]
  exact wantW_no h 33
theorem room_yes (hl : ¬ 32 ≤ s.l.length) : roomW s = s := by
  unfold roomW
  rw [decide_eq_true (show s.l.length < 32 by omega), Bool.or_true, wantW_yes]
theorem pDo_same (h : s.er = 0) (hw : WfW s) (o : WO) : RelW (pDo s o) (wDo s o) := by
  unfold pDo
  by_cases h1 : o.k = 123
  · rw [if_pos h1]
    have hk : ¬ o.k = 101 := by omega
    unfold strW
    by_cases hr : 32 ≤ s.l.length
    · have ha : wAlone s o = 33 := by unfold wAlone; rw [if_pos ⟨.inl h1, hr⟩]
      rw [wDo_bad h hk (by rw [ha]; decide), ha, room_no h hr]
      have hb : ¬ (s.bad 33).er = 0 := by show ¬ (33 : Int) = 0; decide
      rw [entW_er hb, begW_er hb]
      exact RelW.refl _
    · have ha : wAlone s o = 0 := by unfold wAlone; rw [if_neg (fun e => hr e.2), if_neg (by omega), if_neg (by omega)]
      have := val_rel h hw hk ha
      have hd : oKd o = 12 := by unfold oKd; rw [if_pos h1]
      have hc : wCont o (isL s) = [] := by unfold wCont; rw [if_pos h1]
      rw [hd, hc, layW_nil] at this
      unfold begO at this
      rw [if_pos h1] at this
      rw [room_yes hr]
      exact this
  rw [if_neg h1]
  by_cases h2 : o.k = 91
  · rw [if_pos h2]
    have hk : ¬ o.k = 101 := by omega
    unfold lstW
    rw [lsB_len]
    by_cases hr : 32 ≤ s.l.length
    · have ha : wAlone s o = 33 := by unfold wAlone; rw [if_pos ⟨.inr h2, hr⟩]
      rw [wDo_bad h hk (by rw [ha]; decide), ha, room_no h hr]
      have hb : ¬ (s.bad 33).er = 0 := by show ¬ (33 : Int) = 0; decide
      rw [wantW_er hb, entW_er hb, layW_er hb, begW_er hb]
      exact RelW.refl _
    · rw [room_yes hr]
      cases hx : (cntB o.n && kB o.wh) with
      | false =>
        have ha : wAlone s o = 4 := by unfold wAlone; rw [if_neg (fun e => hr e.2), if_pos ⟨h2, hx⟩]
        rw [wDo_bad h hk (by rw [ha]; decide), ha, wantW_no h]
        have hb : ¬ (s.bad 4).er = 0 := by show ¬ (4 : Int) = 0; decide
        rw [entW_er hb, layW_er hb, begW_er hb]
        exact RelW.refl _
      | true =>
        have ha : wAlone s o = 0 := by unfold wAlone; rw [if_neg (fun e => hr e.2), if_neg (by rw [hx]; simp), if_neg (by omega)]
        have := val_rel h hw hk ha
        have hd : oKd o = 9 := by unfold oKd; rw [if_neg h1, if_pos h2]
        have hc : wCont o (isL s) = lsB o.n o.wh := by unfold wCont; rw [if_neg h1, if_pos h2]
        rw [hd, hc] at this
        unfold begO at this
        rw [if_neg h1, if_pos h2] at this
        rw [wantW_yes]
        exact this
  rw [if_neg h2]
  by_cases h3 : o.k = 101
  · rw [if_pos h3, wDo_end h h3]
    unfold endW wEnd
    rw [if_pos h]
    match hl : s.l with
    | [] => exact RelW.refl _
    | p :: ps =>
      have hp := (hw h).1 p (by rw [hl]; exact List.mem_cons_self)
      simp only
      by_cases h0 : p.left = 0
      · rw [if_pos h0, if_neg (show ¬ 0 < p.left by omega)]; exact RelW.refl _
      · rw [if_neg h0, if_pos (by have := hp.1; omega)]; exact RelW.refl _
  rw [if_neg h3]
  have alone : ¬ o.k = 110 → wAlone s o = 0 := by
    intro h5
    unfold wAlone
    rw [if_neg (by omega), if_neg (by omega), if_neg h5]
  have nob : ∀ t : WT, begO o t = t := by intro t; unfold begO; rw [if_neg h1, if_neg h2]
  by_cases h4 : o.k = 102
  · rw [if_pos h4]
    have := val_rel h hw h3 (alone (by omega))
    have hd : oKd o = if o.n = 1 then 1 else 2 := by unfold oKd; rw [if_neg h1, if_neg h2, if_pos h4]
    have hc : wCont o (isL s) = if isL s = true then [UInt8.ofNat (oKd o)] else [] := by unfold wCont; rw [if_neg h1, if_neg h2, if_pos h4]
    rw [nob, hc] at this
    rw [← hd]
    unfold flgW
    rw [isL_ent h]
    by_cases hi : isL s = true
    · rw [if_pos hi] at this
      by_cases he : (entW s o.id (oKd o)).er = 0
      · rw [if_pos ⟨he, hi⟩]; exact this
      · rw [if_neg (fun e => he e.1)]
        rw [layW_er he] at this; exact this
    · rw [if_neg hi, layW_nil] at this
      rw [if_neg (fun e => hi e.2)]; exact this
  rw [if_neg h4]
  by_cases h5 : o.k = 110
  · rw [if_pos h5]
    unfold whoW
    by_cases hb : wBits o.wh = 0
    · have ha : wAlone s o = 7 := by unfold wAlone; rw [if_neg (by omega), if_neg (by omega), if_pos h5, if_pos hb]
      rw [wDo_bad h h3 (by rw [ha]; decide), ha, decide_eq_false (show ¬ 0 < wBits o.wh by omega), wantW_no h]
      have hb : ¬ (s.bad 7).er = 0 := by show ¬ (7 : Int) = 0; decide
      rw [wantW_er hb, entW_er hb, layW_er hb]
      exact RelW.refl _
    · have hpos : 0 < wBits o.wh := by
        unfold wBits at hb ⊢
        split
        · decide
        split
        · decide
        split
        · decide
        split
        · decide
        · simp_all
      have ha : wAlone s o = fitC o.n (wBits o.wh) := by unfold wAlone; rw [if_neg (by omega), if_neg (by omega), if_pos h5, if_neg hb]
      rw [decide_eq_true hpos, wantW_yes]
      rcases fit_two o.n hb with hf | hf
      · have := val_rel h hw h3 (ha.trans hf)
        have hd : oKd o = o.wh := by unfold oKd; rw [if_neg h1, if_neg h2, if_neg h4, if_pos h5]
        have hc : wCont o (isL s) = whoB o.wh o.n := by unfold wCont whoB; rw [if_neg h1, if_neg h2, if_neg h4, if_pos h5]
        rw [nob, hd, hc] at this
        rw [hf, decide_eq_true rfl, wantW_yes]; exact this
      · rw [wDo_bad h h3 (by rw [ha, hf]; decide), ha, hf, decide_eq_false (show ¬ (4 : Int) = 0 by decide), wantW_no h]
        have hb : ¬ (s.bad 4).er = 0 := by show ¬ (4 : Int) = 0; decide
        rw [entW_er hb, layW_er hb]
        exact RelW.refl _
  rw [if_neg h5]
  have := val_rel h hw h3 (alone h5)
  rw [nob] at this
  by_cases h6 : o.k = 100
  · rw [if_pos h6]
    have hd : oKd o = 7 := by unfold oKd; rw [if_neg h1, if_neg h2, if_neg h4, if_neg h5, if_pos h6]
    have hc : wCont o (isL s) = lowL o.bt 8 := by unfold wCont; rw [if_neg h1, if_neg h2, if_neg h4, if_neg h5, if_pos h6]
    rw [hd, hc] at this
    exact this
  · rw [if_neg h6]
    have hd : oKd o = 8 := by unfold oKd; rw [if_neg h1, if_neg h2, if_neg h4, if_neg h5, if_neg h6]
    have hc : wCont o (isL s) = vB o.tx.length ++ o.tx := by unfold wCont; rw [if_neg h1, if_neg h2, if_neg h4, if_neg h5, if_neg h6]
    rw [hd, hc] at this
    unfold txtW
    have e : layW (layW (entW s o.id 8) (vB o.tx.length)) o.tx = layW (entW s o.id 8) (vB o.tx.length ++ o.tx) := by
      by_cases he : (entW s o.id 8).er = 0
      · have h' : (⟨(entW s o.id 8).out ++ vB o.tx.length, (entW s o.id 8).l, (entW s o.id 8).er⟩ : WT).er = 0 := he
        rw [layW_ok he, layW_ok h', layW_ok he, List.append_assoc]
      · rw [layW_er he, layW_er he, layW_er he]
    rw [e]; exact this
theorem pDo_rel {p d : WT} (h : RelW p d) (hw : WfW d) (o : WO) : RelW (pDo p o) (wDo d o) := by
  by_cases hd : d.er = 0
  · rw [h.2 hd]; exact pDo_same hd hw o
  · have hp : ¬ p.er = 0 := by rw [h.1]; exact hd
    rw [pDo_er hp, wDo_er hd]; exact h
/-- What was begun stays well. -/
theorem wf_do (hw : WfW s) {o : WO} (hk8 : o.wh < 256) : WfW (wDo s o) := by
  by_cases h : s.er = 0
  · obtain ⟨h1, h2⟩ := hw h
    unfold wDo
    rw [if_neg (fun x => x h)]
    by_cases hk : o.k = 101
    · rw [if_pos hk]
      unfold wEnd
      match hl : s.l with
      | [] => exact fun e => absurd (show (12 : Int) = 0 from e) (by decide)
      | p :: ps =>
        simp only
        rw [hl] at h1 h2
        split
        · exact fun e => absurd (show (12 : Int) = 0 from e) (by decide)
        · exact fun _ => ⟨fun q hq => h1 q (List.mem_cons_of_mem _ hq), by simp at h2; show ps.length ≤ 32; omega⟩
    · rw [if_neg hk]
      by_cases ha : wAlone s o = 0
      · rw [if_neg (fun x => x ha)]
        have hroom : o.k = 123 ∨ o.k = 91 → s.l.length ≤ 31 := by
          intro hb
          rcases Nat.lt_or_ge 31 s.l.length with hx | hx
          · unfold wAlone at ha
            rw [if_pos ⟨hb, by omega⟩] at ha; exact absurd ha (by decide)
          · exact hx
        have hcnt : o.k = 91 → 0 ≤ o.n ∧ o.n ≤ 2147483647 := by
          intro hb
          cases hc : (cntB o.n && kB o.wh) with
          | true =>
            rw [Bool.and_eq_true] at hc
            have := cntB_yes hc.1; omega
          | false =>
            unfold wAlone at ha
            rw [if_neg (fun x => by have := hroom x.1; omega), if_pos ⟨hb, hc⟩] at ha
            exact absurd ha (by decide)
        have beg : ∀ t : WT, t.er = 0 → (∀ p ∈ t.l, WfP p) → t.l.length = s.l.length → WfW (wBegun t o) := by
          intro t ht hp hlen
          unfold wBegun
          split
          · rename_i h5
            refine fun _ => ⟨fun q hq => ?_, by have := hroom (.inl h5); show (_ :: t.l).length ≤ 32; rw [List.length_cons, hlen]; omega⟩
            rcases List.mem_cons.mp hq with rfl | hq
            · exact ⟨by show (0 : Int) ≤ 0; decide, by show (0 : Int) ≤ 2147483647; decide, by show 0 < 256; decide⟩
            · exact hp q hq
          split
          · rename_i h4 h5
            refine fun _ => ⟨fun q hq => ?_, by have := hroom (.inr h5); show (_ :: t.l).length ≤ 32; rw [List.length_cons, hlen]; omega⟩
            rcases List.mem_cons.mp hq with rfl | hq
            · exact ⟨(hcnt h5).1, (hcnt h5).2, hk8⟩
            · exact hp q hq
          · exact fun _ => ⟨hp, by rw [hlen]; exact h2⟩
        match hl : s.l with
        | [] =>
          simp only
          split
          · exact fun e => absurd (show (12 : Int) = 0 from e) (by decide)
          · exact beg s h h1 rfl
        | p :: ps =>
          simp only
          have hp := h1 p (by rw [hl]; exact List.mem_cons_self)
          have hps : ∀ q ∈ ps, WfP q := fun q hq => h1 q (by rw [hl]; exact List.mem_cons_of_mem _ hq)
          split
          · split
            · exact fun e => absurd (show (12 : Int) = 0 from e) (by decide)
            · rename_i hx
              refine beg _ h (fun q hq => ?_) (by rw [hl]; rfl)
              rcases List.mem_cons.mp hq with rfl | hq
              · have : ¬ p.left = 0 := fun e => hx (.inl e)
                exact ⟨by have := hp.1; show 0 ≤ p.left - 1; omega, by have := hp.2.1; show p.left - 1 ≤ 2147483647; omega, hp.2.2⟩
              · exact hps q hq
          · split
            · exact fun e => absurd (show (4 : Int) = 0 from e) (by decide)
            · refine beg _ h (fun q hq => ?_) (by rw [hl]; rfl)
              rcases List.mem_cons.mp hq with rfl | hq
              · exact hp
              · exact hps q hq
      · rw [if_pos ha]; exact fun e => absurd e ha
  · rw [wDo_er h]; exact hw
end
section
variable {B b : Nat} {w : World} {vb vh : Value} {s : WT}
theorem cwrests_any (h : WrE B b w vb vh s) : Calls Tryd.prog 45 #[.pointer (some ⟨b, 0, none⟩)] w fun e w' => e = .returned (.bool (decide (s.er ≠ 0))) ∧ w' = w := by
  have c2 := h.c2
  clear h
  generalize s.er = c at *
  by_cases hc : c = 0
  · subst hc
    go_enter Tryd.func45, Tryd.ntmps45
    go_wp2
    go_ret
    exact ⟨rfl, rfl⟩
  · have p1 : (c != 0) = true := bne_iff_ne.mpr hc
    have HD := Lib.hid (show decide (c ≠ 0) = true from decide_eq_true hc)
    clear hc
    go_enter Tryd.func45, Tryd.ntmps45
    go_wp2
    go_ret
    exact ⟨by rw [HD.out]; rfl, rfl⟩
theorem cwrests_nil (w : World) : Calls Tryd.prog 45 #[.pointer none] w fun e w' => e = .returned (.bool true) ∧ w' = w := by
  go_enter Tryd.func45, Tryd.ntmps45
  go_wp2
  go_ret
  exact ⟨rfl, rfl⟩
theorem cwwant_any (h : WrE B b w vb vh s) (x : Bool) (c : Int) : Calls Tryd.prog 38 #[.pointer (some ⟨b, 0, none⟩), .bool x, .int .i64 c] w fun e w' => e = .returned (.tuple #[]) ∧ WrE B b w' vb vh (wantW s x c) ∧ Ky b w w' vb vh vb vh := by
  cases x with
  | true =>
    have H := Lib.hid h
    have HX := Lib.hid (wantW_yes s c)
    clear h
    go_enter Tryd.func38, Tryd.ntmps38
    go_wp2
    go_end0
    exact ⟨rfl, by rw [HX.out]; exact H.out, Ky.refl _ _ _ _⟩
  | false =>
    have HR := Lib.hid (cwrests_any h)
    by_cases he : s.er = 0
    · have c2 := h.c2
      have f2 := h.fr 2
      have HX := Lib.hid (wantW_no he c)
      have H := Lib.hid (h.setE c)
      rw [decide_eq_false (fun x => x he)] at HR
      clear h he
      go_enter Tryd.func38, Tryd.ntmps38
      go_wp2_with fail
      refine HR.out.mono ?_
      rintro e w1 ⟨rfl, hw⟩
      rw [hw]; clear hw
      go_wp2
      go_end0
      exact ⟨rfl, by rw [HX.out]; exact H.out.1, H.out.2⟩
    · have H := Lib.hid h
      have HX := Lib.hid (wantW_er he false c)
      rw [decide_eq_true he] at HR
      clear h he
      go_enter Tryd.func38, Tryd.ntmps38
      go_wp2_with fail
      refine HR.out.mono ?_
      rintro e w1 ⟨rfl, hw⟩
      rw [hw]; clear hw
      go_wp2
      go_end0
      exact ⟨rfl, by rw [HX.out]; exact H.out, Ky.refl _ _ _ _⟩
theorem cwwant_nil (w : World) (x : Bool) (c : Int) : Calls Tryd.prog 38 #[.pointer none, .bool x, .int .i64 c] w fun e w' => e = .returned (.tuple #[]) ∧ w' = w := by
  have HR := Lib.hid (cwrests_nil w)
  cases x with
  | true =>
    go_enter Tryd.func38, Tryd.ntmps38
    go_wp2
    go_end0
    exact ⟨rfl, rfl⟩
  | false =>
    go_enter Tryd.func38, Tryd.ntmps38
    go_wp2_with fail
    refine HR.out.mono ?_
    rintro e w1 ⟨rfl, hw⟩
    rw [hw]; clear hw
    go_wp2
    go_end0
    exact ⟨rfl, rfl⟩
theorem cwroom_any (h : WrE B b w vb vh s) : Calls Tryd.prog 34 #[.pointer (some ⟨b, 0, none⟩)] w fun e w' => e = .returned (.tuple #[]) ∧ WrE B b w' vb vh (roomW s) ∧ Ky b w w' vb vh vb vh := by
  have HR := Lib.hid (cwrests_any h)
  have c1 := h.c1
  by_cases he : s.er = 0
  · obtain ⟨a, cap, rfl⟩ := h.h.form
    rw [List.length_reverse] at c1
    obtain ⟨x, hx⟩ : ∃ x, x = decide (s.l.length < 32) := ⟨_, rfl⟩
    have p1 : decide ((s.l.length : Int) < 32) = x := by rw [hx]; apply decide_eq_decide.mpr; omega
    have HW := Lib.hid (cwwant_any h x 33)
    have HX := Lib.hid (show roomW s = wantW s x 33 by unfold roomW; rw [decide_eq_false (fun x => x he), Bool.false_or, hx])
    rw [decide_eq_false (fun x => x he)] at HR
    clear h he
    simp only [List.length_reverse] at HW ⊢
    generalize s.l.length = n at *
    clear hx
    cases x
    all_goals (
      go_enter Tryd.func34, Tryd.ntmps34
      go_wp2_with fail
      refine HR.out.mono ?_
      rintro e w1 ⟨rfl, hw⟩
      rw [hw]; clear hw
      go_wp2_with fail
      refine HW.out.mono ?_
      rintro e w2 ⟨rfl, h2, k2⟩
      have H2 := Lib.hid h2
      have K2 := Lib.hid k2
      clear h2 k2
      go_wp2
      go_end0
      exact ⟨rfl, by rw [HX.out]; exact H2.out, K2.out⟩)
  · have HW := Lib.hid (cwwant_any h true 33)
    have HX := Lib.hid (show roomW s = wantW s true 33 by rw [roomW_er he, wantW_yes])
    rw [decide_eq_true he] at HR
    clear h he
    go_enter Tryd.func34, Tryd.ntmps34
    go_wp2_with fail
    refine HR.out.mono ?_
    rintro e w1 ⟨rfl, hw⟩
    rw [hw]; clear hw
    go_wp2_with fail
    refine HW.out.mono ?_
    rintro e w2 ⟨rfl, h2, k2⟩
    have H2 := Lib.hid h2
    have K2 := Lib.hid k2
    clear h2 k2
    go_wp2
    go_end0
    exact ⟨rfl, by rw [HX.out]; exact H2.out, K2.out⟩
theorem cwinner_none (h : WrE B b w vb vh s) (hn : ¬ s.er = 0 ∨ s.l = []) : Calls Tryd.prog 44 #[.pointer (some ⟨b, 0, none⟩)] w fun e w' => e = .returned (.pointer none) ∧ w' = w := by
  have HR := Lib.hid (cwrests_any h)
  have c1 := h.c1
  by_cases he : s.er = 0
  · obtain ⟨a, cap, rfl⟩ := h.h.form
    have hl : s.l = [] := hn.resolve_left (fun x => x he)
    rw [hl] at c1
    simp only [List.reverse_nil, List.length_nil] at c1
    rw [decide_eq_false (fun x => x he)] at HR
    clear h he hn hl
    go_enter Tryd.func44, Tryd.ntmps44
    go_wp2_with fail
    refine HR.out.mono ?_
    rintro e w1 ⟨rfl, hw⟩
    rw [hw]; clear hw
    go_wp2
    go_ret
    exact ⟨rfl, rfl⟩
  · rw [decide_eq_true he] at HR
    clear h he hn
    go_enter Tryd.func44, Tryd.ntmps44
    go_wp2_with fail
    refine HR.out.mono ?_
    rintro e w1 ⟨rfl, hw⟩
    rw [hw]; clear hw
    go_wp2
    go_ret
    exact ⟨rfl, rfl⟩
theorem cwinner_nil (w : World) : Calls Tryd.prog 44 #[.pointer none] w fun e w' => e = .returned (.pointer none) ∧ w' = w := by
  have HR := Lib.hid (cwrests_nil w)
  go_enter Tryd.func44, Tryd.ntmps44
  go_wp2_with fail
  refine HR.out.mono ?_
  rintro e w1 ⟨rfl, hw⟩
  rw [hw]; clear hw
  go_wp2
  go_ret
  exact ⟨rfl, rfl⟩
/-- What was begun last. -/
theorem cwinner_some {g n cap : Nat} {p : WP} {ps : List WP} (h : WrE B b w vb (.slice (some ⟨g, 0, none⟩) n cap) s) (he : s.er = 0) (hl : s.l = p :: ps) (hs : ps.length ≤ 1099511627776) :
    Calls Tryd.prog 44 #[.pointer (some ⟨b, 0, none⟩)] w fun e w' => e = .returned (.pointer (some ⟨g, ps.length * 4, none⟩)) ∧ Below w.heap.size w w' := by
  have HR := Lib.hid (cwrests_any h)
  have c1 := h.c1
  have hn : n = ps.length + 1 := by
    have := h.h
    rw [hl, List.reverse_cons] at this
    obtain ⟨g', cap', e, _⟩ := this.top
    simp only [Value.slice.injEq, List.length_reverse] at e
    exact e.2.1
  rw [decide_eq_false (fun x => x he)] at HR
  clear h he hl
  generalize ps.length = m at *
  subst hn
  have p1 : (((m + 1 : Nat) : Int) == 0) = false := beq_eq_false_iff_ne.mpr (by omega)
  have p2 : decide (m + 1 = 0) = false := decide_eq_false (by omega)
  have zw : IntKind.i64.wrap (((m + 1 : Nat) : Int) - 1) = (m : Int) := by rw [IntWalk.i64_in _ (by omega)]; omega
  have q1 : (0 : Int) ≤ (m : Int) := by omega
  have q2 : (m : Int) < ((m + 1 : Nat) : Int) := by omega
  go_enter Tryd.func44, Tryd.ntmps44
  go_wp2_with fail
  refine HR.out.mono ?_
  rintro e w1 ⟨rfl, hw⟩
  rw [hw]; clear hw
  go_wp2_with fail
  go_quiet (fail)
  go_wp2
  go_ret
  exact ⟨by simp, Below.drewN (Below.refl _ _) _⟩
theorem cwlay_nil (w : World) (v : Value) : Calls Tryd.prog 40 #[.pointer none, v] w fun e w' => e = .returned (.tuple #[]) ∧ w' = w := by
  have HR := Lib.hid (cwrests_nil w)
  go_enter Tryd.func40, Tryd.ntmps40
  go_wp2_with fail
  refine HR.out.mono ?_
  rintro e w1 ⟨rfl, hw⟩
  rw [hw]; clear hw
  go_wp2
  go_end0
  exact ⟨rfl, rfl⟩
/-- 'append(w.bytes, bytes...)': the bytes lie anywhere. -/
theorem step_lay {ops : Array Oper} {rest : List Oper} {o : Oper} {a : Act} {w : World} {Q : Exit → Act → World → Prop} (hgd : o.guard = none) (sl x : Operand) (t : TypeId)
    (ho : o.op = .call { callee := .builtin .append, args := #[sl, x], argTypes := #[t, t] }) (ht : Tryd.prog.underlying t = some (.slice 5))
    (v : Value) (B : Nat) (l : List UInt8) (hb : Bts 5 w B v l) (hB : B ≤ w.heap.size) (hs : a.eval sl = v)
    (v2 : Value) (m : List UInt8) (h2 : SlB w v2 m) (hx : a.eval x = v2) (hlen : l.length + m.length ≤ 140737488355328)
    (h : ∀ ad n cp w', Bts 5 w' B (.slice ad n cp) (l ++ m) → Apc w w' v (.slice ad n cp) → wpList Tryd.prog ops Q rest (a.put o.dst (.slice ad n cp)) w') : wpList Tryd.prog ops Q (o :: rest) a w := by
  obtain ⟨i, hi, hz, hsize, hby⟩ := info_parts info8
  obtain ⟨ao, cap, rfl, hcap, hin⟩ := h2
  have key : ∃ v' w', (Builtin.append_ #[t, t] o.type #[v, .slice ao m.length cap]).run Tryd.prog w = .ok v' w' ∧ Bts 5 w' B v' (l ++ m) ∧ Apc w w' v v' := by
    match m, hin, hlen with
    | [], _, _ =>
      refine ⟨v, w, ?_, by rw [List.append_nil]; exact hb, ⟨⟨rfl, rfl, rfl, Nat.le_refl _, fun _ _ _ => rfl⟩, fun g hg => .inl hg⟩⟩
      have hf : ∃ ab nb cb, v = .slice ab nb cb ∧ nb ≤ cb := by
        rcases hb.2 with ⟨rfl, _⟩ | ⟨g, c, cur, rfl, _, _, hc, _⟩
        · exact ⟨_, _, _, rfl, Nat.le_refl _⟩
        · exact ⟨_, _, _, rfl, hc⟩
      obtain ⟨ab, nb, cb, rfl, hcb⟩ := hf
      cases ao <;> cases ab <;> simp [Builtin.append_, run_underlying ht, sizeOf, typeInfo, hi, Builtin.lenOf, Builtin.firstCells, loadCells, loadCellsFrom, storeCells, hcb]
    | y :: m, hin, hlen =>
      obtain ⟨g, off, rfl, _, _⟩ := hin 0 (by simp)
      have hnews : ∀ j u, (bV (y :: m))[j]? = some u → w.cell? ((⟨g, off, none⟩ : Addr).add j) = some u := by
        intro j u hu
        have hj : j < (y :: m).length := by
          have := (List.getElem?_eq_some_iff.1 hu).1
          rwa [bV_length] at this
        obtain ⟨g', off', e, _, hc⟩ := hin j hj
        simp only [Option.some.injEq, Addr.mk.injEq] at e
        obtain ⟨rfl, rfl, _⟩ := e
        rw [add_at, hc, ← bV_get _ j hj]; exact hu
      obtain ⟨g', cap', w', hr, h3, h4, h5, _⟩ := run_append_lies (P := Tryd.prog) w t o.type B 5 i (.int .u8 0) 1 1 ht hi hz hsize hby rfl (by decide) v l.length (bV l) hb ⟨g, off, none⟩ (y :: m).length cap (bV (y :: m)) (by rw [bV_length, Nat.mul_one]) hnews (bV_one _) (by simp) (by unfold maxLen; omega) (by omega) hB _ rfl
      refine ⟨_, w', hr, ?_, ⟨h4, fun k hk => ?_⟩⟩
      · unfold Bts
        rw [bV_append, List.length_append]
        exact h3
      · have hk2 : g' = k := by simpa [Value.ownBlock] using hk
        subst hk2
        rcases h5 with e | e
        · exact .inl e
        · exact .inr (by rw [e]; exact Nat.le_refl _)
  obtain ⟨v', w', hr, k1, k2⟩ := key
  obtain ⟨ad, n, cp, rfl⟩ : ∃ ad n cp, v' = .slice ad n cp := by
    rcases k1.2 with ⟨rfl, _⟩ | ⟨g, c, cur, rfl, _⟩
    · exact ⟨_, _, _, rfl⟩
    · exact ⟨_, _, _, rfl⟩
  refine wpList_plain hgd fun K hK => ?_
  unfold Oper.wp execOp
  simp only [ho, resolve, invoke, builtin, Sem.run_bind, Sem.run_pure, Result.andThen_ok, List.map_toArray, List.map_cons, List.map_nil, hs, hx, hr]
  exact hK _ _ (h ad n cp w' k1 k2)
set_option maxRecDepth 20000 in
theorem cwlay_any (h : WrE B b w vb vh s) (v : Value) (l : List UInt8) (hl : SlB w v l) (hs : s.er = 0 → s.out.length + l.length ≤ 140737488355328) :
    Calls Tryd.prog 40 #[.pointer (some ⟨b, 0, none⟩), v] w fun e w' => e = .returned (.tuple #[]) ∧ ∃ vb', WrE B b w' vb' vh (layW s l) ∧ Ky b w w' vb vh vb' vh := by
  have HR := Lib.hid (cwrests_any h)
  by_cases he : s.er = 0
  · have c0 := h.c0
    have H := Lib.hid h
    have HX := Lib.hid (layW_ok he l)
    have hB := h.hB
    have hb := h.l
    rw [decide_eq_false (fun x => x he)] at HR
    have hs := hs he
    clear h he
    go_enter Tryd.func40, Tryd.ntmps40
    go_wp2_with fail
    refine HR.out.mono ?_
    rintro e w1 ⟨rfl, hw⟩
    rw [hw]; clear hw
    go_wp2_with (at_builtin; go_loud (refine step_lay rfl (.tmp 11) (.tmp 12) 52 rfl Tryd.underlying52 vb B s.out hb hB rfl v l hl rfl hs ?_; intro ad1 n1 cp1 w1 hb1 ha1; obtain ⟨_, d0, f0⟩ := H.out.apL ha1 0; rw [c0] at d0; have H1 := Lib.hid (H.out.stL ha1 hb1); clear hb1 ha1))
    go_end0
    exact ⟨rfl, _, by rw [HX.out]; exact H1.out.1, H1.out.2⟩
  · have H := Lib.hid h
    have HX := Lib.hid (layW_er he l)
    rw [decide_eq_true he] at HR
    clear h he
    go_enter Tryd.func40, Tryd.ntmps40
    go_wp2_with fail
    refine HR.out.mono ?_
    rintro e w1 ⟨rfl, hw⟩
    rw [hw]; clear hw
    go_wp2
    go_end0
    exact ⟨rfl, _, by rw [HX.out]; exact H.out, Ky.refl _ _ _ _⟩
def hpV (p : WP) : Value := .agg #[.int .i64 p.last, .bool p.li, .int .u8 (p.kd : Nat), .int .i64 p.left]
set_option maxRecDepth 20000 in
set_option maxHeartbeats 1000000 in
theorem cwbegin_any (h : WrE B b w vb vh s) (p : WP) (hs : s.er = 0 → s.l.length ≤ 1099511627776) :
    Calls Tryd.prog 36 #[.pointer (some ⟨b, 0, none⟩), hpV p] w fun e w' => e = .returned (.tuple #[]) ∧ ∃ vh', WrE B b w' vb vh' (begW s p) ∧ Ky b w w' vb vh vb vh' := by
  have hb0 : Below w.heap.size w (w.alloc (.cells #[.int .i64 p.last, .bool p.li, .int .u8 (p.kd : Nat), .int .i64 p.left] 78)) := (Below.refl _ w).alloc (Nat.le_refl _) _
  have n0 : (w.alloc (.cells #[.int .i64 p.last, .bool p.li, .int .u8 (p.kd : Nat), .int .i64 p.left] 78)).heap[w.heap.size]? = some (.cells #[.int .i64 p.last, .bool p.li, .int .u8 (p.kd : Nat), .int .i64 p.left] 78 (0, 0)) := heap_alloc_new w _
  have h0 := h.next hb0
  obtain ⟨w0, hw0⟩ : ∃ w0, w0 = w.alloc (.cells #[.int .i64 p.last, .bool p.li, .int .u8 (p.kd : Nat), .int .i64 p.left] 78) := ⟨_, rfl⟩
  rw [← hw0] at hb0 n0 h0
  have HR := Lib.hid (cwrests_any h0)
  have K0 := Lib.hid (Ky.of_below (b := b) (vb := vb) (vh := vh) hb0)
  unfold hpV
  by_cases he : s.er = 0
  · have HX := Lib.hid (begW_ok he p)
    have H := Lib.hid h0
    have c1 := h0.drew.c1
    have q0 : w0.drew.cell? ⟨w.heap.size, 0, none⟩ = some (.int .i64 p.last) := by rw [cell_of_row w0.drew _ 0 _ _ _ n0]; rfl
    have q1 : w0.drew.cell? ⟨w.heap.size, 1, none⟩ = some (.bool p.li) := by rw [cell_of_row w0.drew _ 1 _ _ _ n0]; rfl
    have q2 : w0.drew.cell? ⟨w.heap.size, 2, none⟩ = some (.int .u8 (p.kd : Nat)) := by rw [cell_of_row w0.drew _ 2 _ _ _ n0]; rfl
    have q3 : w0.drew.cell? ⟨w.heap.size, 3, none⟩ = some (.int .i64 p.left) := by rw [cell_of_row w0.drew _ 3 _ _ _ n0]; rfl
    rw [decide_eq_false (fun x => x he)] at HR
    have hb1 : Below w0.drew.heap.size w0.drew (w0.drew.alloc (.cells #[.int .i64 p.last, .bool p.li, .int .u8 (p.kd : Nat), .int .i64 p.left] 78)) := (Below.refl _ _).alloc (Nat.le_refl _) _
    have n1 : (w0.drew.alloc (.cells #[.int .i64 p.last, .bool p.li, .int .u8 (p.kd : Nat), .int .i64 p.left] 78)).heap[w0.drew.heap.size]? = some (.cells (hV [p]).toArray 78 (0, 0)) := heap_alloc_new w0.drew _
    have H1 := Lib.hid (h0.drew.next hb1)
    have K1 := Lib.hid ((K0.out.drew).trans (Ky.of_below hb1))
    have HN := Lib.hid n1
    have d1 := (h0.next ((Below.refl _ _).alloc (Nat.le_refl _) (.cells #[.int .i64 p.last, .bool p.li, .int .u8 (p.kd : Nat), .int .i64 p.left] 78))).c1
    have hlen : s.l.reverse.length ≤ 1099511627776 := by rw [List.length_reverse]; exact hs he
    clear h he h0 n0 hb0 K0 H hb1 n1
    go_enter Tryd.func36, Tryd.ntmps36
    go_upto_region 1 with fail
    rw [← hw0]
    clear hw0
    go_wp2_with fail
    refine HR.out.mono ?_
    rintro e w1 ⟨rfl, hw⟩
    rw [hw]; clear hw
    go_wp2_with fail
    go_region_law (refine step_append_h rfl (.tmp 11) (.tmp 13) 53 rfl Tryd.underlying53 vh B s.l.reverse H1.out.h H1.out.hB rfl _ p HN.out rfl hlen ?_; intro g2 cap2 w2 hr2 ha2; obtain ⟨_, d1, f1⟩ := H1.out.apH ha2 1; rw [H1.out.c1] at d1; have H2' := H1.out.stH ha2 hr2; rw [List.length_reverse] at H2'; have H2 := Lib.hid H2'; clear hr2 ha2 H2')
    all_goals go_wp2
    all_goals go_end0
    all_goals exact ⟨rfl, _, by rw [HX.out]; exact H2.out.1, K1.out.trans H2.out.2⟩
  · have HX := Lib.hid (begW_er he p)
    have H := Lib.hid h0
    rw [decide_eq_true he] at HR
    clear h he h0
    go_enter Tryd.func36, Tryd.ntmps36
    go_upto_region 1 with fail
    rw [← hw0]
    clear hw0
    go_wp2_with fail
    refine HR.out.mono ?_
    rintro e w1 ⟨rfl, hw⟩
    rw [hw]; clear hw
    go_wp2
    go_end0
    exact ⟨rfl, _, by rw [HX.out]; exact H.out, K0.out⟩
theorem bits_any (k : Nat) (w : World) : Calls Tryd.prog 37 #[.int .u8 (k : Nat)] w fun e w' => e = .returned (.int .i64 (wBits k)) ∧ w' = w := by
  have HB := Lib.hid (show wBits k = if k = 3 then 8 else if k = 4 then 16 else if k = 5 then 32 else if k = 6 then 64 else 0 from rfl)
  generalize wBits k = v at *
  by_cases h3 : k = 3
  · subst h3
    have HV := Lib.hid (show v = 8 by rw [HB.out]; rfl)
    clear HB
    go_enter Tryd.func37, Tryd.ntmps37
    go_wp2
    go_ret
    exact ⟨by rw [HV.out]; rfl, rfl⟩
  have p3 : ((k : Int) == 3) = false := beq_eq_false_iff_ne.mpr (by omega)
  by_cases h4 : k = 4
  · subst h4
    have HV := Lib.hid (show v = 16 by rw [HB.out]; rfl)
    clear HB
    go_enter Tryd.func37, Tryd.ntmps37
    go_wp2
    go_ret
    exact ⟨by rw [HV.out]; rfl, rfl⟩
  have p4 : ((k : Int) == 4) = false := beq_eq_false_iff_ne.mpr (by omega)
  by_cases h5 : k = 5
  · subst h5
    have HV := Lib.hid (show v = 32 by rw [HB.out]; rfl)
    clear HB
    go_enter Tryd.func37, Tryd.ntmps37
    go_wp2
    go_ret
    exact ⟨by rw [HV.out]; rfl, rfl⟩
  have p5 : ((k : Int) == 5) = false := beq_eq_false_iff_ne.mpr (by omega)
  by_cases h6 : k = 6
  · subst h6
    have HV := Lib.hid (show v = 64 by rw [HB.out]; rfl)
    clear HB
    go_enter Tryd.func37, Tryd.ntmps37
    go_wp2
    go_ret
    exact ⟨by rw [HV.out]; rfl, rfl⟩
  have p6 : ((k : Int) == 6) = false := beq_eq_false_iff_ne.mpr (by omega)
  have HV := Lib.hid (show v = 0 by rw [HB.out, if_neg h3, if_neg h4, if_neg h5, if_neg h6])
  clear HB h3 h4 h5 h6
  go_enter Tryd.func37, Tryd.ntmps37
  go_wp2
  go_ret
  exact ⟨by rw [HV.out]; rfl, rfl⟩
end
section
variable {B b : Nat} {w : World} {vb vh : Value} {s : WT}
theorem wantW_l (s : WT) (x : Bool) (c : Int) : (wantW s x c).l = s.l ∧ (wantW s x c).out = s.out := by
  unfold wantW
  split <;> exact ⟨rfl, rfl⟩
theorem layW_l (s : WT) (l : List UInt8) : (layW s l).l = s.l ∧ (layW s l).er = s.er := by
  unfold layW
  split <;> exact ⟨rfl, rfl⟩
/-- Where the last that was begun lies. -/
theorem WrE.top {p : WP} {ps : List WP} (h : WrE B b w vb vh s) (hl : s.l = p :: ps) : ∃ g cap, vh = .slice (some ⟨g, 0, none⟩) (ps.length + 1) cap ∧ ps.length + 1 ≤ cap ∧ g < w.heap.size ∧
    w.cell? ⟨g, ps.length * 4, none⟩ = some (.int .i64 p.last) ∧ w.cell? ⟨g, ps.length * 4 + 1, none⟩ = some (.bool p.li) ∧ w.cell? ⟨g, ps.length * 4 + 2, none⟩ = some (.int .u8 (p.kd : Nat)) ∧ w.cell? ⟨g, ps.length * 4 + 3, none⟩ = some (.int .i64 p.left) ∧ ∀ o, w.frozen? ⟨g, o, none⟩ = false := by
  have hr := h.h
  rw [hl, List.reverse_cons] at hr
  obtain ⟨g, cap, h1, h2, h3, h4, h5⟩ := hr.top
  rw [List.length_reverse] at h1 h2 h5
  exact ⟨g, cap, h1, h2, h3, h5⟩
theorem sl_nil (w : World) : SlB w (.slice none 0 0) [] := ⟨none, 0, rfl, Nat.le_refl _, fun j hj => absurd hj (by simp)⟩
theorem cwenter_no (h : WrE B b w vb vh s) (hn : ¬ s.er = 0 ∨ s.l = []) (id : Int) (k : Nat) :
    Calls Tryd.prog 35 #[.pointer (some ⟨b, 0, none⟩), .int .i64 id, .int .u8 (k : Nat)] w fun e w' => e = .returned (.tuple #[]) ∧ ∃ vb', WrE B b w' vb' vh (entW s id k) ∧ Ky b w w' vb vh vb' vh := by
  have HI := Lib.hid (cwinner_none h hn)
  obtain ⟨x, hx⟩ : ∃ x, x = decide (k = 12) := ⟨_, rfl⟩
  have p1 : ((k : Int) == 12) = x := by
    rw [hx]
    by_cases e : k = 12
    · rw [e]; rfl
    · rw [decide_eq_false e]; exact beq_eq_false_iff_ne.mpr (by omega)
  have HW := Lib.hid (cwwant_any h x 12)
  have HX := Lib.hid (show entW s id k = wantW s x 12 by
    by_cases he : s.er = 0
    · rw [entW_none he (hn.resolve_left (fun e => e he)), hx]
    · rw [entW_er he, wantW_er he])
  clear h hn hx
  go_enter Tryd.func35, Tryd.ntmps35
  go_wp2_with fail
  refine HI.out.mono ?_
  rintro e w1 ⟨rfl, hw⟩
  rw [hw]; clear hw
  go_wp2_with fail
  refine HW.out.mono ?_
  rintro e w2 ⟨rfl, h2, k2⟩
  have H2 := Lib.hid h2
  have K2 := Lib.hid k2
  clear h2 k2
  go_wp2
  go_end0
  exact ⟨rfl, _, by rw [HX.out]; exact H2.out, K2.out⟩
set_option maxRecDepth 20000 in
set_option maxHeartbeats 1000000 in
theorem cwenter_list {p : WP} {ps : List WP} (h : WrE B b w vb vh s) (he : s.er = 0) (hl : s.l = p :: ps) (hli : p.li = true) (hp : WfP p) (hs : ps.length ≤ 1099511627776) (id : Int) (k : Nat) (hk : k < 256) :
    Calls Tryd.prog 35 #[.pointer (some ⟨b, 0, none⟩), .int .i64 id, .int .u8 (k : Nat)] w fun e w' => e = .returned (.tuple #[]) ∧ ∃ vb', WrE B b w' vb' vh (entW s id k) ∧ Ky b w w' vb vh vb' vh := by
  obtain ⟨g, cap, rfl, _⟩ := h.top hl
  have HI := Lib.hid (cwinner_some h he hl hs)
  obtain ⟨x, hx⟩ : ∃ x, x = (decide (0 < p.left) && sameB p.kd k) := ⟨_, rfl⟩
  have HW := Lib.hid (fun w1 (hb : Below w.heap.size w w1) => cwwant_any (h.next hb) x 12)
  have HT := Lib.hid (fun w1 (hb : Below w.heap.size w w1) => (h.next hb).top hl)
  have e1 : IntKind.i64.wrap (p.left - 1) = p.left - 1 := IntWalk.i64_in _ (by have := hp.1; have := hp.2.1; omega)
  have HS := Lib.hid (fun w => same_any p.kd k w)
  have HX := Lib.hid (show entW s id k = ⟨(wantW s x 12).out, { p with left := p.left - 1 } :: ps, (wantW s x 12).er⟩ by rw [entW_list he hl hli, (wantW_l s x 12).2, hx])
  have HL := Lib.hid (show (wantW s x 12).l = p :: ps by rw [(wantW_l s x 12).1, hl])
  clear h hs
  by_cases h0 : 0 < p.left
  · have q0 : decide (0 < p.left) = true := decide_eq_true h0
    rw [q0, Bool.true_and] at hx
    rw [← hx] at HS
    clear hp hk h0 hx hl he
    go_enter Tryd.func35, Tryd.ntmps35
    go_wp2_with fail
    refine HI.out.mono ?_
    rintro e w1 ⟨rfl, hb⟩
    obtain ⟨g', cap', hg', -, -, t0, t1, t2, t3, tf⟩ := HT.out w1 hb
    simp only [Value.slice.injEq, Option.some.injEq, Addr.mk.injEq] at hg'
    obtain ⟨⟨rfl, -⟩, -, rfl⟩ := hg'
    rw [hli] at t1
    go_wp2_with fail
    refine (HS.out _).mono ?_
    rintro e w2 ⟨rfl, hw⟩
    rw [hw]; clear hw
    go_wp2_with fail
    refine (HW.out w1 hb).mono ?_
    rintro e w3 ⟨rfl, h3, k3⟩
    obtain ⟨g', cap', hg', -, -, u0, u1, u2, u3, uf⟩ := h3.top HL.out
    simp only [Value.slice.injEq, Option.some.injEq, Addr.mk.injEq] at hg'
    obtain ⟨⟨rfl, -⟩, -, rfl⟩ := hg'
    have H4 := Lib.hid (h3.stP (q := { p with left := p.left - 1 }) (i := 3) HL.out (by decide) (.int .i64 (p.left - 1)) rfl)
    have K3 := Lib.hid ((Ky.of_below (b := b) (vb := vb) hb).trans k3)
    clear h3 k3 hb t0 t1 t2 t3 tf
    go_wp2
    go_end0
    exact ⟨rfl, _, by rw [HX.out]; exact H4.out.1, K3.out.trans H4.out.2⟩
  · have q0 : decide (0 < p.left) = false := decide_eq_false h0
    rw [q0, Bool.false_and] at hx
    rw [hx] at HW HX HL
    clear hp hk h0 hx hl he
    go_enter Tryd.func35, Tryd.ntmps35
    go_wp2_with fail
    refine HI.out.mono ?_
    rintro e w1 ⟨rfl, hb⟩
    obtain ⟨g', cap', hg', -, -, t0, t1, t2, t3, tf⟩ := HT.out w1 hb
    simp only [Value.slice.injEq, Option.some.injEq, Addr.mk.injEq] at hg'
    obtain ⟨⟨rfl, -⟩, -, rfl⟩ := hg'
    rw [hli] at t1
    go_wp2_with fail
    refine (HW.out w1 hb).mono ?_
    rintro e w3 ⟨rfl, h3, k3⟩
    obtain ⟨g', cap', hg', -, -, u0, u1, u2, u3, uf⟩ := h3.top HL.out
    simp only [Value.slice.injEq, Option.some.injEq, Addr.mk.injEq] at hg'
    obtain ⟨⟨rfl, -⟩, -, rfl⟩ := hg'
    have H4 := Lib.hid (h3.stP (q := { p with left := p.left - 1 }) (i := 3) HL.out (by decide) (.int .i64 (p.left - 1)) rfl)
    have K3 := Lib.hid ((Ky.of_below (b := b) (vb := vb) hb).trans k3)
    clear h3 k3 hb t0 t1 t2 t3 tf
    go_wp2
    go_end0
    exact ⟨rfl, _, by rw [HX.out]; exact H4.out.1, K3.out.trans H4.out.2⟩
set_option maxRecDepth 20000 in
set_option maxHeartbeats 1000000 in
theorem cwenter_strt {p : WP} {ps : List WP} (h : WrE B b w vb vh s) (he : s.er = 0) (hl : s.l = p :: ps) (hli : ¬ p.li = true) (hs : ps.length ≤ 1099511627776) (ho : s.out.length ≤ 140737488355300) (id : Int) (k : Nat) (hk : k < 256) :
    Calls Tryd.prog 35 #[.pointer (some ⟨b, 0, none⟩), .int .i64 id, .int .u8 (k : Nat)] w fun e w' => e = .returned (.tuple #[]) ∧ ∃ vb', WrE B b w' vb' vh (entW s id k) ∧ Ky b w w' vb vh vb' vh := by
  obtain ⟨g, cap, rfl, _⟩ := h.top hl
  have HI := Lib.hid (cwinner_some h he hl hs)
  obtain ⟨x, hx⟩ : ∃ x, x = decide (0 < (hdB p.last id k).length) := ⟨_, rfl⟩
  have HT := Lib.hid (fun w1 (hb : Below w.heap.size w w1) => And.intro (h.next hb) ((h.next hb).top hl))
  have HP := Lib.hid (fun w => putf_any (sl_nil w) (by simp) p.last id k hk)
  have HX := Lib.hid (show entW s id k = ⟨(layW (wantW s x 4) (hdB p.last id k)).out, { p with last := id } :: ps, (layW (wantW s x 4) (hdB p.last id k)).er⟩ by
    rw [entW_strt he hl hli, (layW_l _ _).2, hx]
    cases hh : decide (0 < (hdB p.last id k).length) with
    | true => rw [wantW_yes, layW_ok he]
    | false =>
      have : hdB p.last id k = [] := List.eq_nil_of_length_eq_zero (by have := of_decide_eq_false hh; omega)
      rw [this, layW_nil, (wantW_l s _ 4).2, List.append_nil])
  have HL := Lib.hid (show (layW (wantW s x 4) (hdB p.last id k)).l = p :: ps by rw [(layW_l _ _).1, (wantW_l s x 4).1, hl])
  have hlen : (wantW s x 4).out.length + (hdB p.last id k).length ≤ 140737488355328 := by
    rw [(wantW_l s x 4).2]
    have : (hdB p.last id k).length ≤ 11 := by
      unfold hdB
      split
      · rename_i hh
        rw [Bool.and_eq_true] at hh
        have hz := zigI_range hh.1
        have := vB_le10 (u := (zigI id).toNat) (by omega)
        split <;> simp <;> omega
      · simp
    omega
  have hfl : p.li = false := (Bool.not_eq_true _).mp hli
  clear h hs hk he hl hli
  generalize hdB p.last id k = hd at *
  go_enter Tryd.func35, Tryd.ntmps35
  go_wp2_with fail
  refine HI.out.mono ?_
  rintro e w1 ⟨rfl, hb⟩
  obtain ⟨h1, g', cap', hg', -, -, t0, t1, t2, t3, tf⟩ := HT.out w1 hb
  simp only [Value.slice.injEq, Option.some.injEq, Addr.mk.injEq] at hg'
  obtain ⟨⟨rfl, -⟩, -, rfl⟩ := hg'
  rw [hfl] at t1
  have H1 := Lib.hid h1
  have K1 := Lib.hid (Ky.of_below (b := b) (vb := vb) (vh := .slice (some ⟨g, 0, none⟩) (ps.length + 1) cap) hb)
  clear h1 hb
  go_wp2_with fail
  with_reducible refine (HP.out _).mono ?_
  rintro e w2 ⟨v2, rfl, hv2, hb2⟩
  rw [List.nil_append] at hv2
  have hsl := hv2.slB
  have hsl0 := hsl
  obtain ⟨a2, c2, rfl, hc2, hi2⟩ := hsl0
  have p1 : decide (0 < (hd.length : Int)) = x := by rw [hx]; apply decide_eq_decide.mpr; omega
  have p2 : decide (0 < hd.length) = x := hx.symm
  have HW := Lib.hid (cwwant_any (H1.out.next hb2) x 4)
  have K2 := Lib.hid (K1.out.trans (Ky.of_below hb2))
  have HSB := Lib.hid (And.intro hv2 (H1.out.apart (Nat.le_refl _) hv2))
  clear hsl hv2 hc2 hi2 hx t0 t1 t2 t3 tf hb2
  go_wp2_with fail
  with_reducible refine HW.out.mono ?_
  rintro e w3 ⟨rfl, h3, k3⟩
  have HY := Lib.hid (cwlay_any h3 _ hd (k3.bts HSB.out.2 HSB.out.1).slB (fun _ => hlen))
  have K3 := Lib.hid (K2.out.trans k3)
  clear h3 k3
  go_wp2_with fail
  with_reducible refine HY.out.mono ?_
  rintro e w4 ⟨rfl, vb4, h4, k4⟩
  obtain ⟨g', cap', hg', -, -, u0, u1, u2, u3, uf⟩ := h4.top HL.out
  simp only [Value.slice.injEq, Option.some.injEq, Addr.mk.injEq] at hg'
  obtain ⟨⟨rfl, -⟩, -, rfl⟩ := hg'
  have H5 := Lib.hid (h4.stP (q := { p with last := id }) (i := 0) HL.out (by decide) (.int .i64 id) rfl)
  have K4 := Lib.hid (K3.out.trans k4)
  clear h4 k4
  go_wp2
  go_end0
  exact ⟨rfl, _, by rw [HX.out]; exact H5.out.1, K4.out.trans H5.out.2⟩
end
/-- What holds of a writer that goes on: what was begun is well, and its bytes are at most so many. -/
def OkW (M : Nat) (s : WT) : Prop := s.er = 0 → (∀ p ∈ s.l, WfP p) ∧ s.l.length ≤ 32 ∧ s.out.length ≤ M
theorem want_er {s : WT} {x : Bool} {c : Int} (hc : ¬ c = 0) (h : (wantW s x c).er = 0) : wantW s x c = s ∧ s.er = 0 ∧ x = true := by
  unfold wantW at h ⊢
  by_cases e : x = false ∧ s.er = 0
  · rw [if_pos e] at h; exact absurd h hc
  · rw [if_neg e] at h ⊢
    refine ⟨rfl, h, ?_⟩
    cases x with
    | true => rfl
    | false => exact absurd ⟨rfl, h⟩ e
theorem ok_want {M : Nat} {s : WT} (h : OkW M s) (x : Bool) {c : Int} (hc : ¬ c = 0) : OkW M (wantW s x c) := by
  intro he
  obtain ⟨e1, e2, _⟩ := want_er hc he
  rw [e1]; exact h e2
theorem ok_room {M : Nat} {s : WT} (h : OkW M s) : OkW M (roomW s) := ok_want h _ (by decide)
theorem hdB_le (last id : Int) (k : Nat) : (hdB last id k).length ≤ 11 := by
  unfold hdB
  split
  · rename_i hh
    rw [Bool.and_eq_true] at hh
    have hz := zigI_range hh.1
    have := vB_le10 (u := (zigI id).toNat) (by omega)
    split <;> simp <;> omega
  · simp
theorem lsB_le (n : Int) (k : Nat) : (lsB n k).length ≤ 11 := by
  unfold lsB
  split
  · rename_i hh
    rw [Bool.and_eq_true] at hh
    have := cntB_yes hh.1
    have := vB_le10 (u := n.toNat) (by omega)
    split <;> simp <;> omega
  · simp
theorem ok_ent {M : Nat} {s : WT} (h : OkW M s) (id : Int) (k : Nat) : OkW (M + 11) (entW s id k) := by
  intro he
  have h0 : s.er = 0 := by
    by_cases e : s.er = 0
    · exact e
    · rw [entW_er e] at he; exact absurd he e
  obtain ⟨h1, h2, h3⟩ := h h0
  match hl : s.l with
  | [] =>
    rw [entW_none h0 hl] at he ⊢
    obtain ⟨e1, _, _⟩ := want_er (by decide) he
    rw [e1]; exact ⟨h1, h2, by omega⟩
  | p :: ps =>
    have hp := h1 p (by rw [hl]; exact List.mem_cons_self)
    have hps : ∀ q ∈ ps, WfP q := fun q hq => h1 q (by rw [hl]; exact List.mem_cons_of_mem _ hq)
    rw [hl] at h2
    by_cases hli : p.li = true
    · rw [entW_list h0 hl hli] at he ⊢
      obtain ⟨_, _, e3⟩ := want_er (by decide) he
      rw [Bool.and_eq_true] at e3
      have e4 := of_decide_eq_true e3.1
      refine ⟨fun q hq => ?_, h2, by show s.out.length ≤ M + 11; omega⟩
      rcases List.mem_cons.mp hq with rfl | hq
      · exact ⟨by show 0 ≤ p.left - 1; omega, by have := hp.2.1; show p.left - 1 ≤ 2147483647; omega, hp.2.2⟩
      · exact hps q hq
    · rw [entW_strt h0 hl hli] at he ⊢
      refine ⟨fun q hq => ?_, h2, by show (s.out ++ hdB p.last id k).length ≤ M + 11; rw [List.length_append]; have := hdB_le p.last id k; omega⟩
      rcases List.mem_cons.mp hq with rfl | hq
      · exact hp
      · exact hps q hq
theorem ok_lay {M : Nat} {s : WT} (h : OkW M s) (l : List UInt8) : OkW (M + l.length) (layW s l) := by
  intro he
  have h0 : s.er = 0 := by rw [(layW_l s l).2] at he; exact he
  obtain ⟨h1, h2, h3⟩ := h h0
  rw [layW_ok h0]
  exact ⟨h1, h2, by show (s.out ++ l).length ≤ M + l.length; rw [List.length_append]; omega⟩
theorem ok_rel {M : Nat} {p d : WT} (h : OkW M d) (r : RelW p d) : OkW M p := fun he => by
  have hd : d.er = 0 := by rw [← r.1]; exact he
  rw [r.2 hd]; exact h hd
section
variable {B b : Nat} {w : World} {vb vh : Value} {s : WT}
theorem cwenter_any {M : Nat} (h : WrE B b w vb vh s) (hw : OkW M s) (hM : M ≤ 140737488355300) (id : Int) (k : Nat) (hk : k < 256) {K : Int} (hK : K = (k : Nat)) :
    Calls Tryd.prog 35 #[.pointer (some ⟨b, 0, none⟩), .int .i64 id, .int .u8 K] w fun e w' => e = .returned (.tuple #[]) ∧ ∃ vb', WrE B b w' vb' vh (entW s id k) ∧ Ky b w w' vb vh vb' vh := by
  subst hK
  by_cases he : s.er = 0
  · obtain ⟨h1, h2, h3⟩ := hw he
    match hl : s.l with
    | [] => exact cwenter_no h (.inr hl) id k
    | p :: ps =>
      have hp := h1 p (by rw [hl]; exact List.mem_cons_self)
      rw [hl] at h2
      have h2' : ps.length ≤ 1099511627776 := by simp at h2; omega
      by_cases hli : p.li = true
      · exact cwenter_list h he hl hli hp h2' id k hk
      · exact cwenter_strt h he hl hli h2' (by omega) id k hk
  · exact cwenter_no h (.inl he) id k
end
end Go.Proofs.YtmcklfndnjagiaaDoor
