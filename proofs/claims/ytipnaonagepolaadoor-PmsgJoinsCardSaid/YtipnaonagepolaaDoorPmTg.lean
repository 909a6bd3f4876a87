/- A list of tags that the call makes: an append to it in a region that draws its order; fields' bytes one behind the other; a slice of bytes of the call's own. -/
import Derived.Test.YtipnaonagepolaaDoorPmOpn
import Derived.Test.YtipnaonagepolaaDoorZH
import Derived.Test.YtipnaonagepolaaDoorZJ
import Derived.Deep.AppendLies
import Derived.Deep.RegionLaw
namespace Go.Proofs.YtipnaonagepolaaDoor
open Go Go.RowKit
set_option linter.unusedVariables false

def tgVs (T : List TG) : List Value := T.flatMap fun t => [.int .i64 t.1, .int .i64 t.2]
theorem tgVs_append (l m : List TG) : tgVs (l ++ m) = tgVs l ++ tgVs m := List.flatMap_append
theorem tgVs_length : ∀ l : List TG, (tgVs l).length = l.length * 2
  | [] => rfl
  | x :: l => by have := tgVs_length l; unfold tgVs at this ⊢; rw [List.flatMap_cons, List.length_append, this]; simp; omega
theorem tgVs_one (l : List TG) : ∀ v ∈ tgVs l, v.oneCell' = true := by
  intro v hv
  obtain ⟨x, _, hx⟩ := List.mem_flatMap.1 hv
  simp at hx
  rcases hx with rfl | rfl <;> rfl
theorem tgVs_get : ∀ (l : List TG) (k : Nat) (h : k < l.length), (tgVs l)[k * 2]? = some (.int .i64 l[k].1) ∧ (tgVs l)[k * 2 + 1]? = some (.int .i64 l[k].2)
  | x :: l, 0, _ => ⟨rfl, rfl⟩
  | x :: l, k + 1, h => by
    have := tgVs_get l k (by simpa using h)
    have e : tgVs (x :: l) = [.int .i64 x.1, .int .i64 x.2] ++ tgVs l := rfl
    rw [e, show (k + 1) * 2 = k * 2 + 2 from by omega, show k * 2 + 2 + 1 = k * 2 + 1 + 2 from by omega]
    simpa using this
/-- A list of tags that the call made. -/
def TgRow (w : World) (B : Nat) (v : Value) (T : List TG) : Prop := w.ownsRow B 51 2 v T.length (tgVs T)
theorem tgrow_nil (w : World) (B : Nat) : TgRow w B (.slice none 0 0) [] := ⟨rfl, .inl ⟨rfl, rfl⟩⟩
theorem TgRow.below {w w' : World} {B N : Nat} {v : Value} {T : List TG} (h : TgRow w B v T) (hb : Below N w w') (hN : w.heap.size ≤ N) : TgRow w' B v T := by
  refine World.ownsRow.kept (row := none) h ⟨hb.os, hb.tape, hb.output, hb.size, fun k hk _ => hb.block k (by omega)⟩ ?_
  cases v.ownBlock <;> simp
theorem TgRow.inn {w : World} {B : Nat} {v : Value} {T : List TG} (h : TgRow w B v T) : ∃ a cap, v = .slice a T.length cap ∧ TgIn w a T := by
  rcases h.2 with ⟨rfl, hn⟩ | ⟨g, cap, cur, rfl, _, hg, _⟩
  · have h0 : T = [] := List.eq_nil_of_length_eq_zero hn
    subst h0
    exact ⟨none, 0, rfl, fun j hj => by simp at hj⟩
  · refine ⟨_, cap, rfl, fun j hj => ⟨g, 0, rfl, lt_of_block hg, ?_, ?_⟩⟩
    · rw [Nat.zero_add, World.ownsRow.cellAt h (j * 2) (by omega)]; exact (tgVs_get T j hj).1
    · rw [Nat.zero_add, World.ownsRow.cellAt h (j * 2 + 1) (by omega)]; exact (tgVs_get T j hj).2
theorem infoTg : (Tryd.prog.info? 51).map (fun i => (i.zero, i.size, i.bytes)) = some (some (.agg #[.int .i64 0, .int .i64 0]), 2, 16) := by kernel_rfl
theorem step_append_tg {ops : Array Oper} {o : Oper} {a : Act} {w : World} {K : Act → World → Prop} {Q : Exit → Act → World → Prop} {E : Prop} (hgd : o.guard = none) (sl x : Operand)
    (ho : o.op = .call { callee := .builtin .append, args := #[sl, x], argTypes := #[48, 48] })
    (v : Value) (B : Nat) (T : List TG) (hb : TgRow w B v T) (hB : B ≤ w.heap.size) (hs : a.eval sl = v)
    (g : Nat) (y : TG) (hg : w.heap[g]? = some (.cells #[.int .i64 y.1, .int .i64 y.2] 51 (0, 0))) (hx : a.eval x = .slice (some ⟨g, 0, none⟩) 1 1) (hlen : T.length ≤ 1099511627776)
    (h : ∀ g cap w', TgRow w' B (.slice (some ⟨g, 0, none⟩) (T.length + 1) cap) (T ++ [y]) → Below B w w' → K (a.put o.dst (.slice (some ⟨g, 0, none⟩) (T.length + 1) cap)) w') :
    if Region.wanted o (yielded ops a.tmps) = true then Oper.wp Tryd.prog o a w K Q else E := by
  obtain ⟨i0, hi, hz, hz1, hz2⟩ := info_parts infoTg
  refine step_append_lies w hgd sl x _ ho B 51 i0 (.agg #[.int .i64 0, .int .i64 0]) 2 16 Tryd.underlying48 hi hz hz1 hz2 rfl (by decide) v T.length (tgVs T) hs hb ⟨g, 0, none⟩ 1 1 (tgVs [y]) hx rfl (fun j u hu => World.news_of_block hg j u (by simpa [tgVs] using hu)) (tgVs_one _) (by decide) (by unfold maxLen; omega) (by omega) hB _ rfl ?_
  intro g' cap w' hown hgr _ hlt
  refine h g' cap w' ?_ ⟨hgr.os, hgr.tape, hgr.output, hgr.size, fun k hk => hgr.block k (by omega) (fun e => ?_)⟩
  · unfold TgRow
    rw [tgVs_append, List.length_append]
    exact hown
  · have := (World.ownsRow.lt hb k e.symm).1; omega
/-- A list of bytes that the call made, as it is handed on. -/
theorem Bts.inn {t : TypeId} {w : World} {B : Nat} {v : Value} {l : List UInt8} (h : Bts t w B v l) : ∃ a cap, v = .slice a l.length cap ∧ BIn w a l := by
  rcases h.2 with ⟨rfl, hn⟩ | ⟨g, cap, cur, rfl, _, hg, _⟩
  · have h0 : l = [] := List.eq_nil_of_length_eq_zero hn
    subst h0
    exact ⟨none, 0, rfl, fun j hj => by simp at hj⟩
  · refine ⟨_, cap, rfl, fun j hj => ⟨g, 0, rfl, lt_of_block hg, ?_⟩⟩
    rw [Nat.zero_add, World.ownsRow.cellAt h j (by omega)]
    unfold bV
    rw [List.getElem?_map, List.getElem?_eq_getElem hj]; rfl
/-- All fields' bytes, one behind the other. -/
def fBs (l : List FD) : List UInt8 := l.flatMap fun x => fB x.1 x.2.1 x.2.2.1 x.2.2.2
theorem fBs_snoc (l : List FD) (x : FD) : fBs (l ++ [x]) = fBs l ++ fB x.1 x.2.1 x.2.2.1 x.2.2.2 := by simp [fBs]
theorem fB_all {n v : Int} (u : Nat) (s : ByteArray) (hu : u < 18446744073709551616) (hs : s.size ≤ 140737488351232) : (fAll (fB n v u s)).2 = 0 := by
  cases h : tagB n v
  · rw [fB_no h]; rfl
  · have := fAll_back h u s hu hs
    rw [this]
theorem fBs_good : ∀ l : List FD, (∀ x ∈ l, fOk x ∧ x.2.2.2.size ≤ 140737488351232) → (fAll (fBs l)).2 = 0
  | [], _ => rfl
  | x :: l, h => by
    have h1 := fB_all (n := x.1) (v := x.2.1) x.2.2.1 x.2.2.2 (h x (by simp)).1 (h x (by simp)).2
    have h2 := fBs_good l (fun y hy => h y (by simp [hy]))
    show (fAll (fB x.1 x.2.1 x.2.2.1 x.2.2.2 ++ fBs l)).2 = 0
    rw [fAll_app _ _ h1, if_neg (by rw [h2]; simp)]
theorem fBs_le : ∀ l : List FD, (∀ x ∈ l, fOk x ∧ x.2.2.2.size ≤ 100) → (fBs l).length ≤ l.length * 120
  | [], _ => Nat.le_refl _
  | x :: l, h => by
    have h1 := fB_le x.1 x.2.1 x.2.2.1 x.2.2.2 (h x (by simp)).1 (by have := (h x (by simp)).2; omega)
    have h2 := fBs_le l (fun y hy => h y (by simp [hy]))
    have h3 := (h x (by simp)).2
    show (fB x.1 x.2.1 x.2.2.1 x.2.2.2 ++ fBs l).length ≤ _
    rw [List.length_append, List.length_cons]
    omega
end Go.Proofs.YtipnaonagepolaaDoor
