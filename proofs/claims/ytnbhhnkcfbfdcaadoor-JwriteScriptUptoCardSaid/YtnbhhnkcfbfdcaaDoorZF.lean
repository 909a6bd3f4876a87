/- Several texts in one (UIs, URune, UWalk, ULay, UPut): each begins with its own words. -/
import Derived.Test.YtnbhhnkcfbfdcaaDoorZB
import Derived.BigQuiet
import Derived.Deep.QuietTactic
import Derived.Handy
/- Package utf's Is, announced, width, and the document's own Is. -/
namespace Go.Proofs.YtnbhhnkcfbfdcaaDoor
open Go Go.RowKit
set_option linter.unusedVariables false




end Go.Proofs.YtnbhhnkcfbfdcaaDoor
/- Package utf's Rune, and the table of heads. -/
namespace Go.Proofs.YtnbhhnkcfbfdcaaDoor
open Go Go.RowKit
set_option linter.unusedVariables false


/-- 5.2: the character that begins at any place. -/
def uR (s : ByteArray) (a : Int) : Nat × Nat := if 0 ≤ a then dAt s a.toNat else (0, 0)
theorem uR_at (s : ByteArray) (k : Nat) : uR s k = dAt s k := by unfold uR; rw [if_pos (by omega), Int.toNat_natCast]
theorem ret_r {a c b d : Int} (h : a = c) (k : b = d) : Ending.returned (.tuple #[.int .i32 a, .int .i64 b]) = .returned (.tuple #[.int .i32 c, .int .i64 d]) := by rw [h, k]
theorem uR_none {s : ByteArray} {a : Int} (h : uR s a = (0, 0)) : Ending.returned (.tuple #[.int .i32 0, .int .i64 0]) = .returned (.tuple #[.int .i32 ((uR s a).1 : Nat), .int .i64 ((uR s a).2 : Nat)]) := by rw [h]; rfl
theorem uFold_lt : ∀ (t : List UInt8) (r X : Nat), r < X → (∀ b ∈ t, uCont b = true) → uFold r t < X * 64 ^ t.length := by
  intro t
  induction t with
  | nil => intro r X hr _; simpa [uFold] using hr
  | cons b t ih =>
    intro r X hr h
    have h2 := cont_iff.mp (h b (by simp))
    have h1 := ih (r * 64 + (b.toNat - 128)) (X * 64) (by omega) (fun x hx => h x (by simp [hx]))
    have e : X * 64 ^ (b :: t).length = X * 64 * 64 ^ t.length := by
      rw [List.length_cons, Nat.pow_succ]
      generalize 64 ^ t.length = Y
      rw [Nat.mul_assoc X 64 Y, Nat.mul_comm 64 Y]
    have e2 : uFold r (b :: t) = uFold (r * 64 + (b.toNat - 128)) t := by simp only [uFold, List.foldl_cons]
    rw [e, e2]; exact h1
theorem uFold_snoc (r : Nat) (t : List UInt8) (b : UInt8) : uFold r (t ++ [b]) = uFold r t * 64 + (b.toNat - 128) := by
  unfold uFold; rw [List.foldl_append]; rfl
theorem head_le {c : Nat} (h : c < 256) : uHead (uAnn c) ≤ c ∧ (uAnn c ≠ 0 → c - uHead (uAnn c) < 128) ∧ uHead (uAnn c) < 256 := by
  by_cases h1 : c < 128
  · rw [show uAnn c = 1 by unfold uAnn; rw [if_pos h1], show uHead 1 = 0 from rfl]; omega
  · by_cases h2 : c < 192 ∨ 248 ≤ c
    · rw [annX h1 h2, show uHead 0 = 0 from rfl]; omega
    · by_cases h3 : c < 224
      · rw [ann2 (by omega) h3, show uHead (1 + 1) = 192 from rfl]; omega
      · by_cases h4 : c < 240
        · rw [ann3 (by omega) h4, show uHead (2 + 1) = 224 from rfl]; omega
        · rw [ann4 (by omega) (by omega), show uHead (3 + 1) = 240 from rfl]; omega
theorem drop_at (s : ByteArray) (k : Nat) (h : k < s.size) : s.data.toList.drop k = s[k] :: s.data.toList.drop (k + 1) := by
  have h' : k < s.data.toList.length := by rw [toList_size]; exact h
  rw [List.drop_eq_getElem_cons h', byte_at s k h h']
theorem dAt_fail {s : ByteArray} {k A : Nat} (h : k < s.size) (hA : uAnn s[k].toNat = A + 1) (hno : ¬ ((s.data.toList.drop (k + 1)).take A).all uCont = true) : dAt s k = (0, 0) := by
  unfold dAt
  rw [drop_at s k h, decN _ _ A hA]
  split
  · rfl
  · rw [if_neg (fun h => hno h.1)]

def URuneRel (s : ByteArray) (k A K R0 : Nat) (W : World) (r z i : Value) (wr : World) : Prop :=
  ∃ j R, j ≤ A ∧ z = .int .i64 (K : Nat) ∧ i = .int .i64 ((k + 1 + j : Nat) : Int) ∧ r = .int .i32 (R : Nat) ∧ Hid (R = uFold R0 ((s.data.toList.drop (k + 1)).take j) ∧ ((s.data.toList.drop (k + 1)).take j).all uCont = true ∧ R < 128 * 64 ^ j) ∧ wr = W

end Go.Proofs.YtnbhhnkcfbfdcaaDoor
/- Package utf's walk, Check, Count, Cut. -/
namespace Go.Proofs.YtnbhhnkcfbfdcaaDoor
open Go Go.RowKit
set_option linter.unusedVariables false

def UWalkRel (s : ByteArray) (n : Int) (W : World) (e c : Value) (wr : World) : Prop :=
  ∃ E C m : Nat, e = .int .i64 (E : Nat) ∧ c = .int .i64 (C : Nat) ∧ WPre s n E C ∧ wr = W.drewN m



end Go.Proofs.YtnbhhnkcfbfdcaaDoor
/- Package utf's lay. -/
namespace Go.Proofs.YtnbhhnkcfbfdcaaDoor
open Go Go.RowKit
set_option linter.unusedVariables false

/-- Block g is just the bytes L. -/
def Blk (t : TypeId) (w : World) (g : Nat) (L : List UInt8) : Prop := w.heap[g]? = some (.cells (bV L).toArray t (0, 0))
theorem Blk.lt {t : TypeId} {w : World} {g : Nat} {L : List UInt8} (h : Blk t w g L) : g < w.heap.size := lt_of_block h
theorem Blk.c {t : TypeId} {w : World} {g : Nat} {L : List UInt8} (h : Blk t w g L) (j : Nat) (hj : j < L.length) : w.cell? ⟨g, j, none⟩ = some (.int .u8 (L[j].toNat : Int)) := by
  unfold Blk at h
  simp only [World.cell?, h]
  show (bV L).toArray[j]? = _
  rw [List.getElem?_toArray, bV_get L j hj]
theorem Blk.fr {t : TypeId} {w : World} {g : Nat} {L : List UInt8} (h : Blk t w g L) (o : Nat) : w.frozen? ⟨g, o, none⟩ = false := by unfold Blk at h; simp [World.frozen?, h]
theorem Blk.set {t : TypeId} {w : World} {g : Nat} {L : List UInt8} (h : Blk t w g L) (j : Nat) {z : Int} {b : UInt8} (hz : z = (b.toNat : Int)) : Blk t (w.setCell ⟨g, j, none⟩ (.int .u8 z)) g (L.set j b) := by
  subst hz
  unfold Blk
  rw [heap_setCell_block h]
  congr 2
  apply Array.toList_inj.mp
  simp only [Array.toList_setIfInBounds, bV, List.map_set]
theorem Blk.drewN {t : TypeId} {w : World} {g : Nat} {L : List UInt8} (h : Blk t w g L) (n : Nat) : Blk t (w.drewN n) g L := h


theorem set_behind (l X : List UInt8) (p j : Nat) (b : UInt8) (hp : l.length = p) : (l ++ X).set (p + j) b = l ++ X.set j b := by
  subst hp
  rw [List.set_append_right _ _ (by omega)]
  congr 2
  omega
theorem set_behind0 (l X : List UInt8) (p : Nat) (b : UInt8) (hp : l.length = p) : (l ++ X).set p b = l ++ X.set 0 b := set_behind l X p 0 b hp
theorem ofb {z : Int} {n : Nat} (h : n < 256) (hz : z = n) : z = ((b8 n).toNat : Int) := by rw [b8_toNat h]; exact hz
end Go.Proofs.YtnbhhnkcfbfdcaaDoor
/- Package utf's Put. -/
namespace Go.Proofs.YtnbhhnkcfbfdcaaDoor
open Go Go.RowKit
set_option linter.unusedVariables false

/-- The bytes that are laid of any number. -/
def uBI (r : Int) : List UInt8 := if uIs r = true then uB r.toNat else []
theorem uBI_len (r : Int) : (uBI r).length = uW r := by
  unfold uBI
  by_cases h : uIs r = true
  · rw [if_pos h]
    obtain ⟨n, rfl⟩ := Int.eq_ofNat_of_zero_le (uIs_iff.mp h).1
    exact (uW_len h).symm
  · rw [if_neg h]; unfold uW; rw [if_neg h]; rfl
theorem uW_le (r : Int) : uW r ≤ 4 := by
  unfold uW
  split
  · split
    · omega
    · split
      · omega
      · split <;> omega
  · omega
/-- 'make([]byte, n)'. -/
theorem make_all (n : Nat) (w : World) (hl : n ≤ 140737488355000) :
    (Instr.makeSlice 41 (.int .i64 (n : Int)) (.int .i64 (n : Int))).run Tryd.prog w = .ok (.slice (some ⟨w.heap.size, 0, none⟩) n n) (w.alloc (.cells (Array.replicate n (.int .u8 0)) 5)) := by
  have := make_bytes n 0 w (by omega)
  simpa using this
/-- What 'copy' of what came in makes of a longer list that has just been made. -/
theorem copy_all (P : Program) (t e ty : TypeId) (ht : P.underlying t = some (.slice e)) (hi : (P.info? e).map (·.size) = some 1)
    (W : World) (a : Option Addr) (cap more : Nat) (l : List UInt8) (hin : BIn W a l) :
    ∃ w2, (Builtin.copy_ #[t, t] ty #[.slice (some ⟨W.heap.size, 0, none⟩) (l.length + more) (l.length + more), .slice a l.length cap]).run P (W.alloc (.cells (Array.replicate (l.length + more) (.int .u8 0)) e)) = .ok (goInt l.length) w2 ∧
      Blk e w2 W.heap.size (l ++ List.replicate more 0) ∧ Below W.heap.size W w2 := by
  have hnew : (W.alloc (.cells (Array.replicate (l.length + more) (.int .u8 0)) e)).heap[W.heap.size]? = some (.cells (Array.replicate (l.length + more) (.int .u8 0)) e (0, 0)) := heap_alloc_new W _
  have hb1 : Below W.heap.size W (W.alloc (.cells (Array.replicate (l.length + more) (.int .u8 0)) e)) := (Below.refl _ _).alloc (Nat.le_refl _) _
  have hrep : bV (List.replicate more 0) = List.replicate more (.int .u8 0) := by simp [bV, List.map_replicate]
  by_cases h0 : l.length = 0
  · obtain rfl := List.eq_nil_of_length_eq_zero h0
    refine ⟨_, run_copy_none (P := P) _ t t ty e _ a _ _ 0 cap ht hi (Nat.zero_min _), ?_, hb1⟩
    unfold Blk
    rw [hnew, List.nil_append, hrep]
    simp
  · obtain ⟨b, off, rfl, hbl, _⟩ := hin 0 (by omega)
    have hr := run_copy_row (P := P) (W.alloc (.cells (Array.replicate (l.length + more) (.int .u8 0)) e)) t t ty e W.heap.size 0 (l.length + more) (l.length + more) ⟨b, off, none⟩ l.length cap _ e (bV l) ht hi hnew
      (by rw [bV_length]; exact (Nat.min_eq_left (Nat.le_add_right _ _)).symm) (fun j v hj => by
        have hjl : j < l.length := by
          have := (List.getElem?_eq_some_iff.1 hj).1
          rwa [bV_length] at this
        obtain ⟨b', off', he, hb', hc⟩ := hin j hjl
        obtain ⟨rfl, rfl⟩ : b = b' ∧ off = off' := by simpa using he
        rw [bV_get l j hjl] at hj
        have e1 : (Addr.mk b off none).add j = ⟨b, off + j, none⟩ := by unfold Addr.add; split <;> simp_all
        rw [e1, World.cell?_of_block (w := W) (hb1.block b hb'), hc]
        exact hj) (by simp [bV_length]) (bV_one l)
    rw [bV_length] at hr
    refine ⟨_, hr, ?_, hb1.trans ⟨rfl, rfl, rfl, by simp, fun k hk => setRow_other _ _ _ _ (by omega)⟩⟩
    unfold Blk
    rw [setRow_heap _ _ _ _ _ _ hnew, bV_append, hrep]
    simp
theorem Blk.bts {t : TypeId} {w : World} {g B n : Nat} {L : List UInt8} (h : Blk t w g L) (hn : L.length = n) (hB : B ≤ g) (hm : n ≤ maxLen) : Bts t w B (.slice (some ⟨g, 0, none⟩) n n) L := by
  subst hn
  exact ⟨by simp [bV_length], .inr ⟨_, _, _, rfl, hB, h, Nat.le_refl _, hm, by simp [bV_length], by simp [List.take_of_length_le, bV_length]⟩⟩

end Go.Proofs.YtnbhhnkcfbfdcaaDoor
