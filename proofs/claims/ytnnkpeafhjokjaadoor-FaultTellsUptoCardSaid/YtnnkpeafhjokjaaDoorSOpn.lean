/- What comes in: a slice of texts. -/
import Derived.Test.YtnnkpeafhjokjaaDoorFtM
import Derived.SliceStrings
import Derived.ProofKit
import Derived.OpenShut
namespace Go.Proofs.YtnnkpeafhjokjaaDoor
open Go Go.RowKit Go.ChangeShapes Go.WideShapes Go.WideMaps Go.WideElems
set_option linter.unusedVariables false

section
variable {H : Type} {enc : TypeId × Value → H} {W : World} {base : Nat} {sp : Nat → Bool} {held : Bool} {d : DataW H} {p : List MemPlace}
/-- The texts that came in, and the datum that they are. -/
theorem open_strs {a : Option Addr} {len cap : Nat} (h : DataW.Trod enc Tryd.prog W base sp held 23 (.slice a len cap) d p) : ∃ L : List ByteArray, L.length = len ∧ SIn W a L ∧ (a = none → cap = 0) ∧ (d = .nil ∧ L = [] ∨ ∃ more, d = .slice (strs L) more) := by
  obtain ⟨fuel, hf⟩ := h
  rcases open_strings Tryd.underlying23 Tryd.underlying9 (by kernel_rfl) hf with ⟨hcs, hx⟩ | ⟨ad, l, c, ss, hcs, _, hl, hm, hz, hx, hcell, _⟩
  · simp [Value.cells] at hcs
    obtain ⟨rfl, rfl, rfl⟩ := hcs
    simp only [Prod.mk.injEq] at hx
    exact ⟨[], rfl, fun j h => by simp at h, fun _ => rfl, .inl ⟨hx.1, rfl⟩⟩
  · simp [Value.cells] at hcs
    obtain ⟨rfl, rfl, rfl⟩ := hcs
    have hle : len ≤ ss.length := by rw [hz]; split <;> omega
    simp only [Prod.mk.injEq] at hx
    refine ⟨ss.take len, by rw [List.length_take]; omega, fun j hj => ?_, (fun h => by cases h), .inr ⟨_, hx.1⟩⟩
    rw [List.length_take] at hj
    obtain ⟨b, off, spot⟩ := ad
    have h0 := hcell 0 (by omega)
    have hspot : spot = none := by simpa [Addr.add] using World.cell?_spot h0
    subst hspot
    have hc := hcell j (by omega)
    have e1 : (Addr.mk b off none).add j = ⟨b, off + j, none⟩ := by unfold Addr.add; split <;> simp_all
    rw [e1] at hc
    refine ⟨b, off, rfl, ?_, ?_⟩
    · rcases Nat.lt_or_ge b W.heap.size with h' | h'
      · exact h'
      · simp [World.cell?, Array.getElem?_eq_none h'] at hc
    · rw [hc, List.getD_eq_getElem?_getD, List.getElem?_eq_getElem (by omega)]
      simp
end
/-! How much a row's second form lets in. -/
theorem bulk_mem {H : Type} : ∀ {ds : List (DataW H)} {d : DataW H}, d ∈ ds → Rows.uptoBulk d ≤ Rows.uptoBulkAll ds
  | [], _, h => by cases h
  | x :: r, d, h => by
    simp only [Rows.uptoBulkAll]
    rcases List.mem_cons.mp h with e | e
    · rw [e]; omega
    · have := bulk_mem e; omega
theorem bulk_le {H : Type} {ds : List (DataW H)} (hk : Rows.uptoSmall H ds = true) {d : DataW H} (hm : d ∈ ds) : Rows.uptoBulk d ≤ 1048576 :=
  Nat.le_trans (bulk_mem hm) (of_decide_eq_true hk)
theorem strs_bulk {H : Type} {d : DataW H} {L : List ByteArray} (h : d = .nil ∧ L = [] ∨ ∃ more, d = .slice (strs L) more) : Rows.uptoBulkAll (H := H) (strs L) ≤ Rows.uptoBulk d := by
  rcases h with ⟨_, rfl⟩ | ⟨more, rfl⟩
  · simp [strs, Rows.uptoBulkAll]
  · simp only [Rows.uptoBulk]; omega
/-- The parts with two bytes more each are at most twice what the list's reading holds. -/
theorem strs_sum {H : Type} : ∀ L : List ByteArray, (L.flatMap fun p => p.data.toList ++ [58, 32]).length ≤ 2 * Rows.uptoBulkAll (H := H) (strs L) ∧ L.length ≤ Rows.uptoBulkAll (H := H) (strs L)
  | [] => by simp [strs, Rows.uptoBulkAll]
  | s :: r => by
    obtain ⟨h1, h2⟩ := strs_sum (H := H) r
    have e : Rows.uptoBulkAll (H := H) (strs (s :: r)) = s.data.toList.length + 1 + Rows.uptoBulkAll (H := H) (strs r) := by
      simp only [strs, List.map_cons, Rows.uptoBulkAll, Rows.uptoBulk]
    rw [e, List.flatMap_cons, List.length_append, List.length_append]
    rw [show ([58, 32] : List UInt8).length = 2 from rfl]
    simp only [List.length_cons]
    omega
theorem strs_fit {H : Type} {d : DataW H} {L : List ByteArray} (h : d = .nil ∧ L = [] ∨ ∃ more, d = .slice (strs L) more) (hb : Rows.uptoBulk d ≤ 1048576) : (L.flatMap fun p => p.data.toList ++ [58, 32]).length ≤ 2097152 := by
  have h1 := strs_sum (H := H) L
  have h2 := strs_bulk h
  omega
section
variable {H : Type} {enc : TypeId × Value → H} {W : World} {base : Nat} {sp : Nat → Bool} {held : Bool} {r : Reach} {b : Nat} {v : Value} {d : DataW H} {p : List MemPlace}
set_option maxRecDepth 20000 in
/-- Two codes that came in. -/
theorem open_codes (hv : Value.okWide Tryd.prog W r b 37 v) (h : DataW.Trod enc Tryd.prog W base sp held 37 v d p) : ∃ x y : Int, v = .agg #[.int .i64 x, .int .i64 y] ∧ (-9223372036854775808 ≤ x ∧ x ≤ 9223372036854775807) ∧ (-9223372036854775808 ≤ y ∧ y ≤ 9223372036854775807) := by
  simp only [Value.okWide, Tryd.underlying37] at hv
  obtain ⟨cs, rfl, _⟩ := hv
  obtain ⟨fuel, hf⟩ := h
  have hc : Tryd.prog.cellsOf 22 = 1 := by kernel_rfl
  have hc2 : Tryd.prog.cellsOf 37 = 2 := by kernel_rfl
  obtain ⟨xs, m, _, _, hlen, hxn, hel⟩ := DataW.trod_array Tryd.underlying37 hf
  have one : ∀ i, i < 2 → ∃ z : Int, cs.toList[i]? = some (.int .i64 z) ∧ -9223372036854775808 ≤ z ∧ z ≤ 9223372036854775807 := fun i hi => by
    have h1 := hel i hi
    rw [hc, Nat.mul_one, List.getElem?_eq_getElem (by omega)] at h1
    obtain ⟨z, e1, _, e3⟩ := DataW.trod_int Tryd.underlying22 h1
    have : (List.take 1 (List.drop i cs.toList))[0]? = some (.int .i64 z) := by rw [show (Value.agg cs).cells = cs from rfl] at e1; rw [e1]; rfl
    have hr : -9223372036854775808 ≤ z ∧ z ≤ 9223372036854775807 := by simpa [Lit.wf, IntKind.min, IntKind.max, IntKind.signed, IntKind.bits] using e3
    exact ⟨z, by simpa [List.getElem?_take, List.getElem?_drop] using this, hr⟩
  have hl : cs.toList.length = 2 := by rw [show (Value.agg cs).cells = cs from rfl] at hlen; omega
  obtain ⟨x, e0, hx⟩ := one 0 (by decide)
  obtain ⟨y, e1, hy⟩ := one 1 (by decide)
  refine ⟨x, y, ?_, hx, hy⟩
  have : cs.toList = [.int .i64 x, .int .i64 y] := by
    match cs.toList, hl, e0, e1 with
    | [u, v], _, e0, e1 => simp at e0 e1; rw [e0, e1]
  rw [show cs = #[.int .i64 x, .int .i64 y] from Array.toList_inj.mp this]
end
end Go.Proofs.YtnnkpeafhjokjaaDoor
