/- Package utf's Put. -/
import Derived.Test.YteakcfgjjlocjaaDoorULay
namespace Go.Proofs.YteakcfgjjlocjaaDoor
open Go Go.RowKit
set_option linter.unusedVariables false

/-- The bytes that are laid of any number. -/
def uBI (r : Int) : List UInt8 := if uIs r = true then uB r.toNat else []
theorem uBI_len (r : Int) : (uBI r).length = uW r := by
  unfold uBI
  by_cases h : uIs r = true
  · rw [if_pos h]
    obtain ⟨n, rfl⟩ := Int.eq_ofNat_of_zero_le (uIs_iff.mp h).1
    exact (uW_len h).symm
  · rw [if_neg h]; unfold uW; rw [if_neg h]; rfl
theorem uW_le (r : Int) : uW r ≤ 4 := by
  unfold uW
  split
  · split
    · omega
    · split
      · omega
      · split <;> omega
  · omega
theorem ulay_any (g p cap : Nat) (l X : List UInt8) (r : Int) (w : World) (hp : l.length = p) (hX : X.length = uW r) (a : Option Addr) (ha : uW r ≠ 0 → a = some ⟨g, p, none⟩) (hb : Blk 5 w g (l ++ X)) (ht : Hds w) (hg : 0 ≠ g) :
    Calls Tryd.prog 34 #[.slice a (uW r) cap, .int .i32 r] w fun e w' => e = .returned (.tuple #[]) ∧ Blk 5 w' g (l ++ uBI r) ∧ Only g w w' := by
  by_cases h : uIs r = true
  · obtain ⟨h1, h2, h3⟩ := uIs_iff.mp h
    obtain ⟨n, rfl⟩ := Int.eq_ofNat_of_zero_le h1
    have hU : uBI (n : Int) = uB n := by unfold uBI; rw [if_pos h, Int.toNat_natCast]
    rw [hU]
    have hW := uW_len h
    by_cases c1 : n < 128
    · have e : uW (n : Int) = 1 := by rw [hW]; unfold uB; rw [if_pos c1]; rfl
      rw [ha (by omega), e]
      exact ulay_one g p cap l X n w hp (by rw [hX, e]) c1 (Nat.zero_le _) hb ht hg
    · by_cases c2 : n < 2048
      · have e := uW2 (r := n) (by omega) c2
        rw [ha (by omega), e]
        exact ulay_two g p cap l X n w hp (by rw [hX, e]) c2 (by omega) hb ht hg
      · by_cases c3 : n < 65536
        · have e := uW3 (r := n) (by omega) c3 (by omega)
          rw [ha (by omega), e]
          exact ulay_three g p cap l X n w hp (by rw [hX, e]) c3 (by omega) hb ht hg
        · have e := uW4 (r := n) (by omega) (by omega)
          rw [ha (by omega), e]
          exact ulay_four g p cap l X n w hp (by rw [hX, e]) (by omega) (by omega) hb ht hg
  · have hU : uBI r = [] := by unfold uBI; rw [if_neg h]
    have e : uW r = 0 := by unfold uW; rw [if_neg h]
    have hX0 : X = [] := List.eq_nil_of_length_eq_zero (by rw [hX, e])
    subst hX0
    rw [hU, e]
    refine (ulay_none a cap r w).mono ?_
    rintro e w' ⟨rfl, rfl⟩
    exact ⟨rfl, hb, Only.refl _ _⟩
/-- 'make([]byte, n)'. -/
theorem make_all (n : Nat) (w : World) (hl : n ≤ 140737488355000) :
    (Instr.makeSlice 35 (.int .i64 (n : Int)) (.int .i64 (n : Int))).run Tryd.prog w = .ok (.slice (some ⟨w.heap.size, 0, none⟩) n n) (w.alloc (.cells (Array.replicate n (.int .u8 0)) 5)) := by
  have := make_bytes n 0 w (by omega)
  simpa using this
/-- What 'copy' of what came in makes of a longer list that has just been made. -/
theorem copy_all (P : Program) (t e ty : TypeId) (ht : P.underlying t = some (.slice e)) (hi : (P.info? e).map (·.size) = some 1)
    (W : World) (a : Option Addr) (cap more : Nat) (l : List UInt8) (hin : BIn W a l) :
    ∃ w2, (Builtin.copy_ #[t, t] ty #[.slice (some ⟨W.heap.size, 0, none⟩) (l.length + more) (l.length + more), .slice a l.length cap]).run P (W.alloc (.cells (Array.replicate (l.length + more) (.int .u8 0)) e)) = .ok (goInt l.length) w2 ∧
      Blk e w2 W.heap.size (l ++ List.replicate more 0) ∧ Below W.heap.size W w2 := by
  have hnew : (W.alloc (.cells (Array.replicate (l.length + more) (.int .u8 0)) e)).heap[W.heap.size]? = some (.cells (Array.replicate (l.length + more) (.int .u8 0)) e (0, 0)) := heap_alloc_new W _
  have hb1 : Below W.heap.size W (W.alloc (.cells (Array.replicate (l.length + more) (.int .u8 0)) e)) := (Below.refl _ _).alloc (Nat.le_refl _) _
  have hrep : bV (List.replicate more 0) = List.replicate more (.int .u8 0) := by simp [bV, List.map_replicate]
  by_cases h0 : l.length = 0
  · obtain rfl := List.eq_nil_of_length_eq_zero h0
    refine ⟨_, run_copy_none (P := P) _ t t ty e _ a _ _ 0 cap ht hi (Nat.zero_min _), ?_, hb1⟩
    unfold Blk
    rw [hnew, List.nil_append, hrep]
    simp
  · obtain ⟨b, off, rfl, hbl, _⟩ := hin 0 (by omega)
    have hr := run_copy_row (P := P) (W.alloc (.cells (Array.replicate (l.length + more) (.int .u8 0)) e)) t t ty e W.heap.size 0 (l.length + more) (l.length + more) ⟨b, off, none⟩ l.length cap _ e (bV l) ht hi hnew
      (by rw [bV_length]; exact (Nat.min_eq_left (Nat.le_add_right _ _)).symm) (fun j v hj => by
        have hjl : j < l.length := by
          have := (List.getElem?_eq_some_iff.1 hj).1
          rwa [bV_length] at this
        obtain ⟨b', off', he, hb', hc⟩ := hin j hjl
        obtain ⟨rfl, rfl⟩ : b = b' ∧ off = off' := by simpa using he
        rw [bV_get l j hjl] at hj
        have e1 : (Addr.mk b off none).add j = ⟨b, off + j, none⟩ := by unfold Addr.add; split <;> simp_all
        rw [e1, World.cell?_of_block (w := W) (hb1.block b hb'), hc]
        exact hj) (by simp [bV_length]) (bV_one l)
    rw [bV_length] at hr
    refine ⟨_, hr, ?_, hb1.trans ⟨rfl, rfl, rfl, by simp, fun k hk => setRow_other _ _ _ _ (by omega)⟩⟩
    unfold Blk
    rw [setRow_heap _ _ _ _ _ _ hnew, bV_append, hrep]
    simp
theorem Blk.bts {t : TypeId} {w : World} {g B n : Nat} {L : List UInt8} (h : Blk t w g L) (hn : L.length = n) (hB : B ≤ g) (hm : n ≤ maxLen) : Bts t w B (.slice (some ⟨g, 0, none⟩) n n) L := by
  subst hn
  exact ⟨by simp [bV_length], .inr ⟨_, _, _, rfl, hB, h, Nat.le_refl _, hm, by simp [bV_length], by simp [List.take_of_length_le, bV_length]⟩⟩

set_option maxRecDepth 20000 in
theorem uput_any (a : Option Addr) (cap : Nat) (l : List UInt8) (r : Int) (w : World) (hl : l.length ≤ 140737488351232) (hin : BIn w a l) (ht : Hds w) :
    Calls Tryd.prog 22 #[.slice a l.length cap, .int .i32 r] w fun e w' => ∃ v, e = .returned v ∧ Bts 5 w' w.heap.size v (l ++ uBI r) ∧ Below w.heap.size w w' := by
  have hW4 := uW_le r
  obtain ⟨N, hN⟩ : ∃ N, N = l.length + uW r := ⟨_, rfl⟩
  have hmk := Lib.hid (fun w => make_all N w (by omega))
  obtain ⟨w2, hcp0, hbt, hbel⟩ := copy_all Tryd.prog 35 5 3 Tryd.underlying35 size8 w a cap (uW r) l hin
  rw [← hN] at hcp0
  have hcp := Lib.hid hcp0
  have HWd := Lib.hid (fun w => uwidth_any r w)
  have hgl := ht.lt
  have HL := Lib.hid (fun a2 c2 ha => ulay_any w.heap.size l.length c2 l _ r w2 rfl (List.length_replicate) a2 ha hbt (ht.below hbel hgl) (by omega))
  have hU := Lib.hid (uBI_len r)
  have hmk2 := Lib.hid (show ∀ w, (Instr.makeSlice 35 (.int .i64 ((l.length : Int) + (uW r : Int))) (.int .i64 ((l.length : Int) + (uW r : Int)))).run Tryd.prog w = .ok (.slice (some ⟨w.heap.size, 0, none⟩) N N) (w.alloc (.cells (Array.replicate N (.int .u8 0)) 5)) from fun w => by
    rw [← hmk.out w, show (l.length : Int) + (uW r : Int) = (N : Int) by omega])
  have hwr : IntKind.i64.wrap ((l.length : Int) + (uW r : Int)) = (l.length : Int) + (uW r : Int) := IntWalk.i64_in _ (by omega)
  have hsl : (l.length : Int) ≤ (N : Int) := by omega
  have hN2 := Lib.hid hN
  clear hin hcp0 hbt ht hmk hN
  generalize uW r = V at *
  go_enter Tryd.func22, Tryd.ntmps22
  go_wp2_with fail
  with_reducible refine (HWd.out _).mono ?_
  rintro e w' ⟨rfl, hw⟩
  rw [hw]; clear hw
  go_wp2_with fail
  rw [hmk2.out]
  go_wp2_with fail
  rw [hcp.out]
  go_wp2_with fail
  case inl =>
    have hV0 : V = 0 := by have := hN2.out; omega
    subst hV0
    with_reducible refine (HL.out _ _ (fun h => absurd rfl h)).mono ?_
    rintro e w3 ⟨rfl, hb3, ho3⟩
    have hb4 := Lib.hid (hb3.bts (B := w.heap.size) (n := l.length) (by rw [List.length_append, hU.out]; rfl) (Nat.le_refl _) (by unfold maxLen; omega))
    have hbl := Lib.hid (hbel.trans (ho3.below (Nat.le_refl _) hbel.size))
    clear hb3 ho3 hbel
    go_wp2
    go_ret
    exact ⟨_, rfl, hb4.out, hbl.out⟩
  case inr =>
    have hNV : N - l.length = V := by have := hN2.out; omega
    rw [hNV]
    with_reducible refine (HL.out _ _ (fun h => rfl)).mono ?_
    rintro e w3 ⟨rfl, hb3, ho3⟩
    have hb4 := Lib.hid (hb3.bts (B := w.heap.size) (n := N) (by rw [List.length_append, hU.out]; exact hN2.out.symm) (Nat.le_refl _) (by have := hN2.out; unfold maxLen; omega))
    have hbl := Lib.hid (hbel.trans (ho3.below (Nat.le_refl _) hbel.size))
    clear hb3 ho3 hbel
    go_wp2
    go_ret
    exact ⟨_, rfl, hb4.out, hbl.out⟩
end Go.Proofs.YteakcfgjjlocjaaDoor
