/- The document's last field of some tags; two lists of texts compared. -/
import Derived.Test.YtipnaonagepolaaDoorPmT
namespace Go.Proofs.YtipnaonagepolaaDoor
open Go Go.RowKit
set_option linter.unusedVariables false

set_option maxRecDepth 20000 in
set_option maxHeartbeats 1000000 in
theorem rlast_any (a ta : Option Addr) (cap tc : Nat) (l : List FD) (T : List TG) (w : World) (hl : l.length ≤ 1099511627776) (hT : T.length ≤ 1099511627776) (hin : FIn w a l) (tin : TgIn w ta T) :
    Calls Tryd.prog 20 #[.slice a l.length cap, .slice ta T.length tc] w fun e w' => e = .returned (.tuple #[pfV (fLast l (tKn T)), .bool (fIs l (tKn T))]) ∧ Below w.heap.size w w' := by
  have HI := Lib.hid hin
  have HT := Lib.hid tin
  have F1 := Lib.hid (fd_alloc w fZ 45)
  have B1 := Lib.hid (fd_grow w fZ 45)
  have S1 : w.heap.size < (w.alloc (.cells #[.int .i64 0, .int .i64 0, .int .u64 0, .string ⟨#[]⟩] 45)).heap.size := by simp
  clear hin tin
  go_enter Tryd.func20, Tryd.ntmps20
  go_wp2_with fail
  go_loopw [6] (fun v wr => ∃ k : Nat, k ≤ l.length ∧ v = .int .i64 ((k : Int) - 1) ∧ (∀ x ∈ l.drop k, tKn T x = false) ∧ PfT 45 wr w.heap.size fZ ∧ Below w.heap.size w wr) (fun v _ => (intOf v + 1).toNat)
  case atStart => exact ⟨l.length, Nat.le_refl _, rfl, by rw [List.drop_length]; simp, F1.out, B1.out⟩
  case round =>
    obtain ⟨k, hk, hv, hno, hres, hbel⟩ := hrel
    have HR := Lib.hid hres
    have HB := Lib.hid hbel
    have r0 := hres.c0; have r1 := hres.c1; have r2 := hres.c2; have r3 := hres.c3
    have s0 := hres.fr 0; have s1 := hres.fr 1; have s2 := hres.fr 2; have s3 := hres.fr 3
    clear hres hbel
    rcases k with _ | K
    · have hv' : u6 = .int .i64 (-1) := hv
      subst hv'
      have p1 : decide ((0 : Int) ≤ -1) = false := rfl
      obtain ⟨n1, n2⟩ := fLast_none (l := l) (q := tKn T) (by simpa using hno)
      have HE := Lib.hid (And.intro n1 n2)
      have RS := Lib.hid (HR.out.setAll fZ)
      have BE := Lib.hid (show Below w.heap.size w ((((wr.setCell ⟨w.heap.size, 0, none⟩ (.int .i64 0)).setCell ⟨w.heap.size, 1, none⟩ (.int .i64 0)).setCell ⟨w.heap.size, 2, none⟩ (.int .u64 0)).setCell ⟨w.heap.size, 3, none⟩ (.string ⟨#[]⟩)) from (set_keeps (set_keeps (set_keeps (set_keeps HB.out (Nat.le_refl _)) (Nat.le_refl _)) (Nat.le_refl _)) (Nat.le_refl _)))
      clear hv hno n1 n2
      unfold fZ at r0 r1 r2 r3
      dsimp only at r0 r1 r2 r3
      go_wp2
      refine bodyPost_ret (fb_result Tryd.underlying45 rfl (by kernel_rfl) Tryd.results20 _ RS.out rfl rfl) rfl ?_
      exact ⟨by rw [HE.out.1, HE.out.2]; rfl, BE.out⟩
    · have hv' : u6 = .int .i64 (K : Int) := by rw [hv]; congr 1; omega
      subst hv'
      have hlt : K < l.length := by omega
      have p1 : decide ((0 : Int) ≤ (K : Int)) = true := decide_eq_true (by omega)
      have p2 : (K : Int) < (l.length : Int) := by omega
      obtain ⟨g, rfl, hg, k0, k1, k2, k3⟩ := HI.out.below HB.out (Nat.le_refl _) K hlt
      have HK := Lib.hid (rknown_any ta tc T l[K] wr hT (HT.out.below HB.out (Nat.le_refl _)))
      have HS := Lib.hid (fun (h : tKn T l[K] = true) => show fLast l (tKn T) = l[K] ∧ fIs l (tKn T) = true by
        have := fLast_some (a := l.take K) (b := l.drop (K + 1)) (x := l[K]) (q := tKn T) h hno
        rwa [← List.drop_eq_getElem_cons hlt, List.take_append_drop] at this)
      have HD := Lib.hid (fun (h : tKn T l[K] = false) => show ∀ x ∈ l.drop K, tKn T x = false by
        rw [List.drop_eq_getElem_cons hlt]
        intro x hx
        rcases List.mem_cons.1 hx with rfl | hx
        · exact h
        · exact hno x hx)
      clear hv hno hg
      generalize l[K] = x at *
      have RA := Lib.hid (fun (W : World) (h : PfT 45 W w.heap.size fZ) => h.setAll x)
      have HI2 := Lib.hid (show FdAt wr g K x from ⟨k0, k1, k2, k3⟩)
      generalize tKn T x = B at *
      have hgl : g < wr.heap.size := by
        have := k0
        exact Classical.byContradiction fun hn => by
          rw [World.cell?, Array.getElem?_eq_none (by simpa using hn)] at this
          cases this
      obtain ⟨x0, x1, x2, x3⟩ := x
      unfold pfV at HK
      dsimp only at HK k0 k1 k2 k3
      cases B
      · have HD2 := Lib.hid (HD.out rfl)
        clear HD HS
        go_wp2_with (go_at_call 39; refine HK.out.mono ?_; rintro e w1 ⟨rfl, hb⟩; have HB1 := Lib.hid (below_on HB.out hb HB.out.size); have HR1 := Lib.hid (HR.out.below hb HR.out.lt); clear hb)
        go_roundw
        case rel => exact ⟨K, by omega, by go_num, HD2.out, HR1.out, HB1.out⟩
        case measure => simp [intOf]
      · have HE := Lib.hid (HS.out rfl)
        clear HD HS
        go_wp2_with (go_at_call 39; refine HK.out.mono ?_; rintro e w1 ⟨rfl, hb⟩; obtain ⟨m0, m1, m2, m3⟩ := HI2.out.below hb hgl; have HB1 := Lib.hid (below_on HB.out hb HB.out.size); have HR1 := HR.out.below hb HR.out.lt; have r0 := HR1.c0; have r1 := HR1.c1; have r2 := HR1.c2; have r3 := HR1.c3; have s0 := HR1.fr 0; have s1 := HR1.fr 1; have s2 := HR1.fr 2; have s3 := HR1.fr 3; have RS := Lib.hid (RA.out _ HR1); have BE := Lib.hid (show Below w.heap.size w ((((w1.setCell ⟨w.heap.size, 0, none⟩ (.int .i64 x0)).setCell ⟨w.heap.size, 1, none⟩ (.int .i64 x1)).setCell ⟨w.heap.size, 2, none⟩ (.int .u64 (x2 : Nat))).setCell ⟨w.heap.size, 3, none⟩ (.string x3)) from (set_keeps (set_keeps (set_keeps (set_keeps HB1.out (Nat.le_refl _)) (Nat.le_refl _)) (Nat.le_refl _)) (Nat.le_refl _))); unfold fZ at r0 r1 r2 r3; dsimp only at r0 r1 r2 r3; clear hb HR1)
        refine bodyPost_ret (fb_result Tryd.underlying45 rfl (by kernel_rfl) Tryd.results20 _ RS.out rfl rfl) rfl ?_
        exact ⟨by rw [HE.out.1, HE.out.2]; rfl, BE.out⟩

def StRel (w : World) (l m : List ByteArray) (i : Value) (wr : World) : Prop := ∃ j : Nat, j ≤ l.length ∧ i = .int .i64 (j : Nat) ∧ Hid (l.take j = m.take j) ∧ Below w.heap.size w wr
set_option maxRecDepth 20000 in
set_option maxHeartbeats 1000000 in
/-- Of two lists that are one. -/
theorem stexts_same (a b : Option Addr) (c1 c2 : Nat) (l : List ByteArray) (w : World) (hl : l.length ≤ 1000000) (hin : SIn w a l) (hin2 : SIn w b l) :
    Calls Tryd.prog 15 #[.slice a l.length c1, .slice b l.length c2] w fun e w' => e = .returned (.bool true) ∧ Below w.heap.size w w' := by
  have HI := Lib.hid hin
  have HJ := Lib.hid hin2
  clear hin hin2
  go_enter Tryd.func15, Tryd.ntmps15
  go_wp2_with fail
  go_loopw [5] (fun i wr => ∃ j : Nat, j ≤ l.length ∧ i = .int .i64 (j : Nat) ∧ Below w.heap.size w wr) (fun i _ => l.length - (intOf i).toNat)
  case atStart => exact ⟨0, Nat.zero_le _, rfl, Below.refl _ _⟩
  case round =>
    obtain ⟨j, hj, rfl, hbel⟩ := hrel
    by_cases hlt : j < l.length
    · have p1 : decide ((j : Int) < (l.length : Int)) = true := decide_eq_true (by omega)
      have p2 : (j : Int) < (l.length : Int) := by omega
      obtain ⟨g, off, rfl, hg, k0⟩ := HI.out.below hbel j hlt
      obtain ⟨g2, off2, rfl, hg2, k1⟩ := HJ.out.below hbel j hlt
      have HB := Lib.hid hbel
      clear hbel hg hg2
      generalize l[j] = y at *
      go_wp2_with fail
      go_quiet (fail)
      go_wp2
      go_roundw
      case rel => exact ⟨j + 1, by omega, by go_num, Below.drewN HB.out _⟩
      case measure => simp [intOf]; omega
    · have p1 : decide ((j : Int) < (l.length : Int)) = false := decide_eq_false (by omega)
      have HB := Lib.hid hbel
      clear hbel
      go_wp2
      go_ret
      exact ⟨rfl, HB.out⟩
end Go.Proofs.YtipnaonagepolaaDoor
