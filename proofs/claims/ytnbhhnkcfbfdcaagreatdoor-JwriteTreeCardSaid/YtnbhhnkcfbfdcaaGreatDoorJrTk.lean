/- The document's Kids (package truchmanref13). -/
import Derived.Test.YtnbhhnkcfbfdcaaGreatDoorJrK
import Derived.Deep.Cut
import Derived.Deep.CutRange
namespace Go.Proofs.YtnbhhnkcfbfdcaaGreatDoor
open Go Go.RowKit
set_option linter.unusedVariables false

set_option maxRecDepth 20000 in
set_option maxHeartbeats 2000000 in
theorem rkids_any (a : Option Addr) (cap : Nat) (l : List ND) (x : Int) (w : World) (hl : l.length ≤ 1099511627776) (hin : NIn w a l) (hsz : SzOk l) (h0 : -9223372036854775808 ≤ x) (h1 : x ≤ 9223372036854775807) :
    Calls Tryz.prog 25 #[.slice a l.length cap, .int .i64 x] w fun e w' => ∃ v, e = .returned v ∧ IRow w' w.heap.size v (kidsL l x) ∧ Below w.heap.size w w' := by
  by_cases hx : x < 0
  · have p1 : decide (x < 0) = true := decide_eq_true hx
    have HK := Lib.hid (show kidsL l x = [] by unfold kidsL; rw [if_pos (.inl hx)])
    clear hin hsz
    go_enter Tryz.func25, Tryz.ntmps25
    go_wp2
    go_ret
    exact ⟨_, rfl, by rw [HK.out]; exact irow_nil _ _, Below.refl _ _⟩
  · have p1 : decide (x < 0) = false := decide_eq_false hx
    by_cases hx2 : (l.length : Int) ≤ x
    · have p2 : decide ((l.length : Int) ≤ x) = true := decide_eq_true hx2
      have HK := Lib.hid (show kidsL l x = [] by unfold kidsL; rw [if_pos (.inr hx2)])
      clear hin hsz
      go_enter Tryz.func25, Tryz.ntmps25
      go_wp2
      go_ret
      exact ⟨_, rfl, by rw [HK.out]; exact irow_nil _ _, Below.refl _ _⟩
    · have p2 : decide ((l.length : Int) ≤ x) = false := decide_eq_false hx2
      obtain ⟨p, rfl⟩ : ∃ p : Nat, x = p := ⟨x.toNat, by omega⟩
      have hp : p < l.length := by omega
      have HK := Lib.hid (show kidsL l (p : Nat) = kdL l l.length (p + 1) (p + l[p].2.2.2) by
        unfold kidsL
        rw [if_neg (by omega), Int.toNat_natCast, getD_at hp])
      obtain ⟨b, rfl, hb, _, _, _, hc3⟩ := hin p hp
      have HC := Lib.hid (show ∀ j (h : j < l.length), w.cell? ⟨b, j * 4 + 3, none⟩ = some (.int .i64 (l[j].2.2.2 : Nat)) from fun j h => by
        obtain ⟨b', e, _, _, _, _, hc⟩ := hin j h
        obtain rfl : b = b' := by simpa using e
        exact hc)
      have HS := Lib.hid hsz
      obtain ⟨z1, z2⟩ := hsz p hp
      obtain ⟨E, hE⟩ : ∃ E, E = p + l[p].2.2.2 := ⟨_, rfl⟩
      rw [← hE] at HK
      generalize hm : l[p].2.2.2 = m at *
      have q1 : (p : Int) < (l.length : Int) := by omega
      have q2 : (0 : Int) ≤ (p : Int) := by omega
      have zw : IntKind.i64.wrap ((p : Int) + (m : Int)) = (E : Int) := by rw [i64_small (by omega) (by omega)]; omega
      have zw1 : IntKind.i64.wrap ((p : Int) + 1) = ((p + 1 : Nat) : Int) := by rw [i64_small (by omega) (by omega)]; rfl
      have HE := Lib.hid (And.intro hE (And.intro z1 z2))
      have HX := Lib.hid (And.intro hx hx2)
      clear hin hsz hE z1 z2 hx hx2 hm h0 h1
      go_enter Tryz.func25, Tryz.ntmps25
      go_wp2_with fail
      go_loopw [5, 6] (fun v i wr => KdRel l p E w v i wr) (fun _ i _ => l.length - (intOf i).toNat)
      case atStart => exact ⟨p + 1, l.length, [], by go_num, irow_nil _ _, Nat.le_refl _, by omega, by have := HE.out; omega, Nat.zero_le _, Lib.hid rfl, Below.refl _ _⟩
      case round =>
        obtain ⟨k, f, D, rfl, hrow, hk1, hk2, hf, hD, hq, hbel⟩ := hrel
        have hcp := (hbel.cell (p := ⟨b, p * 4 + 3, none⟩) hb).trans hc3
        by_cases hlt : k < E
        · have p3 : decide (k < E) = true := decide_eq_true hlt
          have p4 : (k : Int) < (E : Int) := by omega
          have hkl : k < l.length := by have := HE.out; omega
          have hck := (hbel.cell (p := ⟨b, k * 4 + 3, none⟩) hb).trans (HC.out k hkl)
          obtain ⟨f, rfl⟩ : ∃ f', f = f' + 1 := ⟨f - 1, by omega⟩
          have HQ := Lib.hid (kdL_go (f := f) hlt hkl)
          obtain ⟨y1, y2⟩ := HS.out k hkl
          generalize l[k].2.2.2 = m2 at *
          have p5 : decide (k < l.length) = true := decide_eq_true hkl
          have p6 : (k : Int) < (l.length : Int) := by omega
          have hmx : max (1 : Int) (m2 : Int) = (m2 : Int) := by omega
          have r1 : (k : Int) < (l.length : Int) := by omega
          have r2 : (0 : Int) ≤ (k : Int) := by omega
          have zw2 : IntKind.i64.wrap ((k : Int) + max 1 (m2 : Int)) = ((k + m2 : Nat) : Int) := by rw [hmx, i64_small (by omega) (by omega)]; omega
          have HF := Lib.hid (And.intro hf (And.intro y1 (And.intro y2 (And.intro hD hk1))))
          have hDl : D.length ≤ 1099511627776 := by omega
          have HH := Lib.hid hq
          have hsz := hbel.size
          clear hmx hf y1 y2 hD hq hlt hk1
          go_wp2_with (at_builtin; go_loud (refine wpList_append_nat rfl (.tmp 40) (.tmp 42) rfl _ wr w.heap.size D hrow hsz rfl _ k rfl rfl hDl ?_; intro v5 w5 hv5 hb5; have hck5 := (hb5.cell (p := ⟨b, k * 4 + 3, none⟩) hb).trans hck))
          have hbel5 := hbel.trans hb5
          go_roundw
          case rel =>
            obtain ⟨hf, y1, y2, hD, hk1⟩ := HF.out
            refine ⟨k + m2, f, D ++ [k], by go_num, hv5, by omega, y2, by omega, by rw [List.length_append, List.length_singleton]; omega, Lib.hid ?_, hbel5⟩
            rw [HH.out.out, HQ.out]; simp
          case measure =>
            obtain ⟨hf, y1, y2, hD, hk1⟩ := HF.out
            simp [intOf]; omega
        · have p3 : decide (k < E) = false := decide_eq_false hlt
          have p4 : ¬ k < E := hlt
          have HQ := Lib.hid (show kdL l l.length (p + 1) E = D by rw [hq.out, kdL_end hlt, List.append_nil])
          have HR := Lib.hid (And.intro hrow hbel)
          clear hrow hq hlt hf
          go_wp2
          go_ret
          exact ⟨_, rfl, by rw [HK.out, HQ.out]; exact HR.out.1, HR.out.2⟩
end Go.Proofs.YtnbhhnkcfbfdcaaGreatDoor
