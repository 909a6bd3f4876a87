/- Package pread: a field's tag; readText. -/
import Derived.Test.YtjpppnfkpnfhoaaDoorZG
import Derived.Test.YtjpppnfkpnfhoaaDoorZD
namespace Go.Proofs.YtjpppnfkpnfhoaaDoor
open Go Go.RowKit
set_option linter.unusedVariables false

theorem tag_any (n v : Int) (u : Nat) (s : ByteArray) (w : World) :
    Calls Tryd.prog 23 #[.agg #[.int .i64 n, .int .i64 v, .int .u64 (u : Nat), .string s]] w fun e w' => e = .returned (tgV n v) ∧ Below w.heap.size w w' := by
  obtain ⟨w1, hw1⟩ : ∃ w1, w1 = ((w.alloc (.cells #[.int .i64 n, .int .i64 v, .int .u64 (u : Nat), .string s] 38)).alloc (.cells #[.int .i64 0, .int .i64 0] 58)) := ⟨_, rfl⟩
  have F0 := (fd_alloc w (n, v, u, s) 38).alloc (.cells #[.int .i64 0, .int .i64 0] 58)
  have T0 := tg_alloc 58 (w.alloc (.cells #[.int .i64 n, .int .i64 v, .int .u64 (u : Nat), .string s] 38)) 0 0
  rw [World.size_alloc] at T0
  have B0 := Lib.hid (show Below w.heap.size w w1 by rw [hw1]; exact ((Below.refl _ w).alloc (Nat.le_refl _) _).alloc (by simp) _)
  go_enter Tryd.func23, Tryd.ntmps23
  go_upto_region 1 with fail
  rw [← hw1]
  rw [← hw1] at F0 T0
  have f0 := F0.c0; have f1 := F0.c1; have t0 := T0.c0; have t1 := T0.c1; have tf := T0.fr
  have HA := Lib.hid (T0.set n v)
  clear F0 T0 hw1
  go_wp2
  exact bodyPost_ret (tg_result Tryd.underlying58 rfl (by kernel_rfl) Tryd.results23 HA.out rfl) rfl ⟨rfl, tg_set_below B0.out (by omega)⟩

theorem left_nat {b L : Nat} {c : CS} {w : World} (h : CurT 82 w b c) (hc : c.ok) (hL : Hid (L = c.en - c.at_)) :
    Calls Tryd.prog 33 #[.pointer (some ⟨b, 0, none⟩)] w fun e w' => e = .returned (.int .i64 (L : Nat)) ∧ ∃ n, w' = w.drewN n := by
  have := left_any h hc
  rw [show ((c.en : Int) - c.at_) = ((L : Nat) : Int) by rw [hL.out]; have := hc.1; omega] at this
  exact this

theorem rtxt_any {b : Nat} {c : CS} {w : World} (h : CurT 82 w b c) (hc : c.ok) :
    Calls Tryd.prog 47 #[.pointer (some ⟨b, 0, none⟩)] w fun e w' => e = .returned (.string c.xTxt) ∧ CurT 82 w' b c.xTo ∧ Only b w w' := by
  have HV := Lib.hid (fun w (h : CurT 82 w b c) => vread_any h hc)
  have hd := CS.vTo_ok hc
  have hV := CS.vVal_lt c
  obtain ⟨V, eV⟩ : ∃ V, V = c.vVal := ⟨_, rfl⟩
  obtain ⟨d, ed⟩ : ∃ d, d = c.vTo := ⟨_, rfl⟩
  have HT := Lib.hid (show c.xTo = (if d.en - d.at_ < V then d.fail 1 else d.take (V : Nat)) ∧ c.xTxt = (if d.en - d.at_ < V then ⟨#[]⟩ else d.takeS (V : Nat)) by rw [eV, ed]; exact ⟨rfl, rfl⟩)
  rw [← eV, ← ed] at HV
  rw [← ed] at hd
  rw [← eV] at hV
  clear eV ed
  obtain ⟨L, hL⟩ : ∃ L, Hid (L = d.en - d.at_) := ⟨_, Lib.hid rfl⟩
  have hLs : L ≤ 9223372036854775807 := by rw [hL.out]; have := hd.2.1; have := hd.2.2; omega
  have HL := Lib.hid (fun w (h : CurT 82 w b d) => left_nat h hd hL)
  have e1 : IntKind.u64.wrap (L : Int) = (L : Int) := IntWalk.u64_in _ (by omega)
  have HF := Lib.hid (fun w (h : CurT 82 w b d) => fail_any h 1)
  have HK := Lib.hid (fun w (h : CurT 82 w b d) => take_any h hd (V : Nat))
  rw [← hL.out] at HT
  by_cases hlt : L < V
  · have p1 : decide ((L : Int) < (V : Int)) = true := decide_eq_true (by omega)
    have p2 : decide (L < V) = true := decide_eq_true hlt
    have HR := Lib.hid HT.out
    rw [if_pos hlt, if_pos hlt] at HR
    clear HT hlt hL hd hLs hV
    go_enter Tryd.func47, Tryd.ntmps47
    go_wp2_with fail
    with_reducible refine (HV.out _ h).mono ?_
    rintro e w1 ⟨rfl, h1, o1⟩
    go_wp2_with fail
    with_reducible refine (HL.out _ h1).mono ?_
    rintro e w2 ⟨rfl, m, rfl⟩
    have h2 := h1.drewN m
    have O2 := Lib.hid (o1.drewN m)
    clear h1 o1
    go_wp2_with fail
    with_reducible refine (HF.out _ h2).mono ?_
    rintro e w3 ⟨rfl, h3, o3⟩
    go_wp2
    go_ret
    exact ⟨by rw [HR.out.2]; rfl, by rw [HR.out.1]; exact h3, O2.out.trans o3⟩
  · have p1 : decide ((L : Int) < (V : Int)) = false := decide_eq_false (by omega)
    have p2 : decide (L < V) = false := decide_eq_false hlt
    have e2 : IntKind.i64.wrap (V : Int) = (V : Int) := IntWalk.i64_in _ (by omega)
    have HR := Lib.hid HT.out
    rw [if_neg hlt, if_neg hlt] at HR
    clear HT hlt hL hd hLs hV
    go_enter Tryd.func47, Tryd.ntmps47
    go_wp2_with fail
    with_reducible refine (HV.out _ h).mono ?_
    rintro e w1 ⟨rfl, h1, o1⟩
    go_wp2_with fail
    with_reducible refine (HL.out _ h1).mono ?_
    rintro e w2 ⟨rfl, m, rfl⟩
    have h2 := h1.drewN m
    have O2 := Lib.hid (o1.drewN m)
    clear h1 o1
    go_wp2_with fail
    with_reducible refine (HK.out _ h2).mono ?_
    rintro e w3 ⟨rfl, h3, o3⟩
    go_wp2
    go_ret
    exact ⟨by rw [HR.out.2]; rfl, by rw [HR.out.1]; exact h3, O2.out.trans o3⟩
end Go.Proofs.YtjpppnfkpnfhoaaDoor
