/- The document's Text of a fault; law 9's example. -/
import Derived.Test.YtnnkpeafhjokjaaDoorFtC
namespace Go.Proofs.YtnnkpeafhjokjaaDoor
open Go Go.RowKit
set_option linter.unusedVariables false

def RFTextRel (ps : List ByteArray) (w : World) (x i : Value) (wr : World) : Prop :=
  ∃ k : Nat, k ≤ ps.length ∧ i = .int .i64 k ∧ x = .string (bA (fpre (ps.take k))) ∧ wr = w
set_option maxRecDepth 100000 in
theorem rftext_any (c : Int) (hc : ¬ c = 0) (h0 : -9223372036854775808 ≤ c) (h1 : c ≤ 9223372036854775807) (a : Option Addr) (cap : Nat) (ps : List ByteArray) (w : World) (hin : SIn w a ps) (hps : ps.length ≤ 1000000) (hlen : (fpre ps).length ≤ 100000000000000) :
    Calls Tryd.prog 11 #[.int .i64 c, .slice a ps.length cap] w fun e w' => e = .returned (.string (bA (ftx c ps))) ∧ w' = w := by
  have p0 : (c == 0) = false := by simp [hc]
  have HT := Lib.hid (rtext_any c h0 h1)
  have HL := Lib.hid hlen
  have HS := Lib.hid hin
  have hT : (bA (Lib.itoa c)).size ≤ 21 := by rw [bA_size]; have := itoa_len c h0 h1; omega
  have HX := Lib.hid (show bA (ftx c ps) = bA (fpre ps) ++ bA (Lib.itoa c) by rw [ftx, bA_append])
  generalize bA (Lib.itoa c) = T at *
  clear hc h0 h1 hlen hin
  go_enter Tryd.func11, Tryd.ntmps11
  go_wp2
  go_loopw [5, 6] (fun x i wr => RFTextRel ps w x i wr) (fun _ i _ => ps.length - (intOf i).toNat)
  case atStart => exact ⟨0, Nat.zero_le _, rfl, rfl, rfl⟩
  case round =>
    obtain ⟨k, hk, rfl, rfl, rfl⟩ := hrel
    by_cases hlt : k < ps.length
    · obtain ⟨g, off, ha, hgl, hcl⟩ := HS.out k hlt
      subst ha
      have hl1 := congrArg List.length (fpre_take ps k hlt)
      have hl2 := fpre_le ps (k + 1)
      have hl3 := HL.out
      rw [List.length_append, List.length_append, toList_size, show ([58, 32] : List UInt8).length = 2 from rfl] at hl1
      have HK := Lib.hid (show bA (fpre (ps.take (k + 1))) = bA (fpre (ps.take k)) ++ ps[k] ++ ⟨#[58, 32]⟩ by rw [fpre_take ps k hlt, ← bA_append, ← bA_append, bA_of]; rfl)
      have p1 : decide ((k : Int) < (ps.length : Int)) = true := decide_eq_true (by omega)
      have i0 : (0 : Int) ≤ (k : Int) := by omega
      have i1 : (k : Int) < (ps.length : Int) := by omega
      have wk : IntKind.i64.wrap ((k : Int) + 1) = (k : Int) + 1 := i64_small (by omega) (by omega)
      have z1 : (bA (fpre (ps.take k))).size ≤ 100000000000000 := by rw [bA_size]; omega
      have z2 : (ps[k]).size ≤ 100000000000000 := by omega
      have z3 : (⟨#[58, 32]⟩ : ByteArray).size = 2 := rfl
      clear hl1 hl2 hl3
      generalize ps[k] = P at *
      generalize bA (fpre (ps.take k)) = F at *
      go_wp2
      go_roundw
      case rel => exact ⟨k + 1, by omega, by go_num, by rw [HK.out], rfl⟩
      case measure => simp [intOf]; omega
    · have hke : k = ps.length := by omega
      subst hke
      have p1 : decide ((ps.length : Int) < (ps.length : Int)) = false := by simp
      have z1 : (bA (fpre ps)).size ≤ 100000000000000 := by rw [bA_size]; exact HL.out
      rw [List.take_length]
      clear hlt
      generalize bA (fpre ps) = F at *
      go_wp2_with (go_at_call 22; refine (HT.out _).mono ?_; rintro r w1 ⟨rfl, hw⟩; rw [hw]; clear hw)
      go_ret
      exact ⟨by rw [HX.out]; rfl, rfl⟩

/-! The example. -/
def w9s : ByteArray := ⟨#[115, 99, 111, 112, 101, 32, 48]⟩
def w9p : ByteArray := ⟨#[115, 112, 97, 110, 32, 50]⟩
theorem w9_text : bA (ftx 10 [w9s, w9p]) = ⟨#[115, 99, 111, 112, 101, 32, 48, 58, 32, 115, 112, 97, 110, 32, 50, 58, 32, 49, 48]⟩ := by decide +kernel
/-- What lasts: the world has grown, the library's two variables stand. -/
structure LW (w0 w : World) : Prop where
  grown : Below w0.heap.size w0 w
  err : ErrT w
  pow : P10 w
theorem LW.next {w0 w w' : World} (h : LW w0 w) (hb : Below w.heap.size w w') : LW w0 w' := ⟨h.grown.trans (hb.mono h.grown.size), h.err.below hb, h.pow.below hb⟩
set_option maxRecDepth 100000 in
set_option maxHeartbeats 2000000 in
theorem works9_any (w : World) (hg : ErrT w) (hp : P10 w) : Calls Tryd.prog 6 #[] w fun e w' => e = .returned (.bool true) ∧ Below w.heap.size w w' := by
  have K1 := Lib.hid (fnew_any 10 (by decide))
  have K2 := Lib.hid (show ∀ w, Calls Tryd.prog 15 #[.string ⟨#[115, 112, 97, 110, 32, 50]⟩, eB 10] w fun e w' => e = .returned (eV 10 [w9p]) ∧ w' = w from fin_any w9p 10 [])
  have K3 := Lib.hid (show ∀ w, Calls Tryd.prog 15 #[.string ⟨#[115, 99, 111, 112, 101, 32, 48]⟩, eV 10 [w9p]] w fun e w' => e = .returned (eV 10 [w9s, w9p]) ∧ w' = w from fin_any w9s 10 [w9p])
  have K4 := Lib.hid (fof_any 10 [w9s, w9p])
  have K5 := Lib.hid (show ∀ w, Calls Tryd.prog 12 #[eV 10 [w9s, w9p], .int .i64 10] w fun e w' => e = .returned (.bool true) ∧ Below w.heap.size w w' from fun w => fhas_any 10 (by decide) [w9s, w9p] 10 w)
  have K6 := Lib.hid (show ∀ w, Calls Tryd.prog 12 #[eV 10 [w9s, w9p], .int .i64 11] w fun e w' => e = .returned (.bool false) ∧ Below w.heap.size w w' from fun w => fhas_any 10 (by decide) [w9s, w9p] 11 w)
  have K7 := Lib.hid (show ∀ w, ErrT w → P10 w → Calls Tryd.prog 10 #[eV 10 [w9s, w9p]] w fun e w' => e = .returned (.string ⟨#[115, 99, 111, 112, 101, 32, 48, 58, 32, 115, 112, 97, 110, 32, 50, 58, 32, 49, 48]⟩) ∧ Below w.heap.size w w' from fun w h1 h2 => by
    rw [← w9_text]; exact ftext_any 10 [w9s, w9p] w (by decide) (by decide) h1 h2 (by decide) (by decide +kernel))
  have K8 := Lib.hid (show ∀ w, ErrT w → Calls Tryd.prog 8 #[eV 10 [w9s, w9p]] w fun e w' => (∃ a cap, e = .returned (.slice a 2 cap)) ∧ Below w.heap.size w w' from fun w h1 => (fpath_any 10 [w9s, w9p] w h1 (by decide)).mono fun e w' ⟨v, he, hv, hb⟩ => by
    obtain ⟨a, cap, rfl, _⟩ := hv.inn
    exact ⟨⟨a, cap, he⟩, hb⟩)
  have K9 := Lib.hid fof_nil
  have K10 := Lib.hid (show ∀ w, Calls Tryd.prog 13 #[.int .i64 33] w fun e w' => e = .returned (.int .i64 2) ∧ w' = w from fclass_any 33)
  have hX := Lib.hid (LW.mk (Below.refl w.heap.size w) hg hp)
  clear hg hp
  generalize eV 10 [w9s, w9p] = E at *
  generalize eV 10 [w9p] = E1 at *
  generalize eB 10 = E0 at *
  go_enter Tryd.func6, Tryd.ntmps6
  go_wp2_with (first
    | (go_at_call 16; with_reducible refine (K1.out _).mono ?_; rintro r w1 ⟨rfl, hw⟩; rw [hw]; clear hw)
    | (go_at_call 15; (first | with_reducible refine (K2.out _).mono ?_ | with_reducible refine (K3.out _).mono ?_); rintro r w1 ⟨rfl, hw⟩; rw [hw]; clear hw)
    | (go_at_call 12; (first | with_reducible refine (K5.out _).mono ?_ | with_reducible refine (K6.out _).mono ?_); rintro r w1 ⟨rfl, hb⟩; replace hX := Lib.hid (hX.out.next hb); clear hb)
    | (go_at_call 10; with_reducible refine (K7.out _ hX.out.err hX.out.pow).mono ?_; rintro r w1 ⟨rfl, hb⟩; replace hX := Lib.hid (hX.out.next hb); clear hb)
    | (go_at_call 8; with_reducible refine (K8.out _ hX.out.err).mono ?_; rintro r w1 ⟨⟨a, cap, rfl⟩, hb⟩; replace hX := Lib.hid (hX.out.next hb); clear hb)
    | (go_at_call 13; with_reducible refine (K10.out _).mono ?_; rintro r w1 ⟨rfl, hw⟩; rw [hw]; clear hw)
    | (go_at_call 9; (first | with_reducible refine (K4.out _ hX.out.err).mono ?_ | with_reducible refine (K9.out _).mono ?_); rintro r w1 ⟨rfl, hb⟩; replace hX := Lib.hid (hX.out.next hb); clear hb))
  go_ret
  exact ⟨rfl, hX.out.grown⟩
end Go.Proofs.YtnnkpeafhjokjaaDoor
