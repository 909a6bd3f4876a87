/- JtokenPuts, walked: where the texts are of at most 1048576 bytes. -/
import Derived.Test.YticlijjkeeejpaaDoorJtWork
import Derived.Deep.RegionHeld3
import Derived.Deep.DrawnRows
namespace Go.Proofs.YticlijjkeeejpaaDoor
open Go Go.RowKit
set_option linter.unusedVariables false

/-- The call's own block, and all that was there. -/
def PS (w : World) (y : TK) (wx : World) : Prop := Below w.heap.size w wx ∧ TkT 37 wx w.heap.size y
theorem PS.b {w wx : World} {y : TK} (h : PS w y wx) : Below w.heap.size w wx := h.1
theorem PS.next {w wx wy : World} {y : TK} (h : PS w y wx) (hb : Below wx.heap.size wx wy) : PS w y wy := ⟨h.1.trans (hb.mono h.1.size), h.2.below hb h.2.lt⟩
theorem PS.drew {w wx : World} {y : TK} (h : PS w y wx) : PS w y wx.drew := ⟨h.1.drew, h.2⟩
theorem PS.bytes {w wx : World} {y : TK} (h : PS w y wx) (p : ByteArray) : PS w y (Lib.bytesWorld wx 5 p) := h.next (bytes_below _ _ _)
theorem PS.all {w wx : World} {y : TK} (h : PS w y wx) : wx.cell? ⟨w.heap.size, 0, none⟩ = some (.int .u8 (y.1.toNat : Int)) ∧ wx.cell? ⟨w.heap.size, 1, none⟩ = some (.string (bA y.2)) := ⟨h.2.c0, h.2.c1⟩
theorem bi_drew (w : World) (t : TypeId) (p : ByteArray) : BIn (Lib.bytesWorld w.drew t p) (some ⟨w.heap.size, 0, none⟩) p.data.toList := bytes_in w.drew t p
def TxUp (w' : World) (v : Value) (T : ByteArray) : Prop := ∀ wx, Below w'.heap.size w' wx → (convert 46 9 v).run Tryd.prog wx = .ok (.string T) wx
theorem kput_p (p : ByteArray) (y : TK) (a : Option Addr) (cap : Nat) (w : World) (hp : p.size ≤ 1048576) (hy : y.2.length ≤ 1048576) (hin : BIn w a p.data.toList) :
    Calls Tryd.prog 17 #[.slice a p.size cap, .agg #[.int .u8 (y.1.toNat : Int), .string (bA y.2)]] w fun e w' => ∃ v, e = .returned v ∧ TxUp w' v (p ++ bA (tPut y)) ∧ Below w.heap.size w w' := by
  have := put_any a cap p.data.toList y w (by rw [toList_size]; omega) (by omega) hin
  rw [toList_size] at this
  refine this.mono ?_
  rintro e w' ⟨v, he, hb, hbe⟩
  refine ⟨v, he, fun wx hx => ?_, hbe⟩
  have := (hb.below hx (Nat.le_refl _)).text (P := Tryd.prog) (d := 9) Tryd.underlying46 Tryd.underlying5 Tryd.underlying9
  rw [bA_front] at this; exact this
attribute [local go_sem ↓] Go.wp_at_zero Go.wp_at_succ
set_option maxRecDepth 100000 in
set_option maxHeartbeats 4000000 in
theorem kputs_any (p : ByteArray) (k : UInt8) (t : ByteArray) (w : World) (hp : p.size ≤ 1048576) (ht : t.size ≤ 1048576) (hh : Hds w) :
    Calls Tryd.prog 5 #[.string p, .agg #[.int .u8 (k.toNat : Int), .string t]] w fun e w' => e = .returned (.bool true) ∧ Below w.heap.size w w' := by
  obtain ⟨y, hy⟩ : ∃ y : TK, y = (k, t.data.toList) := ⟨_, rfl⟩
  have hk : k = y.1 := by rw [hy]
  have htt : t = bA y.2 := by rw [hy, bA_of]
  have hyl : y.2.length ≤ 1048576 := by rw [hy]; simp only; rw [toList_size]; exact ht
  subst hk htt
  clear hy
  have hcv := Lib.hid (fun (w : World) => Lib.run_convert_string_bytes (P := Tryd.prog) w 9 46 5 p Tryd.underlying9 Tryd.underlying46 Tryd.underlying5)
  have HPut := Lib.hid (fun a cap w hin => kput_p p y a cap w hp hyl hin)
  have HText := Lib.hid (fun w => tktext_any y w (by omega))
  have hpl := tPut_len y
  have sT : (bA (tPut y)).size ≤ 6291461 := by rw [bA_size]; omega
  have H0 := Lib.hid (show PS w y (w.alloc (.cells #[.int .u8 (y.1.toNat : Int), .string (bA y.2)] 37)) from ⟨alloc_below w _, tk_box w y _⟩)
  have HTt := Lib.hid (show ∀ w', Below w.heap.size w w' → Hds w' from fun w' hb => hh.below hb hh.lt)
  clear hpl hh
  generalize bA (tPut y) = T at *
  have l1 : ¬ 9223372036854775807 < p.size + T.size := by omega
  have heq : ((p ++ T).toList == (p ++ T).toList) = true := by simp
  go_enter Tryd.func5, Tryd.ntmps5
  go_wp2_with fail
  generalize w.alloc (.cells #[.int .u8 (y.1.toNat : Int), .string (bA y.2)] 37) = W0 at *
  obtain ⟨c0, c1⟩ := H0.out.all
  obtain ⟨c2, c3⟩ := (H0.out.drew.bytes p).all
  go_region_with (first
    | rw [hcv.out]
    | (go_at_call 17; go_loud (with_reducible refine (HPut.out _ _ _ (by first | with_reducible exact bi_drew W0 _ p | with_reducible exact bytes_in _ _ _ | with_reducible exact (bi_drew W0 _ p).below hbB | with_reducible exact (bytes_in _ _ _).below hbB)).mono ?_; rintro e wA ⟨vA, rfl, hupA, hbA⟩); (first | have HA := Lib.hid ((H0.out.drew.bytes p).next hbA) | have HA := Lib.hid ((HB.out.bytes p).next hbA) | have HA := Lib.hid (HB.out.next hbA)); have kA1 := hupA _ (Below.refl _ _); obtain ⟨c4, c5⟩ := HA.out.all)
    | (go_at_call 18; go_loud (with_reducible refine (HText.out _).mono ?_; rintro e wB ⟨rfl, hbB⟩); (first | have HB := Lib.hid (H0.out.drew.next hbB) | have HB := Lib.hid ((H0.out.drew.bytes p).next hbB) | have HB := Lib.hid (HA.out.next hbB)); obtain ⟨c6, c7⟩ := HB.out.all; obtain ⟨c8, c9⟩ := (HB.out.bytes p).all; (first | have kA2 := hupA _ hbB | skip))
    | (go_at_call 6; go_loud (refine (works12_any _ (by first | with_reducible exact HTt.out _ HB.out.b | with_reducible exact HTt.out _ HA.out.b)).mono ?_; rintro e wC ⟨rfl, hbC⟩); (first | have HW := Lib.hid (HB.out.next hbC) | have HW := Lib.hid (HA.out.next hbC))))
  all_goals go_wp2
  all_goals go_ret
  all_goals exact ⟨rfl, HW.out.1⟩
end Go.Proofs.YticlijjkeeejpaaDoor
