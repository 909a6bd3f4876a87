/- The document's writer (package truchmanref15): Do. -/
import Derived.Test.YtnbhhnkcfbfdcaaDoorJwRi
import Derived.Test.YtnbhhnkcfbfdcaaDoorJwRj
namespace Go.Proofs.YtnbhhnkcfbfdcaaDoor
open Go Go.RowKit
set_option linter.unusedVariables false

theorem wrap_two_all : ∀ n : Fin 256, IntKind.u8.wrap ((n.val : Int) + 2) = ((UInt8.ofNat n.val + 2).toNat : Int) := by decide +kernel
theorem wrap_two (x : UInt8) : IntKind.u8.wrap ((x.toNat : Int) + 2) = ((x + 2).toNat : Int) := by
  have := wrap_two_all ⟨x.toNat, x.toNat_lt⟩
  simp only at this
  rw [this, UInt8.ofNat_toNat]
theorem bA_front_of (l : List UInt8) (K : Nat) : (bA l).extract 0 K = bA (l.take K) := by
  apply ByteArray.ext
  apply Array.toList_inj.mp
  rw [ext_toList]
  simp [bA]
theorem isEmpty_bA (l : List UInt8) : (bA l).toList.isEmpty = decide (l = []) := by rw [isEmpty_of, bA_size]; simp
theorem rfdo_any (r : RfS) (o : OP) (ho : OpOk o) (hot : o.t.length ≤ 1099511627776) (hop : r.op.length ≤ 32) (hout : r.out.length ≤ 35184372088832) (w : World) :
    Calls Tryd.prog 7 #[rsV r, opV o] w fun e w' => e = .returned (rsV (rDo r o)) ∧ Below w.heap.size w w' := by
  have hlst := lstP_of r
  have hcm : bA r.cm = if r.af = true then ⟨#[44]⟩ else ⟨#[]⟩ := by unfold RfS.cm; split <;> rfl
  have hjl := (jT_len o.t).2
  have hrl := rVal_len ho
  have hA : (bA r.out).size ≤ 70368744177664 := by rw [bA_size]; omega
  have hP : (bA r.op).size ≤ 32 := by rw [bA_size]; exact hop
  have e1 := isEmpty_bA r.op
  have e2 := isEmpty_bA r.out
  by_cases hc : r.c = 0
  · have hD : rDo r o = (if o.k = 101 then (if r.op = [] ∨ r.kd = true then r.bad 12 else ⟨r.out ++ [r.lst + 2], r.op.dropLast, false, true, 0⟩)
      else if o.k = 107 then (if r.lst ≠ 123 ∨ r.kd = true then r.bad 12 else ⟨r.out ++ r.cm ++ jText o.t ++ [58], r.op, true, false, 0⟩)
      else if oBeg o = true ∧ 32 ≤ r.op.length then r.bad 33
      else if (r.op = [] ∧ r.out ≠ []) ∨ (r.lst = 123 ∧ r.kd = false) then r.bad 12
      else if oBeg o = true then ⟨r.out ++ r.cm ++ [o.k], r.op ++ [o.k], false, false, 0⟩ else ⟨r.out ++ r.cm ++ rVal o, r.op, false, true, 0⟩) := by
      unfold rDo; rw [if_pos hc]
    have hV : rsV r = .agg #[.string (bA r.out), .string (bA r.op), .bool r.kd, .bool r.af, .int .i64 0] := by unfold rsV rcV; rw [hc]
    have hO : opV o = .agg #[.int .u8 (o.k.toNat : Int), .string (bA o.t), .int .i64 o.n] := rfl
    have hB : ∀ d, rsV (r.bad d) = rcV (bA r.out) (bA r.op) r.kd r.af d := fun d => rfl
    rw [hV]
    by_cases k1 : o.k = 101
    · have hy : (o.k.toNat : Int) = 101 := by rw [k1]; rfl
      rw [hD, if_pos k1]
      by_cases h1 : r.op = []
      · rw [if_pos (.inl h1), hB]
        exact rfdo_fin_bad1 w hy (by rw [e1]; exact decide_eq_true h1)
      · by_cases h2 : r.kd = true
        · rw [if_pos (.inr h2), hB, h2]
          exact rfdo_fin_bad2 w hy (by rw [e1]; exact decide_eq_false h1)
        · rw [if_neg (fun e => e.elim h1 h2), (Bool.not_eq_true _).mp h2]
          have hpos : 0 < r.op.length := List.length_pos_iff.mpr h1
          refine (rfdo_fin w hy (by rw [e1]; exact decide_eq_false h1) hA hP r.lst hlst (r.lst + 2) (wrap_two _) _ rfl (r.op.length - 1) (by rw [bA_size]; omega)).mono ?_
          rintro e w' ⟨he, hb⟩
          refine ⟨?_, hb⟩
          rw [he, bA_append, bA_front_of, ← List.dropLast_eq_take]; rfl
    · have n1 : ¬ (o.k.toNat : Int) = 101 := fun e => k1 (UInt8.toNat_inj.mp (show o.k.toNat = (101 : UInt8).toNat by have : (101 : UInt8).toNat = 101 := rfl; omega))
      rw [hD, if_neg k1]
      by_cases k2 : o.k = 107
      · have hy : (o.k.toNat : Int) = 107 := by rw [k2]; rfl
        rw [if_pos k2]
        by_cases h1 : r.lst = 123
        · have q : ((r.lst.toNat : Int) != 123) = false := by rw [bne, u8eq_t (k := 123) 123 rfl h1]; rfl
          by_cases h2 : r.kd = true
          · rw [if_pos (.inr h2), hB, h2]
            exact rfdo_key_bad2 w hy hP r.lst hlst q
          · rw [if_neg (fun e => e.elim (fun e => e h1) h2), (Bool.not_eq_true _).mp h2]
            have hJs : (bA (jText o.t)).size ≤ 70368744177664 := by rw [bA_size, jText_len]; omega
            refine (rfdo_key w hy hA hP r.lst hlst q (bA r.cm) hcm (bA (jText o.t)) hJs (Lib.hid (fun w => by
              have := rjtext_any (bA o.t) w (by rw [bA_size]; exact hot)
              rw [show (bA o.t).data.toList = o.t by simp [bA]] at this; exact this))).mono ?_
            rintro e w' ⟨he, hb⟩
            refine ⟨?_, hb⟩
            rw [he, bA_append, bA_append, show (⟨#[58]⟩ : ByteArray) = bA [58] from rfl, bA_append]; rfl
        · have q : ((r.lst.toNat : Int) != 123) = true := by rw [bne, u8eq_f (k := 123) 123 rfl h1]; rfl
          rw [if_pos (.inl h1), hB]
          exact rfdo_key_bad1 w hy hP r.lst hlst q
      · have n2 : ¬ (o.k.toNat : Int) = 107 := fun e => k2 (UInt8.toNat_inj.mp (show o.k.toNat = (107 : UInt8).toNat by have : (107 : UInt8).toNat = 107 := rfl; omega))
        rw [if_neg k2]
        have p1 : ((o.k.toNat : Int) == 101) = false := beq_eq_false_iff_ne.mpr n1
        have p2 : ((o.k.toNat : Int) == 107) = false := beq_eq_false_iff_ne.mpr n2
        have p3 : ((o.k.toNat : Int) == 123) = decide (o.k = 123) := by
          by_cases e : o.k = 123
          · rw [u8eq_t (k := 123) 123 rfl e, decide_eq_true e]
          · rw [u8eq_f (k := 123) 123 rfl e, decide_eq_false e]
        have p4 : ((o.k.toNat : Int) == 91) = decide (o.k = 91) := by
          by_cases e : o.k = 91
          · rw [u8eq_t (k := 91) 91 rfl e, decide_eq_true e]
          · rw [u8eq_f (k := 91) 91 rfl e, decide_eq_false e]
        have p5 : ((r.lst.toNat : Int) == 123) = decide (r.lst = 123) := by
          by_cases e : r.lst = 123
          · rw [u8eq_t (k := 123) 123 rfl e, decide_eq_true e]
          · rw [u8eq_f (k := 123) 123 rfl e, decide_eq_false e]
        have hbo : (decide (o.k = 123) || decide (o.k = 91)) = oBeg o := rfl
        have hob : (decide (r.op = []) && !decide (r.out = []) || decide (r.lst = 123) && !r.kd) = decide ((r.op = [] ∧ r.out ≠ []) ∨ (r.lst = 123 ∧ r.kd = false)) := by
          cases r.kd <;> simp
        by_cases hd : oBeg o = true ∧ 32 ≤ r.op.length
        · rw [if_pos hd, hB]
          exact rfdo_deep w p1 p2 _ _ p3 p4 (hbo.trans hd.1) (decide_eq_true (by rw [bA_size]; omega)) (decide_eq_true (by rw [bA_size]; omega))
        · rw [if_neg hd]
          by_cases hb : (r.op = [] ∧ r.out ≠ []) ∨ (r.lst = 123 ∧ r.kd = false)
          · rw [if_pos hb, hB]
            rw [decide_eq_true hb] at hob
            by_cases hg : oBeg o = true
            · exact rfdo_ord1 w p1 p2 _ _ p3 p4 (hbo.trans hg) (decide_eq_false (by rw [bA_size]; intro e; exact hd ⟨hg, by omega⟩)) (decide_eq_false (by rw [bA_size]; intro e; exact hd ⟨hg, by omega⟩)) hP r.lst hlst _ _ _ e1 e2 p5 hob
            · exact rfdo_ord2 w p1 p2 _ _ p3 p4 (hbo.trans ((Bool.not_eq_true _).mp hg)) hP r.lst hlst _ _ _ e1 e2 p5 hob
          · rw [if_neg hb]
            rw [decide_eq_false hb] at hob
            by_cases hg : oBeg o = true
            · rw [if_pos hg]
              refine (rfdo_beg w p1 p2 _ _ p3 p4 (hbo.trans hg) (decide_eq_false (by rw [bA_size]; intro e; exact hd ⟨hg, by omega⟩)) (decide_eq_false (by rw [bA_size]; intro e; exact hd ⟨hg, by omega⟩)) hP r.lst hlst _ _ _ e1 e2 p5 hob hA (bA r.cm) hcm (bA [o.k]) rfl).mono ?_
              rintro e w' ⟨he, hb⟩
              refine ⟨?_, hb⟩
              rw [he, bA_append, bA_append, bA_append]; rfl
            · rw [if_neg hg]
              have hJs : (bA (rVal o)).size ≤ 70368744177664 := by rw [bA_size]; omega
              refine (rfdo_val w p1 p2 _ _ p3 p4 (hbo.trans ((Bool.not_eq_true _).mp hg)) hP r.lst hlst _ _ _ e1 e2 p5 hob hA (bA r.cm) hcm (bA (rVal o)) hJs (Lib.hid (fun w => rfvalue_any o ho hot w))).mono ?_
              rintro e w' ⟨he, hb⟩
              refine ⟨?_, hb⟩
              rw [he, bA_append, bA_append]; rfl
  · have hD : rDo r o = r := by unfold rDo; rw [if_neg hc]
    rw [hD]
    exact rfdo_err w hc
end Go.Proofs.YtnbhhnkcfbfdcaaDoor
