/- Package hexa's Read. -/
import Derived.Test.YtjoafbapffdneaaDoorHPut
import Derived.Test.YtjoafbapffdneaaDoorIter
namespace Go.Proofs.YtjoafbapffdneaaDoor
open Go Go.RowKit
set_option linter.unusedVariables false

/-- The bytes of digits, and what is wrong with these. -/
def hT (s : ByteArray) : ByteArray := if hOK s.data.toList then bA (uh s.data.toList) else ⟨#[]⟩
def hC (s : ByteArray) : Int := if hOK s.data.toList then 0 else 3
theorem hT_no {s : ByteArray} (h : ¬ hOK s.data.toList = true) : hT s = ⟨#[]⟩ := by unfold hT; rw [if_neg h]
theorem hC_no {s : ByteArray} (h : ¬ hOK s.data.toList = true) : hC s = 3 := by unfold hC; rw [if_neg h]
theorem hT_yes {s : ByteArray} (h : hOK s.data.toList = true) : hT s = bA (uh s.data.toList) := by unfold hT; rw [if_pos h]
theorem hC_yes {s : ByteArray} (h : hOK s.data.toList = true) : hC s = 0 := by unfold hC; rw [if_pos h]
theorem ret_read {a c : ByteArray} {b d : Int} (h : a = c) (k : b = d) : Ending.returned (.tuple #[.string a, .int .i64 b]) = .returned (.tuple #[.string c, .int .i64 d]) := by rw [h, k]
theorem hOK_no {s : ByteArray} {p : Nat} (h : p < s.size) (hn : nibIs s[p].toNat = false) : ¬ hOK s.data.toList = true := by
  intro h1
  unfold hOK at h1
  rw [Bool.and_eq_true, List.all_eq_true] at h1
  have hp : p < s.data.toList.length := by rw [toList_size]; exact h
  have h2 := h1.2 _ (List.getElem_mem hp)
  rw [byte_at s p h hp, hn] at h2
  cases h2

def HReadRel (t : TypeId) (W : World) (s : ByteArray) (v f : Value) (wr : World) : Prop :=
  ∃ pos F : Nat, pos ≤ s.size ∧ f = .int .i64 F ∧ F < 16 ∧ (pos % 2 = 1 → ∀ x, s.data.toList[pos - 1]? = some x → F = nibV x.toNat) ∧ Hid ((s.data.toList.take pos).all (fun b => nibIs b.toNat) = true) ∧
    Bts t wr W.heap.size v (uh (s.data.toList.take pos)) ∧ ItAt wr (W.heap.size + 1) s pos ∧ Below W.heap.size W wr

theorem make_bytes0 (n : Nat) (w : World) (hl : n ≤ 140737488355000) :
    (Instr.makeSlice 55 (.int .i64 0) (.int .i64 (n : Int))).run Tryd.prog w = .ok (.slice (some ⟨w.heap.size, 0, none⟩) 0 n) (w.alloc (.cells (Array.replicate n (.int .u8 0)) 5)) := by
  have := make_bytes 0 n w (by omega)
  simpa using this
theorem bts_made (t : TypeId) (n : Nat) (w : World) (hl : n ≤ maxLen) : Bts t (w.alloc (.cells (Array.replicate n (.int .u8 0)) t)) w.heap.size (.slice (some ⟨w.heap.size, 0, none⟩) 0 n) [] :=
  ⟨rfl, .inr ⟨_, _, _, rfl, Nat.le_refl _, heap_alloc_new w _, Nat.zero_le _, hl, by simp, by simp [bV]⟩⟩

set_option maxRecDepth 20000 in
theorem hread_any (s : ByteArray) (w : World) (hs : s.size ≤ 140737488351232) :
    Calls Tryd.prog 39 #[.string s] w fun e w' => e = .returned (.tuple #[.string (hT s), .int .i64 (hC s)]) ∧ Below w.heap.size w w' := by
  by_cases hev : s.size % 2 = 0
  · obtain ⟨i0, hi, hz0, hz1, hz2⟩ := info_parts info8
    have m1 : (s.size : Int).tmod 2 = 0 := by rw [Int.tmod_eq_emod_of_nonneg (by omega)]; omega
    obtain ⟨n, hn⟩ : ∃ n, n = s.size / 2 := ⟨_, rfl⟩
    have m2 : (s.size : Int).tdiv 2 = (n : Int) := by rw [Int.tdiv_eq_ediv_of_nonneg (by omega)]; omega
    have m3 : (s.size : Int) / 2 = (n : Int) := by omega
    have m4 : (s.size : Int) % 2 = 0 := by omega
    have hmk := Lib.hid (fun w => make_bytes0 n w (by omega))
    have hmd := Lib.hid (bts_made 5 n w (by unfold maxLen; omega))
    have HW := Lib.hid (fun c w => worth_any c w)
    have hn2 : 2 * n ≤ s.size := by omega
    have HEV := Lib.hid hev
    clear hn hev
    go_enter Tryd.func39, Tryd.ntmps39
    go_wp2_with fail
    rw [hmk.out]
    go_wp2_with fail
    go_loopw [4, 5] (fun v f wr => HReadRel 5 w s v f wr) (fun _ _ wr => s.size - wr.iterPos (w.heap.size + 1))
    case atStart => exact ⟨0, 0, Nat.zero_le _, rfl, by omega, fun h => by omega, rfl, (hmd.out.alloc _), ItAt.made (by simp), ((Below.refl _ _).alloc (Nat.le_refl _) _).alloc (by simp) _⟩
    case round =>
      obtain ⟨pos, F, hpos, rfl, hF, hf, hall, hb, hit, hbe⟩ := hrel
      have hp0 := hit.pos
      have hsz := hbe.size
      by_cases hlt : pos < s.size
      · have hl' : pos < s.data.toList.length := by rw [toList_size]; exact hlt
        by_cases hnib : nibIs s[pos].toNat = true
        · have hB : s[pos].toNat < 128 := by
            have := of_decide_eq_true hnib
            omega
          have hnx : ∀ ty, (Instr.next (.pointer (some ⟨w.heap.size + 1, 0, none⟩)) true ty).run Tryd.prog wr = _ := fun ty => next_ascii hit hlt hB ty
          have hit2 := hit.step (pos + 1)
          have hb2 := hb.step hit (pos + 1)
          have hbe2 := Lib.below_iterAt hbe (k := w.heap.size + 1) (by omega) s (pos + 1)
          have hall2 := Lib.hid (show (s.data.toList.take (pos + 1)).all (fun b => nibIs b.toNat) = true by
            rw [List.take_succ_eq_append_getElem hl', List.all_append, hall.out, List.all_cons, byte_at s pos hlt hl', hnib]; rfl)
          obtain ⟨W1, hW1⟩ : ∃ W1, W1 = wr.iterAt (w.heap.size + 1) s (pos + 1) := ⟨_, rfl⟩
          rw [← hW1] at hnx hit2 hb2 hbe2
          clear hW1 hit hb hbe hsz hall
          have hsz := hbe2.size
          have hwo := Lib.hid (worth_any s[pos].toNat W1 (by omega))
          rw [hnib] at hwo
          have hN := nibV_lt s[pos].toNat
          by_cases hpe : pos % 2 = 0
          · have p1 : (pos : Int).tmod 2 = 0 := by rw [Int.tmod_eq_emod_of_nonneg (by omega)]; omega
            have hup := Lib.hid (uh_take_odd s.data.toList pos hl' hpe)
            have hlast := Lib.hid (show ∀ x, s.data.toList[pos]? = some x → nibV s[pos].toNat = nibV x.toNat from fun x hx => by
              rw [List.getElem?_eq_getElem hl', byte_at s pos hlt hl'] at hx
              rw [Option.some.inj hx])
            generalize nibV s[pos].toNat = N at *
            clear hnib hf
            go_wp2_with fail
            with_reducible refine hwo.out.mono ?_
            rintro e w3 ⟨rfl, hw3⟩
            rw [hw3]
            clear hw3
            go_wp2
            go_roundw
            case rel => exact ⟨pos + 1, N, by omega, rfl, hN, fun _ => hlast.out, hall2, by rw [hup.out]; exact hb2, hit2, hbe2⟩
            case measure => rw [hit2.pos, hp0]; omega
          · have p1 : ((pos : Int).tmod 2 == 0) = false := beq_eq_false_iff_ne.mpr (by rw [Int.tmod_eq_emod_of_nonneg (by omega)]; omega)
            have hup := Lib.hid (show uh (s.data.toList.take (pos + 1)) = uh (s.data.toList.take pos) ++ [UInt8.ofNat (16 * F + nibV s[pos].toNat)] by
              obtain ⟨j, rfl⟩ : ∃ j, pos = j + 1 := ⟨pos - 1, by omega⟩
              have hj : j < s.data.toList.length := by omega
              have e1 := hf (by omega) _ (List.getElem?_eq_getElem (l := s.data.toList) (i := j) hj)
              rw [uh_take _ j hl' (by omega), uh_take_odd _ j hj (by omega), ← e1, byte_at s (j + 1) hlt hl'])
            have hlen : (uh (s.data.toList.take pos)).length + 1 ≤ 140737488355328 := by
              have := uh_length (s.data.toList.take pos)
              rw [List.length_take, Nat.min_eq_left (by omega)] at this
              omega
            generalize nibV s[pos].toNat = N at *
            obtain ⟨b, hb16⟩ : ∃ b, b = 16 * F + N := ⟨_, rfl⟩
            rw [← hb16] at hup
            have b256 : b < 256 := by omega
            have z1 : IntKind.i64.wrap (16 * (F : Int)) = 16 * (F : Int) := IntWalk.i64_in _ (by omega)
            have z2 : IntKind.i64.wrap (16 * (F : Int) + (N : Int)) = (b : Int) := by rw [IntWalk.i64_in _ (by omega)]; omega
            have z3 : IntKind.u8.wrap (b : Int) = (b : Int) := IntWalk.u8_in _ (by omega)
            have hz := Lib.hid (byte_ofNat b256)
            clear hnib hf hb16
            go_wp2_with fail
            with_reducible refine hwo.out.mono ?_
            rintro e w3 ⟨rfl, hw3⟩
            rw [hw3]
            clear hw3
            go_wp2_with (at_builtin; refine wpList_append_byte_it rfl (.tmp 29) (.tmp 35) 55 rfl 5 i0 Tryd.underlying55 hi hz0 hz1 hz2 _ w W1 w.heap.size (uh (s.data.toList.take pos)) hb2 hbe2 hsz rfl _ _ hz.out rfl hlen _ _ _ hit2 ?_; intro v2 w2 hb3 hbe3 hit3)
            go_roundw
            case rel => exact ⟨pos + 1, F, by omega, rfl, hF, fun h => by omega, hall2, by rw [hup.out]; exact hb3, hit3, hbe3⟩
            case measure => rw [hit3.pos, hp0]; omega
        · have hno := hOK_no hlt (by simpa using hnib)
          have HR := Lib.hid (And.intro (hT_no hno) (hC_no hno))
          have hnx : ∀ ty, (Instr.next (.pointer (some ⟨w.heap.size + 1, 0, none⟩)) true ty).run Tryd.prog wr = _ := fun ty => next_any hit hlt ty
          have hbe2 := Lib.below_iterAt hbe (k := w.heap.size + 1) (by omega) s (pos + (Utf8.decode s pos).2)
          have hr := decode_le s pos
          have hn2 : nibIs (Utf8.decode s pos).1 = false := by
            by_cases ha : s[pos].toNat < 128
            · rw [decode_ascii s pos hlt ha]; simpa using hnib
            · have := (decode_high s pos hlt (by omega)).1
              exact decide_eq_false (by omega)
          have hwo := Lib.hid (fun W1 => worth_any (Utf8.decode s pos).1 W1 hr)
          rw [hn2] at hwo
          clear hnib hno hn2 hf hall hb
          generalize (Utf8.decode s pos).1 = r at *
          generalize (Utf8.decode s pos).2 = z at *
          generalize wr.iterAt (w.heap.size + 1) s (pos + z) = W1 at *
          generalize nibV r = N at *
          go_wp2_with fail
          with_reducible refine (hwo.out _).mono ?_
          rintro e w3 ⟨rfl, hw3⟩
          rw [hw3]
          clear hw3
          go_wp2
          go_ret2
          exact ⟨ret_read HR.out.1.symm HR.out.2.symm, hbe2⟩
      · have hpe : pos = s.size := by omega
        have hnx : ∀ ty, (Instr.next (.pointer (some ⟨w.heap.size + 1, 0, none⟩)) true ty).run Tryd.prog wr = _ := fun ty => next_end hit hlt ty
        have htk : s.data.toList.take pos = s.data.toList := by rw [List.take_of_length_le]; rw [toList_size]; omega
        rw [htk] at hb hall
        have hok : hOK s.data.toList = true := by
          unfold hOK
          rw [hall.out, Bool.and_true]
          exact decide_eq_true (by rw [toList_size]; exact HEV.out)
        have hcv := Lib.hid (hb.text (P := Tryd.prog) Tryd.underlying55 Tryd.underlying5 Tryd.underlying9)
        have HR := Lib.hid (And.intro (hT_yes hok) (hC_yes hok))
        clear hpe htk hok hb hall hf
        go_wp2_with fail
        rw [hcv.out]
        go_wp2
        go_ret2
        exact ⟨ret_read HR.out.1.symm HR.out.2.symm, hbe⟩
  · have m1 : (s.size : Int).tmod 2 = 1 := by rw [Int.tmod_eq_emod_of_nonneg (by omega)]; omega
    have hno : ¬ hOK s.data.toList = true := by
      unfold hOK
      rw [decide_eq_false (by rw [toList_size]; exact hev)]
      simp
    have HR := Lib.hid (And.intro (hT_no hno) (hC_no hno))
    clear hev hno
    go_enter Tryd.func39, Tryd.ntmps39
    go_wp2
    go_ret2
    exact ⟨ret_read HR.out.1.symm HR.out.2.symm, Below.refl _ _⟩
end Go.Proofs.YtjoafbapffdneaaDoor
