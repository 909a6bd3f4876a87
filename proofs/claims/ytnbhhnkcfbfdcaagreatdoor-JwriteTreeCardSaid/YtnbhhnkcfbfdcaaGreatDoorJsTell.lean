/- Package jstring's tell, Size. -/
import Derived.Test.YtnbhhnkcfbfdcaaGreatDoorJsKeep
namespace Go.Proofs.YtnbhhnkcfbfdcaaGreatDoor
open Go Go.RowKit
set_option linter.unusedVariables false

set_option maxRecDepth 100000 in
set_option maxHeartbeats 4000000 in
theorem jtell_any (F : Nat) (hF : F = 50 ∨ F = 69) (St : World → List UInt8 → Prop) (M : Nat) (cap : Value)
    (HW : ∀ w (p : ByteArray) L, St w L → L.length + p.size ≤ M → Calls Tryz.prog F #[.string p, cap] w fun e w' => e = .returned (.tuple #[]) ∧ St w' (L ++ p.data.toList))
    (HT : ∀ w w' L, St w L → Below w.heap.size w w' → St w' L)
    (s : ByteArray) (hs : s.size ≤ 1099511627776) (hM : (jText s.data.toList).length ≤ M) (w : World) (h : St w []) :
    Calls Tryz.prog 49 #[.string s, .func (.func F) #[] #[cap]] w fun e w' => e = .returned (.tuple #[]) ∧ St w' (jText s.data.toList) := by
  have hjl := jText_len s.data.toList
  have HW1 := Lib.hid (show ∀ w L, St w L → L.length + 1 ≤ M → Calls Tryz.prog F #[.string ⟨#[34]⟩, cap] w fun e w' => e = .returned (.tuple #[]) ∧ St w' (L ++ [34]) from fun w L h hl => HW w ⟨#[34]⟩ L h hl)
  have HW2 := Lib.hid (show ∀ w L, St w L → L.length + 1 ≤ M → Calls Tryz.prog F #[.string ⟨#[92]⟩, cap] w fun e w' => e = .returned (.tuple #[]) ∧ St w' (L ++ [92]) from fun w L h hl => HW w ⟨#[92]⟩ L h hl)
  have HW3 := Lib.hid (show ∀ w L, St w L → L.length + 4 ≤ M → Calls Tryz.prog F #[.string ⟨#[92, 117, 48, 48]⟩, cap] w fun e w' => e = .returned (.tuple #[]) ∧ St w' (L ++ [92, 117, 48, 48]) from fun w L h hl => HW w ⟨#[92, 117, 48, 48]⟩ L h hl)
  have HW' := Lib.hid HW
  have HT' := Lib.hid HT
  have hst := Lib.hid h
  clear HW HT h
  rcases hF with rfl | rfl
  all_goals (
    go_enter Tryz.func49, Tryz.ntmps49
    go_wp2_with fail
    refine (HW1.out _ _ hst.out (by show 0 + 1 ≤ M; omega)).mono ?_
    rintro e w1 ⟨rfl, h1⟩
    go_wp2_with fail
    go_loopw [10] (fun i wr => ∃ k : Nat, k ≤ s.size ∧ i = .int .i64 k ∧ Hid (St wr (34 :: jT (s.data.toList.take k)))) (fun i _ => s.size - (intOf i).toNat)
    case atStart => exact ⟨0, Nat.zero_le _, rfl, Lib.hid h1⟩
    case round =>
      obtain ⟨k, hk, rfl, hS⟩ := hrel
      by_cases hlt : k < s.size
      · have p1 : decide (k < s.size) = true := decide_eq_true hlt
        have p1' : decide ((k : Int) < (s.size : Int)) = true := decide_eq_true (by omega)
        have hk0 : (0 : Int) ≤ (k : Int) := by omega
        have hk1 : (k : Int) < (s.size : Int) := by omega
        have hk2 : (k : Int) ≤ (k : Int) + 1 := by omega
        have hk3 : (k : Int) + 1 ≤ (s.size : Int) := by omega
        have zk : IntKind.i64.wrap ((k : Int) + 1) = (k : Int) + 1 := i64_small (by omega) (by omega)
        have h' : k < s.data.toList.length := by rw [toList_size]; exact hlt
        have hO := one_size s k hlt
        have hOl := one_at s k hlt
        have hTk := jT_take s.data.toList k h'
        have hmore := jT_more s.data.toList k h'
        rw [byte_at s k hlt h'] at hTk hmore
        have i34 := one_is s k hlt 34
        have i92 := one_is s k hlt 92
        obtain ⟨X, hXe⟩ : ∃ X, X = s[k].toNat := ⟨_, rfl⟩
        have hXi : (s[k].toNat : Int) = (X : Int) := by omega
        rw [← hXe] at i34 i92
        by_cases hq : X = 34 ∨ X = 92
        · have hb := jTb_quote (b := s[k]) (by rw [← hXe]; exact hq)
          have HN := Lib.hid (show ((34 :: jT (s.data.toList.take k)) ++ [92]) ++ (s.extract k (k + 1)).data.toList = 34 :: jT (s.data.toList.take (k + 1)) by rw [hTk, hb, hOl]; simp)
          rw [hb] at hmore
          have HLe := Lib.hid (show (34 :: jT (s.data.toList.take k)).length + 1 ≤ M ∧ ((34 :: jT (s.data.toList.take k)) ++ [92]).length + (s.extract k (k + 1)).size ≤ M by
            rw [hO, List.length_append, List.length_cons]
            simp only [List.length_cons, List.length_nil] at hmore ⊢
            omega)
          by_cases h34 : X = 34
          · have q1 : ((s.extract k (k + 1)).toList == [34]) = true := by rw [i34]; exact decide_eq_true h34
            clear hq h34 i34 i92 hTk hmore hOl hXe hb
            go_wp2_with fail
            refine (HW2.out _ _ hS.out HLe.out.1).mono ?_
            rintro e w2 ⟨rfl, h2⟩
            have h2 := Lib.hid h2
            go_wp2_with fail
            refine (HW'.out _ _ _ h2.out HLe.out.2).mono ?_
            rintro e w3 ⟨rfl, h3⟩
            rw [HN.out] at h3
            have h3 := Lib.hid h3
            go_wp2
            go_roundw
            case rel => exact ⟨k + 1, by omega, by go_num, h3⟩
            case measure => simp [intOf]; omega
          · have q1 : ((s.extract k (k + 1)).toList == [34]) = false := by rw [i34]; exact decide_eq_false h34
            have q2 : ((s.extract k (k + 1)).toList == [92]) = true := by rw [i92]; exact decide_eq_true (by show X = 92; omega)
            clear hq h34 i34 i92 hTk hmore hOl hXe hb
            go_wp2_with fail
            refine (HW2.out _ _ hS.out HLe.out.1).mono ?_
            rintro e w2 ⟨rfl, h2⟩
            have h2 := Lib.hid h2
            go_wp2_with fail
            refine (HW'.out _ _ _ h2.out HLe.out.2).mono ?_
            rintro e w3 ⟨rfl, h3⟩
            rw [HN.out] at h3
            have h3 := Lib.hid h3
            go_wp2
            go_roundw
            case rel => exact ⟨k + 1, by omega, by go_num, h3⟩
            case measure => simp [intOf]; omega
        · have q1 : ((s.extract k (k + 1)).toList == [34]) = false := by rw [i34]; exact decide_eq_false (fun e => hq (.inl e))
          have q2 : ((s.extract k (k + 1)).toList == [92]) = false := by rw [i92]; exact decide_eq_false (fun e => hq (.inr e))
          by_cases hlow : X < 32
          · have q3 : decide ((X : Int) < 32) = true := decide_eq_true (by omega)
            have hb := jTb_low (b := s[k]) (by rw [← hXe]; exact hlow)
            have HX0 := fun w => htext_any (s.extract k (k + 1)) w (by rw [hO]; decide)
            rw [hOl] at HX0
            have hxs : (bA (hx [s[k]])).size = 2 := by rw [bA_size, hx_length]; rfl
            have HN := Lib.hid (show ((34 :: jT (s.data.toList.take k)) ++ [92, 117, 48, 48]) ++ (bA (hx [s[k]])).data.toList = 34 :: jT (s.data.toList.take (k + 1)) by rw [hTk, hb, bytes_bA]; simp)
            rw [hb] at hmore
            have HLe := Lib.hid (show (34 :: jT (s.data.toList.take k)).length + 4 ≤ M ∧ ((34 :: jT (s.data.toList.take k)) ++ [92, 117, 48, 48]).length + (bA (hx [s[k]])).size ≤ M by
              rw [hxs, List.length_append, List.length_cons]
              rw [List.length_append, hx_length] at hmore
              simp only [List.length_cons, List.length_nil] at hmore ⊢
              omega)
            have HX := Lib.hid HX0
            generalize bA (hx [s[k]]) = U at *
            clear hq hlow i34 i92 hTk hmore hOl hXe hb HX0
            go_wp2_with fail
            refine (HW3.out _ _ hS.out HLe.out.1).mono ?_
            rintro e w2 ⟨rfl, h2⟩
            have h2 := Lib.hid h2
            go_wp2_with fail
            with_reducible refine (HX.out _).mono ?_
            rintro e w3 ⟨rfl, hb3⟩
            have h3 := Lib.hid (HT'.out _ _ _ h2.out hb3)
            clear hb3
            go_wp2_with fail
            refine (HW'.out _ _ _ h3.out HLe.out.2).mono ?_
            rintro e w4 ⟨rfl, h4⟩
            rw [HN.out] at h4
            have h4 := Lib.hid h4
            go_wp2
            go_roundw
            case rel => exact ⟨k + 1, by omega, by go_num, h4⟩
            case measure => simp [intOf]; omega
          · have q3 : decide ((X : Int) < 32) = false := decide_eq_false (by omega)
            have hb := jTb_self (b := s[k]) (by rw [← hXe]; exact hq) (by rw [← hXe]; exact hlow)
            have HN := Lib.hid (show (34 :: jT (s.data.toList.take k)) ++ (s.extract k (k + 1)).data.toList = 34 :: jT (s.data.toList.take (k + 1)) by rw [hTk, hb, hOl]; simp)
            rw [hb] at hmore
            have HLe := Lib.hid (show (34 :: jT (s.data.toList.take k)).length + (s.extract k (k + 1)).size ≤ M by
              rw [hO, List.length_cons]
              simp only [List.length_cons, List.length_nil] at hmore
              omega)
            clear hq hlow i34 i92 hTk hmore hOl hXe hb
            go_wp2_with fail
            refine (HW'.out _ _ _ hS.out HLe.out).mono ?_
            rintro e w3 ⟨rfl, h3⟩
            rw [HN.out] at h3
            have h3 := Lib.hid h3
            go_wp2
            go_roundw
            case rel => exact ⟨k + 1, by omega, by go_num, h3⟩
            case measure => simp [intOf]; omega
      · have p1 : decide (k < s.size) = false := decide_eq_false hlt
        have p1' : decide ((k : Int) < (s.size : Int)) = false := decide_eq_false (by omega)
        have hkn : k = s.size := by omega
        subst hkn
        rw [List.take_of_length_le (by rw [toList_size]; exact Nat.le_refl _)] at hS
        have HN := Lib.hid (show (34 :: jT s.data.toList) ++ [34] = jText s.data.toList from rfl)
        have HLe := Lib.hid (show (34 :: jT s.data.toList).length + 1 ≤ M by rw [List.length_cons]; omega)
        go_wp2_with fail
        refine (HW1.out _ _ hS.out HLe.out).mono ?_
        rintro e w2 ⟨rfl, h2⟩
        rw [HN.out] at h2
        have h2 := Lib.hid h2
        go_wp2
        go_end0
        exact ⟨rfl, h2.out⟩)
theorem jText_bound (s : ByteArray) (hs : s.size ≤ 1099511627776) : (jText s.data.toList).length ≤ 6597069766658 := by
  have := (jT_len s.data.toList).2
  rw [toList_size] at this
  rw [jText_len]; omega
theorem jsize_any (s : ByteArray) (w : World) (hs : s.size ≤ 1099511627776) :
    Calls Tryz.prog 48 #[.string s] w fun e w' => e = .returned (.int .i64 ((jText s.data.toList).length : Nat)) ∧ Below w.heap.size w w' := by
  have hmf : ∀ (fn : Fn) (first cap : Array Value) (w : World), (Instr.makeFunc fn first cap).run Tryz.prog w = .ok (.func fn first cap) w := fun _ _ _ _ => rfl
  have HT := Lib.hid (fun w' h => jtell_any 69 (.inr rfl) (SizeSt w.heap.size w) 1125899906842624 (.pointer (some ⟨w.heap.size, 0, none⟩)) (fun w1 p L h hl => jsize1_any _ _ _ p L h hl) (fun _ _ _ h hb => h.below hb) s hs (by have := jText_bound s hs; omega) w' h)
  have h0 := Lib.hid (show ∀ u, SizeSt w.heap.size w ((w.alloc (.cells #[u] 3)).setCell ⟨w.heap.size, 0, none⟩ (.int .i64 0)) [] from fun u =>
    ⟨one_setCell (heap_alloc_new w _), ((Below.refl _ _).alloc (Nat.le_refl _) _).setCell (Nat.le_refl _) _⟩)
  have h1 := Lib.hid (show SizeSt w.heap.size w (w.alloc (.cells #[.int .i64 0] 3)) [] from ⟨heap_alloc_new w _, (Below.refl _ _).alloc (Nat.le_refl _) _⟩)
  go_enter Tryz.func48, Tryz.ntmps48
  go_wp2_with fail
  refine (HT.out _ (by first | exact h1.out | exact h0.out _)).mono ?_
  rintro e w1 ⟨rfl, h2⟩
  have c1 := cell_of_one h2.1
  have h3 := h2.2
  clear h2
  go_wp2
  go_ret
  exact ⟨rfl, h3⟩
end Go.Proofs.YtnbhhnkcfbfdcaaGreatDoor
