/- The document's writer (package truchmanref15): Do, a value that others may be in. -/
import Derived.Test.YtnbhhnkcfbfdcaaDoorJwRh
namespace Go.Proofs.YtnbhhnkcfbfdcaaDoor
open Go Go.RowKit
set_option linter.unusedVariables false

/-- What several ways come to, proved once. -/
theorem share1 {G : Prop} {P C : World → Nat → Prop} (h1 : (∀ w g1, C w g1 → P w g1) → G) (h2 : ∀ w g1, C w g1 → P w g1) : G := h1 h2
theorem share2 {G : Prop} {P C : World → Nat → Nat → Prop} (h1 : (∀ w g1 g2, C w g1 g2 → P w g1 g2) → G) (h2 : ∀ w g1 g2, C w g1 g2 → P w g1 g2) : G := h1 h2
section
set_option maxRecDepth 20000 in
set_option maxHeartbeats 64000000 in
theorem rfdo_beg (w : World) {A P : ByteArray} {k : Bool} {f : Bool} {yb : UInt8} {T : ByteArray} {n : Int} (p101 : ((yb.toNat : Int) == 101) = false) (p107 : ((yb.toNat : Int) == 107) = false) (b1 b2 : Bool) (p123 : ((yb.toNat : Int) == 123) = b1) (p91 : ((yb.toNat : Int) == 91) = b2) (hbg : (b1 || b2) = true) (hd : decide (32 ≤ (P.size : Int)) = false) (hd' : decide (32 ≤ P.size) = false) (hP : P.size ≤ 32) (x : UInt8) (hx : lstP P = x.toNat) (t1 t2 t4 : Bool) (e1 : P.toList.isEmpty = t1) (e2 : A.toList.isEmpty = t2) (e4 : ((x.toNat : Int) == 123) = t4) (hob : (t1 && !t2 || t4 && !k) = false) (hA : A.size ≤ 70368744177664) (C : ByteArray) (hC : C = if f = true then ⟨#[44]⟩ else ⟨#[]⟩) (U : ByteArray) (hU : bA [yb] = U) :
    Calls Tryd.prog 7 #[.agg #[.string A, .string P, .bool k, .bool f, .int .i64 0], .agg #[.int .u8 (yb.toNat : Int), .string T, .int .i64 n]] w fun e w' => e = .returned (rcV (A ++ C ++ U) (P ++ U) false false 0) ∧ Below w.heap.size w w' := by
  have HC := Lib.hid (show ∀ w, Calls Tryd.prog 21 #[.agg #[.string A, .string P, .bool k, .bool f, .int .i64 0]] w fun e w' => e = .returned (.string C) ∧ Below w.heap.size w w' from fun w => by have := rfcomma_any A P k f 0 w; rw [← hC] at this; exact this)
  have hs1 : C.size ≤ 1 := by rw [hC]; split <;> decide
  have hs2 : U.size ≤ 1 := by rw [← hU, bA_size]; exact Nat.le_refl _
  have l1 : ¬ 9223372036854775807 < A.size + C.size := by omega
  have l2 : ¬ 9223372036854775807 < A.size + C.size + U.size := by omega
  have l3 : ¬ 9223372036854775807 < P.size + U.size := by omega
  have HU := Lib.hid hU
  have HL := Lib.hid (show ∀ w, Calls Tryd.prog 20 #[.agg #[.string A, .string P, .bool k, .bool f, .int .i64 0]] w fun e w' => e = .returned (.int .u8 (x.toNat : Int)) ∧ Below w.heap.size w w' from fun w => by have := rflast_any A P k f 0 w hP; rw [hx] at this; exact this)
  have N0 := dow_new w A P k f 0 (yb.toNat : Int) T n
  clear hx hC hU
  go_enter Tryd.func7, Tryd.ntmps7
  go_upto_region 1 with fail
  generalize (((w.alloc (.cells #[.string A, .string P, .bool k, .bool f, .int .i64 0] 28)).alloc (.cells #[.int .u8 (yb.toNat : Int), .string T, .int .i64 n] 31)).alloc (.cells #[.string ⟨#[]⟩, .string ⟨#[]⟩, .bool false, .bool false, .int .i64 0] 28)) = W at *
  obtain ⟨a0, a1, a2, a3, a4, o0, o1, o2, N1⟩ := dos_of N0
  have HW := Lib.hid N0
  clear N0 N1
  go_upto_region 11 with fail
  go_cut [5] from 63 to 70 (fun v wx => v = .bool (b1 || b2) ∧ wx = W)
  case first =>
    cases b1 <;> cases b2
    all_goals go_wp2_with fail
    all_goals go_meet
    all_goals (case rel => exact (⟨rfl, rfl⟩ : Value.bool _ = .bool _ ∧ W = W))
  case rest =>
    obtain ⟨rfl, hwc⟩ := hcut
    rw [hwc]; clear hwc
    rw [hbg]
    clear hbg p123 p91
    go_upto_region 14 with fail
    go_cut [97] from 80 to 97 (fun v wx => v = .bool (t1 && !t2 || t4 && !k) ∧ DoW w A P k f 0 (yb.toNat : Int) T n wx)
    case first =>
      have HL0 := Lib.hid (HL.out W)
      clear hob
      cases t1 <;> cases t2 <;> cases t4 <;> cases k
      all_goals go_wp2_with (go_at_call 20; (with_reducible refine HL0.out.mono ?_); rintro e w5 ⟨rfl, hb5⟩; have D5 := Lib.hid (HW.out.next hb5); obtain ⟨d0, d1, d2, d3, d4, d5, d6, d7, -⟩ := dos_of D5.out; clear hb5)
      all_goals go_meet
      all_goals (case rel => first | exact ⟨rfl, D5.out⟩ | exact ⟨rfl, HW.out⟩)
    case rest =>
      obtain ⟨rfl, D6⟩ := hcut
      rw [hob]
      obtain ⟨g0, g1, g2, g3, g4, g5, g6, g7, -⟩ := dos_of D6
      have H6 := Lib.hid D6
      clear D6 hob e1 e2 e4 a0 a1 a2 a3 a4 o0 o1 o2
      go_wp2_with fail
      have hS0 := dos_of H6.out.drew
      refine wp_region_held_drew (S := fun wx => DoS w A P k f 0 (yb.toNat : Int) T n wx) (by kernel_rfl) hS0 (fun hS => ?_)
      clear hS0
      generalize World.drew _ = w0 at *
      clear g0 g1 g2 g3 g4 g5 g6 g7
      refine wpAnyH_take (i := 0) (oi := ⟨some 101, _, _, _, _, _⟩) (v := ?_) rfl (by decide +kernel) (by decide +kernel) (by decide +kernel) (fun _ _ _ h => h) (Or.inl ⟨by rfl, ?_⟩) hS ?_
      rotate_left 1
      · intro wS hSw
        obtain ⟨s0, s1, s2, s3, s4, s5, s6, s7, -⟩ := hSw
        go_simp
        try with_reducible rfl
      try simp only [Act.put, List.setIfInBounds_toArray, List.set_cons_zero, List.set_cons_succ]
      refine wpAnyH_take (i := 1) (oi := ⟨some 102, _, _, _, _, _⟩) (v := ?_) rfl (by decide +kernel) (by decide +kernel) (by decide +kernel) (fun _ _ _ h => h) (Or.inl ⟨by rfl, ?_⟩) hS ?_
      rotate_left 1
      · intro wS hSw
        obtain ⟨s0, s1, s2, s3, s4, s5, s6, s7, -⟩ := hSw
        go_simp
        try with_reducible rfl
      try simp only [Act.put, List.setIfInBounds_toArray, List.set_cons_zero, List.set_cons_succ]
      refine wpAnyH_take (i := 2) (oi := ⟨some 103, _, _, _, _, _⟩) (v := ?_) rfl (by decide +kernel) (by decide +kernel) (by decide +kernel) (fun _ _ _ h => h) (Or.inl ⟨by rfl, ?_⟩) hS ?_
      rotate_left 1
      · intro wS hSw
        obtain ⟨s0, s1, s2, s3, s4, s5, s6, s7, -⟩ := hSw
        go_simp
        try with_reducible rfl
      try simp only [Act.put, List.setIfInBounds_toArray, List.set_cons_zero, List.set_cons_succ]
      refine wpAnyH_take (i := 5) (oi := ⟨some 106, _, _, _, _, _⟩) (v := ?_) rfl (by decide +kernel) (by decide +kernel) (by decide +kernel) (fun _ _ _ h => h) (Or.inl ⟨by rfl, ?_⟩) hS ?_
      rotate_left 1
      · intro wS hSw
        obtain ⟨s0, s1, s2, s3, s4, s5, s6, s7, -⟩ := hSw
        go_simp
        try with_reducible rfl
      try simp only [Act.put, List.setIfInBounds_toArray, List.set_cons_zero, List.set_cons_succ]
      refine wpAnyH_take (i := 6) (oi := ⟨some 107, _, _, _, _, _⟩) (v := ?_) rfl (by decide +kernel) (by decide +kernel) (by decide +kernel) (fun _ _ _ h => h) (Or.inl ⟨by rfl, ?_⟩) hS ?_
      rotate_left 1
      · intro wS hSw
        obtain ⟨s0, s1, s2, s3, s4, s5, s6, s7, -⟩ := hSw
        go_simp
        try with_reducible rfl
      try simp only [Act.put, List.setIfInBounds_toArray, List.set_cons_zero, List.set_cons_succ]
      refine wpAnyH_take (i := 10) (oi := ⟨some 111, _, _, _, _, _⟩) (v := ?_) rfl (by decide +kernel) (by decide +kernel) (by decide +kernel) (fun _ _ _ h => h) (Or.inl ⟨by rfl, ?_⟩) hS ?_
      rotate_left 1
      · intro wS hSw
        obtain ⟨s0, s1, s2, s3, s4, s5, s6, s7, -⟩ := hSw
        go_simp
        try with_reducible rfl
      try simp only [Act.put, List.setIfInBounds_toArray, List.set_cons_zero, List.set_cons_succ]
      refine wpAnyH_take (i := 11) (oi := ⟨some 112, _, _, _, _, _⟩) (v := ?_) rfl (by decide +kernel) (by decide +kernel) (by decide +kernel) (fun _ _ _ h => h) (Or.inl ⟨by rfl, ?_⟩) hS ?_
      rotate_left 1
      · intro wS hSw
        obtain ⟨s0, s1, s2, s3, s4, s5, s6, s7, -⟩ := hSw
        go_simp
        try with_reducible rfl
      try simp only [Act.put, List.setIfInBounds_toArray, List.set_cons_zero, List.set_cons_succ]
      refine wpAnyH_take (i := 12) (oi := ⟨some 113, _, _, _, _, _⟩) (v := ?_) rfl (by decide +kernel) (by decide +kernel) (by decide +kernel) (fun _ _ _ h => h) (Or.inl ⟨by rfl, ?_⟩) hS ?_
      rotate_left 1
      · intro wS hSw
        obtain ⟨s0, s1, s2, s3, s4, s5, s6, s7, -⟩ := hSw
        go_simp
        try with_reducible rfl
      try simp only [Act.put, List.setIfInBounds_toArray, List.set_cons_zero, List.set_cons_succ]
      refine wpAnyH_take (i := 13) (oi := ⟨some 114, _, _, _, _, _⟩) (v := ?_) rfl (by decide +kernel) (by decide +kernel) (by decide +kernel) (fun _ _ _ h => h) (Or.inl ⟨by rfl, ?_⟩) hS ?_
      rotate_left 1
      · intro wS hSw
        obtain ⟨s0, s1, s2, s3, s4, s5, s6, s7, -⟩ := hSw
        go_simp
        try with_reducible rfl
      try simp only [Act.put, List.setIfInBounds_toArray, List.set_cons_zero, List.set_cons_succ]
      apply share2 (C := fun (w1 : World) (g7 : Nat) (g14 : Nat) => DoS w A P k f 0 (yb.toNat : Int) T n w1)
      case h1 =>
        intro H122
        apply share2 (C := fun (w1 : World) (g7 : Nat) (g14 : Nat) => DoS w A P k f 0 (yb.toNat : Int) T n w1)
        case h1 =>
          intro H022
          apply share2 (C := fun (w1 : World) (g7 : Nat) (g14 : Nat) => DoS w A P k f 0 (yb.toNat : Int) T n w1 ∧ w1.cell? ⟨g7, 0, none⟩ = some (.int .u8 (yb.toNat : Int)))
          case h1 =>
            intro H112
            apply share2 (C := fun (w1 : World) (g7 : Nat) (g14 : Nat) => DoS w A P k f 0 (yb.toNat : Int) T n w1 ∧ w1.cell? ⟨g14, 0, none⟩ = some (.int .u8 (yb.toNat : Int)))
            case h1 =>
              intro H121
              apply share2 (C := fun (w1 : World) (g7 : Nat) (g14 : Nat) => DoS w A P k f 0 (yb.toNat : Int) T n w1 ∧ w1.cell? ⟨g7, 0, none⟩ = some (.int .u8 (yb.toNat : Int)))
              case h1 =>
                intro H012
                apply share2 (C := fun (w1 : World) (g7 : Nat) (g14 : Nat) => DoS w A P k f 0 (yb.toNat : Int) T n w1 ∧ w1.cell? ⟨g14, 0, none⟩ = some (.int .u8 (yb.toNat : Int)))
                case h1 =>
                  intro H021
                  apply share1 (C := fun (w1 : World) (g14 : Nat) => DoS w A P k f 0 (yb.toNat : Int) T n w1)
                  case h1 =>
                    intro H102
                    apply share2 (C := fun (w1 : World) (g7 : Nat) (g14 : Nat) => DoS w A P k f 0 (yb.toNat : Int) T n w1 ∧ w1.cell? ⟨g7, 0, none⟩ = some (.int .u8 (yb.toNat : Int)) ∧ w1.cell? ⟨g14, 0, none⟩ = some (.int .u8 (yb.toNat : Int)))
                    case h1 =>
                      intro H111
                      apply share1 (C := fun (w1 : World) (g7 : Nat) => DoS w A P k f 0 (yb.toNat : Int) T n w1)
                      case h1 =>
                        intro H120
                        apply share2 (C := fun (w1 : World) (g7 : Nat) (g14 : Nat) => DoS w A P k f 0 (yb.toNat : Int) T n w1 ∧ w1.cell? ⟨g7, 0, none⟩ = some (.int .u8 (yb.toNat : Int)) ∧ w1.cell? ⟨g14, 0, none⟩ = some (.int .u8 (yb.toNat : Int)))
                        case h1 =>
                          intro H011
                          apply share1 (C := fun (w1 : World) (g14 : Nat) => DoS w A P k f 0 (yb.toNat : Int) T n w1 ∧ w1.cell? ⟨g14, 0, none⟩ = some (.int .u8 (yb.toNat : Int)))
                          case h1 =>
                            intro H101
                            apply share1 (C := fun (w1 : World) (g7 : Nat) => DoS w A P k f 0 (yb.toNat : Int) T n w1 ∧ w1.cell? ⟨g7, 0, none⟩ = some (.int .u8 (yb.toNat : Int)))
                            case h1 =>
                              intro H110
                              refine wpAnyH_ready (rs := [3, 7, 14]) (by decide +kernel) (by simp) ?_
                              refine AllReadyH.cons (o := ⟨some 104, _, _, _, _, _⟩) rfl (fun K hK => ?_) (AllReadyH.cons (o := ⟨some 108, _, _, _, _, _⟩) rfl (fun K hK => ?_) (AllReadyH.cons (o := ⟨some 115, _, _, _, _, _⟩) rfl (fun K hK => ?_) AllReadyH.nil))
                              · skip
                                rw [if_pos (by rfl)]
                                go_simp
                                with_reducible refine (HC.out _).mono ?_
                                rintro e w7 ⟨rfl, hb⟩
                                refine hK.out _ _ (dos_of ((dos_w hS).next hb)) (fun hS => ?_)
                                clear hK K hb
                                try simp only [Act.put, List.setIfInBounds_toArray, List.set_cons_zero, List.set_cons_succ]
                                refine wpAnyH_take (i := 4) (oi := ⟨some 105, _, _, _, _, _⟩) (v := ?_) rfl (by decide +kernel) (by decide +kernel) (by decide +kernel) (fun _ _ _ h => h) (Or.inl ⟨by rfl, ?_⟩) hS ?_
                                rotate_left 1
                                · intro wS hSw
                                  obtain ⟨s0, s1, s2, s3, s4, s5, s6, s7, -⟩ := hSw
                                  go_simp
                                  try with_reducible rfl
                                try simp only [Act.put, List.setIfInBounds_toArray, List.set_cons_zero, List.set_cons_succ]
                                refine wpAnyH_ready (rs := [7, 14]) (by decide +kernel) (by simp) ?_
                                refine AllReadyH.cons (o := ⟨some 108, _, _, _, _, _⟩) rfl (fun K hK => ?_) (AllReadyH.cons (o := ⟨some 115, _, _, _, _, _⟩) rfl (fun K hK => ?_) AllReadyH.nil)
                                · skip
                                  rw [if_pos (by rfl)]
                                  have hb := new_blw w7 (.cells #[.int .u8 (yb.toNat : Int)] 5)
                                  have m7 := new_byte w7 (yb.toNat : Int)
                                  go_simp
                                  refine hK.out _ _ (dos_of ((dos_w hS).next hb)) (fun hS => ?_)
                                  clear hK K hb
                                  generalize hw : w7.alloc (.cells #[.int .u8 (yb.toNat : Int)] 5) = w8 at *
                                  clear hw
                                  generalize hg : w7.heap.size = g7 at *
                                  clear hg
                                  try simp only [Act.put, List.setIfInBounds_toArray, List.set_cons_zero, List.set_cons_succ]
                                  exact H110 w8 g7 ⟨hS, m7⟩
                                · skip
                                  rw [if_pos (by rfl)]
                                  have hb := new_blw w7 (.cells #[.int .u8 (yb.toNat : Int)] 5)
                                  have m14 := new_byte w7 (yb.toNat : Int)
                                  go_simp
                                  refine hK.out _ _ (dos_of ((dos_w hS).next hb)) (fun hS => ?_)
                                  clear hK K hb
                                  generalize hw : w7.alloc (.cells #[.int .u8 (yb.toNat : Int)] 5) = w8 at *
                                  clear hw
                                  generalize hg : w7.heap.size = g14 at *
                                  clear hg
                                  try simp only [Act.put, List.setIfInBounds_toArray, List.set_cons_zero, List.set_cons_succ]
                                  exact H101 w8 g14 ⟨hS, m14⟩
                              · skip
                                rw [if_pos (by rfl)]
                                have hb := new_blw w0 (.cells #[.int .u8 (yb.toNat : Int)] 5)
                                have m7 := new_byte w0 (yb.toNat : Int)
                                go_simp
                                refine hK.out _ _ (dos_of ((dos_w hS).next hb)) (fun hS => ?_)
                                clear hK K hb
                                generalize hw : w0.alloc (.cells #[.int .u8 (yb.toNat : Int)] 5) = w7 at *
                                clear hw
                                generalize hg : w0.heap.size = g7 at *
                                clear hg
                                try simp only [Act.put, List.setIfInBounds_toArray, List.set_cons_zero, List.set_cons_succ]
                                refine wpAnyH_ready (rs := [3, 8, 14]) (by decide +kernel) (by simp) ?_
                                refine AllReadyH.cons (o := ⟨some 104, _, _, _, _, _⟩) rfl (fun K hK => ?_) (AllReadyH.cons (o := ⟨some 109, _, _, _, _, _⟩) rfl (fun K hK => ?_) (AllReadyH.cons (o := ⟨some 115, _, _, _, _, _⟩) rfl (fun K hK => ?_) AllReadyH.nil))
                                · skip
                                  rw [if_pos (by rfl)]
                                  go_simp
                                  with_reducible refine (HC.out _).mono ?_
                                  rintro e w8 ⟨rfl, hb⟩
                                  have m7 := cell_next m7 hb
                                  refine hK.out _ _ (dos_of ((dos_w hS).next hb)) (fun hS => ?_)
                                  clear hK K hb
                                  try simp only [Act.put, List.setIfInBounds_toArray, List.set_cons_zero, List.set_cons_succ]
                                  refine wpAnyH_take (i := 4) (oi := ⟨some 105, _, _, _, _, _⟩) (v := ?_) rfl (by decide +kernel) (by decide +kernel) (by decide +kernel) (fun _ _ _ h => h) (Or.inl ⟨by rfl, ?_⟩) hS ?_
                                  rotate_left 1
                                  · intro wS hSw
                                    obtain ⟨s0, s1, s2, s3, s4, s5, s6, s7, -⟩ := hSw
                                    go_simp
                                    try with_reducible rfl
                                  try simp only [Act.put, List.setIfInBounds_toArray, List.set_cons_zero, List.set_cons_succ]
                                  exact H110 w8 g7 ⟨hS, m7⟩
                                · skip
                                  rw [if_pos (by rfl)]
                                  have kv := text_cell (P := Tryd.prog) (b := yb) m7 Tryd.underlying41 Tryd.underlying5 Tryd.underlying9
                                  rw [HU.out] at kv
                                  go_simp
                                  refine hK.out _ _ hS (fun hS => ?_)
                                  clear hK K kv
                                  try simp only [Act.put, List.setIfInBounds_toArray, List.set_cons_zero, List.set_cons_succ]
                                  refine wpAnyH_ready (rs := [3, 14]) (by decide +kernel) (by simp) ?_
                                  refine AllReadyH.cons (o := ⟨some 104, _, _, _, _, _⟩) rfl (fun K hK => ?_) (AllReadyH.cons (o := ⟨some 115, _, _, _, _, _⟩) rfl (fun K hK => ?_) AllReadyH.nil)
                                  · skip
                                    rw [if_pos (by rfl)]
                                    go_simp
                                    with_reducible refine (HC.out _).mono ?_
                                    rintro e w9 ⟨rfl, hb⟩
                                    refine hK.out _ _ (dos_of ((dos_w hS).next hb)) (fun hS => ?_)
                                    clear hK K hb
                                    try simp only [Act.put, List.setIfInBounds_toArray, List.set_cons_zero, List.set_cons_succ]
                                    refine wpAnyH_take (i := 4) (oi := ⟨some 105, _, _, _, _, _⟩) (v := ?_) rfl (by decide +kernel) (by decide +kernel) (by decide +kernel) (fun _ _ _ h => h) (Or.inl ⟨by rfl, ?_⟩) hS ?_
                                    rotate_left 1
                                    · intro wS hSw
                                      obtain ⟨s0, s1, s2, s3, s4, s5, s6, s7, -⟩ := hSw
                                      go_simp
                                      try with_reducible rfl
                                    try simp only [Act.put, List.setIfInBounds_toArray, List.set_cons_zero, List.set_cons_succ]
                                    refine wpAnyH_take (i := 9) (oi := ⟨some 110, _, _, _, _, _⟩) (v := ?_) rfl (by decide +kernel) (by decide +kernel) (by decide +kernel) (fun _ _ _ h => h) (Or.inl ⟨by rfl, ?_⟩) hS ?_
                                    rotate_left 1
                                    · intro wS hSw
                                      obtain ⟨s0, s1, s2, s3, s4, s5, s6, s7, -⟩ := hSw
                                      go_simp
                                      try with_reducible rfl
                                    try simp only [Act.put, List.setIfInBounds_toArray, List.set_cons_zero, List.set_cons_succ]
                                    exact H120 w9 g7 hS
                                  · skip
                                    rw [if_pos (by rfl)]
                                    have hb := new_blw w7 (.cells #[.int .u8 (yb.toNat : Int)] 5)
                                    have m14 := new_byte w7 (yb.toNat : Int)
                                    go_simp
                                    refine hK.out _ _ (dos_of ((dos_w hS).next hb)) (fun hS => ?_)
                                    clear hK K hb
                                    generalize hw : w7.alloc (.cells #[.int .u8 (yb.toNat : Int)] 5) = w9 at *
                                    clear hw
                                    generalize hg : w7.heap.size = g14 at *
                                    clear hg
                                    try simp only [Act.put, List.setIfInBounds_toArray, List.set_cons_zero, List.set_cons_succ]
                                    exact H021 w9 g7 g14 ⟨hS, m14⟩
                                · skip
                                  rw [if_pos (by rfl)]
                                  have hb := new_blw w7 (.cells #[.int .u8 (yb.toNat : Int)] 5)
                                  have m14 := new_byte w7 (yb.toNat : Int)
                                  have m7 := cell_next m7 hb
                                  go_simp
                                  refine hK.out _ _ (dos_of ((dos_w hS).next hb)) (fun hS => ?_)
                                  clear hK K hb
                                  generalize hw : w7.alloc (.cells #[.int .u8 (yb.toNat : Int)] 5) = w8 at *
                                  clear hw
                                  generalize hg : w7.heap.size = g14 at *
                                  clear hg
                                  try simp only [Act.put, List.setIfInBounds_toArray, List.set_cons_zero, List.set_cons_succ]
                                  exact H011 w8 g7 g14 ⟨hS, m7, m14⟩
                              · skip
                                rw [if_pos (by rfl)]
                                have hb := new_blw w0 (.cells #[.int .u8 (yb.toNat : Int)] 5)
                                have m14 := new_byte w0 (yb.toNat : Int)
                                go_simp
                                refine hK.out _ _ (dos_of ((dos_w hS).next hb)) (fun hS => ?_)
                                clear hK K hb
                                generalize hw : w0.alloc (.cells #[.int .u8 (yb.toNat : Int)] 5) = w7 at *
                                clear hw
                                generalize hg : w0.heap.size = g14 at *
                                clear hg
                                try simp only [Act.put, List.setIfInBounds_toArray, List.set_cons_zero, List.set_cons_succ]
                                refine wpAnyH_ready (rs := [3, 7, 15]) (by decide +kernel) (by simp) ?_
                                refine AllReadyH.cons (o := ⟨some 104, _, _, _, _, _⟩) rfl (fun K hK => ?_) (AllReadyH.cons (o := ⟨some 108, _, _, _, _, _⟩) rfl (fun K hK => ?_) (AllReadyH.cons (o := ⟨some 116, _, _, _, _, _⟩) rfl (fun K hK => ?_) AllReadyH.nil))
                                · skip
                                  rw [if_pos (by rfl)]
                                  go_simp
                                  with_reducible refine (HC.out _).mono ?_
                                  rintro e w8 ⟨rfl, hb⟩
                                  have m14 := cell_next m14 hb
                                  refine hK.out _ _ (dos_of ((dos_w hS).next hb)) (fun hS => ?_)
                                  clear hK K hb
                                  try simp only [Act.put, List.setIfInBounds_toArray, List.set_cons_zero, List.set_cons_succ]
                                  refine wpAnyH_take (i := 4) (oi := ⟨some 105, _, _, _, _, _⟩) (v := ?_) rfl (by decide +kernel) (by decide +kernel) (by decide +kernel) (fun _ _ _ h => h) (Or.inl ⟨by rfl, ?_⟩) hS ?_
                                  rotate_left 1
                                  · intro wS hSw
                                    obtain ⟨s0, s1, s2, s3, s4, s5, s6, s7, -⟩ := hSw
                                    go_simp
                                    try with_reducible rfl
                                  try simp only [Act.put, List.setIfInBounds_toArray, List.set_cons_zero, List.set_cons_succ]
                                  exact H101 w8 g14 ⟨hS, m14⟩
                                · skip
                                  rw [if_pos (by rfl)]
                                  have hb := new_blw w7 (.cells #[.int .u8 (yb.toNat : Int)] 5)
                                  have m7 := new_byte w7 (yb.toNat : Int)
                                  have m14 := cell_next m14 hb
                                  go_simp
                                  refine hK.out _ _ (dos_of ((dos_w hS).next hb)) (fun hS => ?_)
                                  clear hK K hb
                                  generalize hw : w7.alloc (.cells #[.int .u8 (yb.toNat : Int)] 5) = w8 at *
                                  clear hw
                                  generalize hg : w7.heap.size = g7 at *
                                  clear hg
                                  try simp only [Act.put, List.setIfInBounds_toArray, List.set_cons_zero, List.set_cons_succ]
                                  exact H011 w8 g7 g14 ⟨hS, m7, m14⟩
                                · skip
                                  rw [if_pos (by rfl)]
                                  have kv := text_cell (P := Tryd.prog) (b := yb) m14 Tryd.underlying41 Tryd.underlying5 Tryd.underlying9
                                  rw [HU.out] at kv
                                  go_simp
                                  refine hK.out _ _ hS (fun hS => ?_)
                                  clear hK K kv
                                  try simp only [Act.put, List.setIfInBounds_toArray, List.set_cons_zero, List.set_cons_succ]
                                  refine wpAnyH_take (i := 16) (oi := ⟨some 117, _, _, _, _, _⟩) (v := ?_) rfl (by decide +kernel) (by decide +kernel) (by decide +kernel) (fun _ _ _ h => h) (Or.inl ⟨by rfl, ?_⟩) hS ?_
                                  rotate_left 1
                                  · intro wS hSw
                                    obtain ⟨s0, s1, s2, s3, s4, s5, s6, s7, -⟩ := hSw
                                    go_simp
                                    try with_reducible rfl
                                  try simp only [Act.put, List.setIfInBounds_toArray, List.set_cons_zero, List.set_cons_succ]
                                  refine wpAnyH_ready (rs := [3, 7]) (by decide +kernel) (by simp) ?_
                                  refine AllReadyH.cons (o := ⟨some 104, _, _, _, _, _⟩) rfl (fun K hK => ?_) (AllReadyH.cons (o := ⟨some 108, _, _, _, _, _⟩) rfl (fun K hK => ?_) AllReadyH.nil)
                                  · skip
                                    rw [if_pos (by rfl)]
                                    go_simp
                                    with_reducible refine (HC.out _).mono ?_
                                    rintro e w9 ⟨rfl, hb⟩
                                    refine hK.out _ _ (dos_of ((dos_w hS).next hb)) (fun hS => ?_)
                                    clear hK K hb
                                    try simp only [Act.put, List.setIfInBounds_toArray, List.set_cons_zero, List.set_cons_succ]
                                    refine wpAnyH_take (i := 4) (oi := ⟨some 105, _, _, _, _, _⟩) (v := ?_) rfl (by decide +kernel) (by decide +kernel) (by decide +kernel) (fun _ _ _ h => h) (Or.inl ⟨by rfl, ?_⟩) hS ?_
                                    rotate_left 1
                                    · intro wS hSw
                                      obtain ⟨s0, s1, s2, s3, s4, s5, s6, s7, -⟩ := hSw
                                      go_simp
                                      try with_reducible rfl
                                    try simp only [Act.put, List.setIfInBounds_toArray, List.set_cons_zero, List.set_cons_succ]
                                    exact H102 w9 g14 hS
                                  · skip
                                    rw [if_pos (by rfl)]
                                    have hb := new_blw w7 (.cells #[.int .u8 (yb.toNat : Int)] 5)
                                    have m7 := new_byte w7 (yb.toNat : Int)
                                    go_simp
                                    refine hK.out _ _ (dos_of ((dos_w hS).next hb)) (fun hS => ?_)
                                    clear hK K hb
                                    generalize hw : w7.alloc (.cells #[.int .u8 (yb.toNat : Int)] 5) = w9 at *
                                    clear hw
                                    generalize hg : w7.heap.size = g7 at *
                                    clear hg
                                    try simp only [Act.put, List.setIfInBounds_toArray, List.set_cons_zero, List.set_cons_succ]
                                    exact H012 w9 g7 g14 ⟨hS, m7⟩
                            case h2 =>
                              intro w1 g7 hC
                              obtain ⟨hS, m7⟩ := hC
                              refine wpAnyH_ready (rs := [8, 14]) (by decide +kernel) (by simp) ?_
                              refine AllReadyH.cons (o := ⟨some 109, _, _, _, _, _⟩) rfl (fun K hK => ?_) (AllReadyH.cons (o := ⟨some 115, _, _, _, _, _⟩) rfl (fun K hK => ?_) AllReadyH.nil)
                              · skip
                                rw [if_pos (by rfl)]
                                have kv := text_cell (P := Tryd.prog) (b := yb) m7 Tryd.underlying41 Tryd.underlying5 Tryd.underlying9
                                rw [HU.out] at kv
                                go_simp
                                refine hK.out _ _ hS (fun hS => ?_)
                                clear hK K kv
                                try simp only [Act.put, List.setIfInBounds_toArray, List.set_cons_zero, List.set_cons_succ]
                                refine wpAnyH_take (i := 9) (oi := ⟨some 110, _, _, _, _, _⟩) (v := ?_) rfl (by decide +kernel) (by decide +kernel) (by decide +kernel) (fun _ _ _ h => h) (Or.inl ⟨by rfl, ?_⟩) hS ?_
                                rotate_left 1
                                · intro wS hSw
                                  obtain ⟨s0, s1, s2, s3, s4, s5, s6, s7, -⟩ := hSw
                                  go_simp
                                  try with_reducible rfl
                                try simp only [Act.put, List.setIfInBounds_toArray, List.set_cons_zero, List.set_cons_succ]
                                exact H120 w1 g7 hS
                              · skip
                                rw [if_pos (by rfl)]
                                have hb := new_blw w1 (.cells #[.int .u8 (yb.toNat : Int)] 5)
                                have m14 := new_byte w1 (yb.toNat : Int)
                                have m7 := cell_next m7 hb
                                go_simp
                                refine hK.out _ _ (dos_of ((dos_w hS).next hb)) (fun hS => ?_)
                                clear hK K hb
                                generalize hw : w1.alloc (.cells #[.int .u8 (yb.toNat : Int)] 5) = w70 at *
                                clear hw
                                generalize hg : w1.heap.size = g14 at *
                                clear hg
                                try simp only [Act.put, List.setIfInBounds_toArray, List.set_cons_zero, List.set_cons_succ]
                                exact H111 w70 g7 g14 ⟨hS, m7, m14⟩
                          case h2 =>
                            intro w1 g14 hC
                            obtain ⟨hS, m14⟩ := hC
                            refine wpAnyH_ready (rs := [7, 15]) (by decide +kernel) (by simp) ?_
                            refine AllReadyH.cons (o := ⟨some 108, _, _, _, _, _⟩) rfl (fun K hK => ?_) (AllReadyH.cons (o := ⟨some 116, _, _, _, _, _⟩) rfl (fun K hK => ?_) AllReadyH.nil)
                            · skip
                              rw [if_pos (by rfl)]
                              have hb := new_blw w1 (.cells #[.int .u8 (yb.toNat : Int)] 5)
                              have m7 := new_byte w1 (yb.toNat : Int)
                              have m14 := cell_next m14 hb
                              go_simp
                              refine hK.out _ _ (dos_of ((dos_w hS).next hb)) (fun hS => ?_)
                              clear hK K hb
                              generalize hw : w1.alloc (.cells #[.int .u8 (yb.toNat : Int)] 5) = w70 at *
                              clear hw
                              generalize hg : w1.heap.size = g7 at *
                              clear hg
                              try simp only [Act.put, List.setIfInBounds_toArray, List.set_cons_zero, List.set_cons_succ]
                              exact H111 w70 g7 g14 ⟨hS, m7, m14⟩
                            · skip
                              rw [if_pos (by rfl)]
                              have kv := text_cell (P := Tryd.prog) (b := yb) m14 Tryd.underlying41 Tryd.underlying5 Tryd.underlying9
                              rw [HU.out] at kv
                              go_simp
                              refine hK.out _ _ hS (fun hS => ?_)
                              clear hK K kv
                              try simp only [Act.put, List.setIfInBounds_toArray, List.set_cons_zero, List.set_cons_succ]
                              refine wpAnyH_take (i := 16) (oi := ⟨some 117, _, _, _, _, _⟩) (v := ?_) rfl (by decide +kernel) (by decide +kernel) (by decide +kernel) (fun _ _ _ h => h) (Or.inl ⟨by rfl, ?_⟩) hS ?_
                              rotate_left 1
                              · intro wS hSw
                                obtain ⟨s0, s1, s2, s3, s4, s5, s6, s7, -⟩ := hSw
                                go_simp
                                try with_reducible rfl
                              try simp only [Act.put, List.setIfInBounds_toArray, List.set_cons_zero, List.set_cons_succ]
                              exact H102 w1 g14 hS
                        case h2 =>
                          intro w1 g7 g14 hC
                          obtain ⟨hS, m7, m14⟩ := hC
                          refine wpAnyH_ready (rs := [3, 8, 15]) (by decide +kernel) (by simp) ?_
                          refine AllReadyH.cons (o := ⟨some 104, _, _, _, _, _⟩) rfl (fun K hK => ?_) (AllReadyH.cons (o := ⟨some 109, _, _, _, _, _⟩) rfl (fun K hK => ?_) (AllReadyH.cons (o := ⟨some 116, _, _, _, _, _⟩) rfl (fun K hK => ?_) AllReadyH.nil))
                          · skip
                            rw [if_pos (by rfl)]
                            go_simp
                            with_reducible refine (HC.out _).mono ?_
                            rintro e w70 ⟨rfl, hb⟩
                            have m7 := cell_next m7 hb
                            have m14 := cell_next m14 hb
                            refine hK.out _ _ (dos_of ((dos_w hS).next hb)) (fun hS => ?_)
                            clear hK K hb
                            try simp only [Act.put, List.setIfInBounds_toArray, List.set_cons_zero, List.set_cons_succ]
                            refine wpAnyH_take (i := 4) (oi := ⟨some 105, _, _, _, _, _⟩) (v := ?_) rfl (by decide +kernel) (by decide +kernel) (by decide +kernel) (fun _ _ _ h => h) (Or.inl ⟨by rfl, ?_⟩) hS ?_
                            rotate_left 1
                            · intro wS hSw
                              obtain ⟨s0, s1, s2, s3, s4, s5, s6, s7, -⟩ := hSw
                              go_simp
                              try with_reducible rfl
                            try simp only [Act.put, List.setIfInBounds_toArray, List.set_cons_zero, List.set_cons_succ]
                            exact H111 w70 g7 g14 ⟨hS, m7, m14⟩
                          · skip
                            rw [if_pos (by rfl)]
                            have kv := text_cell (P := Tryd.prog) (b := yb) m7 Tryd.underlying41 Tryd.underlying5 Tryd.underlying9
                            rw [HU.out] at kv
                            go_simp
                            refine hK.out _ _ hS (fun hS => ?_)
                            clear hK K kv
                            try simp only [Act.put, List.setIfInBounds_toArray, List.set_cons_zero, List.set_cons_succ]
                            exact H021 w1 g7 g14 ⟨hS, m14⟩
                          · skip
                            rw [if_pos (by rfl)]
                            have kv := text_cell (P := Tryd.prog) (b := yb) m14 Tryd.underlying41 Tryd.underlying5 Tryd.underlying9
                            rw [HU.out] at kv
                            go_simp
                            refine hK.out _ _ hS (fun hS => ?_)
                            clear hK K kv
                            try simp only [Act.put, List.setIfInBounds_toArray, List.set_cons_zero, List.set_cons_succ]
                            refine wpAnyH_take (i := 16) (oi := ⟨some 117, _, _, _, _, _⟩) (v := ?_) rfl (by decide +kernel) (by decide +kernel) (by decide +kernel) (fun _ _ _ h => h) (Or.inl ⟨by rfl, ?_⟩) hS ?_
                            rotate_left 1
                            · intro wS hSw
                              obtain ⟨s0, s1, s2, s3, s4, s5, s6, s7, -⟩ := hSw
                              go_simp
                              try with_reducible rfl
                            try simp only [Act.put, List.setIfInBounds_toArray, List.set_cons_zero, List.set_cons_succ]
                            exact H012 w1 g7 g14 ⟨hS, m7⟩
                      case h2 =>
                        intro w1 g7 hC
                        have hS : DoS w A P k f 0 (yb.toNat : Int) T n w1 := hC
                        clear hC
                        refine wpAnyH_ready (rs := [14]) (by decide +kernel) (by simp) ?_
                        refine AllReadyH.cons (o := ⟨some 115, _, _, _, _, _⟩) rfl (fun K hK => ?_) AllReadyH.nil
                        rw [if_pos (by rfl)]
                        have hb := new_blw w1 (.cells #[.int .u8 (yb.toNat : Int)] 5)
                        have m14 := new_byte w1 (yb.toNat : Int)
                        go_simp
                        refine hK.out _ _ (dos_of ((dos_w hS).next hb)) (fun hS => ?_)
                        clear hK K hb
                        generalize hw : w1.alloc (.cells #[.int .u8 (yb.toNat : Int)] 5) = w70 at *
                        clear hw
                        generalize hg : w1.heap.size = g14 at *
                        clear hg
                        try simp only [Act.put, List.setIfInBounds_toArray, List.set_cons_zero, List.set_cons_succ]
                        exact H121 w70 g7 g14 ⟨hS, m14⟩
                    case h2 =>
                      intro w1 g7 g14 hC
                      obtain ⟨hS, m7, m14⟩ := hC
                      refine wpAnyH_ready (rs := [8, 15]) (by decide +kernel) (by simp) ?_
                      refine AllReadyH.cons (o := ⟨some 109, _, _, _, _, _⟩) rfl (fun K hK => ?_) (AllReadyH.cons (o := ⟨some 116, _, _, _, _, _⟩) rfl (fun K hK => ?_) AllReadyH.nil)
                      · skip
                        rw [if_pos (by rfl)]
                        have kv := text_cell (P := Tryd.prog) (b := yb) m7 Tryd.underlying41 Tryd.underlying5 Tryd.underlying9
                        rw [HU.out] at kv
                        go_simp
                        refine hK.out _ _ hS (fun hS => ?_)
                        clear hK K kv
                        try simp only [Act.put, List.setIfInBounds_toArray, List.set_cons_zero, List.set_cons_succ]
                        refine wpAnyH_take (i := 9) (oi := ⟨some 110, _, _, _, _, _⟩) (v := ?_) rfl (by decide +kernel) (by decide +kernel) (by decide +kernel) (fun _ _ _ h => h) (Or.inl ⟨by rfl, ?_⟩) hS ?_
                        rotate_left 1
                        · intro wS hSw
                          obtain ⟨s0, s1, s2, s3, s4, s5, s6, s7, -⟩ := hSw
                          go_simp
                          try with_reducible rfl
                        try simp only [Act.put, List.setIfInBounds_toArray, List.set_cons_zero, List.set_cons_succ]
                        exact H121 w1 g7 g14 ⟨hS, m14⟩
                      · skip
                        rw [if_pos (by rfl)]
                        have kv := text_cell (P := Tryd.prog) (b := yb) m14 Tryd.underlying41 Tryd.underlying5 Tryd.underlying9
                        rw [HU.out] at kv
                        go_simp
                        refine hK.out _ _ hS (fun hS => ?_)
                        clear hK K kv
                        try simp only [Act.put, List.setIfInBounds_toArray, List.set_cons_zero, List.set_cons_succ]
                        refine wpAnyH_take (i := 16) (oi := ⟨some 117, _, _, _, _, _⟩) (v := ?_) rfl (by decide +kernel) (by decide +kernel) (by decide +kernel) (fun _ _ _ h => h) (Or.inl ⟨by rfl, ?_⟩) hS ?_
                        rotate_left 1
                        · intro wS hSw
                          obtain ⟨s0, s1, s2, s3, s4, s5, s6, s7, -⟩ := hSw
                          go_simp
                          try with_reducible rfl
                        try simp only [Act.put, List.setIfInBounds_toArray, List.set_cons_zero, List.set_cons_succ]
                        exact H112 w1 g7 g14 ⟨hS, m7⟩
                  case h2 =>
                    intro w1 g14 hC
                    have hS : DoS w A P k f 0 (yb.toNat : Int) T n w1 := hC
                    clear hC
                    refine wpAnyH_ready (rs := [7]) (by decide +kernel) (by simp) ?_
                    refine AllReadyH.cons (o := ⟨some 108, _, _, _, _, _⟩) rfl (fun K hK => ?_) AllReadyH.nil
                    rw [if_pos (by rfl)]
                    have hb := new_blw w1 (.cells #[.int .u8 (yb.toNat : Int)] 5)
                    have m7 := new_byte w1 (yb.toNat : Int)
                    go_simp
                    refine hK.out _ _ (dos_of ((dos_w hS).next hb)) (fun hS => ?_)
                    clear hK K hb
                    generalize hw : w1.alloc (.cells #[.int .u8 (yb.toNat : Int)] 5) = w70 at *
                    clear hw
                    generalize hg : w1.heap.size = g7 at *
                    clear hg
                    try simp only [Act.put, List.setIfInBounds_toArray, List.set_cons_zero, List.set_cons_succ]
                    exact H112 w70 g7 g14 ⟨hS, m7⟩
                case h2 =>
                  intro w1 g7 g14 hC
                  obtain ⟨hS, m14⟩ := hC
                  refine wpAnyH_ready (rs := [3, 15]) (by decide +kernel) (by simp) ?_
                  refine AllReadyH.cons (o := ⟨some 104, _, _, _, _, _⟩) rfl (fun K hK => ?_) (AllReadyH.cons (o := ⟨some 116, _, _, _, _, _⟩) rfl (fun K hK => ?_) AllReadyH.nil)
                  · skip
                    rw [if_pos (by rfl)]
                    go_simp
                    with_reducible refine (HC.out _).mono ?_
                    rintro e w70 ⟨rfl, hb⟩
                    have m14 := cell_next m14 hb
                    refine hK.out _ _ (dos_of ((dos_w hS).next hb)) (fun hS => ?_)
                    clear hK K hb
                    try simp only [Act.put, List.setIfInBounds_toArray, List.set_cons_zero, List.set_cons_succ]
                    refine wpAnyH_take (i := 4) (oi := ⟨some 105, _, _, _, _, _⟩) (v := ?_) rfl (by decide +kernel) (by decide +kernel) (by decide +kernel) (fun _ _ _ h => h) (Or.inl ⟨by rfl, ?_⟩) hS ?_
                    rotate_left 1
                    · intro wS hSw
                      obtain ⟨s0, s1, s2, s3, s4, s5, s6, s7, -⟩ := hSw
                      go_simp
                      try with_reducible rfl
                    try simp only [Act.put, List.setIfInBounds_toArray, List.set_cons_zero, List.set_cons_succ]
                    refine wpAnyH_take (i := 9) (oi := ⟨some 110, _, _, _, _, _⟩) (v := ?_) rfl (by decide +kernel) (by decide +kernel) (by decide +kernel) (fun _ _ _ h => h) (Or.inl ⟨by rfl, ?_⟩) hS ?_
                    rotate_left 1
                    · intro wS hSw
                      obtain ⟨s0, s1, s2, s3, s4, s5, s6, s7, -⟩ := hSw
                      go_simp
                      try with_reducible rfl
                    try simp only [Act.put, List.setIfInBounds_toArray, List.set_cons_zero, List.set_cons_succ]
                    exact H121 w70 g7 g14 ⟨hS, m14⟩
                  · skip
                    rw [if_pos (by rfl)]
                    have kv := text_cell (P := Tryd.prog) (b := yb) m14 Tryd.underlying41 Tryd.underlying5 Tryd.underlying9
                    rw [HU.out] at kv
                    go_simp
                    refine hK.out _ _ hS (fun hS => ?_)
                    clear hK K kv
                    try simp only [Act.put, List.setIfInBounds_toArray, List.set_cons_zero, List.set_cons_succ]
                    refine wpAnyH_take (i := 16) (oi := ⟨some 117, _, _, _, _, _⟩) (v := ?_) rfl (by decide +kernel) (by decide +kernel) (by decide +kernel) (fun _ _ _ h => h) (Or.inl ⟨by rfl, ?_⟩) hS ?_
                    rotate_left 1
                    · intro wS hSw
                      obtain ⟨s0, s1, s2, s3, s4, s5, s6, s7, -⟩ := hSw
                      go_simp
                      try with_reducible rfl
                    try simp only [Act.put, List.setIfInBounds_toArray, List.set_cons_zero, List.set_cons_succ]
                    exact H022 w1 g7 g14 hS
              case h2 =>
                intro w1 g7 g14 hC
                obtain ⟨hS, m7⟩ := hC
                refine wpAnyH_ready (rs := [3, 8]) (by decide +kernel) (by simp) ?_
                refine AllReadyH.cons (o := ⟨some 104, _, _, _, _, _⟩) rfl (fun K hK => ?_) (AllReadyH.cons (o := ⟨some 109, _, _, _, _, _⟩) rfl (fun K hK => ?_) AllReadyH.nil)
                · skip
                  rw [if_pos (by rfl)]
                  go_simp
                  with_reducible refine (HC.out _).mono ?_
                  rintro e w70 ⟨rfl, hb⟩
                  have m7 := cell_next m7 hb
                  refine hK.out _ _ (dos_of ((dos_w hS).next hb)) (fun hS => ?_)
                  clear hK K hb
                  try simp only [Act.put, List.setIfInBounds_toArray, List.set_cons_zero, List.set_cons_succ]
                  refine wpAnyH_take (i := 4) (oi := ⟨some 105, _, _, _, _, _⟩) (v := ?_) rfl (by decide +kernel) (by decide +kernel) (by decide +kernel) (fun _ _ _ h => h) (Or.inl ⟨by rfl, ?_⟩) hS ?_
                  rotate_left 1
                  · intro wS hSw
                    obtain ⟨s0, s1, s2, s3, s4, s5, s6, s7, -⟩ := hSw
                    go_simp
                    try with_reducible rfl
                  try simp only [Act.put, List.setIfInBounds_toArray, List.set_cons_zero, List.set_cons_succ]
                  exact H112 w70 g7 g14 ⟨hS, m7⟩
                · skip
                  rw [if_pos (by rfl)]
                  have kv := text_cell (P := Tryd.prog) (b := yb) m7 Tryd.underlying41 Tryd.underlying5 Tryd.underlying9
                  rw [HU.out] at kv
                  go_simp
                  refine hK.out _ _ hS (fun hS => ?_)
                  clear hK K kv
                  try simp only [Act.put, List.setIfInBounds_toArray, List.set_cons_zero, List.set_cons_succ]
                  exact H022 w1 g7 g14 hS
            case h2 =>
              intro w1 g7 g14 hC
              obtain ⟨hS, m14⟩ := hC
              refine wpAnyH_ready (rs := [15]) (by decide +kernel) (by simp) ?_
              refine AllReadyH.cons (o := ⟨some 116, _, _, _, _, _⟩) rfl (fun K hK => ?_) AllReadyH.nil
              rw [if_pos (by rfl)]
              have kv := text_cell (P := Tryd.prog) (b := yb) m14 Tryd.underlying41 Tryd.underlying5 Tryd.underlying9
              rw [HU.out] at kv
              go_simp
              refine hK.out _ _ hS (fun hS => ?_)
              clear hK K kv
              try simp only [Act.put, List.setIfInBounds_toArray, List.set_cons_zero, List.set_cons_succ]
              refine wpAnyH_take (i := 16) (oi := ⟨some 117, _, _, _, _, _⟩) (v := ?_) rfl (by decide +kernel) (by decide +kernel) (by decide +kernel) (fun _ _ _ h => h) (Or.inl ⟨by rfl, ?_⟩) hS ?_
              rotate_left 1
              · intro wS hSw
                obtain ⟨s0, s1, s2, s3, s4, s5, s6, s7, -⟩ := hSw
                go_simp
                try with_reducible rfl
              try simp only [Act.put, List.setIfInBounds_toArray, List.set_cons_zero, List.set_cons_succ]
              refine wpAnyH_take (i := 17) (oi := ⟨some 118, _, _, _, _, _⟩) (v := ?_) rfl (by decide +kernel) (by decide +kernel) (by decide +kernel) (fun _ _ _ h => h) (Or.inl ⟨by rfl, ?_⟩) hS ?_
              rotate_left 1
              · intro wS hSw
                obtain ⟨s0, s1, s2, s3, s4, s5, s6, s7, -⟩ := hSw
                go_simp
                try with_reducible rfl
              try simp only [Act.put, List.setIfInBounds_toArray, List.set_cons_zero, List.set_cons_succ]
              exact H122 w1 g7 g14 hS
          case h2 =>
            intro w1 g7 g14 hC
            obtain ⟨hS, m7⟩ := hC
            refine wpAnyH_ready (rs := [8]) (by decide +kernel) (by simp) ?_
            refine AllReadyH.cons (o := ⟨some 109, _, _, _, _, _⟩) rfl (fun K hK => ?_) AllReadyH.nil
            rw [if_pos (by rfl)]
            have kv := text_cell (P := Tryd.prog) (b := yb) m7 Tryd.underlying41 Tryd.underlying5 Tryd.underlying9
            rw [HU.out] at kv
            go_simp
            refine hK.out _ _ hS (fun hS => ?_)
            clear hK K kv
            try simp only [Act.put, List.setIfInBounds_toArray, List.set_cons_zero, List.set_cons_succ]
            refine wpAnyH_take (i := 9) (oi := ⟨some 110, _, _, _, _, _⟩) (v := ?_) rfl (by decide +kernel) (by decide +kernel) (by decide +kernel) (fun _ _ _ h => h) (Or.inl ⟨by rfl, ?_⟩) hS ?_
            rotate_left 1
            · intro wS hSw
              obtain ⟨s0, s1, s2, s3, s4, s5, s6, s7, -⟩ := hSw
              go_simp
              try with_reducible rfl
            try simp only [Act.put, List.setIfInBounds_toArray, List.set_cons_zero, List.set_cons_succ]
            refine wpAnyH_take (i := 17) (oi := ⟨some 118, _, _, _, _, _⟩) (v := ?_) rfl (by decide +kernel) (by decide +kernel) (by decide +kernel) (fun _ _ _ h => h) (Or.inl ⟨by rfl, ?_⟩) hS ?_
            rotate_left 1
            · intro wS hSw
              obtain ⟨s0, s1, s2, s3, s4, s5, s6, s7, -⟩ := hSw
              go_simp
              try with_reducible rfl
            try simp only [Act.put, List.setIfInBounds_toArray, List.set_cons_zero, List.set_cons_succ]
            exact H122 w1 g7 g14 hS
        case h2 =>
          intro w1 g7 g14 hC
          have hS : DoS w A P k f 0 (yb.toNat : Int) T n w1 := hC
          clear hC
          refine wpAnyH_ready (rs := [3]) (by decide +kernel) (by simp) ?_
          refine AllReadyH.cons (o := ⟨some 104, _, _, _, _, _⟩) rfl (fun K hK => ?_) AllReadyH.nil
          rw [if_pos (by rfl)]
          go_simp
          with_reducible refine (HC.out _).mono ?_
          rintro e w70 ⟨rfl, hb⟩
          refine hK.out _ _ (dos_of ((dos_w hS).next hb)) (fun hS => ?_)
          clear hK K hb
          try simp only [Act.put, List.setIfInBounds_toArray, List.set_cons_zero, List.set_cons_succ]
          refine wpAnyH_take (i := 4) (oi := ⟨some 105, _, _, _, _, _⟩) (v := ?_) rfl (by decide +kernel) (by decide +kernel) (by decide +kernel) (fun _ _ _ h => h) (Or.inl ⟨by rfl, ?_⟩) hS ?_
          rotate_left 1
          · intro wS hSw
            obtain ⟨s0, s1, s2, s3, s4, s5, s6, s7, -⟩ := hSw
            go_simp
            try with_reducible rfl
          try simp only [Act.put, List.setIfInBounds_toArray, List.set_cons_zero, List.set_cons_succ]
          refine wpAnyH_take (i := 9) (oi := ⟨some 110, _, _, _, _, _⟩) (v := ?_) rfl (by decide +kernel) (by decide +kernel) (by decide +kernel) (fun _ _ _ h => h) (Or.inl ⟨by rfl, ?_⟩) hS ?_
          rotate_left 1
          · intro wS hSw
            obtain ⟨s0, s1, s2, s3, s4, s5, s6, s7, -⟩ := hSw
            go_simp
            try with_reducible rfl
          try simp only [Act.put, List.setIfInBounds_toArray, List.set_cons_zero, List.set_cons_succ]
          refine wpAnyH_take (i := 17) (oi := ⟨some 118, _, _, _, _, _⟩) (v := ?_) rfl (by decide +kernel) (by decide +kernel) (by decide +kernel) (fun _ _ _ h => h) (Or.inl ⟨by rfl, ?_⟩) hS ?_
          rotate_left 1
          · intro wS hSw
            obtain ⟨s0, s1, s2, s3, s4, s5, s6, s7, -⟩ := hSw
            go_simp
            try with_reducible rfl
          try simp only [Act.put, List.setIfInBounds_toArray, List.set_cons_zero, List.set_cons_succ]
          exact H122 w70 g7 g14 hS
      case h2 =>
        intro w1 g7 g14 hC
        have hS : DoS w A P k f 0 (yb.toNat : Int) T n w1 := hC
        clear hC
        refine wpAnyH_ready (rs := [18]) (by decide +kernel) (by simp) ?_
        refine AllReadyH.cons (o := ⟨none, _, _, _, _, _⟩) rfl (fun K hK => ?_) AllReadyH.nil
        rw [if_pos (by rfl)]
        have HP := Lib.hid (dos_w hS)
        obtain ⟨q, hq, qf⟩ := HP.out.qv
        have c0' := hq 0 (by decide); have c1' := hq 1 (by decide); have c2' := hq 2 (by decide); have c3' := hq 3 (by decide); have c4' := hq 4 (by decide)
        clear hq
        go_simp
        refine hK.out _ _ (dos_of (DoW.store HP.out _ _ _ _ _)) (fun hS => ?_)
        clear hK K c0' c1' c2' c3' c4' qf
        try simp only [Act.put, List.setIfInBounds_toArray, List.set_cons_zero, List.set_cons_succ]
        refine wpAnyH_done (by kernel_rfl) ?_ _
        clear hS
        go_wp2
        refine bodyPost_ret (rc_result Tryd.results7 (DoW.fin HP.out _ _ _ _ _).1 rfl) rfl ?_
        exact ⟨rfl, (DoW.fin HP.out _ _ _ _ _).2⟩
end
end Go.Proofs.YtnbhhnkcfbfdcaaDoor
