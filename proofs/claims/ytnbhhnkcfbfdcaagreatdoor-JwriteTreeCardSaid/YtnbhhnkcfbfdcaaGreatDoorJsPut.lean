/- Package jstring's Put. -/
import Derived.Test.YtnbhhnkcfbfdcaaGreatDoorJsTell
namespace Go.Proofs.YtnbhhnkcfbfdcaaGreatDoor
open Go Go.RowKit
set_option linter.unusedVariables false

/-- What 'copy' of what came in makes of a list in a world where it has been made before. -/
theorem copy_at (P : Program) (t e ty : TypeId) (ht : P.underlying t = some (.slice e)) (hi : (P.info? e).map (·.size) = some 1)
    (V : World) (G B : Nat) (a : Option Addr) (cap more : Nat) (l : List UInt8) (hV : V.heap[G]? = some (.cells (Array.replicate (l.length + more) (.int .u8 0)) e (0, 0))) (hB : B ≤ G) (hin : BIn V a l) (hmax : l.length + more ≤ maxLen) :
    ∃ w2, (Builtin.copy_ #[t, t] ty #[.slice (some ⟨G, 0, none⟩) l.length (l.length + more), .slice a l.length cap]).run P V = .ok (goInt l.length) w2 ∧
      Bts e w2 B (.slice (some ⟨G, 0, none⟩) l.length (l.length + more)) l ∧ Only G V w2 := by
  by_cases h0 : l.length = 0
  · obtain rfl := List.eq_nil_of_length_eq_zero h0
    exact ⟨_, run_copy_none (P := P) _ t t ty e _ a 0 _ 0 cap ht hi rfl, ⟨rfl, .inr ⟨_, _, _, rfl, hB, hV, Nat.zero_le _, hmax, by simp, by simp [bV]⟩⟩, Only.refl _ _⟩
  · obtain ⟨b, off, rfl, hbl, _⟩ := hin 0 (by omega)
    have hr := run_copy_row (P := P) V t t ty e G 0 l.length (l.length + more) ⟨b, off, none⟩ l.length cap _ e (bV l) ht hi hV
      (by rw [bV_length]; exact (Nat.min_self _).symm) (fun j v hj => by
        have hjl : j < l.length := by
          have := (List.getElem?_eq_some_iff.1 hj).1
          rwa [bV_length] at this
        obtain ⟨b', off', he, hb', hc⟩ := hin j hjl
        obtain ⟨rfl, rfl⟩ : b = b' ∧ off = off' := by simpa using he
        rw [bV_get l j hjl] at hj
        have e1 : (Addr.mk b off none).add j = ⟨b, off + j, none⟩ := by unfold Addr.add; split <;> simp_all
        rw [e1, hc]
        exact hj) (by simp [bV_length]) (bV_one l)
    rw [bV_length] at hr
    refine ⟨_, hr, ⟨by rw [bV_length]; omega, .inr ⟨_, _, _, rfl, hB, setRow_heap _ _ _ _ _ _ hV, Nat.le_add_right _ _, hmax, ?_, ?_⟩⟩, ⟨rfl, rfl, rfl, by simp, fun k hk hne => setRow_other _ _ _ _ hne⟩⟩
    · simp [bV_length]
    · rw [Nat.mul_one]
      simp [bV_length]

set_option maxRecDepth 100000 in
theorem jput_any (a : Option Addr) (cap : Nat) (l : List UInt8) (s : ByteArray) (w : World) (hl : l.length ≤ 70368744177664) (hs : s.size ≤ 1099511627776) (hin : BIn w a l) :
    Calls Tryz.prog 24 #[.slice a l.length cap, .string s] w fun e w' => ∃ v, e = .returned v ∧ Bts 5 w' w.heap.size v (l ++ jText s.data.toList) ∧ Below w.heap.size w w' := by
  have hmf : ∀ (fn : Fn) (first cap : Array Value) (w : World), (Instr.makeFunc fn first cap).run Tryz.prog w = .ok (.func fn first cap) w := fun _ _ _ _ => rfl
  have hjb := jText_bound s hs
  have HS := Lib.hid (jsize_any s w hs)
  obtain ⟨m, hm⟩ : ∃ m, m = (jText s.data.toList).length := ⟨_, rfl⟩
  rw [← hm] at HS hjb
  have hmk := Lib.hid (fun w => make_bytes l.length m w (by omega))
  have zw : IntKind.i64.wrap ((l.length : Int) + (m : Int)) = (l.length : Int) + (m : Int) := IntWalk.i64_in _ (by omega)
  have HIN := Lib.hid hin
  have HM := Lib.hid hm
  clear hin hm
  go_enter Tryz.func24, Tryz.ntmps24
  go_wp2_with fail
  with_reducible refine HS.out.mono ?_
  rintro e w1 ⟨rfl, hb1⟩
  obtain ⟨V, hVe⟩ : ∃ V, V = (w1.alloc (.cells (Array.replicate (l.length + m) (.int .u8 0)) 5)).alloc (.cells #[.slice (some ⟨w1.heap.size, 0, none⟩) l.length (l.length + m)] 43) := ⟨_, rfl⟩
  have hbV : Below w1.heap.size w1 V := by rw [hVe]; exact ((Below.refl _ _).alloc (Nat.le_refl _) _).alloc (by simp) _
  have hV1 : V.heap[w1.heap.size]? = some (.cells (Array.replicate (l.length + m) (.int .u8 0)) 5 (0, 0)) := by
    rw [hVe]
    exact (Below.heap_alloc _ _ _ (by simp)).trans (heap_alloc_new w1 _)
  have hV2 : V.heap[w1.heap.size + 1]? = some (.cells #[.slice (some ⟨w1.heap.size, 0, none⟩) l.length (l.length + m)] 43 (0, 0)) := by
    rw [hVe]
    have := heap_alloc_new (w1.alloc (.cells (Array.replicate (l.length + m) (.int .u8 0)) 5)) (.cells #[.slice (some ⟨w1.heap.size, 0, none⟩) l.length (l.length + m)] 43)
    rw [World.size_alloc] at this
    exact this
  obtain ⟨w2, hcp0, hbt, ho2⟩ := copy_at Tryz.prog 43 5 3 Tryz.underlying43 size8 V w1.heap.size w1.heap.size a cap m l hV1 (Nat.le_refl _) ((HIN.out.below hb1).below hbV) (by unfold maxLen; omega)
  rw [hVe] at hcp0
  have hcp := Lib.hid hcp0
  have hsz1 := hb1.size
  have hst := Lib.hid (show PutSt w.heap.size w1.heap.size (w1.heap.size + 1) l w w2 [] from by
    have hltV := lt_of_block hV2
    refine ⟨⟨_, (ho2.block _ hltV (by omega)).trans hV2, by rw [List.append_nil]; exact hbt⟩, ?_, hsz1, by omega⟩
    have h1 : Below w.heap.size w V := hb1.trans (hbV.mono hsz1)
    exact h1.trans (ho2.below hsz1 h1.size))
  have HT := Lib.hid (jtell_any 50 (.inl rfl) (PutSt w.heap.size w1.heap.size (w1.heap.size + 1) l w) m (.pointer (some ⟨w1.heap.size + 1, 0, none⟩)) (fun w1 p L h hl => jput1_any _ _ _ _ _ _ p L h (by omega)) (fun _ _ _ h hb => h.below hb) s hs (by rw [← HM.out]; exact Nat.le_refl _) w2 hst.out)
  clear hcp0 hbt ho2 hV1 hV2 hbV hVe
  go_wp2_with fail
  rw [hmk.out]
  go_wp2_with fail
  rw [hcp.out]
  go_wp2_with fail
  refine HT.out.mono ?_
  rintro e w3 ⟨rfl, ⟨v, h1, h2⟩, h3, h4, h5⟩
  have c1 := cell_of_one h1
  have hv := Lib.hid (h2.base h4)
  clear h1 h2 h4 h5
  go_wp2
  go_ret
  exact ⟨_, rfl, hv.out, h3⟩
end Go.Proofs.YtnbhhnkcfbfdcaaGreatDoor
