/- Package pread: a field's tag; readText. -/
import Derived.Test.YtjpppnfkpnfhoaaPrMem
import Derived.Test.YtjpppnfkpnfhoaaPtB
namespace Go.Proofs.Ytjpppnfkpnfhoaa
open Go Go.RowKit
set_option linter.unusedVariables false

theorem tag_any (n v : Int) (u : Nat) (s : ByteArray) (w : World) :
    Calls Try.prog 65 #[.agg #[.int .i64 n, .int .i64 v, .int .u64 (u : Nat), .string s]] w fun e w' => e = .returned (tgV n v) ∧ Below w.heap.size w w' := by
  obtain ⟨w1, hw1⟩ : ∃ w1, w1 = ((w.alloc (.cells #[.int .i64 n, .int .i64 v, .int .u64 (u : Nat), .string s] 94)).alloc (.cells #[.int .i64 0, .int .i64 0] 64)) := ⟨_, rfl⟩
  have F0 := (fd_alloc w (n, v, u, s) 94).alloc (.cells #[.int .i64 0, .int .i64 0] 64)
  have T0 := tg_alloc 64 (w.alloc (.cells #[.int .i64 n, .int .i64 v, .int .u64 (u : Nat), .string s] 94)) 0 0
  rw [World.size_alloc] at T0
  have B0 := Lib.hid (show Below w.heap.size w w1 by rw [hw1]; exact ((Below.refl _ w).alloc (Nat.le_refl _) _).alloc (by simp) _)
  go_enter Try.func65, Try.ntmps65
  go_upto_region 1 with fail
  rw [← hw1]
  rw [← hw1] at F0 T0
  have f0 := F0.c0; have f1 := F0.c1; have t0 := T0.c0; have t1 := T0.c1; have tf := T0.fr
  have HA := Lib.hid (T0.set n v)
  clear F0 T0 hw1
  go_wp2
  exact bodyPost_ret (tg_result Try.underlying64 rfl (by kernel_rfl) Try.results65 HA.out rfl) rfl ⟨rfl, tg_set_below B0.out (by omega)⟩


end Go.Proofs.Ytjpppnfkpnfhoaa
