/- Package pread: Put. -/
import Derived.Test.YtjpppnfkpnfhoaaPrC
namespace Go.Proofs.Ytjpppnfkpnfhoaa
open Go Go.RowKit
set_option linter.unusedVariables false

theorem bin_nil (w : World) : BIn w none [] := fun j hj => by simp at hj
theorem tput_nil (n v : Int) (w : World) :
    Calls Try.prog 53 #[.slice none 0 0, tgV n v] w fun e w' => ∃ x, e = .returned x ∧ Bts 5 w' w.heap.size x (tagL n v) ∧ Below w.heap.size w w' := tput_any none 0 [] n v w (by simp) (bin_nil w)
theorem vput_nil (u : Nat) (w : World) (hu : u < 18446744073709551616) :
    Calls Try.prog 54 #[.slice none 0 0, .int .u64 u] w fun e w' => ∃ x, e = .returned x ∧ Bts 5 w' w.heap.size x (vB u) ∧ Below w.heap.size w w' := vput_any none 0 [] u w (by simp) hu (bin_nil w)
theorem low64_nil (u : Nat) (w : World) (hu : u < 18446744073709551616) (ht : Tab w) :
    Calls Try.prog 66 #[.slice none 0 0, .int .u64 u] w fun e w' => ∃ x, e = .returned x ∧ Bts 5 w' w.heap.size x (lowL u 8) ∧ Below w.heap.size w w' := low64_any none 0 [] u w (by simp) hu (bin_nil w) ht
theorem low32_nil (u : Nat) (w : World) (hu : u < 4294967296) (ht : Tab w) :
    Calls Try.prog 67 #[.slice none 0 0, .int .u32 u] w fun e w' => ∃ x, e = .returned x ∧ Bts 5 w' w.heap.size x (lowL u 4) ∧ Below w.heap.size w w' := low32_any none 0 [] u w (by simp) hu (bin_nil w) ht
theorem lowL_mod : ∀ (n u : Nat), lowL (u % 256 ^ n) n = lowL u n
  | 0, _ => rfl
  | n + 1, u => by
    have h1 : u % 256 ^ (n + 1) % 256 = u % 256 := by rw [Nat.pow_succ, Nat.mul_comm, Nat.mod_mul_right_mod]
    have h2 : u % 256 ^ (n + 1) / 256 = u / 256 % 256 ^ n := by rw [Nat.pow_succ, Nat.mul_comm, Nat.mod_mul_right_div_self]
    show UInt8.ofNat (u % 256 ^ (n + 1) % 256) :: lowL (u % 256 ^ (n + 1) / 256) n = UInt8.ofNat (u % 256) :: lowL (u / 256) n
    rw [h1, h2, lowL_mod n]
theorem vB_ne (u : Nat) : vB u ≠ [] := by
  have := vB_pos u
  exact fun e => by rw [e] at this; simp at this
/-- What Put holds while it runs: the field, its list. -/
structure PtS (w W : World) (f g cap : Nat) (n v : Int) (u : Nat) (s : ByteArray) (l : List UInt8) : Prop where
  fld : PfT 94 W f (n, v, u, s)
  row : BtR 5 W w.heap.size g cap l
  bel : Below w.heap.size w W
  ne : f ≠ g
theorem PtS.next {w W W' : World} {f g cap : Nat} {n v : Int} {u : Nat} {s : ByteArray} {l : List UInt8} (h : PtS w W f g cap n v u s l) (hb : Below W.heap.size W W') : PtS w W' f g cap n v u s l :=
  ⟨h.fld.below hb h.fld.lt, h.row.below hb (Nat.le_refl _), grown_then h.bel hb, h.ne⟩
theorem PtS.put {w W W' : World} {f g cap : Nat} {n v : Int} {u : Nat} {s : ByteArray} {l l' : List UInt8} (h : PtS w W f g cap n v u s l) (hr : BtR 5 W' w.heap.size g cap l') (ho : Only g W W') : PtS w W' f g cap n v u s l' :=
  ⟨h.fld.only ho h.ne, hr, h.bel.trans (ho.below h.row.lt.1 h.bel.size), h.ne⟩
theorem pt_begin {w w1 w2 : World} {cap : Nat} {n v : Int} {u : Nat} {s : ByteArray} {l : List UInt8} (b1 : Below (w.alloc (.cells #[.int .i64 n, .int .i64 v, .int .u64 (u : Nat), .string s] 94)).heap.size (w.alloc (.cells #[.int .i64 n, .int .i64 v, .int .u64 (u : Nat), .string s] 94)) w1)
    (hbt : Bts 5 w2 w1.heap.size (.slice (some ⟨w1.heap.size, 0, none⟩) l.length cap) l) (b2 : Below w1.heap.size w1 w2) : PtS w w2 w.heap.size w1.heap.size cap n v u s l := by
  have F0 := fd_alloc w (n, v, u, s) 94
  have s1 := b1.size
  rw [World.size_alloc] at s1
  have F1 := F0.below b1 F0.lt
  exact ⟨F1.below b2 F1.lt, BtR.base (N := w1.heap.size) hbt (by omega), below_on (below_on (fd_grow w (n, v, u, s) 94) b1 (by simp)) b2 (by omega), by omega⟩

set_option maxRecDepth 10000 in
set_option maxHeartbeats 1000000 in
theorem put_no (a : Option Addr) (cap : Nat) (l : List UInt8) (n v : Int) (u : Nat) (s : ByteArray) (w : World) (hl : l.length ≤ 140737488351232) (hs : s.size ≤ 140737488351232) (hu : u < 18446744073709551616) (hin : BIn w a l) (h : tagB n v = false) :
    Calls Try.prog 63 #[.slice a l.length cap, .agg #[.int .i64 n, .int .i64 v, .int .u64 (u : Nat), .string s]] w fun e w' => ∃ x, e = .returned x ∧ Bts 5 w' w.heap.size x (l ++ fB n v u s) ∧ Below w.heap.size w w' := by
  have HI := Lib.hid hin
  have hZ := fB_le n v u s hu hs
  have HS := Lib.hid (fun w => fsize_any n v u s w hu hs)
  have HT := Lib.hid (fun w => tag_any n v u s w)
  have HM := Lib.hid (fun w => may_any n v w)
  rw [h] at HM
  obtain ⟨i0, hi, hz0, hz1, hz2⟩ := info_parts info8
  have HR := Lib.hid (show l ++ fB n v u s = l by unfold fB; rw [h]; simp)
  clear h hin
  obtain ⟨K, hK⟩ : ∃ K, K = (fB n v u s).length := ⟨_, rfl⟩
  rw [← hK] at HS hZ
  clear hK
  have hw : IntKind.i64.wrap ((l.length : Int) + K) = (l.length : Int) + K := IntWalk.i64_in _ (by omega)
  go_enter Try.func63, Try.ntmps63
  have c0 := (fd_alloc w (n, v, u, s) 94).c0; have c1 := (fd_alloc w (n, v, u, s) 94).c1
  have c2 := (fd_alloc w (n, v, u, s) 94).c2; have c3 := (fd_alloc w (n, v, u, s) 94).c3
  go_wp2_with fail
  with_reducible refine (HS.out _).mono ?_
  rintro e w1 ⟨rfl, b1⟩
  have hmk := Lib.hid (make_room l.length K w1 (by omega))
  obtain ⟨w2, hcp0, hbt, hb2⟩ := copy_fact Try.prog 48 5 3 i0 Try.underlying48 size8 w1 a cap K l (HI.out.below (below_on (fd_grow w (n, v, u, s) 94) b1 (by simp))) (by unfold maxLen; omega)
  have hcp := Lib.hid hcp0
  have P2 := Lib.hid (pt_begin b1 hbt hb2)
  clear b1 hcp0 hbt hb2 c0 c1 c2 c3
  go_wp2_with fail
  rw [hmk.out]
  go_wp2_with fail
  rw [hcp.out]
  have c0 := P2.out.fld.c0; have c1 := P2.out.fld.c1; have c2 := P2.out.fld.c2; have c3 := P2.out.fld.c3
  clear hmk hcp
  obtain ⟨G, hG⟩ : ∃ G, G = w1.heap.size := ⟨_, rfl⟩
  rw [← hG] at P2 ⊢
  clear hG
  go_wp2_with fail
  with_reducible refine (HT.out _).mono ?_
  rintro e w3 ⟨rfl, b3⟩
  have P3 := Lib.hid (P2.out.next b3)
  clear b3 c0 c1 c2 c3 P2
  go_wp2_with fail
  with_reducible refine (HM.out _).mono ?_
  rintro e w4 ⟨rfl, b4⟩
  have P4 := Lib.hid (P3.out.next b4)
  clear b4 P3
  have c0 := P4.out.fld.c0; have c1 := P4.out.fld.c1; have c2 := P4.out.fld.c2; have c3 := P4.out.fld.c3
  go_wp2
  go_ret
  exact ⟨_, rfl, by rw [HR.out]; exact P4.out.row.bts, P4.out.bel⟩

set_option maxRecDepth 10000 in
set_option maxHeartbeats 2000000 in
theorem put_0 (a : Option Addr) (cap : Nat) (l : List UInt8) (n : Int) (u : Nat) (s : ByteArray) (w : World) (hl : l.length ≤ 140737488351232) (hs : s.size ≤ 140737488351232) (hu : u < 18446744073709551616) (hin : BIn w a l) (h : tagB n 0 = true) :
    Calls Try.prog 63 #[.slice a l.length cap, .agg #[.int .i64 n, .int .i64 0, .int .u64 (u : Nat), .string s]] w fun e w' => ∃ x, e = .returned x ∧ Bts 5 w' w.heap.size x (l ++ fB n 0 u s) ∧ Below w.heap.size w w' := by
  have HI := Lib.hid hin
  have hZ := fB_le n 0 u s hu hs
  have HS := Lib.hid (fun w => fsize_any n 0 u s w hu hs)
  have HT := Lib.hid (fun w => tag_any n 0 u s w)
  have HM := Lib.hid (fun w => may_any n 0 w)
  rw [h] at HM
  have HP := Lib.hid (fun w => tput_nil n 0 w)
  have hTne := Lib.hid (tagL_ne h)
  have HC := Lib.hid (fun w => vput_nil u w hu)
  have hBne := Lib.hid (vB_ne u)
  obtain ⟨i0, hi, hz0, hz1, hz2⟩ := info_parts info8
  have HR := Lib.hid (show fB n 0 u s = tagL n 0 ++ vB u by unfold fB; rw [if_pos h]; rfl)
  have hK0 : (fB n 0 u s).length = (tagL n 0).length + (vB u).length := by rw [HR.out, List.length_append]
  obtain ⟨K, hK⟩ : ∃ K, K = (fB n 0 u s).length := ⟨_, rfl⟩
  rw [← hK] at HS hZ hK0
  have HK := Lib.hid hK0
  clear h hin hK hK0
  have hw : IntKind.i64.wrap ((l.length : Int) + K) = (l.length : Int) + K := IntWalk.i64_in _ (by omega)
  go_enter Try.func63, Try.ntmps63
  have c0 := (fd_alloc w (n, 0, u, s) 94).c0; have c1 := (fd_alloc w (n, 0, u, s) 94).c1
  have c2 := (fd_alloc w (n, 0, u, s) 94).c2; have c3 := (fd_alloc w (n, 0, u, s) 94).c3
  go_wp2_with fail
  with_reducible refine (HS.out _).mono ?_
  rintro e w1 ⟨rfl, b1⟩
  have hmk := Lib.hid (make_room l.length K w1 (by omega))
  obtain ⟨w2, hcp0, hbt, hb2⟩ := copy_fact Try.prog 48 5 3 i0 Try.underlying48 size8 w1 a cap K l (HI.out.below (below_on (fd_grow w (n, 0, u, s) 94) b1 (by simp))) (by unfold maxLen; omega)
  have hcp := Lib.hid hcp0
  have P2 := Lib.hid (pt_begin b1 hbt hb2)
  clear b1 hcp0 hbt hb2 c0 c1 c2 c3
  go_wp2_with fail
  rw [hmk.out]
  go_wp2_with fail
  rw [hcp.out]
  have c0 := P2.out.fld.c0; have c1 := P2.out.fld.c1; have c2 := P2.out.fld.c2; have c3 := P2.out.fld.c3
  clear hmk hcp
  obtain ⟨G, hG⟩ : ∃ G, G = w1.heap.size := ⟨_, rfl⟩
  rw [← hG] at P2 ⊢
  clear hG
  go_wp2_with fail
  with_reducible refine (HT.out _).mono ?_
  rintro e w3 ⟨rfl, b3⟩
  have P3 := Lib.hid (P2.out.next b3)
  clear b3 c0 c1 c2 c3 P2
  go_wp2_with fail
  with_reducible refine (HM.out _).mono ?_
  rintro e w4 ⟨rfl, b4⟩
  have P4 := Lib.hid (P3.out.next b4)
  clear b4 P3
  have c0 := P4.out.fld.c0; have c1 := P4.out.fld.c1; have c2 := P4.out.fld.c2; have c3 := P4.out.fld.c3
  go_wp2_with fail
  with_reducible refine (HT.out _).mono ?_
  rintro e w5 ⟨rfl, b5⟩
  have P5 := Lib.hid (P4.out.next b5)
  clear b5 c0 c1 c2 c3 P4
  go_wp2_with fail
  with_reducible refine (HP.out _).mono ?_
  rintro e w6 ⟨x6, rfl, hb6, b6⟩
  have P6 := Lib.hid (P5.out.next b6)
  have X6 := Lib.hid hb6
  clear b6 P5 hb6
  obtain ⟨l1, hl1⟩ : ∃ l1, Hid (l1 = l ++ tagL n 0) := ⟨_, Lib.hid rfl⟩
  have hn1 := Lib.hid (show l1.length = l.length + (tagL n 0).length by rw [hl1.out, List.length_append])
  go_wp2_with (at_builtin; go_loud (refine wpList_room_bytes rfl (.tmp 22) (.tmp 25) 48 rfl 5 i0 Try.underlying48 hi hz1 x6 w6 w.heap.size _ G (l.length + K) l.length l (tagL n 0) l1 hl1.out rfl P6.out.row X6.out hTne.out rfl rfl (by have := HK.out; omega) ?_; intro w7 hr7 ho7; have P7 := Lib.hid (P6.out.put hr7 ho7); clear hr7 ho7; have c0 := P7.out.fld.c0; have c1 := P7.out.fld.c1; have c2 := P7.out.fld.c2; have c3 := P7.out.fld.c3))
  clear X6 P6 c0
  with_reducible refine (HC.out w7).mono ?_
  rintro e w8 ⟨x8, rfl, hb8, b8⟩
  have P8 := Lib.hid (P7.out.next b8)
  have X8 := Lib.hid hb8
  clear b8 P7 hb8 c1 c2 c3
  obtain ⟨l2, hl2⟩ : ∃ l2, Hid (l2 = l1 ++ vB u) := ⟨_, Lib.hid rfl⟩
  go_wp2_with (at_builtin; go_loud (refine wpList_room_bytes rfl (.tmp 31) (.tmp 34) 48 rfl 5 i0 Try.underlying48 hi hz1 x8 w8 w.heap.size _ G (l.length + K) l1.length l1 (vB u) l2 hl2.out rfl P8.out.row X8.out hBne.out rfl rfl (by have := HK.out; have := hn1.out; omega) ?_; intro w9 hr9 ho9; have P9 := Lib.hid (P8.out.put hr9 ho9); clear hr9 ho9))
  go_ret
  exact ⟨_, rfl, by have := P9.out.row.bts; rw [hl2.out, hl1.out, List.append_assoc] at this; rw [HR.out]; rw [hl2.out, hl1.out, List.append_assoc]; exact this, P9.out.bel⟩

set_option maxRecDepth 10000 in
set_option maxHeartbeats 2000000 in
theorem put_1 (a : Option Addr) (cap : Nat) (l : List UInt8) (n : Int) (u : Nat) (s : ByteArray) (w : World) (hl : l.length ≤ 140737488351232) (hs : s.size ≤ 140737488351232) (hu : u < 18446744073709551616) (hin : BIn w a l) (ht : Tab w) (h : tagB n 1 = true) :
    Calls Try.prog 63 #[.slice a l.length cap, .agg #[.int .i64 n, .int .i64 1, .int .u64 (u : Nat), .string s]] w fun e w' => ∃ x, e = .returned x ∧ Bts 5 w' w.heap.size x (l ++ fB n 1 u s) ∧ Below w.heap.size w w' := by
  have HI := Lib.hid hin
  have hZ := fB_le n 1 u s hu hs
  have HS := Lib.hid (fun w => fsize_any n 1 u s w hu hs)
  have HT := Lib.hid (fun w => tag_any n 1 u s w)
  have HM := Lib.hid (fun w => may_any n 1 w)
  rw [h] at HM
  have hTb := Lib.hid (show ∀ W, Below w.heap.size w W → Tab W from fun W hb => ht.below hb ht.lt)
  clear ht
  have HP := Lib.hid (fun w => tput_nil n 1 w)
  have hTne := Lib.hid (tagL_ne h)
  have HC := Lib.hid (fun w (ht : Tab w) => low64_nil u w hu ht)
  have hBne := Lib.hid (show lowL u 8 ≠ [] from fun e => by have := lowL_length 8 u; rw [e] at this; simp at this)
  obtain ⟨i0, hi, hz0, hz1, hz2⟩ := info_parts info8
  have HR := Lib.hid (show fB n 1 u s = tagL n 1 ++ lowL u 8 by unfold fB; rw [if_pos h]; rfl)
  have hK0 : (fB n 1 u s).length = (tagL n 1).length + (lowL u 8).length := by rw [HR.out, List.length_append]
  obtain ⟨K, hK⟩ : ∃ K, K = (fB n 1 u s).length := ⟨_, rfl⟩
  rw [← hK] at HS hZ hK0
  have HK := Lib.hid hK0
  clear h hin hK hK0
  have hw : IntKind.i64.wrap ((l.length : Int) + K) = (l.length : Int) + K := IntWalk.i64_in _ (by omega)
  go_enter Try.func63, Try.ntmps63
  have c0 := (fd_alloc w (n, 1, u, s) 94).c0; have c1 := (fd_alloc w (n, 1, u, s) 94).c1
  have c2 := (fd_alloc w (n, 1, u, s) 94).c2; have c3 := (fd_alloc w (n, 1, u, s) 94).c3
  go_wp2_with fail
  with_reducible refine (HS.out _).mono ?_
  rintro e w1 ⟨rfl, b1⟩
  have hmk := Lib.hid (make_room l.length K w1 (by omega))
  obtain ⟨w2, hcp0, hbt, hb2⟩ := copy_fact Try.prog 48 5 3 i0 Try.underlying48 size8 w1 a cap K l (HI.out.below (below_on (fd_grow w (n, 1, u, s) 94) b1 (by simp))) (by unfold maxLen; omega)
  have hcp := Lib.hid hcp0
  have P2 := Lib.hid (pt_begin b1 hbt hb2)
  clear b1 hcp0 hbt hb2 c0 c1 c2 c3
  go_wp2_with fail
  rw [hmk.out]
  go_wp2_with fail
  rw [hcp.out]
  have c0 := P2.out.fld.c0; have c1 := P2.out.fld.c1; have c2 := P2.out.fld.c2; have c3 := P2.out.fld.c3
  clear hmk hcp
  obtain ⟨G, hG⟩ : ∃ G, G = w1.heap.size := ⟨_, rfl⟩
  rw [← hG] at P2 ⊢
  clear hG
  go_wp2_with fail
  with_reducible refine (HT.out _).mono ?_
  rintro e w3 ⟨rfl, b3⟩
  have P3 := Lib.hid (P2.out.next b3)
  clear b3 c0 c1 c2 c3 P2
  go_wp2_with fail
  with_reducible refine (HM.out _).mono ?_
  rintro e w4 ⟨rfl, b4⟩
  have P4 := Lib.hid (P3.out.next b4)
  clear b4 P3
  have c0 := P4.out.fld.c0; have c1 := P4.out.fld.c1; have c2 := P4.out.fld.c2; have c3 := P4.out.fld.c3
  go_wp2_with fail
  with_reducible refine (HT.out _).mono ?_
  rintro e w5 ⟨rfl, b5⟩
  have P5 := Lib.hid (P4.out.next b5)
  clear b5 c0 c1 c2 c3 P4
  go_wp2_with fail
  with_reducible refine (HP.out _).mono ?_
  rintro e w6 ⟨x6, rfl, hb6, b6⟩
  have P6 := Lib.hid (P5.out.next b6)
  have X6 := Lib.hid hb6
  clear b6 P5 hb6
  obtain ⟨l1, hl1⟩ : ∃ l1, Hid (l1 = l ++ tagL n 1) := ⟨_, Lib.hid rfl⟩
  have hn1 := Lib.hid (show l1.length = l.length + (tagL n 1).length by rw [hl1.out, List.length_append])
  go_wp2_with (at_builtin; go_loud (refine wpList_room_bytes rfl (.tmp 22) (.tmp 25) 48 rfl 5 i0 Try.underlying48 hi hz1 x6 w6 w.heap.size _ G (l.length + K) l.length l (tagL n 1) l1 hl1.out rfl P6.out.row X6.out hTne.out rfl rfl (by have := HK.out; omega) ?_; intro w7 hr7 ho7; have P7 := Lib.hid (P6.out.put hr7 ho7); clear hr7 ho7; have c0 := P7.out.fld.c0; have c1 := P7.out.fld.c1; have c2 := P7.out.fld.c2; have c3 := P7.out.fld.c3))
  clear X6 P6 c0
  with_reducible refine (HC.out w7 (hTb.out _ P7.out.bel)).mono ?_
  rintro e w8 ⟨x8, rfl, hb8, b8⟩
  have P8 := Lib.hid (P7.out.next b8)
  have X8 := Lib.hid hb8
  clear b8 P7 hb8 c1 c2 c3
  obtain ⟨l2, hl2⟩ : ∃ l2, Hid (l2 = l1 ++ lowL u 8) := ⟨_, Lib.hid rfl⟩
  go_wp2_with (at_builtin; go_loud (refine wpList_room_bytes rfl (.tmp 38) (.tmp 41) 48 rfl 5 i0 Try.underlying48 hi hz1 x8 w8 w.heap.size _ G (l.length + K) l1.length l1 (lowL u 8) l2 hl2.out rfl P8.out.row X8.out hBne.out rfl rfl (by have := HK.out; have := hn1.out; omega) ?_; intro w9 hr9 ho9; have P9 := Lib.hid (P8.out.put hr9 ho9); clear hr9 ho9))
  go_ret
  exact ⟨_, rfl, by have := P9.out.row.bts; rw [hl2.out, hl1.out, List.append_assoc] at this; rw [HR.out]; rw [hl2.out, hl1.out, List.append_assoc]; exact this, P9.out.bel⟩

set_option maxRecDepth 10000 in
set_option maxHeartbeats 2000000 in
theorem put_5 (a : Option Addr) (cap : Nat) (l : List UInt8) (n : Int) (u : Nat) (s : ByteArray) (w : World) (hl : l.length ≤ 140737488351232) (hs : s.size ≤ 140737488351232) (hu : u < 18446744073709551616) (hin : BIn w a l) (ht : Tab w) (h : tagB n 5 = true) :
    Calls Try.prog 63 #[.slice a l.length cap, .agg #[.int .i64 n, .int .i64 5, .int .u64 (u : Nat), .string s]] w fun e w' => ∃ x, e = .returned x ∧ Bts 5 w' w.heap.size x (l ++ fB n 5 u s) ∧ Below w.heap.size w w' := by
  have HI := Lib.hid hin
  have hZ := fB_le n 5 u s hu hs
  have HS := Lib.hid (fun w => fsize_any n 5 u s w hu hs)
  have HT := Lib.hid (fun w => tag_any n 5 u s w)
  have HM := Lib.hid (fun w => may_any n 5 w)
  rw [h] at HM
  have hTb := Lib.hid (show ∀ W, Below w.heap.size w W → Tab W from fun W hb => ht.below hb ht.lt)
  clear ht
  have HP := Lib.hid (fun w => tput_nil n 5 w)
  have hTne := Lib.hid (tagL_ne h)
  obtain ⟨q, hq⟩ : ∃ q, q = u % 4294967296 := ⟨_, rfl⟩
  have hqu : q < 4294967296 := by omega
  have e32 : IntKind.u32.wrap (u : Int) = (q : Int) := by rw [IntKind.wrap_u32]; omega
  have HC := Lib.hid (show ∀ w, Tab w → Calls Try.prog 67 #[.slice none 0 0, .int .u32 q] w fun e w' => ∃ x, e = .returned x ∧ Bts 5 w' w.heap.size x (lowL u 4) ∧ Below w.heap.size w w' from fun w ht => by have := low32_nil q w hqu ht; rw [hq, show (4294967296 : Nat) = 256 ^ 4 from rfl, lowL_mod 4 u] at this; rw [hq]; exact this)
  have hBne := Lib.hid (show lowL u 4 ≠ [] from fun e => by have := lowL_length 4 u; rw [e] at this; simp at this)
  clear hq
  obtain ⟨i0, hi, hz0, hz1, hz2⟩ := info_parts info8
  have HR := Lib.hid (show fB n 5 u s = tagL n 5 ++ lowL u 4 by unfold fB; rw [if_pos h]; rfl)
  have hK0 : (fB n 5 u s).length = (tagL n 5).length + (lowL u 4).length := by rw [HR.out, List.length_append]
  obtain ⟨K, hK⟩ : ∃ K, K = (fB n 5 u s).length := ⟨_, rfl⟩
  rw [← hK] at HS hZ hK0
  have HK := Lib.hid hK0
  clear h hin hK hK0
  have hw : IntKind.i64.wrap ((l.length : Int) + K) = (l.length : Int) + K := IntWalk.i64_in _ (by omega)
  go_enter Try.func63, Try.ntmps63
  have c0 := (fd_alloc w (n, 5, u, s) 94).c0; have c1 := (fd_alloc w (n, 5, u, s) 94).c1
  have c2 := (fd_alloc w (n, 5, u, s) 94).c2; have c3 := (fd_alloc w (n, 5, u, s) 94).c3
  go_wp2_with fail
  with_reducible refine (HS.out _).mono ?_
  rintro e w1 ⟨rfl, b1⟩
  have hmk := Lib.hid (make_room l.length K w1 (by omega))
  obtain ⟨w2, hcp0, hbt, hb2⟩ := copy_fact Try.prog 48 5 3 i0 Try.underlying48 size8 w1 a cap K l (HI.out.below (below_on (fd_grow w (n, 5, u, s) 94) b1 (by simp))) (by unfold maxLen; omega)
  have hcp := Lib.hid hcp0
  have P2 := Lib.hid (pt_begin b1 hbt hb2)
  clear b1 hcp0 hbt hb2 c0 c1 c2 c3
  go_wp2_with fail
  rw [hmk.out]
  go_wp2_with fail
  rw [hcp.out]
  have c0 := P2.out.fld.c0; have c1 := P2.out.fld.c1; have c2 := P2.out.fld.c2; have c3 := P2.out.fld.c3
  clear hmk hcp
  obtain ⟨G, hG⟩ : ∃ G, G = w1.heap.size := ⟨_, rfl⟩
  rw [← hG] at P2 ⊢
  clear hG
  go_wp2_with fail
  with_reducible refine (HT.out _).mono ?_
  rintro e w3 ⟨rfl, b3⟩
  have P3 := Lib.hid (P2.out.next b3)
  clear b3 c0 c1 c2 c3 P2
  go_wp2_with fail
  with_reducible refine (HM.out _).mono ?_
  rintro e w4 ⟨rfl, b4⟩
  have P4 := Lib.hid (P3.out.next b4)
  clear b4 P3
  have c0 := P4.out.fld.c0; have c1 := P4.out.fld.c1; have c2 := P4.out.fld.c2; have c3 := P4.out.fld.c3
  go_wp2_with fail
  with_reducible refine (HT.out _).mono ?_
  rintro e w5 ⟨rfl, b5⟩
  have P5 := Lib.hid (P4.out.next b5)
  clear b5 c0 c1 c2 c3 P4
  go_wp2_with fail
  with_reducible refine (HP.out _).mono ?_
  rintro e w6 ⟨x6, rfl, hb6, b6⟩
  have P6 := Lib.hid (P5.out.next b6)
  have X6 := Lib.hid hb6
  clear b6 P5 hb6
  obtain ⟨l1, hl1⟩ : ∃ l1, Hid (l1 = l ++ tagL n 5) := ⟨_, Lib.hid rfl⟩
  have hn1 := Lib.hid (show l1.length = l.length + (tagL n 5).length by rw [hl1.out, List.length_append])
  go_wp2_with (at_builtin; go_loud (refine wpList_room_bytes rfl (.tmp 22) (.tmp 25) 48 rfl 5 i0 Try.underlying48 hi hz1 x6 w6 w.heap.size _ G (l.length + K) l.length l (tagL n 5) l1 hl1.out rfl P6.out.row X6.out hTne.out rfl rfl (by have := HK.out; omega) ?_; intro w7 hr7 ho7; have P7 := Lib.hid (P6.out.put hr7 ho7); clear hr7 ho7; have c0 := P7.out.fld.c0; have c1 := P7.out.fld.c1; have c2 := P7.out.fld.c2; have c3 := P7.out.fld.c3))
  clear X6 P6 c0
  with_reducible refine (HC.out w7 (hTb.out _ P7.out.bel)).mono ?_
  rintro e w8 ⟨x8, rfl, hb8, b8⟩
  have P8 := Lib.hid (P7.out.next b8)
  have X8 := Lib.hid hb8
  clear b8 P7 hb8 c1 c2 c3
  obtain ⟨l2, hl2⟩ : ∃ l2, Hid (l2 = l1 ++ lowL u 4) := ⟨_, Lib.hid rfl⟩
  go_wp2_with (at_builtin; go_loud (refine wpList_room_bytes rfl (.tmp 45) (.tmp 49) 48 rfl 5 i0 Try.underlying48 hi hz1 x8 w8 w.heap.size _ G (l.length + K) l1.length l1 (lowL u 4) l2 hl2.out rfl P8.out.row X8.out hBne.out rfl rfl (by have := HK.out; have := hn1.out; omega) ?_; intro w9 hr9 ho9; have P9 := Lib.hid (P8.out.put hr9 ho9); clear hr9 ho9))
  go_ret
  exact ⟨_, rfl, by have := P9.out.row.bts; rw [hl2.out, hl1.out, List.append_assoc] at this; rw [HR.out]; rw [hl2.out, hl1.out, List.append_assoc]; exact this, P9.out.bel⟩

set_option maxRecDepth 10000 in
set_option maxHeartbeats 2000000 in
theorem put_2 (a : Option Addr) (cap : Nat) (l : List UInt8) (n : Int) (u : Nat) (s : ByteArray) (w : World) (hl : l.length ≤ 140737488351232) (hs : s.size ≤ 140737488351232) (hu : u < 18446744073709551616) (hin : BIn w a l) (h : tagB n 2 = true) :
    Calls Try.prog 63 #[.slice a l.length cap, .agg #[.int .i64 n, .int .i64 2, .int .u64 (u : Nat), .string s]] w fun e w' => ∃ x, e = .returned x ∧ Bts 5 w' w.heap.size x (l ++ fB n 2 u s) ∧ Below w.heap.size w w' := by
  have HI := Lib.hid hin
  have hZ := fB_le n 2 u s hu hs
  have HS := Lib.hid (fun w => fsize_any n 2 u s w hu hs)
  have HT := Lib.hid (fun w => tag_any n 2 u s w)
  have HM := Lib.hid (fun w => may_any n 2 w)
  rw [h] at HM
  have HP := Lib.hid (fun w => tput_nil n 2 w)
  have hTne := Lib.hid (tagL_ne h)
  have HC := Lib.hid (fun w => vput_nil s.size w (by omega))
  have hBne := Lib.hid (vB_ne s.size)
  have es : IntKind.u64.wrap (s.size : Int) = (s.size : Int) := IntWalk.u64_in _ (by omega)
  obtain ⟨i0, hi, hz0, hz1, hz2⟩ := info_parts info8
  have HR := Lib.hid (show fB n 2 u s = tagL n 2 ++ (vB s.size ++ s.data.toList) by unfold fB; rw [if_pos h]; rfl)
  have hK0 : (fB n 2 u s).length = (tagL n 2).length + ((vB s.size ++ s.data.toList)).length := by rw [HR.out, List.length_append]
  obtain ⟨K, hK⟩ : ∃ K, K = (fB n 2 u s).length := ⟨_, rfl⟩
  rw [← hK] at HS hZ hK0
  have HK := Lib.hid hK0
  clear h hin hK hK0
  have hw : IntKind.i64.wrap ((l.length : Int) + K) = (l.length : Int) + K := IntWalk.i64_in _ (by omega)
  go_enter Try.func63, Try.ntmps63
  have c0 := (fd_alloc w (n, 2, u, s) 94).c0; have c1 := (fd_alloc w (n, 2, u, s) 94).c1
  have c2 := (fd_alloc w (n, 2, u, s) 94).c2; have c3 := (fd_alloc w (n, 2, u, s) 94).c3
  go_wp2_with fail
  with_reducible refine (HS.out _).mono ?_
  rintro e w1 ⟨rfl, b1⟩
  have hmk := Lib.hid (make_room l.length K w1 (by omega))
  obtain ⟨w2, hcp0, hbt, hb2⟩ := copy_fact Try.prog 48 5 3 i0 Try.underlying48 size8 w1 a cap K l (HI.out.below (below_on (fd_grow w (n, 2, u, s) 94) b1 (by simp))) (by unfold maxLen; omega)
  have hcp := Lib.hid hcp0
  have P2 := Lib.hid (pt_begin b1 hbt hb2)
  clear b1 hcp0 hbt hb2 c0 c1 c2 c3
  go_wp2_with fail
  rw [hmk.out]
  go_wp2_with fail
  rw [hcp.out]
  have c0 := P2.out.fld.c0; have c1 := P2.out.fld.c1; have c2 := P2.out.fld.c2; have c3 := P2.out.fld.c3
  clear hmk hcp
  obtain ⟨G, hG⟩ : ∃ G, G = w1.heap.size := ⟨_, rfl⟩
  rw [← hG] at P2 ⊢
  clear hG
  go_wp2_with fail
  with_reducible refine (HT.out _).mono ?_
  rintro e w3 ⟨rfl, b3⟩
  have P3 := Lib.hid (P2.out.next b3)
  clear b3 c0 c1 c2 c3 P2
  go_wp2_with fail
  with_reducible refine (HM.out _).mono ?_
  rintro e w4 ⟨rfl, b4⟩
  have P4 := Lib.hid (P3.out.next b4)
  clear b4 P3
  have c0 := P4.out.fld.c0; have c1 := P4.out.fld.c1; have c2 := P4.out.fld.c2; have c3 := P4.out.fld.c3
  go_wp2_with fail
  with_reducible refine (HT.out _).mono ?_
  rintro e w5 ⟨rfl, b5⟩
  have P5 := Lib.hid (P4.out.next b5)
  clear b5 c0 c1 c2 c3 P4
  go_wp2_with fail
  with_reducible refine (HP.out _).mono ?_
  rintro e w6 ⟨x6, rfl, hb6, b6⟩
  have P6 := Lib.hid (P5.out.next b6)
  have X6 := Lib.hid hb6
  clear b6 P5 hb6
  obtain ⟨l1, hl1⟩ : ∃ l1, Hid (l1 = l ++ tagL n 2) := ⟨_, Lib.hid rfl⟩
  have hn1 := Lib.hid (show l1.length = l.length + (tagL n 2).length by rw [hl1.out, List.length_append])
  go_wp2_with (at_builtin; go_loud (refine wpList_room_bytes rfl (.tmp 22) (.tmp 25) 48 rfl 5 i0 Try.underlying48 hi hz1 x6 w6 w.heap.size _ G (l.length + K) l.length l (tagL n 2) l1 hl1.out rfl P6.out.row X6.out hTne.out rfl rfl (by have := HK.out; omega) ?_; intro w7 hr7 ho7; have P7 := Lib.hid (P6.out.put hr7 ho7); clear hr7 ho7; have c0 := P7.out.fld.c0; have c1 := P7.out.fld.c1; have c2 := P7.out.fld.c2; have c3 := P7.out.fld.c3))
  clear X6 P6 c0
  with_reducible refine (HC.out w7).mono ?_
  rintro e w8 ⟨x8, rfl, hb8, b8⟩
  have P8 := Lib.hid (P7.out.next b8)
  have X8 := Lib.hid hb8
  clear b8 P7 hb8 c1 c2 c3
  obtain ⟨l2, hl2⟩ : ∃ l2, Hid (l2 = l1 ++ vB s.size) := ⟨_, Lib.hid rfl⟩
  have hn2 := Lib.hid (show l2.length = l1.length + (vB s.size).length by rw [hl2.out, List.length_append])
  have HKs := Lib.hid (show (vB s.size ++ s.data.toList).length = (vB s.size).length + s.size by rw [List.length_append, toList_size])
  obtain ⟨l3, hl3⟩ : ∃ l3, Hid (l3 = l2 ++ s.data.toList) := ⟨_, Lib.hid rfl⟩
  go_wp2_with (first | (at_builtin; (refine wpList_room_bytes rfl (.tmp 53) (.tmp 58) 48 rfl 5 i0 Try.underlying48 hi hz1 x8 w8 w.heap.size _ G (l.length + K) l1.length l1 (vB s.size) l2 hl2.out rfl P8.out.row X8.out hBne.out rfl rfl (by have := HK.out; have := hn1.out; have := HKs.out; omega) ?_; intro w9 hr9 ho9; have P9 := Lib.hid (P8.out.put hr9 ho9); clear hr9 ho9; have c3 := P9.out.fld.c3)) | (at_builtin; go_loud (refine wpList_room_text rfl (.tmp 60) (.tmp 62) 48 9 rfl 5 i0 Try.underlying48 Try.underlying9 hi hz1 w9 w.heap.size G (l.length + K) l2.length l2 l3 s hl3.out rfl P9.out.row rfl rfl (by have := HK.out; have := hn1.out; have := hn2.out; have := HKs.out; omega) ?_; intro w10 hr10 ho10; have P10 := Lib.hid (P9.out.put hr10 ho10); clear hr10 ho10)))
  go_ret
  exact ⟨_, rfl, by have := P10.out.row.bts; rw [hl3.out, hl2.out, hl1.out, List.append_assoc, List.append_assoc] at this; rw [HR.out]; rw [hl3.out, hl2.out, hl1.out, List.append_assoc, List.append_assoc]; exact this, P10.out.bel⟩

theorem fput_any (a : Option Addr) (cap : Nat) (l : List UInt8) (n v : Int) (u : Nat) (s : ByteArray) (w : World) (hl : l.length ≤ 140737488351232) (hs : s.size ≤ 140737488351232) (hu : u < 18446744073709551616) (hin : BIn w a l) (ht : Tab w) :
    Calls Try.prog 63 #[.slice a l.length cap, .agg #[.int .i64 n, .int .i64 v, .int .u64 (u : Nat), .string s]] w fun e w' => ∃ x, e = .returned x ∧ Bts 5 w' w.heap.size x (l ++ fB n v u s) ∧ Below w.heap.size w w' := by
  rcases Bool.eq_false_or_eq_true (tagB n v) with h | h
  · rcases (tag_yes h).2.2 with hv | hv | hv | hv
    · subst hv; exact put_0 a cap l n u s w hl hs hu hin h
    · subst hv; exact put_1 a cap l n u s w hl hs hu hin ht h
    · subst hv; exact put_2 a cap l n u s w hl hs hu hin h
    · subst hv; exact put_5 a cap l n u s w hl hs hu hin ht h
  · exact put_no a cap l n v u s w hl hs hu hin h
end Go.Proofs.Ytjpppnfkpnfhoaa
