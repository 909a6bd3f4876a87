/- Package pwrite: Sure, Num, SureText, Text, SureSub, Sub: what each adds. -/
import Derived.Test.YtjpppnfkpnfhoaaPwF
namespace Go.Proofs.Ytjpppnfkpnfhoaa
open Go Go.RowKit
set_option linter.unusedVariables false

/-- The field, where there is such a tag. -/
def fTag (x : FD) : List FD := if tagB x.1 x.2.1 then [x] else []
theorem fTag_len (x : FD) : (fTag x).length ≤ 1 := by unfold fTag; split <;> simp
/-- A call has added the fields Y behind those that the message at b had. -/
def AdQ (T : Prop) (w : World) (B b : Nat) (v : Value) (X : List FD) (e : Ending) (w' : World) : Prop :=
  e = .returned (.tuple #[]) ∧ ∃ v', MsgR T w' B b v' X ∧ AddK b v w w' ∧ (v'.ownBlock = v.ownBlock ∨ ∃ g, v'.ownBlock = some g ∧ w.heap.size ≤ g)
theorem AdQ.none {T : Prop} {w w' : World} {B b : Nat} {v : Value} {X : List FD} (h : MsgR T w B b v X) (hb : Below w.heap.size w w') : AdQ T w B b v X (.returned (.tuple #[])) w' :=
  ⟨rfl, v, h.below hb, AddK.of_below hb, .inl rfl⟩
/-- What is asked of a message to which something is added: it is not too great. -/
structure Rm (B : Nat) (w : World) (X Y : List FD) : Prop where
  base : B ≤ w.heap.size
  len : (pB (X ++ Y)).length ≤ 70368744177664
  many : X.length ≤ 1099511627776

theorem text_some {s : ByteArray} (h : s ≠ ⟨#[]⟩) : s.toList.isEmpty = false := by
  rw [isEmpty_of]
  refine decide_eq_false fun hh => h ?_
  have h2 : s.data.size = 0 := hh
  have h3 : s.data = #[] := Array.eq_empty_of_size_eq_zero h2
  cases s
  simpa using h3
theorem addf_any {T : Prop} {B b : Nat} {v : Value} {X : List FD} {w : World} (h : MsgR T w B b v X) (n v0 : Int) (q : Nat) (s : ByteArray) (hu : q < 18446744073709551616) (hs : s.size ≤ 1099511627776) (ht : v0 = 1 ∨ v0 = 5 → T) (hR : Rm B w X (fTag (n, v0, q, s))) :
    Calls Try.prog 24 #[.pointer (some ⟨b, 0, none⟩), .iface 56 (.agg #[.int .i64 n, .int .i64 v0, .int .u64 (q : Nat), .string s])] w fun e w' => AdQ T w B b v (X ++ fTag (n, v0, q, s)) e w' := by
  rcases Bool.eq_false_or_eq_true (tagB n v0) with hb | hb
  · have e0 : fTag (n, v0, q, s) = [(n, v0, q, s)] := by unfold fTag; rw [if_pos hb]
    rw [e0] at hR ⊢
    exact add_yes_f h 1 n v0 q s ⟨⟨hb, hu, hs, ht⟩, .inl rfl⟩ hR.base hR.len hR.many
  · have e0 : fTag (n, v0, q, s) = [] := by unfold fTag; rw [if_neg (by simp [hb])]
    rw [e0, List.append_nil]
    exact (add_no_f h n v0 q s hb).mono fun e w' hh => by rw [hh.1]; exact AdQ.none h hh.2
theorem psure_any {T : Prop} {B b : Nat} {v : Value} {X : List FD} {w : World} (h : MsgR T w B b v X) (n v0 : Int) (q : Nat) (hu : q < 18446744073709551616) (ht : v0 = 1 ∨ v0 = 5 → T) (hR : Rm B w X (fTag (n, v0, q, ⟨#[]⟩))) :
    Calls Try.prog 17 #[.pointer (some ⟨b, 0, none⟩), .int .i64 n, .int .i64 v0, .int .u64 (q : Nat)] w fun e w' => AdQ T w B b v (X ++ if v0 = 2 then [] else fTag (n, v0, q, ⟨#[]⟩)) e w' := by
  by_cases h2 : v0 = 2
  · subst h2
    rw [if_pos rfl, List.append_nil]
    have HQ := Lib.hid (AdQ.none h (Below.refl _ w))
    clear h hR
    go_enter Try.func17, Try.ntmps17
    go_wp2
    go_end0
    exact HQ.out
  · rw [if_neg h2]
    have HA := Lib.hid (addf_any h n v0 q ⟨#[]⟩ hu (by decide) ht hR)
    have p2 : (v0 != 2) = true := by simp [h2]
    clear h hR h2 ht
    go_enter Try.func17, Try.ntmps17
    go_wp2_with fail
    refine HA.out.mono ?_
    rintro e w' ⟨rfl, hq⟩
    have HQ := Lib.hid hq
    clear hq
    go_wp2
    go_end0
    exact ⟨rfl, HQ.out⟩
theorem pnum_any {T : Prop} {B b : Nat} {v : Value} {X : List FD} {w : World} (h : MsgR T w B b v X) (n v0 : Int) (q : Nat) (hu : q < 18446744073709551616) (ht : v0 = 1 ∨ v0 = 5 → T) (hR : Rm B w X (fTag (n, v0, q, ⟨#[]⟩))) :
    Calls Try.prog 15 #[.pointer (some ⟨b, 0, none⟩), .int .i64 n, .int .i64 v0, .int .u64 (q : Nat)] w fun e w' => AdQ T w B b v (X ++ if q = 0 then [] else if v0 = 2 then [] else fTag (n, v0, q, ⟨#[]⟩)) e w' := by
  by_cases h0 : q = 0
  · subst h0
    rw [if_pos rfl, List.append_nil]
    have HQ := Lib.hid (AdQ.none h (Below.refl _ w))
    clear h hR
    go_enter Try.func15, Try.ntmps15
    go_wp2
    go_end0
    exact HQ.out
  · rw [if_neg h0]
    have HA := Lib.hid (psure_any h n v0 q hu ht hR)
    have p2 : ((q : Int) != 0) = true := by simp; omega
    clear h hR h0 ht
    generalize (if v0 = 2 then [] else fTag (n, v0, q, ⟨#[]⟩)) = Y at *
    go_enter Try.func15, Try.ntmps15
    go_wp2_with fail
    refine HA.out.mono ?_
    rintro e w' ⟨rfl, hq⟩
    have HQ := Lib.hid hq
    clear hq
    go_wp2
    go_end0
    exact ⟨rfl, HQ.out⟩
theorem pstext_any {T : Prop} {B b : Nat} {v : Value} {X : List FD} {w : World} (h : MsgR T w B b v X) (n : Int) (s : ByteArray) (hs : s.size ≤ 1099511627776) (hR : Rm B w X (fTag (n, 2, 0, s))) :
    Calls Try.prog 18 #[.pointer (some ⟨b, 0, none⟩), .int .i64 n, .string s] w fun e w' => AdQ T w B b v (X ++ fTag (n, 2, 0, s)) e w' := by
  have HA := Lib.hid (addf_any h n 2 0 s (by decide) hs (fun h => by omega) hR)
  clear h hR
  go_enter Try.func18, Try.ntmps18
  go_wp2_with fail
  refine HA.out.mono ?_
  rintro e w' ⟨rfl, hq⟩
  have HQ := Lib.hid hq
  clear hq
  go_wp2
  go_end0
  exact ⟨rfl, HQ.out⟩
theorem ptext_any {T : Prop} {B b : Nat} {v : Value} {X : List FD} {w : World} (h : MsgR T w B b v X) (n : Int) (s : ByteArray) (hs : s.size ≤ 1099511627776) (hR : Rm B w X (fTag (n, 2, 0, s))) :
    Calls Try.prog 14 #[.pointer (some ⟨b, 0, none⟩), .int .i64 n, .string s] w fun e w' => AdQ T w B b v (X ++ if s = ⟨#[]⟩ then [] else fTag (n, 2, 0, s)) e w' := by
  by_cases h0 : s = ⟨#[]⟩
  · subst h0
    rw [if_pos rfl, List.append_nil]
    have HQ := Lib.hid (AdQ.none h (Below.refl _ w))
    clear h hR hs
    go_enter Try.func14, Try.ntmps14
    go_wp2
    go_end0
    exact HQ.out
  · rw [if_neg h0]
    have HA := Lib.hid (pstext_any h n s hs hR)
    have p2 : s.toList.isEmpty = false := text_some h0
    clear h hR h0
    go_enter Try.func14, Try.ntmps14
    go_wp2_with fail
    refine HA.out.mono ?_
    rintro e w' ⟨rfl, hq⟩
    have HQ := Lib.hid hq
    clear hq
    go_wp2
    go_end0
    exact ⟨rfl, HQ.out⟩
theorem ptext_nil (n : Int) (s : ByteArray) (w : World) (h0 : s ≠ ⟨#[]⟩) :
    Calls Try.prog 14 #[.pointer none, .int .i64 n, .string s] w fun e w' => e = .returned (.tuple #[]) ∧ w' = w := by
  have HA := Lib.hid (fun p w => add_nil p w)
  have HS := Lib.hid (show ∀ w, Calls Try.prog 18 #[.pointer none, .int .i64 n, .string s] w fun e w' => e = .returned (.tuple #[]) ∧ w' = w from fun w => by
    go_enter Try.func18, Try.ntmps18
    go_wp2_with fail
    refine (HA.out _ _).mono ?_
    rintro e w' ⟨rfl, rfl⟩
    go_wp2
    go_end0
    exact ⟨rfl, rfl⟩)
  have p2 : s.toList.isEmpty = false := text_some h0
  clear h0 HA
  go_enter Try.func14, Try.ntmps14
  go_wp2_with fail
  refine (HS.out _).mono ?_
  rintro e w' ⟨rfl, rfl⟩
  go_wp2
  go_end0
  exact ⟨rfl, rfl⟩
/-- A message within, as it is now. -/
theorem pssub_any {T : Prop} {B b C c : Nat} {v u : Value} {X Y : List FD} {w : World} (h : MsgR T w B b v X) (hc : MsgR T w C c u Y) (n : Int) (hY : (pB Y).length ≤ 1099511627776) (hR : Rm B w X (fTag (n, 2, 0, bA (pB Y)))) :
    Calls Try.prog 13 #[.pointer (some ⟨b, 0, none⟩), .int .i64 n, .pointer (some ⟨c, 0, none⟩)] w fun e w' => AdQ T w B b v (X ++ fTag (n, 2, 0, bA (pB Y))) e w' := by
  have HA : Hid (Calls Try.prog 24 #[.pointer (some ⟨b, 0, none⟩), .iface 55 (.agg #[.int .i64 n, u, .int .i64 ((pB Y).length : Nat)])] w fun e w' => AdQ T w B b v (X ++ fTag (n, 2, 0, bA (pB Y))) e w') := by
    rcases Bool.eq_false_or_eq_true (tagB n 2) with hb | hb
    · have e0 : fTag (n, 2, 0, bA (pB Y)) = [(n, 2, 0, bA (pB Y))] := by unfold fTag; rw [if_pos hb]
      rw [e0] at hR ⊢
      obtain ⟨k, hr⟩ := hc.row.rowOf
      have e5 : (bA (pB Y)).size = (pB Y).length := by rw [← toList_size, toList_bA]
      exact add_yes_w h (k + 1) n u (pB Y).length _ ⟨⟨hb, by show 0 < _; decide, by show (bA (pB Y)).size ≤ _; omega, fun h => by simp at h⟩, .inr ⟨u, Y, rfl, hb, rfl, rfl, rfl, hr⟩⟩ hR.base hR.len hR.many hY (by rw [pBs_two, if_pos hb, List.length_append, List.length_append]; omega) rfl rfl
    · have e0 : fTag (n, 2, 0, bA (pB Y)) = [] := by unfold fTag; rw [if_neg (by simp [hb])]
      rw [e0, List.append_nil]
      exact (add_no_w h n u (pB Y).length ⟨0, 0, 0, ⟨#[]⟩⟩ hb).mono fun e w' hh => by rw [hh.1]; exact AdQ.none h hh.2
  have c0 := hc.c0
  have c1 := hc.c1
  clear h hR hc hY
  generalize bA (pB Y) = S at *
  generalize (pB Y).length = Z at *
  go_enter Try.func13, Try.ntmps13
  go_wp2_with fail
  refine HA.out.mono ?_
  rintro e w' ⟨rfl, hq⟩
  have HQ := Lib.hid hq
  clear hq c0 c1
  go_wp2
  go_end0
  exact ⟨rfl, HQ.out⟩
theorem pssub_nil {T : Prop} {B b : Nat} {v : Value} {X : List FD} {w : World} (h : MsgR T w B b v X) (n : Int) :
    Calls Try.prog 13 #[.pointer (some ⟨b, 0, none⟩), .int .i64 n, .pointer none] w fun e w' => AdQ T w B b v X e w' := by
  have HQ := Lib.hid (AdQ.none h (Below.refl _ w))
  clear h
  go_enter Try.func13, Try.ntmps13
  go_wp2
  go_end0
  exact HQ.out
theorem psub_any {T : Prop} {B b C c : Nat} {v u : Value} {X Y : List FD} {w : World} (h : MsgR T w B b v X) (hc : MsgR T w C c u Y) (n : Int) (hY : (pB Y).length ≤ 1099511627776) (hR : Rm B w X (fTag (n, 2, 0, bA (pB Y)))) :
    Calls Try.prog 16 #[.pointer (some ⟨b, 0, none⟩), .int .i64 n, .pointer (some ⟨c, 0, none⟩)] w fun e w' => AdQ T w B b v (X ++ if pB Y = [] then [] else fTag (n, 2, 0, bA (pB Y))) e w' := by
  have HZ := Lib.hid (psize_any hc)
  by_cases h0 : pB Y = []
  · rw [if_pos h0, List.append_nil]
    rw [h0] at HZ
    have HQ := Lib.hid (AdQ.none h (Below.refl _ w))
    clear h hR hc hY h0
    go_enter Try.func16, Try.ntmps16
    go_wp2_with fail
    refine HZ.out.mono ?_
    rintro e w1 ⟨rfl, rfl⟩
    go_wp2
    go_end0
    exact HQ.out
  · rw [if_neg h0]
    have HA := Lib.hid (pssub_any h hc n hY hR)
    have hl : (pB Y).length ≠ 0 := fun e => h0 (List.eq_nil_of_length_eq_zero e)
    generalize bA (pB Y) = S at *
    generalize (pB Y).length = Z at *
    have p2 : decide (0 < Z) = true := decide_eq_true (by omega)
    have p3 : 0 < Z := by omega
    clear h hR h0 hc hl
    go_enter Try.func16, Try.ntmps16
    go_wp2_with fail
    refine HZ.out.mono ?_
    rintro e w1 ⟨rfl, rfl⟩
    go_wp2_with fail
    refine HA.out.mono ?_
    rintro e w' ⟨rfl, hq⟩
    have HQ := Lib.hid hq
    clear hq
    go_wp2
    go_end0
    exact ⟨rfl, HQ.out⟩
end Go.Proofs.Ytjpppnfkpnfhoaa
