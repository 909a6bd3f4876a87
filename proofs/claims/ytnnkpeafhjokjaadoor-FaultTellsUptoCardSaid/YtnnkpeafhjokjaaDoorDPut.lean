/- Package deci's behind, PutU, Put. -/
import Derived.Test.YtnnkpeafhjokjaaDoorDLib
import Derived.Lib.AppendStr
namespace Go.Proofs.YtnnkpeafhjokjaaDoor
open Go Go.RowKit
set_option linter.unusedVariables false

/-- 'append(list, s...)' of a text, on a list that the call itself made. -/
theorem wpList_append_text {P : Program} {ops : Array Oper} {rest : List Oper} {o : Oper} {a : Act} {Q : Exit → Act → World → Prop} (hgd : o.guard = none) (sl x : Operand) (t u : TypeId)
    (ho : o.op = .call { callee := .builtin .append, args := #[sl, x], argTypes := #[t, u] })
    (e : TypeId) (i : TypeInfo) (ht : P.underlying t = some (.slice e)) (hu : P.underlying u = some .string) (hi : P.info? e = some i) (hz : i.zero = some (.int .u8 0)) (hsize : i.size = 1) (hby : i.bytes = 1)
    (v : Value) (W w : World) (B : Nat) (l : List UInt8) (s : ByteArray) (hb : Bts e w B v l) (hbel : Below B W w) (hB : B ≤ w.heap.size) (hs : a.eval sl = v) (hx : a.eval x = .string s) (hlen : l.length + s.size ≤ 140737488355328)
    (h : ∀ v' w', Bts e w' B v' (l ++ s.data.toList) → Below B W w' → wpList P ops Q rest (a.put o.dst v') w') :
    wpList P ops Q (o :: rest) a w := by
  refine Lib.wpList_append_own_string w hgd sl x t u ho B e i ht hu hi hz hsize hby v l.length (bV l) hs hb s hx (by unfold maxLen; omega) hlen hB ?_
  intro v' w' hown hgr _
  refine h v' w' ?_ ?_
  · unfold Bts
    rw [bV_append, List.length_append, toList_size]
    exact hown
  · refine hbel.trans ⟨hgr.os, hgr.tape, hgr.output, hgr.size, fun k hk => ?_⟩
    have hne : some k ≠ v.ownBlock := fun hk' => by
      have := (World.ownsRow.lt hb k hk'.symm).2
      have := (World.ownsRow.lt hb k hk'.symm).1
      omega
    exact hgr.block k (by omega) hne

set_option maxRecDepth 20000 in
theorem dbehind (a : Option Addr) (cap : Nat) (l m : List UInt8) (w : World) (hl : l.length + m.length ≤ 140737488355000) (hin : BIn w a l) :
    Calls Tryd.prog 29 #[.slice a l.length cap, .string (bA m)] w fun e w' => ∃ v, e = .returned v ∧ Bts 5 w' w.heap.size v (l ++ m) ∧ Below w.heap.size w w' := by
  obtain ⟨i0, hi, hz0, hz1, hz2⟩ := info_parts info8
  obtain ⟨n, hn⟩ : ∃ n, n = m.length := ⟨_, rfl⟩
  have hsz : (bA m).size = n := by rw [bA_size, hn]
  have hmk := Lib.hid (fun w => make_bytes l.length n w (by omega))
  obtain ⟨w2, hcp0, hbt, hbel⟩ := copy_fact Tryd.prog 49 5 3 i0 Tryd.underlying49 size8 w a cap n l hin (by unfold maxLen; omega)
  have hcp := Lib.hid hcp0
  have hw : IntKind.i64.wrap ((l.length : Int) + (n : Int)) = (l.length : Int) + (n : Int) := IntWalk.i64_in _ (by omega)
  have hM := Lib.hid (And.intro hn hsz)
  have hbt2 := Lib.hid hbt
  have hbel2 := Lib.hid hbel
  have hdt : (bA m).data.toList = m := by simp [bA]
  have hdt2 := Lib.hid hdt
  generalize bA m = s at *
  clear hin hcp0 hn hbt hbel hdt
  go_enter Tryd.func29, Tryd.ntmps29
  go_wp2_with fail
  rw [hmk.out]
  go_wp2_with fail
  rw [hcp.out]
  go_wp2_with (at_builtin; go_loud (refine wpList_append_text rfl (.tmp 17) (.tmp 18) 49 9 rfl 5 i0 Tryd.underlying49 Tryd.underlying9 hi hz0 hz1 hz2 _ w _ w.heap.size l s hbt2.out hbel2.out hbel2.out.size rfl rfl (by rw [hM.out.2]; have := hM.out.1; omega) ?_; intro v' w' hb' hbel'))
  go_ret
  refine ⟨_, rfl, ?_, hbel'⟩
  rw [hdt2.out] at hb'
  exact hb'
set_option maxRecDepth 20000 in
theorem dput_any (a : Option Addr) (cap : Nat) (l : List UInt8) (n : Int) (w : World) (h0 : -9223372036854775808 ≤ n) (h1 : n ≤ 9223372036854775807) (hl : l.length ≤ 140737488354000) (hin : BIn w a l) (ht : P10 w) :
    Calls Tryd.prog 20 #[.slice a l.length cap, .int .i64 n] w fun e w' => ∃ v, e = .returned v ∧ Bts 5 w' w.heap.size v (l ++ Lib.itoa n) ∧ Below w.heap.size w w' := by
  have HF := Lib.hid (itoa_any n h0 h1 w ht)
  have hlen := itoa_len n h0 h1
  have HB := Lib.hid (fun w' (hb : Below w.heap.size w w') => dbehind a cap l (Lib.itoa n) w' (by omega) (hin.below hb))
  clear hin hlen
  go_enter Tryd.func20, Tryd.ntmps20
  go_wp2_with (first
    | (go_at_call 30; refine HF.out.mono ?_; rintro e w1 ⟨rfl, hb1⟩)
    | (go_at_call 29; refine (HB.out _ hb1).mono ?_; rintro e w2 ⟨v, rfl, hv, hb2⟩))
  go_ret
  exact ⟨_, rfl, hv.base hb1.size, below_on hb1 hb2 hb1.size⟩
end Go.Proofs.YtnnkpeafhjokjaaDoor
