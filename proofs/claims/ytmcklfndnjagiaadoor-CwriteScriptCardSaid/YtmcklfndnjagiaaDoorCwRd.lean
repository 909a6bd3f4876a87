/- The document's writer (package truchmanref23): begun (of a list): its drawn region order by order. -/
import Derived.Test.YtmcklfndnjagiaaDoorCwRc
namespace Go.Proofs.YtmcklfndnjagiaaDoor
open Go Go.RowKit
set_option linter.unusedVariables false

theorem blk_next {w w' : World} {g : Nat} {o : Obj} (h : w.heap[g]? = some o) (hb : Below w.heap.size w w') : w'.heap[g]? = some o := (hb.block g (lt_of_block h)).trans h
/-- What holds in each world of begun's region. -/
@[reducible] def BgL (w : World) (o : WO) (wx : World) : Prop := wx.cell? ⟨w.heap.size + 1, 2, none⟩ = some (.int .i64 o.n) ∧ wx.cell? ⟨w.heap.size + 1, 3, none⟩ = some (.int .u8 (o.wh : Nat)) ∧ True
theorem bgl_of {w wx : World} {o : WO} (h : OpT wx (w.heap.size + 1) o) : BgL w o wx := ⟨h.c.2.2.1, h.c.2.2.2.1, trivial⟩
set_option maxRecDepth 20000 in
set_option maxHeartbeats 8000000 in
theorem rwbegun_list (A : ByteArray) (a : Option Addr) (n cap : Nat) (er : Int) (o : WO) (l : List WP) (w : World) (h : PIn w (.slice a n cap) l) (hl : l.length ≤ 1099511627776) (h1 : o.k = 91) :
    Calls Tryd.prog 23 #[stV A (.slice a n cap) er, opV o] w fun e w' => ∃ v', e = .returned (stV A v' er) ∧ PIn w' v' (l ++ [⟨true, 0, o.n, o.wh⟩]) ∧ Below w.heap.size w w' := by
  have N0 := bdo_new w A (.slice a n cap) er o
  have p1 : ((o.k : Int) == 123) = false := beq_eq_false_iff_ne.mpr (by omega)
  have p2 : ((o.k : Int) == 91) = true := by rw [h1]; rfl
  clear h1
  unfold stV opV opC at *
  go_enter Tryd.func23, Tryd.ntmps23
  go_upto_region 1 with fail
  generalize (((w.alloc (.cells #[.string A, .slice a n cap, .int .i64 er] 29)).alloc (.cells #[.int .u8 (o.k : Nat), .int .i64 o.id, .int .i64 o.n, .int .u8 (o.wh : Nat), .int .u64 (o.bt : Nat), .string (bA o.tx)] 32)).alloc (.cells #[.string ⟨#[]⟩, .slice none 0 0, .int .i64 0] 29)) = W at *
  have a0 := N0.s.c0; have a1 := N0.s.c1; have a2 := N0.s.c2
  have o0 := N0.o.c.1
  have HP := Lib.hid (h.below N0.b)
  have HW := Lib.hid N0
  clear N0 h
  go_wp2_with fail
  refine wp_region_held_drew (S := fun wx => BgL w o wx) (by kernel_rfl) (bgl_of HW.out.drew.o) (fun hS => ?_)
  have HD := Lib.hid HW.out.drew
  have HP0 := Lib.hid HP.out.drew
  clear a0 a1 a2 o0 HW HP p1 p2
  generalize W.drew = w0 at *
  refine wpAnyH_take (i := 1) (oi := ⟨some 20, _, _, _, _, _⟩) (v := ?_) rfl (by decide +kernel) (by decide +kernel) (by decide +kernel) (fun _ _ _ h => h) (Or.inl ⟨by rfl, ?_⟩) hS ?_
  rotate_left 1
  · intro wS hSw
    obtain ⟨s0, s1, -⟩ := hSw
    go_simp
    try with_reducible rfl
  try simp only [Act.put, List.setIfInBounds_toArray, List.set_cons_zero, List.set_cons_succ]
  refine wpAnyH_take (i := 4) (oi := ⟨some 23, _, _, _, _, _⟩) (v := ?_) rfl (by decide +kernel) (by decide +kernel) (by decide +kernel) (fun _ _ _ h => h) (Or.inl ⟨by rfl, ?_⟩) hS ?_
  rotate_left 1
  · intro wS hSw
    obtain ⟨s0, s1, -⟩ := hSw
    go_simp
    try with_reducible rfl
  try simp only [Act.put, List.setIfInBounds_toArray, List.set_cons_zero, List.set_cons_succ]
  refine wpAnyH_take (i := 5) (oi := ⟨some 24, _, _, _, _, _⟩) (v := ?_) rfl (by decide +kernel) (by decide +kernel) (by decide +kernel) (fun _ _ _ h => h) (Or.inl ⟨by rfl, ?_⟩) hS ?_
  rotate_left 1
  · intro wS hSw
    obtain ⟨s0, s1, -⟩ := hSw
    go_simp
    try with_reducible rfl
  try simp only [Act.put, List.setIfInBounds_toArray, List.set_cons_zero, List.set_cons_succ]
  refine wpAnyH_take (i := 6) (oi := ⟨some 25, _, _, _, _, _⟩) (v := ?_) rfl (by decide +kernel) (by decide +kernel) (by decide +kernel) (fun _ _ _ h => h) (Or.inl ⟨by rfl, ?_⟩) hS ?_
  rotate_left 1
  · intro wS hSw
    obtain ⟨s0, s1, -⟩ := hSw
    go_simp
    try with_reducible rfl
  try simp only [Act.put, List.setIfInBounds_toArray, List.set_cons_zero, List.set_cons_succ]
  refine wpAnyH_take (i := 7) (oi := ⟨some 26, _, _, _, _, _⟩) (v := ?_) rfl (by decide +kernel) (by decide +kernel) (by decide +kernel) (fun _ _ _ h => h) (Or.inl ⟨by rfl, ?_⟩) hS ?_
  rotate_left 1
  · intro wS hSw
    obtain ⟨s0, s1, -⟩ := hSw
    go_simp
    try with_reducible rfl
  try simp only [Act.put, List.setIfInBounds_toArray, List.set_cons_zero, List.set_cons_succ]
  refine wpAnyH_take (i := 8) (oi := ⟨some 27, _, _, _, _, _⟩) (v := ?_) rfl (by decide +kernel) (by decide +kernel) (by decide +kernel) (fun _ _ _ h => h) (Or.inl ⟨by rfl, ?_⟩) hS ?_
  rotate_left 1
  · intro wS hSw
    obtain ⟨s0, s1, -⟩ := hSw
    go_simp
    try with_reducible rfl
  try simp only [Act.put, List.setIfInBounds_toArray, List.set_cons_zero, List.set_cons_succ]
  refine wpAnyH_ready (rs := [0, 2, 9]) (by decide +kernel) (by simp) ?_
  refine AllReadyH.cons (o := ⟨some 19, _, _, _, _, _⟩) rfl (fun K hK => ?_) (AllReadyH.cons (o := ⟨some 21, _, _, _, _, _⟩) rfl (fun K hK => ?_) (AllReadyH.cons (o := ⟨some 28, _, _, _, _, _⟩) rfl (fun K hK => ?_) AllReadyH.nil))
  · skip
    rw [if_pos (by rfl)]
    have hb := new_grow w0 (.cells #[] 60)
    have HD := Lib.hid (HD.out.next hb)
    have HP0 := Lib.hid (HP0.out.below hb)
    go_simp
    refine hK.out _ _ (bgl_of HD.out.o) (fun hS => ?_)
    clear hK K hb
    generalize hw : w0.alloc (.cells #[] 60) = w1 at *
    clear hw
    try simp only [Act.put, List.setIfInBounds_toArray, List.set_cons_zero, List.set_cons_succ]
    refine wpAnyH_ready (rs := [2, 9]) (by decide +kernel) (by simp) ?_
    refine AllReadyH.cons (o := ⟨some 21, _, _, _, _, _⟩) rfl (fun K hK => ?_) (AllReadyH.cons (o := ⟨some 28, _, _, _, _, _⟩) rfl (fun K hK => ?_) AllReadyH.nil)
    · skip
      have c1 := HD.out.s.c1
      rw [if_pos (by rfl)]
      go_simp
      refine hK.out _ _ (bgl_of HD.out.o) (fun hS => ?_)
      clear hK K c1
      try simp only [Act.put, List.setIfInBounds_toArray, List.set_cons_zero, List.set_cons_succ]
      refine wpAnyH_ready (rs := [3, 9]) (by decide +kernel) (by simp) ?_
      refine AllReadyH.cons (o := ⟨some 22, _, _, _, _, _⟩) rfl (fun K hK => ?_) (AllReadyH.cons (o := ⟨some 28, _, _, _, _, _⟩) rfl (fun K hK => ?_) AllReadyH.nil)
      · skip
        refine step_app_first rfl (.tmp 19) (.tmp 21) 26 rfl Tryd.underlying26 _ rfl _ l HP0.out rfl hl ?_
        intro ad5 n5 c5 w3 mN hb
        have mN := Lib.hid mN
        have mB := Lib.hid hb.size
        have mQ := Lib.hid HD.out.q.lt
        have HD := Lib.hid (HD.out.next hb)
        have HP0 := Lib.hid (HP0.out.below hb)
        refine hK.out _ _ (bgl_of HD.out.o) (fun hS => ?_)
        clear hK K hb
        try simp only [Act.put, List.setIfInBounds_toArray, List.set_cons_zero, List.set_cons_succ]
        refine wpAnyH_ready (rs := [9]) (by decide +kernel) (by simp) ?_
        refine AllReadyH.cons (o := ⟨some 28, _, _, _, _, _⟩) rfl (fun K hK => ?_) AllReadyH.nil
        rw [if_pos (by rfl)]
        have hb := new_grow w3 (.cells #[.bool true, .int .i64 0, .int .i64 o.n, .int .u8 (o.wh : Nat)] 60)
        have HD := Lib.hid (HD.out.next hb)
        have HP0 := Lib.hid (HP0.out.below hb)
        have mN := Lib.hid (PNew.next mN.out hb)
        have mB := Lib.hid (Nat.le_trans mB.out (hb).size)
        have mC := Lib.hid (heap_alloc_new w3 (.cells #[.bool true, .int .i64 0, .int .i64 o.n, .int .u8 (o.wh : Nat)] 60))
        go_simp
        refine hK.out _ _ (bgl_of HD.out.o) (fun hS => ?_)
        clear hK K hb
        generalize hw : w3.alloc (.cells #[.bool true, .int .i64 0, .int .i64 o.n, .int .u8 (o.wh : Nat)] 60) = w4 at *
        clear hw
        try simp only [Act.put, List.setIfInBounds_toArray, List.set_cons_zero, List.set_cons_succ]
        refine wpAnyH_ready (rs := [10]) (by decide +kernel) (by simp) ?_
        refine AllReadyH.cons (o := ⟨some 29, _, _, _, _, _⟩) rfl (fun K hK => ?_) AllReadyH.nil
        refine step_app_more rfl (.tmp 22) (.tmp 28) 26 rfl Tryd.underlying26 _ _ l mN.out mB.out rfl _ ⟨true, 0, o.n, o.wh⟩ mC.out rfl hl ?_
        intro ad7 n7 c7 w5 hp7 hb7
        have HD := Lib.hid (HD.out.nextB hb7 mQ.out)
        have hp7 := Lib.hid hp7
        refine hK.out _ _ (bgl_of HD.out.o) (fun hS => ?_)
        clear hK K hb7
        try simp only [Act.put, List.setIfInBounds_toArray, List.set_cons_zero, List.set_cons_succ]
        refine wpAnyH_take (i := 11) (oi := ⟨some 30, _, _, _, _, _⟩) (v := ?_) rfl (by decide +kernel) (by decide +kernel) (by decide +kernel) (fun _ _ _ h => h) (Or.inl ⟨by rfl, ?_⟩) hS ?_
        rotate_left 1
        · intro wS hSw
          obtain ⟨s0, s1, -⟩ := hSw
          go_simp
          try with_reducible rfl
        try simp only [Act.put, List.setIfInBounds_toArray, List.set_cons_zero, List.set_cons_succ]
        refine wpAnyH_ready (rs := [12]) (by decide +kernel) (by simp) ?_
        refine AllReadyH.cons (o := ⟨none, _, _, _, _, _⟩) rfl (fun K hK => ?_) AllReadyH.nil
        have sc := HD.out.s.c1; have sf := HD.out.s.fr
        have HH8 := Lib.hid (HD.out.set1 (.slice ad7 n7 c7)); have P8 := Lib.hid (hp7.out.st1 (k := 1) HD.out.s (.slice ad7 n7 c7))
        rw [if_pos (by rfl)]
        go_simp
        refine hK.out _ _ (bgl_of HH8.out.o) (fun hS => ?_)
        clear hK K sc sf
        generalize w5.setCell ⟨w.heap.size, 1, none⟩ (.slice ad7 n7 c7) = w6 at *
        try simp only [Act.put, List.setIfInBounds_toArray, List.set_cons_zero, List.set_cons_succ]
        refine wpAnyH_done (by kernel_rfl) ?_ _
        clear hS
        have x0 := HH8.out.s.c0; have x1 := HH8.out.s.c1; have x2 := HH8.out.s.c2; have q0 := HH8.out.q.c0; have q1 := HH8.out.q.c1; have q2 := HH8.out.q.c2; have qf := HH8.out.q.fr
        try simp only []
        repeat (first | go_values | go_skip | go_guarded | go_step | go_upon)
        refine bodyPost_ret (st_result Tryd.results23 (BdO.fin HH8.out _ _ _).1 rfl) rfl ?_
        exact ⟨_, rfl, P8.out.st3 HH8.out.q _ _ _, (BdO.fin HH8.out _ _ _).2⟩
      · skip
        rw [if_pos (by rfl)]
        have hb := new_grow w1 (.cells #[.bool true, .int .i64 0, .int .i64 o.n, .int .u8 (o.wh : Nat)] 60)
        have HD := Lib.hid (HD.out.next hb)
        have HP0 := Lib.hid (HP0.out.below hb)
        have mC := Lib.hid (heap_alloc_new w1 (.cells #[.bool true, .int .i64 0, .int .i64 o.n, .int .u8 (o.wh : Nat)] 60))
        go_simp
        refine hK.out _ _ (bgl_of HD.out.o) (fun hS => ?_)
        clear hK K hb
        generalize hw : w1.alloc (.cells #[.bool true, .int .i64 0, .int .i64 o.n, .int .u8 (o.wh : Nat)] 60) = w3 at *
        clear hw
        try simp only [Act.put, List.setIfInBounds_toArray, List.set_cons_zero, List.set_cons_succ]
        refine wpAnyH_ready (rs := [3]) (by decide +kernel) (by simp) ?_
        refine AllReadyH.cons (o := ⟨some 22, _, _, _, _, _⟩) rfl (fun K hK => ?_) AllReadyH.nil
        refine step_app_first rfl (.tmp 19) (.tmp 21) 26 rfl Tryd.underlying26 _ rfl _ l HP0.out rfl hl ?_
        intro ad5 n5 c5 w4 mN hb
        have mN := Lib.hid mN
        have mB := Lib.hid hb.size
        have mQ := Lib.hid HD.out.q.lt
        have HD := Lib.hid (HD.out.next hb)
        have HP0 := Lib.hid (HP0.out.below hb)
        have mC := Lib.hid (blk_next mC.out hb)
        refine hK.out _ _ (bgl_of HD.out.o) (fun hS => ?_)
        clear hK K hb
        try simp only [Act.put, List.setIfInBounds_toArray, List.set_cons_zero, List.set_cons_succ]
        refine wpAnyH_ready (rs := [10]) (by decide +kernel) (by simp) ?_
        refine AllReadyH.cons (o := ⟨some 29, _, _, _, _, _⟩) rfl (fun K hK => ?_) AllReadyH.nil
        refine step_app_more rfl (.tmp 22) (.tmp 28) 26 rfl Tryd.underlying26 _ _ l mN.out mB.out rfl _ ⟨true, 0, o.n, o.wh⟩ mC.out rfl hl ?_
        intro ad7 n7 c7 w5 hp7 hb7
        have HD := Lib.hid (HD.out.nextB hb7 mQ.out)
        have hp7 := Lib.hid hp7
        refine hK.out _ _ (bgl_of HD.out.o) (fun hS => ?_)
        clear hK K hb7
        try simp only [Act.put, List.setIfInBounds_toArray, List.set_cons_zero, List.set_cons_succ]
        refine wpAnyH_take (i := 11) (oi := ⟨some 30, _, _, _, _, _⟩) (v := ?_) rfl (by decide +kernel) (by decide +kernel) (by decide +kernel) (fun _ _ _ h => h) (Or.inl ⟨by rfl, ?_⟩) hS ?_
        rotate_left 1
        · intro wS hSw
          obtain ⟨s0, s1, -⟩ := hSw
          go_simp
          try with_reducible rfl
        try simp only [Act.put, List.setIfInBounds_toArray, List.set_cons_zero, List.set_cons_succ]
        refine wpAnyH_ready (rs := [12]) (by decide +kernel) (by simp) ?_
        refine AllReadyH.cons (o := ⟨none, _, _, _, _, _⟩) rfl (fun K hK => ?_) AllReadyH.nil
        have sc := HD.out.s.c1; have sf := HD.out.s.fr
        have HH8 := Lib.hid (HD.out.set1 (.slice ad7 n7 c7)); have P8 := Lib.hid (hp7.out.st1 (k := 1) HD.out.s (.slice ad7 n7 c7))
        rw [if_pos (by rfl)]
        go_simp
        refine hK.out _ _ (bgl_of HH8.out.o) (fun hS => ?_)
        clear hK K sc sf
        generalize w5.setCell ⟨w.heap.size, 1, none⟩ (.slice ad7 n7 c7) = w6 at *
        try simp only [Act.put, List.setIfInBounds_toArray, List.set_cons_zero, List.set_cons_succ]
        refine wpAnyH_done (by kernel_rfl) ?_ _
        clear hS
        have x0 := HH8.out.s.c0; have x1 := HH8.out.s.c1; have x2 := HH8.out.s.c2; have q0 := HH8.out.q.c0; have q1 := HH8.out.q.c1; have q2 := HH8.out.q.c2; have qf := HH8.out.q.fr
        try simp only []
        repeat (first | go_values | go_skip | go_guarded | go_step | go_upon)
        refine bodyPost_ret (st_result Tryd.results23 (BdO.fin HH8.out _ _ _).1 rfl) rfl ?_
        exact ⟨_, rfl, P8.out.st3 HH8.out.q _ _ _, (BdO.fin HH8.out _ _ _).2⟩
    · skip
      rw [if_pos (by rfl)]
      have hb := new_grow w1 (.cells #[.bool true, .int .i64 0, .int .i64 o.n, .int .u8 (o.wh : Nat)] 60)
      have HD := Lib.hid (HD.out.next hb)
      have HP0 := Lib.hid (HP0.out.below hb)
      have mC := Lib.hid (heap_alloc_new w1 (.cells #[.bool true, .int .i64 0, .int .i64 o.n, .int .u8 (o.wh : Nat)] 60))
      go_simp
      refine hK.out _ _ (bgl_of HD.out.o) (fun hS => ?_)
      clear hK K hb
      generalize hw : w1.alloc (.cells #[.bool true, .int .i64 0, .int .i64 o.n, .int .u8 (o.wh : Nat)] 60) = w2 at *
      clear hw
      try simp only [Act.put, List.setIfInBounds_toArray, List.set_cons_zero, List.set_cons_succ]
      refine wpAnyH_ready (rs := [2]) (by decide +kernel) (by simp) ?_
      refine AllReadyH.cons (o := ⟨some 21, _, _, _, _, _⟩) rfl (fun K hK => ?_) AllReadyH.nil
      have c1 := HD.out.s.c1
      rw [if_pos (by rfl)]
      go_simp
      refine hK.out _ _ (bgl_of HD.out.o) (fun hS => ?_)
      clear hK K c1
      try simp only [Act.put, List.setIfInBounds_toArray, List.set_cons_zero, List.set_cons_succ]
      refine wpAnyH_ready (rs := [3]) (by decide +kernel) (by simp) ?_
      refine AllReadyH.cons (o := ⟨some 22, _, _, _, _, _⟩) rfl (fun K hK => ?_) AllReadyH.nil
      refine step_app_first rfl (.tmp 19) (.tmp 21) 26 rfl Tryd.underlying26 _ rfl _ l HP0.out rfl hl ?_
      intro ad5 n5 c5 w4 mN hb
      have mN := Lib.hid mN
      have mB := Lib.hid hb.size
      have mQ := Lib.hid HD.out.q.lt
      have HD := Lib.hid (HD.out.next hb)
      have HP0 := Lib.hid (HP0.out.below hb)
      have mC := Lib.hid (blk_next mC.out hb)
      refine hK.out _ _ (bgl_of HD.out.o) (fun hS => ?_)
      clear hK K hb
      try simp only [Act.put, List.setIfInBounds_toArray, List.set_cons_zero, List.set_cons_succ]
      refine wpAnyH_ready (rs := [10]) (by decide +kernel) (by simp) ?_
      refine AllReadyH.cons (o := ⟨some 29, _, _, _, _, _⟩) rfl (fun K hK => ?_) AllReadyH.nil
      refine step_app_more rfl (.tmp 22) (.tmp 28) 26 rfl Tryd.underlying26 _ _ l mN.out mB.out rfl _ ⟨true, 0, o.n, o.wh⟩ mC.out rfl hl ?_
      intro ad7 n7 c7 w5 hp7 hb7
      have HD := Lib.hid (HD.out.nextB hb7 mQ.out)
      have hp7 := Lib.hid hp7
      refine hK.out _ _ (bgl_of HD.out.o) (fun hS => ?_)
      clear hK K hb7
      try simp only [Act.put, List.setIfInBounds_toArray, List.set_cons_zero, List.set_cons_succ]
      refine wpAnyH_take (i := 11) (oi := ⟨some 30, _, _, _, _, _⟩) (v := ?_) rfl (by decide +kernel) (by decide +kernel) (by decide +kernel) (fun _ _ _ h => h) (Or.inl ⟨by rfl, ?_⟩) hS ?_
      rotate_left 1
      · intro wS hSw
        obtain ⟨s0, s1, -⟩ := hSw
        go_simp
        try with_reducible rfl
      try simp only [Act.put, List.setIfInBounds_toArray, List.set_cons_zero, List.set_cons_succ]
      refine wpAnyH_ready (rs := [12]) (by decide +kernel) (by simp) ?_
      refine AllReadyH.cons (o := ⟨none, _, _, _, _, _⟩) rfl (fun K hK => ?_) AllReadyH.nil
      have sc := HD.out.s.c1; have sf := HD.out.s.fr
      have HH8 := Lib.hid (HD.out.set1 (.slice ad7 n7 c7)); have P8 := Lib.hid (hp7.out.st1 (k := 1) HD.out.s (.slice ad7 n7 c7))
      rw [if_pos (by rfl)]
      go_simp
      refine hK.out _ _ (bgl_of HH8.out.o) (fun hS => ?_)
      clear hK K sc sf
      generalize w5.setCell ⟨w.heap.size, 1, none⟩ (.slice ad7 n7 c7) = w6 at *
      try simp only [Act.put, List.setIfInBounds_toArray, List.set_cons_zero, List.set_cons_succ]
      refine wpAnyH_done (by kernel_rfl) ?_ _
      clear hS
      have x0 := HH8.out.s.c0; have x1 := HH8.out.s.c1; have x2 := HH8.out.s.c2; have q0 := HH8.out.q.c0; have q1 := HH8.out.q.c1; have q2 := HH8.out.q.c2; have qf := HH8.out.q.fr
      try simp only []
      repeat (first | go_values | go_skip | go_guarded | go_step | go_upon)
      refine bodyPost_ret (st_result Tryd.results23 (BdO.fin HH8.out _ _ _).1 rfl) rfl ?_
      exact ⟨_, rfl, P8.out.st3 HH8.out.q _ _ _, (BdO.fin HH8.out _ _ _).2⟩
  · skip
    have c1 := HD.out.s.c1
    rw [if_pos (by rfl)]
    go_simp
    refine hK.out _ _ (bgl_of HD.out.o) (fun hS => ?_)
    clear hK K c1
    try simp only [Act.put, List.setIfInBounds_toArray, List.set_cons_zero, List.set_cons_succ]
    refine wpAnyH_ready (rs := [0, 9]) (by decide +kernel) (by simp) ?_
    refine AllReadyH.cons (o := ⟨some 19, _, _, _, _, _⟩) rfl (fun K hK => ?_) (AllReadyH.cons (o := ⟨some 28, _, _, _, _, _⟩) rfl (fun K hK => ?_) AllReadyH.nil)
    · skip
      rw [if_pos (by rfl)]
      have hb := new_grow w0 (.cells #[] 60)
      have HD := Lib.hid (HD.out.next hb)
      have HP0 := Lib.hid (HP0.out.below hb)
      go_simp
      refine hK.out _ _ (bgl_of HD.out.o) (fun hS => ?_)
      clear hK K hb
      generalize hw : w0.alloc (.cells #[] 60) = w2 at *
      clear hw
      try simp only [Act.put, List.setIfInBounds_toArray, List.set_cons_zero, List.set_cons_succ]
      refine wpAnyH_ready (rs := [3, 9]) (by decide +kernel) (by simp) ?_
      refine AllReadyH.cons (o := ⟨some 22, _, _, _, _, _⟩) rfl (fun K hK => ?_) (AllReadyH.cons (o := ⟨some 28, _, _, _, _, _⟩) rfl (fun K hK => ?_) AllReadyH.nil)
      · skip
        refine step_app_first rfl (.tmp 19) (.tmp 21) 26 rfl Tryd.underlying26 _ rfl _ l HP0.out rfl hl ?_
        intro ad5 n5 c5 w3 mN hb
        have mN := Lib.hid mN
        have mB := Lib.hid hb.size
        have mQ := Lib.hid HD.out.q.lt
        have HD := Lib.hid (HD.out.next hb)
        have HP0 := Lib.hid (HP0.out.below hb)
        refine hK.out _ _ (bgl_of HD.out.o) (fun hS => ?_)
        clear hK K hb
        try simp only [Act.put, List.setIfInBounds_toArray, List.set_cons_zero, List.set_cons_succ]
        refine wpAnyH_ready (rs := [9]) (by decide +kernel) (by simp) ?_
        refine AllReadyH.cons (o := ⟨some 28, _, _, _, _, _⟩) rfl (fun K hK => ?_) AllReadyH.nil
        rw [if_pos (by rfl)]
        have hb := new_grow w3 (.cells #[.bool true, .int .i64 0, .int .i64 o.n, .int .u8 (o.wh : Nat)] 60)
        have HD := Lib.hid (HD.out.next hb)
        have HP0 := Lib.hid (HP0.out.below hb)
        have mN := Lib.hid (PNew.next mN.out hb)
        have mB := Lib.hid (Nat.le_trans mB.out (hb).size)
        have mC := Lib.hid (heap_alloc_new w3 (.cells #[.bool true, .int .i64 0, .int .i64 o.n, .int .u8 (o.wh : Nat)] 60))
        go_simp
        refine hK.out _ _ (bgl_of HD.out.o) (fun hS => ?_)
        clear hK K hb
        generalize hw : w3.alloc (.cells #[.bool true, .int .i64 0, .int .i64 o.n, .int .u8 (o.wh : Nat)] 60) = w4 at *
        clear hw
        try simp only [Act.put, List.setIfInBounds_toArray, List.set_cons_zero, List.set_cons_succ]
        refine wpAnyH_ready (rs := [10]) (by decide +kernel) (by simp) ?_
        refine AllReadyH.cons (o := ⟨some 29, _, _, _, _, _⟩) rfl (fun K hK => ?_) AllReadyH.nil
        refine step_app_more rfl (.tmp 22) (.tmp 28) 26 rfl Tryd.underlying26 _ _ l mN.out mB.out rfl _ ⟨true, 0, o.n, o.wh⟩ mC.out rfl hl ?_
        intro ad7 n7 c7 w5 hp7 hb7
        have HD := Lib.hid (HD.out.nextB hb7 mQ.out)
        have hp7 := Lib.hid hp7
        refine hK.out _ _ (bgl_of HD.out.o) (fun hS => ?_)
        clear hK K hb7
        try simp only [Act.put, List.setIfInBounds_toArray, List.set_cons_zero, List.set_cons_succ]
        refine wpAnyH_take (i := 11) (oi := ⟨some 30, _, _, _, _, _⟩) (v := ?_) rfl (by decide +kernel) (by decide +kernel) (by decide +kernel) (fun _ _ _ h => h) (Or.inl ⟨by rfl, ?_⟩) hS ?_
        rotate_left 1
        · intro wS hSw
          obtain ⟨s0, s1, -⟩ := hSw
          go_simp
          try with_reducible rfl
        try simp only [Act.put, List.setIfInBounds_toArray, List.set_cons_zero, List.set_cons_succ]
        refine wpAnyH_ready (rs := [12]) (by decide +kernel) (by simp) ?_
        refine AllReadyH.cons (o := ⟨none, _, _, _, _, _⟩) rfl (fun K hK => ?_) AllReadyH.nil
        have sc := HD.out.s.c1; have sf := HD.out.s.fr
        have HH8 := Lib.hid (HD.out.set1 (.slice ad7 n7 c7)); have P8 := Lib.hid (hp7.out.st1 (k := 1) HD.out.s (.slice ad7 n7 c7))
        rw [if_pos (by rfl)]
        go_simp
        refine hK.out _ _ (bgl_of HH8.out.o) (fun hS => ?_)
        clear hK K sc sf
        generalize w5.setCell ⟨w.heap.size, 1, none⟩ (.slice ad7 n7 c7) = w6 at *
        try simp only [Act.put, List.setIfInBounds_toArray, List.set_cons_zero, List.set_cons_succ]
        refine wpAnyH_done (by kernel_rfl) ?_ _
        clear hS
        have x0 := HH8.out.s.c0; have x1 := HH8.out.s.c1; have x2 := HH8.out.s.c2; have q0 := HH8.out.q.c0; have q1 := HH8.out.q.c1; have q2 := HH8.out.q.c2; have qf := HH8.out.q.fr
        try simp only []
        repeat (first | go_values | go_skip | go_guarded | go_step | go_upon)
        refine bodyPost_ret (st_result Tryd.results23 (BdO.fin HH8.out _ _ _).1 rfl) rfl ?_
        exact ⟨_, rfl, P8.out.st3 HH8.out.q _ _ _, (BdO.fin HH8.out _ _ _).2⟩
      · skip
        rw [if_pos (by rfl)]
        have hb := new_grow w2 (.cells #[.bool true, .int .i64 0, .int .i64 o.n, .int .u8 (o.wh : Nat)] 60)
        have HD := Lib.hid (HD.out.next hb)
        have HP0 := Lib.hid (HP0.out.below hb)
        have mC := Lib.hid (heap_alloc_new w2 (.cells #[.bool true, .int .i64 0, .int .i64 o.n, .int .u8 (o.wh : Nat)] 60))
        go_simp
        refine hK.out _ _ (bgl_of HD.out.o) (fun hS => ?_)
        clear hK K hb
        generalize hw : w2.alloc (.cells #[.bool true, .int .i64 0, .int .i64 o.n, .int .u8 (o.wh : Nat)] 60) = w3 at *
        clear hw
        try simp only [Act.put, List.setIfInBounds_toArray, List.set_cons_zero, List.set_cons_succ]
        refine wpAnyH_ready (rs := [3]) (by decide +kernel) (by simp) ?_
        refine AllReadyH.cons (o := ⟨some 22, _, _, _, _, _⟩) rfl (fun K hK => ?_) AllReadyH.nil
        refine step_app_first rfl (.tmp 19) (.tmp 21) 26 rfl Tryd.underlying26 _ rfl _ l HP0.out rfl hl ?_
        intro ad5 n5 c5 w4 mN hb
        have mN := Lib.hid mN
        have mB := Lib.hid hb.size
        have mQ := Lib.hid HD.out.q.lt
        have HD := Lib.hid (HD.out.next hb)
        have HP0 := Lib.hid (HP0.out.below hb)
        have mC := Lib.hid (blk_next mC.out hb)
        refine hK.out _ _ (bgl_of HD.out.o) (fun hS => ?_)
        clear hK K hb
        try simp only [Act.put, List.setIfInBounds_toArray, List.set_cons_zero, List.set_cons_succ]
        refine wpAnyH_ready (rs := [10]) (by decide +kernel) (by simp) ?_
        refine AllReadyH.cons (o := ⟨some 29, _, _, _, _, _⟩) rfl (fun K hK => ?_) AllReadyH.nil
        refine step_app_more rfl (.tmp 22) (.tmp 28) 26 rfl Tryd.underlying26 _ _ l mN.out mB.out rfl _ ⟨true, 0, o.n, o.wh⟩ mC.out rfl hl ?_
        intro ad7 n7 c7 w5 hp7 hb7
        have HD := Lib.hid (HD.out.nextB hb7 mQ.out)
        have hp7 := Lib.hid hp7
        refine hK.out _ _ (bgl_of HD.out.o) (fun hS => ?_)
        clear hK K hb7
        try simp only [Act.put, List.setIfInBounds_toArray, List.set_cons_zero, List.set_cons_succ]
        refine wpAnyH_take (i := 11) (oi := ⟨some 30, _, _, _, _, _⟩) (v := ?_) rfl (by decide +kernel) (by decide +kernel) (by decide +kernel) (fun _ _ _ h => h) (Or.inl ⟨by rfl, ?_⟩) hS ?_
        rotate_left 1
        · intro wS hSw
          obtain ⟨s0, s1, -⟩ := hSw
          go_simp
          try with_reducible rfl
        try simp only [Act.put, List.setIfInBounds_toArray, List.set_cons_zero, List.set_cons_succ]
        refine wpAnyH_ready (rs := [12]) (by decide +kernel) (by simp) ?_
        refine AllReadyH.cons (o := ⟨none, _, _, _, _, _⟩) rfl (fun K hK => ?_) AllReadyH.nil
        have sc := HD.out.s.c1; have sf := HD.out.s.fr
        have HH8 := Lib.hid (HD.out.set1 (.slice ad7 n7 c7)); have P8 := Lib.hid (hp7.out.st1 (k := 1) HD.out.s (.slice ad7 n7 c7))
        rw [if_pos (by rfl)]
        go_simp
        refine hK.out _ _ (bgl_of HH8.out.o) (fun hS => ?_)
        clear hK K sc sf
        generalize w5.setCell ⟨w.heap.size, 1, none⟩ (.slice ad7 n7 c7) = w6 at *
        try simp only [Act.put, List.setIfInBounds_toArray, List.set_cons_zero, List.set_cons_succ]
        refine wpAnyH_done (by kernel_rfl) ?_ _
        clear hS
        have x0 := HH8.out.s.c0; have x1 := HH8.out.s.c1; have x2 := HH8.out.s.c2; have q0 := HH8.out.q.c0; have q1 := HH8.out.q.c1; have q2 := HH8.out.q.c2; have qf := HH8.out.q.fr
        try simp only []
        repeat (first | go_values | go_skip | go_guarded | go_step | go_upon)
        refine bodyPost_ret (st_result Tryd.results23 (BdO.fin HH8.out _ _ _).1 rfl) rfl ?_
        exact ⟨_, rfl, P8.out.st3 HH8.out.q _ _ _, (BdO.fin HH8.out _ _ _).2⟩
    · skip
      rw [if_pos (by rfl)]
      have hb := new_grow w0 (.cells #[.bool true, .int .i64 0, .int .i64 o.n, .int .u8 (o.wh : Nat)] 60)
      have HD := Lib.hid (HD.out.next hb)
      have HP0 := Lib.hid (HP0.out.below hb)
      have mC := Lib.hid (heap_alloc_new w0 (.cells #[.bool true, .int .i64 0, .int .i64 o.n, .int .u8 (o.wh : Nat)] 60))
      go_simp
      refine hK.out _ _ (bgl_of HD.out.o) (fun hS => ?_)
      clear hK K hb
      generalize hw : w0.alloc (.cells #[.bool true, .int .i64 0, .int .i64 o.n, .int .u8 (o.wh : Nat)] 60) = w2 at *
      clear hw
      try simp only [Act.put, List.setIfInBounds_toArray, List.set_cons_zero, List.set_cons_succ]
      refine wpAnyH_ready (rs := [0]) (by decide +kernel) (by simp) ?_
      refine AllReadyH.cons (o := ⟨some 19, _, _, _, _, _⟩) rfl (fun K hK => ?_) AllReadyH.nil
      rw [if_pos (by rfl)]
      have hb := new_grow w2 (.cells #[] 60)
      have HD := Lib.hid (HD.out.next hb)
      have HP0 := Lib.hid (HP0.out.below hb)
      have mC := Lib.hid (blk_next mC.out hb)
      go_simp
      refine hK.out _ _ (bgl_of HD.out.o) (fun hS => ?_)
      clear hK K hb
      generalize hw : w2.alloc (.cells #[] 60) = w3 at *
      clear hw
      try simp only [Act.put, List.setIfInBounds_toArray, List.set_cons_zero, List.set_cons_succ]
      refine wpAnyH_ready (rs := [3]) (by decide +kernel) (by simp) ?_
      refine AllReadyH.cons (o := ⟨some 22, _, _, _, _, _⟩) rfl (fun K hK => ?_) AllReadyH.nil
      refine step_app_first rfl (.tmp 19) (.tmp 21) 26 rfl Tryd.underlying26 _ rfl _ l HP0.out rfl hl ?_
      intro ad5 n5 c5 w4 mN hb
      have mN := Lib.hid mN
      have mB := Lib.hid hb.size
      have mQ := Lib.hid HD.out.q.lt
      have HD := Lib.hid (HD.out.next hb)
      have HP0 := Lib.hid (HP0.out.below hb)
      have mC := Lib.hid (blk_next mC.out hb)
      refine hK.out _ _ (bgl_of HD.out.o) (fun hS => ?_)
      clear hK K hb
      try simp only [Act.put, List.setIfInBounds_toArray, List.set_cons_zero, List.set_cons_succ]
      refine wpAnyH_ready (rs := [10]) (by decide +kernel) (by simp) ?_
      refine AllReadyH.cons (o := ⟨some 29, _, _, _, _, _⟩) rfl (fun K hK => ?_) AllReadyH.nil
      refine step_app_more rfl (.tmp 22) (.tmp 28) 26 rfl Tryd.underlying26 _ _ l mN.out mB.out rfl _ ⟨true, 0, o.n, o.wh⟩ mC.out rfl hl ?_
      intro ad7 n7 c7 w5 hp7 hb7
      have HD := Lib.hid (HD.out.nextB hb7 mQ.out)
      have hp7 := Lib.hid hp7
      refine hK.out _ _ (bgl_of HD.out.o) (fun hS => ?_)
      clear hK K hb7
      try simp only [Act.put, List.setIfInBounds_toArray, List.set_cons_zero, List.set_cons_succ]
      refine wpAnyH_take (i := 11) (oi := ⟨some 30, _, _, _, _, _⟩) (v := ?_) rfl (by decide +kernel) (by decide +kernel) (by decide +kernel) (fun _ _ _ h => h) (Or.inl ⟨by rfl, ?_⟩) hS ?_
      rotate_left 1
      · intro wS hSw
        obtain ⟨s0, s1, -⟩ := hSw
        go_simp
        try with_reducible rfl
      try simp only [Act.put, List.setIfInBounds_toArray, List.set_cons_zero, List.set_cons_succ]
      refine wpAnyH_ready (rs := [12]) (by decide +kernel) (by simp) ?_
      refine AllReadyH.cons (o := ⟨none, _, _, _, _, _⟩) rfl (fun K hK => ?_) AllReadyH.nil
      have sc := HD.out.s.c1; have sf := HD.out.s.fr
      have HH8 := Lib.hid (HD.out.set1 (.slice ad7 n7 c7)); have P8 := Lib.hid (hp7.out.st1 (k := 1) HD.out.s (.slice ad7 n7 c7))
      rw [if_pos (by rfl)]
      go_simp
      refine hK.out _ _ (bgl_of HH8.out.o) (fun hS => ?_)
      clear hK K sc sf
      generalize w5.setCell ⟨w.heap.size, 1, none⟩ (.slice ad7 n7 c7) = w6 at *
      try simp only [Act.put, List.setIfInBounds_toArray, List.set_cons_zero, List.set_cons_succ]
      refine wpAnyH_done (by kernel_rfl) ?_ _
      clear hS
      have x0 := HH8.out.s.c0; have x1 := HH8.out.s.c1; have x2 := HH8.out.s.c2; have q0 := HH8.out.q.c0; have q1 := HH8.out.q.c1; have q2 := HH8.out.q.c2; have qf := HH8.out.q.fr
      try simp only []
      repeat (first | go_values | go_skip | go_guarded | go_step | go_upon)
      refine bodyPost_ret (st_result Tryd.results23 (BdO.fin HH8.out _ _ _).1 rfl) rfl ?_
      exact ⟨_, rfl, P8.out.st3 HH8.out.q _ _ _, (BdO.fin HH8.out _ _ _).2⟩
  · skip
    rw [if_pos (by rfl)]
    have hb := new_grow w0 (.cells #[.bool true, .int .i64 0, .int .i64 o.n, .int .u8 (o.wh : Nat)] 60)
    have HD := Lib.hid (HD.out.next hb)
    have HP0 := Lib.hid (HP0.out.below hb)
    have mC := Lib.hid (heap_alloc_new w0 (.cells #[.bool true, .int .i64 0, .int .i64 o.n, .int .u8 (o.wh : Nat)] 60))
    go_simp
    refine hK.out _ _ (bgl_of HD.out.o) (fun hS => ?_)
    clear hK K hb
    generalize hw : w0.alloc (.cells #[.bool true, .int .i64 0, .int .i64 o.n, .int .u8 (o.wh : Nat)] 60) = w1 at *
    clear hw
    try simp only [Act.put, List.setIfInBounds_toArray, List.set_cons_zero, List.set_cons_succ]
    refine wpAnyH_ready (rs := [0, 2]) (by decide +kernel) (by simp) ?_
    refine AllReadyH.cons (o := ⟨some 19, _, _, _, _, _⟩) rfl (fun K hK => ?_) (AllReadyH.cons (o := ⟨some 21, _, _, _, _, _⟩) rfl (fun K hK => ?_) AllReadyH.nil)
    · skip
      rw [if_pos (by rfl)]
      have hb := new_grow w1 (.cells #[] 60)
      have HD := Lib.hid (HD.out.next hb)
      have HP0 := Lib.hid (HP0.out.below hb)
      have mC := Lib.hid (blk_next mC.out hb)
      go_simp
      refine hK.out _ _ (bgl_of HD.out.o) (fun hS => ?_)
      clear hK K hb
      generalize hw : w1.alloc (.cells #[] 60) = w2 at *
      clear hw
      try simp only [Act.put, List.setIfInBounds_toArray, List.set_cons_zero, List.set_cons_succ]
      refine wpAnyH_ready (rs := [2]) (by decide +kernel) (by simp) ?_
      refine AllReadyH.cons (o := ⟨some 21, _, _, _, _, _⟩) rfl (fun K hK => ?_) AllReadyH.nil
      have c1 := HD.out.s.c1
      rw [if_pos (by rfl)]
      go_simp
      refine hK.out _ _ (bgl_of HD.out.o) (fun hS => ?_)
      clear hK K c1
      try simp only [Act.put, List.setIfInBounds_toArray, List.set_cons_zero, List.set_cons_succ]
      refine wpAnyH_ready (rs := [3]) (by decide +kernel) (by simp) ?_
      refine AllReadyH.cons (o := ⟨some 22, _, _, _, _, _⟩) rfl (fun K hK => ?_) AllReadyH.nil
      refine step_app_first rfl (.tmp 19) (.tmp 21) 26 rfl Tryd.underlying26 _ rfl _ l HP0.out rfl hl ?_
      intro ad5 n5 c5 w4 mN hb
      have mN := Lib.hid mN
      have mB := Lib.hid hb.size
      have mQ := Lib.hid HD.out.q.lt
      have HD := Lib.hid (HD.out.next hb)
      have HP0 := Lib.hid (HP0.out.below hb)
      have mC := Lib.hid (blk_next mC.out hb)
      refine hK.out _ _ (bgl_of HD.out.o) (fun hS => ?_)
      clear hK K hb
      try simp only [Act.put, List.setIfInBounds_toArray, List.set_cons_zero, List.set_cons_succ]
      refine wpAnyH_ready (rs := [10]) (by decide +kernel) (by simp) ?_
      refine AllReadyH.cons (o := ⟨some 29, _, _, _, _, _⟩) rfl (fun K hK => ?_) AllReadyH.nil
      refine step_app_more rfl (.tmp 22) (.tmp 28) 26 rfl Tryd.underlying26 _ _ l mN.out mB.out rfl _ ⟨true, 0, o.n, o.wh⟩ mC.out rfl hl ?_
      intro ad7 n7 c7 w5 hp7 hb7
      have HD := Lib.hid (HD.out.nextB hb7 mQ.out)
      have hp7 := Lib.hid hp7
      refine hK.out _ _ (bgl_of HD.out.o) (fun hS => ?_)
      clear hK K hb7
      try simp only [Act.put, List.setIfInBounds_toArray, List.set_cons_zero, List.set_cons_succ]
      refine wpAnyH_take (i := 11) (oi := ⟨some 30, _, _, _, _, _⟩) (v := ?_) rfl (by decide +kernel) (by decide +kernel) (by decide +kernel) (fun _ _ _ h => h) (Or.inl ⟨by rfl, ?_⟩) hS ?_
      rotate_left 1
      · intro wS hSw
        obtain ⟨s0, s1, -⟩ := hSw
        go_simp
        try with_reducible rfl
      try simp only [Act.put, List.setIfInBounds_toArray, List.set_cons_zero, List.set_cons_succ]
      refine wpAnyH_ready (rs := [12]) (by decide +kernel) (by simp) ?_
      refine AllReadyH.cons (o := ⟨none, _, _, _, _, _⟩) rfl (fun K hK => ?_) AllReadyH.nil
      have sc := HD.out.s.c1; have sf := HD.out.s.fr
      have HH8 := Lib.hid (HD.out.set1 (.slice ad7 n7 c7)); have P8 := Lib.hid (hp7.out.st1 (k := 1) HD.out.s (.slice ad7 n7 c7))
      rw [if_pos (by rfl)]
      go_simp
      refine hK.out _ _ (bgl_of HH8.out.o) (fun hS => ?_)
      clear hK K sc sf
      generalize w5.setCell ⟨w.heap.size, 1, none⟩ (.slice ad7 n7 c7) = w6 at *
      try simp only [Act.put, List.setIfInBounds_toArray, List.set_cons_zero, List.set_cons_succ]
      refine wpAnyH_done (by kernel_rfl) ?_ _
      clear hS
      have x0 := HH8.out.s.c0; have x1 := HH8.out.s.c1; have x2 := HH8.out.s.c2; have q0 := HH8.out.q.c0; have q1 := HH8.out.q.c1; have q2 := HH8.out.q.c2; have qf := HH8.out.q.fr
      try simp only []
      repeat (first | go_values | go_skip | go_guarded | go_step | go_upon)
      refine bodyPost_ret (st_result Tryd.results23 (BdO.fin HH8.out _ _ _).1 rfl) rfl ?_
      exact ⟨_, rfl, P8.out.st3 HH8.out.q _ _ _, (BdO.fin HH8.out _ _ _).2⟩
    · skip
      have c1 := HD.out.s.c1
      rw [if_pos (by rfl)]
      go_simp
      refine hK.out _ _ (bgl_of HD.out.o) (fun hS => ?_)
      clear hK K c1
      try simp only [Act.put, List.setIfInBounds_toArray, List.set_cons_zero, List.set_cons_succ]
      refine wpAnyH_ready (rs := [0]) (by decide +kernel) (by simp) ?_
      refine AllReadyH.cons (o := ⟨some 19, _, _, _, _, _⟩) rfl (fun K hK => ?_) AllReadyH.nil
      rw [if_pos (by rfl)]
      have hb := new_grow w1 (.cells #[] 60)
      have HD := Lib.hid (HD.out.next hb)
      have HP0 := Lib.hid (HP0.out.below hb)
      have mC := Lib.hid (blk_next mC.out hb)
      go_simp
      refine hK.out _ _ (bgl_of HD.out.o) (fun hS => ?_)
      clear hK K hb
      generalize hw : w1.alloc (.cells #[] 60) = w3 at *
      clear hw
      try simp only [Act.put, List.setIfInBounds_toArray, List.set_cons_zero, List.set_cons_succ]
      refine wpAnyH_ready (rs := [3]) (by decide +kernel) (by simp) ?_
      refine AllReadyH.cons (o := ⟨some 22, _, _, _, _, _⟩) rfl (fun K hK => ?_) AllReadyH.nil
      refine step_app_first rfl (.tmp 19) (.tmp 21) 26 rfl Tryd.underlying26 _ rfl _ l HP0.out rfl hl ?_
      intro ad5 n5 c5 w4 mN hb
      have mN := Lib.hid mN
      have mB := Lib.hid hb.size
      have mQ := Lib.hid HD.out.q.lt
      have HD := Lib.hid (HD.out.next hb)
      have HP0 := Lib.hid (HP0.out.below hb)
      have mC := Lib.hid (blk_next mC.out hb)
      refine hK.out _ _ (bgl_of HD.out.o) (fun hS => ?_)
      clear hK K hb
      try simp only [Act.put, List.setIfInBounds_toArray, List.set_cons_zero, List.set_cons_succ]
      refine wpAnyH_ready (rs := [10]) (by decide +kernel) (by simp) ?_
      refine AllReadyH.cons (o := ⟨some 29, _, _, _, _, _⟩) rfl (fun K hK => ?_) AllReadyH.nil
      refine step_app_more rfl (.tmp 22) (.tmp 28) 26 rfl Tryd.underlying26 _ _ l mN.out mB.out rfl _ ⟨true, 0, o.n, o.wh⟩ mC.out rfl hl ?_
      intro ad7 n7 c7 w5 hp7 hb7
      have HD := Lib.hid (HD.out.nextB hb7 mQ.out)
      have hp7 := Lib.hid hp7
      refine hK.out _ _ (bgl_of HD.out.o) (fun hS => ?_)
      clear hK K hb7
      try simp only [Act.put, List.setIfInBounds_toArray, List.set_cons_zero, List.set_cons_succ]
      refine wpAnyH_take (i := 11) (oi := ⟨some 30, _, _, _, _, _⟩) (v := ?_) rfl (by decide +kernel) (by decide +kernel) (by decide +kernel) (fun _ _ _ h => h) (Or.inl ⟨by rfl, ?_⟩) hS ?_
      rotate_left 1
      · intro wS hSw
        obtain ⟨s0, s1, -⟩ := hSw
        go_simp
        try with_reducible rfl
      try simp only [Act.put, List.setIfInBounds_toArray, List.set_cons_zero, List.set_cons_succ]
      refine wpAnyH_ready (rs := [12]) (by decide +kernel) (by simp) ?_
      refine AllReadyH.cons (o := ⟨none, _, _, _, _, _⟩) rfl (fun K hK => ?_) AllReadyH.nil
      have sc := HD.out.s.c1; have sf := HD.out.s.fr
      have HH8 := Lib.hid (HD.out.set1 (.slice ad7 n7 c7)); have P8 := Lib.hid (hp7.out.st1 (k := 1) HD.out.s (.slice ad7 n7 c7))
      rw [if_pos (by rfl)]
      go_simp
      refine hK.out _ _ (bgl_of HH8.out.o) (fun hS => ?_)
      clear hK K sc sf
      generalize w5.setCell ⟨w.heap.size, 1, none⟩ (.slice ad7 n7 c7) = w6 at *
      try simp only [Act.put, List.setIfInBounds_toArray, List.set_cons_zero, List.set_cons_succ]
      refine wpAnyH_done (by kernel_rfl) ?_ _
      clear hS
      have x0 := HH8.out.s.c0; have x1 := HH8.out.s.c1; have x2 := HH8.out.s.c2; have q0 := HH8.out.q.c0; have q1 := HH8.out.q.c1; have q2 := HH8.out.q.c2; have qf := HH8.out.q.fr
      try simp only []
      repeat (first | go_values | go_skip | go_guarded | go_step | go_upon)
      refine bodyPost_ret (st_result Tryd.results23 (BdO.fin HH8.out _ _ _).1 rfl) rfl ?_
      exact ⟨_, rfl, P8.out.st3 HH8.out.q _ _ _, (BdO.fin HH8.out _ _ _).2⟩
end Go.Proofs.YtmcklfndnjagiaaDoor
