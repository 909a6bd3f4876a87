/- Plain facts, of no program: what a head is read as, way by way; what was laid is read again. -/
import Derived.Test.YtmcklfndnjagiaaDoorChNum
import Derived.Test.YtmcklfndnjagiaaDoorVBkN
namespace Go.Proofs.YtmcklfndnjagiaaDoor
open Go Go.RowKit
set_option linter.unusedVariables false

theorem CS.bad_er {c : CS} (h : c.er = 0) {k : Int} (hk : k ≠ 0) : ¬ (c.fail k).er = 0 := by rw [CS.fail_er h]; exact hk
theorem CS.byte_end {c : CS} (h : ¬ c.byte.er = 0) : c.pB = 0 := by
  by_cases h0 : c.pB = 0
  · exact h0
  · exact absurd (CS.byte_good h0).2.1 h
theorem CS.h_end {c : CS} (h : c.pB = 0) (last : Int) : c.hTo last = c.byte ∧ c.hId last = 0 ∧ c.hKd last = 0 := by
  unfold CS.hTo CS.hId CS.hKd; rw [if_pos h, if_pos h, if_pos h]; exact ⟨rfl, rfl, rfl⟩
theorem CS.hK_no {c : CS} (hk : kB (c.pB % 16) = false) : c.hK = c.byte.fail 7 := by unfold CS.hK; rw [hk]; rfl
theorem CS.hK_yes {c : CS} (hk : kB (c.pB % 16) = true) : c.hK = c.byte := by unfold CS.hK; rw [hk]; rfl
theorem CS.h_kind {c : CS} (hp : ¬ c.pB = 0) (hk : kB (c.pB % 16) = false) (last : Int) : c.hTo last = c.byte.fail 7 ∧ c.hId last = 0 ∧ c.hKd last = 0 := by
  have e2 : ¬ c.hK.er = 0 := by rw [CS.hK_no hk]; exact CS.bad_er (CS.byte_good hp).2.1 (by decide)
  have e3 : c.hC = c.hK := by
    unfold CS.hC; split
    · rfl
    · exact (CS.vTo_bad e2).1
  have e4 : c.hTo last = c.byte.fail 7 := by unfold CS.hTo; rw [if_neg hp, e3, CS.want_bad e2, CS.hK_no hk]
  have e5 : ¬ (c.hTo last).er = 0 := by rw [e4, ← CS.hK_no hk]; exact e2
  unfold CS.hId CS.hKd; rw [if_neg hp, if_neg hp, if_neg e5, if_neg e5]; exact ⟨e4, rfl, rfl⟩
theorem CS.h_good {c d : CS} {i last : Int} (hp : ¬ c.pB = 0) (hC : c.hC = d) (hN : c.hN last = i) (h0 : d.er = 0) (hn : numB i = true) : c.hTo last = d ∧ c.hId last = i ∧ c.hKd last = c.pB % 16 := by
  have e4 : c.hTo last = d := by unfold CS.hTo; rw [if_neg hp, hC, hN, hn]; rfl
  unfold CS.hId CS.hKd; rw [if_neg hp, if_neg hp, e4, if_pos h0, if_pos h0, hN]; exact ⟨rfl, rfl, rfl⟩
theorem CS.h_range {c d : CS} {i last : Int} (hp : ¬ c.pB = 0) (hC : c.hC = d) (hN : c.hN last = i) (h0 : d.er = 0) (hn : numB i = false) : c.hTo last = d.fail 4 ∧ c.hId last = 0 ∧ c.hKd last = 0 := by
  have e4 : c.hTo last = d.fail 4 := by unfold CS.hTo; rw [if_neg hp, hC, hN, hn]; rfl
  have e5 : ¬ (d.fail 4).er = 0 := CS.bad_er h0 (by decide)
  unfold CS.hId CS.hKd; rw [if_neg hp, if_neg hp, e4, if_neg e5, if_neg e5]; exact ⟨rfl, rfl, rfl⟩
theorem CS.h_bad {c d : CS} {last : Int} (hp : ¬ c.pB = 0) (hC : c.hC = d) (h0 : ¬ d.er = 0) : c.hTo last = d ∧ c.hId last = 0 ∧ c.hKd last = 0 := by
  have e4 : c.hTo last = d := by unfold CS.hTo; rw [if_neg hp, hC, CS.want_bad h0]
  unfold CS.hId CS.hKd; rw [if_neg hp, if_neg hp, e4, if_neg h0, if_neg h0]; exact ⟨rfl, rfl, rfl⟩
theorem CS.l_kind {c : CS} (h0 : c.byte.er = 0) (hk : kB (c.pB % 16) = false) : c.lTo = c.byte.fail 7 ∧ c.lCt = 0 ∧ c.lKd = 0 := by
  have e2 : ¬ c.hK.er = 0 := by rw [CS.hK_no hk]; exact CS.bad_er h0 (by decide)
  have e3 : c.lC = c.hK := by
    unfold CS.lC; split
    · exact (CS.vTo_bad e2).1
    · rfl
  have e4 : c.lTo = c.byte.fail 7 := by unfold CS.lTo; rw [e3, CS.want_bad e2, CS.hK_no hk]
  have e5 : ¬ c.lTo.er = 0 := by rw [e4, ← CS.hK_no hk]; exact e2
  unfold CS.lCt CS.lKd; rw [if_neg e5, if_neg e5]; exact ⟨e4, rfl, rfl⟩
theorem CS.l_end {c : CS} (h0 : ¬ c.byte.er = 0) : c.lTo = c.byte ∧ c.lCt = 0 ∧ c.lKd = 0 := by
  have hp := CS.byte_end h0
  have e2 : c.hK = c.byte := CS.want_bad h0 _ _
  have e3 : c.lC = c.byte := by unfold CS.lC; rw [if_neg (by omega), e2]
  have e4 : c.lTo = c.byte := by unfold CS.lTo; rw [e3, CS.want_bad h0]
  unfold CS.lCt CS.lKd; rw [e4, if_neg h0, if_neg h0]; exact ⟨rfl, rfl, rfl⟩
theorem CS.l_short {c : CS} (h0 : c.byte.er = 0) (hk : kB (c.pB % 16) = true) (hq : c.pB < 240) : c.lTo = c.byte ∧ c.lCt = c.pB / 16 ∧ c.lKd = c.pB % 16 := by
  have e3 : c.lC = c.byte := by unfold CS.lC; rw [if_neg (by omega), CS.hK_yes hk]
  have eN : c.lN = c.pB / 16 := by unfold CS.lN; rw [if_neg (by omega)]
  have e4 : c.lTo = c.byte := by unfold CS.lTo; rw [e3, eN, decide_eq_true (by omega)]; rfl
  unfold CS.lCt CS.lKd; rw [e4, if_pos h0, if_pos h0, eN]; exact ⟨rfl, rfl, rfl⟩
theorem CS.l_long {c : CS} (hk : kB (c.pB % 16) = true) (hq : ¬ c.pB < 240) : c.lTo = c.byte.sTo ∧ c.lCt = c.byte.sN ∧ (c.byte.sTo.er = 0 → c.lKd = c.pB % 16) ∧ (¬ c.byte.sTo.er = 0 → c.lCt = 0 ∧ c.lKd = 0) := by
  have h256 := (CS.peekB_nat c).2
  have hq' : c.pB / 16 = 15 := by omega
  have e3 : c.lC = c.byte.vTo := by unfold CS.lC; rw [if_pos hq', CS.hK_yes hk]
  have eN : c.lN = c.byte.vVal := by unfold CS.lN; rw [if_pos hq', CS.hK_yes hk]
  have e4 : c.lTo = c.byte.sTo := by unfold CS.lTo; rw [e3, eN]; rfl
  unfold CS.lCt CS.lKd; rw [e4, eN]
  exact ⟨rfl, rfl, fun h => if_pos h, fun h => ⟨if_neg h, if_neg h⟩⟩
theorem CS.m_bad {c : CS} (hc : c.ok) (h : ¬ c.sTo.er = 0) : c.mTo = c.sTo ∧ c.mCt = 0 ∧ c.mKy = 0 ∧ c.mVl = 0 := by
  by_cases hz : c.vVal = 0
  · unfold CS.mTo CS.mCt CS.mKy CS.mVl
    rw [if_pos hz, if_pos hz, if_pos hz, if_pos hz]; exact ⟨rfl, rfl, rfl, rfl⟩
  · have e : c.mK = c.sTo := by unfold CS.mK; rw [(CS.byte_bad (CS.sTo_ok hc) h).1, CS.want_bad h]
    unfold CS.mTo CS.mCt CS.mKy CS.mVl
    rw [if_neg hz, if_neg hz, if_neg hz, if_neg hz, e, if_neg h, if_neg h, if_neg h]; exact ⟨rfl, rfl, rfl, rfl⟩
theorem CS.m_zero {c : CS} (hz : c.vVal = 0) : c.mTo = c.sTo ∧ c.mCt = 0 ∧ c.mKy = 0 ∧ c.mVl = 0 := by
  unfold CS.mTo CS.mCt CS.mKy CS.mVl
  rw [if_pos hz, if_pos hz, if_pos hz, if_pos hz]; exact ⟨rfl, rfl, rfl, rfl⟩
theorem CS.m_cut {c : CS} (hz : ¬ c.vVal = 0) (h : ¬ c.sTo.byte.er = 0) : c.mTo = c.sTo.byte ∧ c.mCt = 0 ∧ c.mKy = 0 ∧ c.mVl = 0 := by
  have e : c.mK = c.sTo.byte := CS.want_bad h _ _
  unfold CS.mTo CS.mCt CS.mKy CS.mVl
  rw [if_neg hz, if_neg hz, if_neg hz, if_neg hz, e, if_neg h, if_neg h, if_neg h]; exact ⟨rfl, rfl, rfl, rfl⟩
theorem CS.m_kind {c : CS} (hz : ¬ c.vVal = 0) (h : c.sTo.byte.er = 0) (hk : (kB (c.sTo.pB / 16) && kB (c.sTo.pB % 16)) = false) : c.mTo = c.sTo.byte.fail 7 ∧ c.mCt = 0 ∧ c.mKy = 0 ∧ c.mVl = 0 := by
  have e : c.mK = c.sTo.byte.fail 7 := by unfold CS.mK; rw [hk]; rfl
  have h2 : ¬ (c.sTo.byte.fail 7).er = 0 := CS.bad_er h (by decide)
  unfold CS.mTo CS.mCt CS.mKy CS.mVl
  rw [if_neg hz, if_neg hz, if_neg hz, if_neg hz, e, if_neg h2, if_neg h2, if_neg h2]; exact ⟨rfl, rfl, rfl, rfl⟩
theorem CS.m_good {c : CS} (hz : ¬ c.vVal = 0) (h : c.sTo.byte.er = 0) (hk : (kB (c.sTo.pB / 16) && kB (c.sTo.pB % 16)) = true) : c.mTo = c.sTo.byte ∧ c.mCt = c.vVal ∧ c.mKy = c.sTo.pB / 16 ∧ c.mVl = c.sTo.pB % 16 := by
  have e : c.mK = c.sTo.byte := by unfold CS.mK; rw [hk]; rfl
  unfold CS.mTo CS.mCt CS.mKy CS.mVl
  rw [if_neg hz, if_neg hz, if_neg hz, if_neg hz, e, if_pos h, if_pos h, if_pos h]; exact ⟨rfl, rfl, rfl, rfl⟩
theorem CS.sN_good {c : CS} (h : c.sTo.er = 0) : c.sN = c.vVal := if_pos h
theorem CS.sN_bad {c : CS} (h : ¬ c.sTo.er = 0) : c.sN = 0 := if_neg h

/-- A number's bytes, ahead of a cursor, are read as that number. -/
theorem CS.vread_back {c : CS} (h0 : c.er = 0) (u : Nat) (r : List UInt8) (hr : c.rest = vB u ++ r) (hu : u < 18446744073709551616) :
    c.vVal = u ∧ c.vTo = { c with at_ := c.at_ + (vB u).length } := by
  have hl := vlead_VF (vB u) r (VF_vB u)
  have h10 := vB_le10 hu
  have hg : ¬ (9 ≤ vlead c.rest ∧ 1 < ((c.rest[9]?).getD 0).toNat) := by
    rw [hr]
    rintro ⟨h1, h2⟩
    have h9 : 9 < (vB u).length := by omega
    rw [List.getElem?_append_left h9, List.getElem?_eq_getElem h9] at h2
    have := vB_tenth hu h9
    simp only [Option.getD_some] at h2
    omega
  have hc : ¬ c.rest.length ≤ vlead c.rest := by
    rw [hr, List.length_append]; omega
  have he : ¬ c.er ≠ 0 := fun h => h h0
  have hcode : c.vCode = 0 := by unfold CS.vCode; rw [if_neg he, if_neg hg, if_neg hc]
  constructor
  · unfold CS.vVal
    rw [if_pos hcode, hr, hl, List.take_left, vvL_vB]
  · unfold CS.vTo
    rw [if_neg he, if_neg hg, if_neg hc, hr, hl]
/-- The first byte of a text that is read. -/
theorem CS.first (b : UInt8) (l : List UInt8) : (CS.new (bA (b :: l))).pB = b.toNat ∧ (CS.new (bA (b :: l))).byte = ⟨bA (b :: l), 1, (bA (b :: l)).size, 0⟩ := by
  have hs : (bA (b :: l)).size = l.length + 1 := by rw [bA_size]; rfl
  have hp : (CS.new (bA (b :: l))).peekIs = true := decide_eq_true ⟨rfl, by show 0 < (bA (b :: l)).size; omega⟩
  constructor
  · unfold CS.pB CS.peekB
    rw [if_pos hp]
    show (((((bA (b :: l)).data[(CS.new (bA (b :: l))).at_]?).getD 0).toNat : Nat) : Int).toNat = b.toNat
    rfl
  · rw [CS.byte_yes hp]; rfl
theorem CS.behind (b : UInt8) (l : List UInt8) : (⟨bA (b :: l), 1, (bA (b :: l)).size, 0⟩ : CS).rest = l := by
  unfold CS.rest
  show ((bA (b :: l)).data.toList.drop 1).take ((bA (b :: l)).size - 1) = l
  rw [bA_size]
  show (((b :: l).toArray).toList.drop 1).take _ = l
  simp
theorem kB_mod {x : Nat} (h : kB x = true) (q : Nat) : (16 * q + x) / 16 = q ∧ (16 * q + x) % 16 = x ∧ ¬ 16 * q + x = 0 := by have := kB_yes h; omega
/-- A field's head is read as what was laid. -/
theorem hd_back (last id : Int) (k : Nat) (h : (numB id && kB k) = true) :
    (CS.new (bA (hdB last id k))).hTo last = ⟨bA (hdB last id k), (bA (hdB last id k)).size, (bA (hdB last id k)).size, 0⟩ ∧ (CS.new (bA (hdB last id k))).hId last = id ∧ (CS.new (bA (hdB last id k))).hKd last = k := by
  have hn : numB id = true := by rw [Bool.and_eq_true] at h; exact h.1
  have hk : kB k = true := by rw [Bool.and_eq_true] at h; exact h.2
  have hkr := kB_yes hk
  by_cases hr : nearB last id = true
  · have e : hdB last id k = [UInt8.ofNat (16 * (id - last).toNat + k)] := by unfold hdB; rw [if_pos h, if_pos hr]
    have g := nearB_yes hr
    obtain ⟨q, hq⟩ : ∃ q, q = (id - last).toNat := ⟨_, rfl⟩
    have hq2 : (q : Int) = id - last := by omega
    rw [e, ← hq]
    obtain ⟨f1, f2⟩ := CS.first (UInt8.ofNat (16 * q + k)) []
    rw [toNat_ofNat8 (by omega)] at f1
    obtain ⟨m1, m2, m3⟩ := kB_mod hk q
    have hp : ¬ (CS.new (bA [UInt8.ofNat (16 * q + k)])).pB = 0 := by rw [f1]; exact m3
    have hK : (CS.new (bA [UInt8.ofNat (16 * q + k)])).hK = (CS.new (bA [UInt8.ofNat (16 * q + k)])).byte := CS.hK_yes (by rw [f1, m2]; exact hk)
    have hC : (CS.new (bA [UInt8.ofNat (16 * q + k)])).hC = (CS.new (bA [UInt8.ofNat (16 * q + k)])).byte := by unfold CS.hC; rw [if_pos (by rw [f1, m1]; omega), hK]
    have hN : (CS.new (bA [UInt8.ofNat (16 * q + k)])).hN last = id := by unfold CS.hN; rw [if_pos (by rw [f1, m1]; omega), f1, m1]; omega
    have := CS.h_good hp hC hN (by rw [f2]) hn
    rw [f1, m2, f2] at this
    exact this
  · have e : hdB last id k = UInt8.ofNat k :: vB (zigI id).toNat := by unfold hdB; rw [if_pos h, if_neg hr]
    have hz := zigI_range hn
    obtain ⟨z, hz2⟩ : ∃ z, z = (zigI id).toNat := ⟨_, rfl⟩
    have hz3 : (z : Int) = zigI id := by omega
    rw [e, ← hz2]
    obtain ⟨f1, f2⟩ := CS.first (UInt8.ofNat k) (vB z)
    rw [toNat_ofNat8 (by omega)] at f1
    have hr2 := CS.behind (UInt8.ofNat k) (vB z)
    have hsz : (bA (UInt8.ofNat k :: vB z)).size = 1 + (vB z).length := by rw [bA_size, List.length_cons]; omega
    obtain ⟨b1, b2⟩ := CS.vread_back (c := ⟨bA (UInt8.ofNat k :: vB z), 1, (bA (UInt8.ofNat k :: vB z)).size, 0⟩) rfl z [] (by rw [hr2, List.append_nil]) (by omega)
    generalize bA (UInt8.ofNat k :: vB z) = F at *
    have hp : ¬ (CS.new F).pB = 0 := by rw [f1]; omega
    have hK : (CS.new F).hK = (CS.new F).byte := CS.hK_yes (by rw [f1, show k % 16 = k by omega]; exact hk)
    have hC : (CS.new F).hC = (CS.new F).byte.vTo := by unfold CS.hC; rw [if_neg (by rw [f1]; omega), hK]
    have hN : (CS.new F).hN last = id := by unfold CS.hN; rw [if_neg (by rw [f1]; omega), hK, f2, b1, hz3, zag_zig]
    have := CS.h_good hp hC hN (by rw [f2, b2]) hn
    rw [f1, show k % 16 = k by omega, f2, b2] at this
    refine ⟨this.1.trans ?_, this.2.1, this.2.2⟩
    simp only [hsz]
/-- A list's head is read as what was laid. -/
theorem ls_back (d k : Nat) (h : (cntB (d : Int) && kB k) = true) :
    (CS.new (bA (lsB (d : Int) k))).lTo = ⟨bA (lsB (d : Int) k), (bA (lsB (d : Int) k)).size, (bA (lsB (d : Int) k)).size, 0⟩ ∧ (CS.new (bA (lsB (d : Int) k))).lCt = d ∧ (CS.new (bA (lsB (d : Int) k))).lKd = k := by
  have hn : cntB (d : Int) = true := by rw [Bool.and_eq_true] at h; exact h.1
  have hk : kB k = true := by rw [Bool.and_eq_true] at h; exact h.2
  have hkr := kB_yes hk
  have hnr := cntB_yes hn
  by_cases hr : d < 15
  · have e : lsB (d : Int) k = [UInt8.ofNat (16 * d + k)] := by unfold lsB; rw [if_pos h, if_pos (by omega)]; rfl
    rw [e]
    obtain ⟨f1, f2⟩ := CS.first (UInt8.ofNat (16 * d + k)) []
    rw [toNat_ofNat8 (by omega)] at f1
    obtain ⟨m1, m2, m3⟩ := kB_mod hk d
    have := CS.l_short (c := CS.new (bA [UInt8.ofNat (16 * d + k)])) (by rw [f2]) (by rw [f1, m2]; exact hk) (by rw [f1]; omega)
    rw [f1, m1, m2, f2] at this
    exact this
  · have e : lsB (d : Int) k = UInt8.ofNat (240 + k) :: vB d := by unfold lsB; rw [if_pos h, if_neg (by omega)]; rfl
    rw [e]
    obtain ⟨f1, f2⟩ := CS.first (UInt8.ofNat (240 + k)) (vB d)
    rw [toNat_ofNat8 (by omega)] at f1
    have hr2 := CS.behind (UInt8.ofNat (240 + k)) (vB d)
    have hsz : (bA (UInt8.ofNat (240 + k) :: vB d)).size = 1 + (vB d).length := by rw [bA_size, List.length_cons]; omega
    obtain ⟨b1, b2⟩ := CS.vread_back (c := ⟨bA (UInt8.ofNat (240 + k) :: vB d), 1, (bA (UInt8.ofNat (240 + k) :: vB d)).size, 0⟩) rfl d [] (by rw [hr2, List.append_nil]) (by omega)
    generalize bA (UInt8.ofNat (240 + k) :: vB d) = F at *
    have hs : (CS.new F).byte.sTo = ⟨F, F.size, F.size, 0⟩ := by
      unfold CS.sTo
      rw [f2, b1, b2, decide_eq_true (by omega), CS.want_yes]
      simp only [hsz]
    obtain ⟨g1, g2, g3, _⟩ := CS.l_long (c := CS.new F) (by rw [f1, show (240 + k) % 16 = k by omega]; exact hk) (by rw [f1]; omega)
    have h0 : (CS.new F).byte.sTo.er = 0 := by rw [hs]
    refine ⟨g1.trans hs, g2.trans ?_, (g3 h0).trans (by rw [f1]; omega)⟩
    rw [CS.sN_good h0, f2, b1]
end Go.Proofs.YtmcklfndnjagiaaDoor
