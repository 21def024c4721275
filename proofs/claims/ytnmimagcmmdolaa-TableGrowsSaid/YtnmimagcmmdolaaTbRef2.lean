/-
  CONTRACTS OF the reference's Find AND Fits.
-/
import Derived.Test.YtnmimagcmmdolaaTbRef
namespace Go.Proofs.Ytnmimagcmmdolaa
open Go.RowKit
set_option linter.unusedVariables false
set_option linter.unusedSimpArgs false

theorem below_drewN {B : Nat} {w W : World} (h : Below B w W) (k : Nat) : Below B w (W.drewN k) := ⟨h.os, h.tape, h.output, h.size, h.block⟩
def findI' (R : List EntN) (r : RowN) : Int := match numF R r with
  | some n => (n : Int)
  | none => -1
section
variable {W U w : World} {Q : Nat → Prop} {wb : Nat} {R : List EntN} {ra ba : Option Addr} {rc bc : Nat}
theorem numF_first {R : List EntN} {r : RowN} {k : Nat} {x : EntN} (hx : R[k]? = some x) (he : x.1 = r) (hno : ∀ (j : Nat) (y : EntN), R[j]? = some y → j < k → y.1 ≠ r) : numF R r = some k := by
  have hm : r ∈ R.map (·.1) := List.mem_map.2 ⟨x, List.mem_of_getElem? hx, he⟩
  cases hn : numF R r with
  | none => exact absurd hm (numF_none hn)
  | some n =>
    obtain ⟨b, hb⟩ := numF_some hn
    by_cases h : n = k
    · rw [h]
    · by_cases h2 : n < k
      · exact absurd rfl (hno n _ hb h2)
      · unfold numF at hn
        rw [if_pos hm] at hn
        injection hn with hn
        have : (R.map (·.1)).idxOf r ≤ k := by
          have hk : (R.map (·.1))[k]? = some r := by rw [List.getElem?_map, hx, ← he]; rfl
          obtain ⟨hlt, hg⟩ := List.getElem?_eq_some_iff.1 hk
          have h3 : r ∈ (R.map (·.1)).take (k + 1) := List.mem_of_getElem? (i := k) (by rw [List.getElem?_take_of_lt (Nat.lt_succ_self k)]; exact hk)
          have h4 := List.idxOf_lt_length_iff.2 h3
          have h5 : (R.map (·.1)).idxOf r = ((R.map (·.1)).take (k + 1)).idxOf r := by
            conv => lhs; rw [← List.take_append_drop (k + 1) (R.map (·.1))]
            rw [List.idxOf_append, if_pos h3]
          rw [List.length_take] at h4
          omega
        omega
theorem numF_no {R : List EntN} {r : RowN} (hno : ∀ (j : Nat) (y : EntN), R[j]? = some y → y.1 ≠ r) : numF R r = none := by
  unfold numF
  rw [if_neg]
  intro hm
  obtain ⟨x, hx, he⟩ := List.mem_map.1 hm
  obtain ⟨j, hj⟩ := List.getElem?_of_mem hx
  exact hno j x hj he
set_option maxRecDepth 100000 in
set_option maxHeartbeats 4000000 in
theorem RefI.find (h : RefI w Q wb R) (r : RowN) (hR : R.length ≤ 1000000000) : Calls Try.prog 24 #[refP wb, rowV r] w fun e w' => e = .returned (.int .i64 (findI' R r)) ∧ Below w.heap.size w w' := by
  obtain ⟨ra, rc, ba, bc, h⟩ := h
  obtain ⟨n0, hn0⟩ : ∃ n0, n0 = w.heap.size := ⟨_, rfl⟩
  have hc0 := heap_alloc_new w (.cells (rowC r) 34)
  have hb0 := (Below.refl w.heap.size w).alloc (Nat.le_refl _) (.cells (rowC r) 34)
  have hs0 : (w.alloc (.cells (rowC r) 34)).heap.size = w.heap.size + 1 := World.size_alloc _ _
  obtain ⟨W0, hW0⟩ : ∃ W0, W0 = w.alloc (.cells (rowC r) 34) := ⟨_, rfl⟩
  rw [← hW0] at hc0 hb0 hs0
  rw [← hn0] at hc0
  have h0 := h.below hb0
  have HC : Hid (∀ U, Below W0.heap.size W0 U → U.cell? ⟨n0, 0, none⟩ = some (.int .u32 (r.1 : Int)) ∧ U.cell? ⟨n0, 1, none⟩ = some (.int .u32 (r.2.1 : Int)) ∧ U.cell? ⟨n0, 2, none⟩ = some (.int .u32 (r.2.2 : Int)) ∧ U.cell? ⟨wb, 0, none⟩ = some (.slice ra R.length rc) ∧ Below w.heap.size w U) :=
    Lib.hid (fun U hU => ⟨(hU.cell (p := ⟨n0, 0, none⟩) (by show n0 < _; rw [hs0]; omega)).trans (cell_in hc0 rfl), (hU.cell (p := ⟨n0, 1, none⟩) (by show n0 < _; rw [hs0]; omega)).trans (cell_in hc0 rfl), (hU.cell (p := ⟨n0, 2, none⟩) (by show n0 < _; rw [hs0]; omega)).trans (cell_in hc0 rfl), cell_in (h0.below hU).blk rfl, hb0.trans (hU.mono (by rw [hs0]; omega))⟩)
  have HRow : Hid (∀ U, Below W0.heap.size W0 U → ∀ (k : Nat) (x : EntN), R[k]? = some x → ∃ g o, ra = some ⟨g, o, none⟩ ∧ U.cell? ⟨g, o + k * 3, none⟩ = some (.int .u32 (x.1.1 : Int)) ∧ U.cell? ⟨g, o + k * 3 + 1, none⟩ = some (.int .u32 (x.1.2.1 : Int)) ∧ U.cell? ⟨g, o + k * 3 + 2, none⟩ = some (.int .u32 (x.1.2.2 : Int))) :=
    Lib.hid (fun U hU k x hx => by
      obtain ⟨g, o, g2, o2, e1, _, hc, _⟩ := (h0.below hU).at_ (by have := (List.getElem?_eq_some_iff.1 hx).1; omega)
      obtain ⟨a, b, c, _⟩ := hc k x hx
      exact ⟨g, o, e1, a, b, c⟩)
  have HW0 := Lib.hid hW0
  have HN0 := Lib.hid hn0
  have heq := row_eql
  obtain ⟨v, hv⟩ : ∃ v, v = findI' R r := ⟨_, rfl⟩
  rw [← hv]
  have HV := Lib.hid hv
  clear h h0 hc0 hb0 hs0 hW0 hn0 hv
  go_enter Try.func24, Try.ntmps24
  go_upto_region 1 with fail
  rw [← HW0.out, ← HN0.out]
  go_wp2
  go_loopg [5] R.length (fun g i wr => ∃ k : Nat, k ≤ R.length ∧ R.length - k ≤ g ∧ i = .int .i64 (k : Int) ∧ Below W0.heap.size W0 wr ∧ Hid (∀ (j : Nat) (y : EntN), R[j]? = some y → j < k → y.1 ≠ r))
  case atStart => exact ⟨0, Nat.zero_le _, by omega, rfl, Below.refl _ _, Lib.hid (fun j y _ h => by omega)⟩
  case round =>
    obtain ⟨k, hk, hg, rfl, hbr, hno⟩ := hrel
    obtain ⟨y0, y1, y2, p0, hbw⟩ := HC.out _ hbr
    by_cases hlt : k < R.length
    · obtain ⟨x, hx⟩ : ∃ x, R[k]? = some x := ⟨_, List.getElem?_eq_getElem hlt⟩
      obtain ⟨g1, o, hra, a0, a1, a2⟩ := HRow.out _ hbr k x hx
      rw [hra] at p0
      have e1 : decide ((k : Int) < (R.length : Int)) = true := by simp; omega
      have i0 : (0 : Int) ≤ (k : Int) := by omega
      have i1 : (k : Int) < (R.length : Int) := by omega
      have HX := Lib.hid hx
      have HBr := Lib.hid hbr
      have HBw := Lib.hid hbw
      clear hx hra hbr hbw
      by_cases he : x.1 = r
      · have hd : decide (x.1 = r) = true := by simpa using he
        have HE := Lib.hid he
        clear he
        go_upto_region 4 with fail
        go_quiet (fail)
        go_wp2
        go_ret
        refine ⟨?_, below_drewN HBw.out _⟩
        rw [HV.out]
        unfold findI'
        rw [numF_first HX.out HE.out hno.out]
        rfl
      · have hd : decide (x.1 = r) = false := by simpa using he
        have HE := Lib.hid he
        clear he
        go_upto_region 4 with fail
        go_quiet (fail)
        go_wp2
        go_roundg (R.length - (k + 1))
        case measure => omega
        case rel => exact ⟨k + 1, by omega, Nat.le_refl _, by go_num, below_drewN HBr.out _, Lib.hid (fun j y hy hj => by
          by_cases h : j = k
          · subst h
            rw [HX.out] at hy
            injection hy with hy
            rw [← hy]
            exact HE.out
          · exact hno.out j y hy (by omega))⟩
    · have e1 : decide ((k : Int) < (R.length : Int)) = false := by simp; omega
      have HBw := Lib.hid hbw
      have hnone : v = -1 := by
        rw [HV.out]
        unfold findI'
        rw [numF_no (fun j y hy => hno.out j y hy (by have := (List.getElem?_eq_some_iff.1 hy).1; omega))]
      clear hbr hbw
      go_wp2
      go_ret
      subst hnone
      exact ⟨rfl, HBw.out⟩
theorem atN_le (r : RowN) (i : Nat) : atN r i = r.1 ∨ atN r i = r.2.1 ∨ atN r i = r.2.2 := by
  unfold atN
  split
  · exact .inl rfl
  · split
    · exact .inr (.inl rfl)
    · exact .inr (.inr rfl)
/-- Up to a place a look fits. -/
def fitK (q r : RowN) (k : Nat) : Bool := (List.range k).all fun i => atN q i == 0 || atN q i == atN r i
theorem fitK_succ (q r : RowN) (k : Nat) : fitK q r (k + 1) = (fitK q r k && (atN q k == 0 || atN q k == atN r k)) := by
  unfold fitK
  rw [List.range_succ, List.all_append]
  simp
theorem fitK_three (q r : RowN) : fitK q r 3 = fitB q r := by
  rw [fitK_succ, fitK_succ, fitK_succ]
  show (((true && _) && _) && _) = _
  unfold fitB
  simp only [atN, Bool.true_and, if_true, Nat.one_ne_zero, if_false, show ¬ (2 : Nat) = 0 by omega, show ¬ (2 : Nat) = 1 by omega, Bool.and_assoc]
theorem fitK_false {q r : RowN} {k : Nat} (hk : k < 3) (h : (atN q k == 0 || atN q k == atN r k) = false) : fitB q r = false := by
  rw [← fitK_three]
  have : ∀ m, k < m → fitK q r m = false := fun m hm => by
    unfold fitK
    rw [List.all_eq_false]
    exact ⟨k, List.mem_range.2 hm, by rw [h]; simp⟩
  exact this 3 hk
set_option maxRecDepth 100000 in
set_option maxHeartbeats 4000000 in
theorem fits_any (q r : RowN) (w : World) : Calls Try.prog 15 #[rowV q, rowV r] w fun e w' => e = .returned (.bool (fitB q r)) ∧ Below w.heap.size w w' := by
  obtain ⟨n0, hn0⟩ : ∃ n0, n0 = w.heap.size := ⟨_, rfl⟩
  have s1 : (w.alloc (.cells (rowC q) 34)).heap.size = w.heap.size + 1 := World.size_alloc _ _
  have hc0 := heap_alloc_new w (.cells (rowC q) 34)
  have hc1 := heap_alloc_new (w.alloc (.cells (rowC q) 34)) (.cells (rowC r) 34)
  have hb1 := ((Below.refl w.heap.size w).alloc (Nat.le_refl _) (.cells (rowC q) 34)).alloc (by rw [s1]; omega) (.cells (rowC r) 34)
  have hc0' := (Below.heap_alloc (w.alloc (.cells (rowC q) 34)) (.cells (rowC r) 34) w.heap.size (by rw [s1]; omega)).trans hc0
  obtain ⟨W0, hW0⟩ : ∃ W0, W0 = (w.alloc (.cells (rowC q) 34)).alloc (.cells (rowC r) 34) := ⟨_, rfl⟩
  rw [s1] at hc1
  rw [← hW0] at hc0' hc1 hb1
  rw [← hn0] at hc0' hc1
  have hW0s : W0.heap.size = n0 + 2 := by rw [hW0, World.size_alloc, s1, hn0]
  have HC : Hid (∀ U, Below W0.heap.size W0 U → ∀ k : Nat, k < 3 → U.cell? ⟨n0, k, none⟩ = some (.int .u32 (atN q k : Int)) ∧ U.cell? ⟨n0 + 1, k, none⟩ = some (.int .u32 (atN r k : Int))) := Lib.hid (fun U hU k hk => by
    obtain rfl | rfl | rfl : k = 0 ∨ k = 1 ∨ k = 2 := by omega
    all_goals exact ⟨(hU.cell (p := ⟨n0, _, none⟩) (by show n0 < _; omega)).trans (cell_in hc0' rfl), (hU.cell (p := ⟨n0 + 1, _, none⟩) (by show n0 + 1 < _; omega)).trans (cell_in hc1 rfl)⟩)
  have HB := Lib.hid hb1
  have HW0 := Lib.hid hW0
  have HN0 := Lib.hid hn0
  have HS := Lib.hid hW0s
  obtain ⟨v, hv⟩ : ∃ v, v = fitB q r := ⟨_, rfl⟩
  rw [← hv]
  have HV := Lib.hid hv
  clear hc0 hc1 hb1 hc0' hW0 hn0 hW0s s1 hv
  go_enter Try.func15, Try.ntmps15
  go_upto_region 1 with fail
  rw [← HW0.out, ← HN0.out]
  go_wp2
  go_loopg [5] 3 (fun g i wr => ∃ k : Nat, k ≤ 3 ∧ 3 - k ≤ g ∧ i = .int .i64 (k : Int) ∧ Below W0.heap.size W0 wr ∧ Hid (fitK q r k = true))
  case atStart => exact ⟨0, by omega, by omega, rfl, Below.refl _ _, Lib.hid rfl⟩
  case round =>
    obtain ⟨k, hk, hg, rfl, hbr, hf⟩ := hrel
    have hbw : Below w.heap.size w wr := HB.out.trans (hbr.mono (by rw [HS.out, HN0.out]; omega))
    have HBr := Lib.hid hbr
    have HBw := Lib.hid hbw
    by_cases hlt : k < 3
    · obtain ⟨c0, c1⟩ := HC.out _ hbr k hlt
      have hs := fitK_succ q r k
      have hfl := @fitK_false q r k hlt
      have HSu := Lib.hid hs
      have HFl := Lib.hid hfl
      generalize atN q k = a at *
      generalize atN r k = b at *
      have e1 : decide ((k : Int) < 3) = true := by simp; omega
      have i0 : (0 : Int) ≤ (k : Int) := by omega
      have i1 : (k : Int) < 3 := by omega
      clear hbr hbw hs hfl
      by_cases ha : a = 0
      · have e2 : ((a : Int) != 0) = false := by simp [ha]
        have HA := Lib.hid ha
        clear ha
        go_upto_region 4 with fail
        go_quiet (fail)
        go_wp2
        go_roundg (3 - (k + 1))
        case measure => omega
        case rel => exact ⟨k + 1, by omega, Nat.le_refl _, by go_num, below_drewN HBr.out _, Lib.hid (by rw [HSu.out, hf.out, HA.out]; simp)⟩
      · have e2 : ((a : Int) != 0) = true := by rw [bne_iff_ne]; omega
        by_cases hab : a = b
        · have e3 : ((a : Int) != (b : Int)) = false := by rw [bne_eq_false_iff_eq]; omega
          have HA := Lib.hid hab
          clear ha hab
          go_upto_region 4 with fail
          go_quiet (fail)
          go_wp2
          go_roundg (3 - (k + 1))
          case measure => omega
          case rel => exact ⟨k + 1, by omega, Nat.le_refl _, by go_num, below_drewN HBr.out _, Lib.hid (by rw [HSu.out, hf.out, HA.out]; simp)⟩
        · have e3 : ((a : Int) != (b : Int)) = true := by rw [bne_iff_ne]; omega
          have HF : Hid (v = false) := Lib.hid (by rw [HV.out]; exact HFl.out (by simp [ha, hab]))
          clear ha hab
          go_upto_region 4 with fail
          go_quiet (fail)
          go_wp2
          go_ret
          obtain rfl := HF.out
          exact ⟨rfl, below_drewN HBw.out _⟩
    · obtain rfl : k = 3 := by omega
      have HF : Hid (v = true) := Lib.hid (by rw [HV.out, ← fitK_three]; exact hf.out)
      clear hbr hbw hlt
      go_wp2
      go_ret
      obtain rfl := HF.out
      exact ⟨rfl, HBw.out⟩
end
end Go.Proofs.Ytnmimagcmmdolaa
