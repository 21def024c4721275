/-
  WHAT THE PROOF STANDS ON, a part of it: UnSort9.
-/
import Derived.Test.YtjbfjglomonanaaU10
/-
  CONTRACT OF slices.choosePivotOrdered at numbers of 32 bits: some place of the row.
-/

namespace Go.Proofs.Ytjbfjglomonanaa
open Go.RowKit Go.Sort
set_option linter.unusedVariables false
set_option linter.unusedSimpArgs false

theorem SrtW.alloc {W0 W : World} {blk off : Nat} {d : Array Nat} (h : SrtW W0 blk off d W) (o : Obj) : SrtW W0 blk off d (W.alloc o) := by
  have hb := (Below.refl W.heap.size W).alloc (Nat.le_refl _) o
  refine ⟨fun j hj => ?_, h.turned.trans (Turned.of_below hb)⟩
  have hc := h.holds j hj
  have hk := hb.block blk (World.block_lt_of_cell? W ⟨blk, off + j, none⟩ hc.1)
  refine ⟨(World.cell?_of_block (a := ⟨blk, off + j, none⟩) hk).trans hc.1, ?_⟩
  have e : (W.alloc o).frozen? ⟨blk, off + j, none⟩ = W.frozen? ⟨blk, off + j, none⟩ := by
    unfold World.frozen?
    rw [hk]
  rw [e]
  exact hc.2
set_option maxRecDepth 100000 in
set_option maxHeartbeats 4000000 in
theorem pivU_any {W0 W : World} {blk off : Nat} {d : Array Nat} (h : SrtW W0 blk off d W) (cap a b : Nat) (hb : b ≤ d.size) (hab : a + 12 < b) (hn : d.size ≤ 1000000) :
    Calls Try.prog 58 #[.slice (some ⟨blk, off, none⟩) d.size cap, .int .i64 (a : Int), .int .i64 (b : Int)] W fun e w' => ∃ p x : Nat, e = .returned (.tuple #[.int .i64 (p : Int), .int .i64 (x : Int)]) ∧ (a ≤ p ∧ p < b) ∧ x ≤ 2 ∧ SrtW W0 blk off d w' := by
  have hs0 : W0.heap.size ≤ W.heap.size := h.turned.size
  have hbl : blk < W.heap.size := World.block_lt_of_cell? W ⟨blk, off + 0, none⟩ (h.cell (i := 0) (by omega))
  have hnew := heap_alloc_new W (.cells #[.int .i64 0] 3)
  have HS0 : Hid (∀ U, U = W.alloc (.cells #[.int .i64 0] 3) → SwpW W0 blk off d W.heap.size 0 U) := Lib.hid (fun U hU => by
    rw [hU]
    exact ⟨h.alloc _, hs0, by omega, 0, Nat.le_refl _, hnew⟩)
  obtain ⟨sp, hsp⟩ : ∃ sp, sp = W.heap.size := ⟨_, rfl⟩
  rw [← hsp] at HS0
  have HSp := Lib.hid hsp
  obtain ⟨l, hl⟩ : ∃ l, l = b - a := ⟨_, rfl⟩
  obtain ⟨lq, hlq⟩ : ∃ lq, lq = l / 4 := ⟨_, rfl⟩
  obtain ⟨m2, hm2⟩ : ∃ m2, m2 = lq * 2 := ⟨_, rfl⟩
  obtain ⟨m3, hm3⟩ : ∃ m3, m3 = lq * 3 := ⟨_, rfl⟩
  obtain ⟨i0, hi0⟩ : ∃ i0, i0 = a + lq := ⟨_, rfl⟩
  obtain ⟨j0, hj0⟩ : ∃ j0, j0 = a + m2 := ⟨_, rfl⟩
  obtain ⟨k0, hk0⟩ : ∃ k0, k0 = a + m3 := ⟨_, rfl⟩
  have v1 : IntKind.i64.wrap ((b : Int) - (a : Int)) = (l : Int) := wrap_nat _ _ (by omega) (by omega)
  have v2 : ((l : Int)).tdiv 4 = (lq : Int) := by rw [Int.tdiv_eq_ediv_of_nonneg (by omega)]; omega
  have v3 : IntKind.i64.wrap (lq : Int) = (lq : Int) := IntWalk.i64_in _ (by omega)
  have v4 : IntKind.i64.wrap ((lq : Int) * 2) = (m2 : Int) := wrap_nat _ _ (by omega) (by omega)
  have v5 : IntKind.i64.wrap ((lq : Int) * 3) = (m3 : Int) := wrap_nat _ _ (by omega) (by omega)
  have v6 : IntKind.i64.wrap ((a : Int) + (lq : Int)) = (i0 : Int) := wrap_nat _ _ (by omega) (by omega)
  have v7 : IntKind.i64.wrap ((a : Int) + (m2 : Int)) = (j0 : Int) := wrap_nat _ _ (by omega) (by omega)
  have v8 : IntKind.i64.wrap ((a : Int) + (m3 : Int)) = (k0 : Int) := wrap_nat _ _ (by omega) (by omega)
  have e1 : decide ((l : Int) ≥ 8) = true := by simp; omega
  have e1' : decide (8 ≤ (l : Int)) = true := by simp; omega
  have e1n : decide (8 ≤ l) = true := by simp; omega
  have HB : Hid ((0 < i0 ∧ a + 3 ≤ i0 ∧ i0 + 3 ≤ j0) ∧ (0 < j0 ∧ j0 + 3 ≤ k0) ∧ 0 < k0 ∧ k0 + 3 ≤ b) := Lib.hid (by omega)
  have HMd : Hid (∀ (U : World) (k p q r : Nat), SwpW W0 blk off d sp k U → k ≤ 900 → p < d.size → q < d.size → r < d.size → Calls Try.prog 71 #[.slice (some ⟨blk, off, none⟩) d.size cap, .int .i64 (p : Int), .int .i64 (q : Int), .int .i64 (r : Int), .pointer (some ⟨sp, 0, none⟩)] U fun e w' => ∃ p' : Nat, e = .returned (.int .i64 (p' : Int)) ∧ (p' = p ∨ p' = q ∨ p' = r) ∧ SwpW W0 blk off d sp (k + 3) w') := Lib.hid (fun U k p q r h1 h2 h3 h4 h5 => med_any h1 cap p q r h3 h4 h5 hn h2)
  have HMa : Hid (∀ (U : World) (k p : Nat), SwpW W0 blk off d sp k U → k ≤ 900 → 0 < p → p + 1 < d.size → Calls Try.prog 70 #[.slice (some ⟨blk, off, none⟩) d.size cap, .int .i64 (p : Int), .pointer (some ⟨sp, 0, none⟩)] U fun e w' => ∃ p' : Nat, e = .returned (.int .i64 (p' : Int)) ∧ (p - 1 ≤ p' ∧ p' ≤ p + 1) ∧ SwpW W0 blk off d sp (k + 3) w') := Lib.hid (fun U k p h1 h2 h3 h4 => medAdj_any h1 cap p h3 h4 hn h2)
  -- how it ends
  have HEnd : Hid (∀ (U : World) (m : Nat), SwpW W0 blk off d sp m U → SrtW W0 blk off d U ∧ ∃ x : Nat, U.cell? ⟨sp, 0, none⟩ = some (.int .i64 (x : Int))) := Lib.hid (fun U m hU => by
    obtain ⟨x, _, hc⟩ := hU.cnt
    exact ⟨hU.row, x, cell_in hc rfl⟩)
  have HNb := Lib.hid hb
  generalize d.size = n at *
  clear h hnew hsp hl hlq hm2 hm3 hi0 hj0 hk0 hs0 hbl
  go_enter Try.func58, Try.ntmps58
  go_upto_region 3 with fail
  generalize hW1 : W.alloc (.cells #[.int .i64 0] 3) = W1
  have H1 := Lib.hid (HS0.out W1 hW1.symm)
  rw [← HSp.out]
  clear hW1
  have HP := HB.out
  by_cases h50 : l ≥ 50
  · have e2 : decide ((l : Int) ≥ 50) = true := by simp; omega
    have e2' : decide (50 ≤ (l : Int)) = true := by simp; omega
    have e2n : decide (50 ≤ l) = true := by simpa using h50
    have HC1 := Lib.hid (HMa.out W1 0 i0 H1.out (by omega) (by omega) (by have := HNb.out; omega))
    clear HP h50
    go_upto_region 9 with (go_at_call 70; refine HC1.out.mono ?_; rintro e w1 ⟨i1, rfl, hi1, hw1⟩; replace hi1 := Lib.hid hi1; replace hw1 := Lib.hid hw1)
    have HC2 := Lib.hid (HMa.out w1 3 j0 hw1.out (by omega) (by have := HB.out; omega) (by have := HB.out; have := HNb.out; omega))
    go_upto_region 10 with (go_at_call 70; refine HC2.out.mono ?_; rintro e w2 ⟨j1, rfl, hj1, hw2⟩; replace hj1 := Lib.hid hj1; replace hw2 := Lib.hid hw2)
    have HC3 := Lib.hid (HMa.out w2 6 k0 hw2.out (by omega) (by have := HB.out; omega) (by have := HB.out; have := HNb.out; omega))
    go_upto_region 11 with (go_at_call 70; refine HC3.out.mono ?_; rintro e w3 ⟨k1, rfl, hk1, hw3⟩; replace hk1 := Lib.hid hk1; replace hw3 := Lib.hid hw3)
    have HC4 := Lib.hid (HMd.out w3 9 i1 j1 k1 hw3.out (by omega) (by have := HB.out; have := HNb.out; have := hi1.out; omega) (by have := HB.out; have := HNb.out; have := hj1.out; omega) (by have := HB.out; have := HNb.out; have := hk1.out; omega))
    go_upto_region 12 with (go_at_call 71; refine HC4.out.mono ?_; rintro e w4 ⟨p, rfl, hp, hw4⟩; replace hp := Lib.hid hp; replace hw4 := Lib.hid hw4)
    obtain ⟨hrow, x, hc⟩ := HEnd.out w4 _ hw4.out
    have HRow := Lib.hid hrow
    have HPp : Hid (a ≤ p ∧ p < b) := Lib.hid (by have := HB.out; have := hi1.out; have := hj1.out; have := hk1.out; have := hp.out; omega)
    clear hrow
    by_cases hx0 : x = 0
    · subst hx0
      have f0 : ((((0 : Nat) : Int)) == 0) = true := by simp
      go_wp2
      go_ret2
      exact ⟨p, 1, by simp, HPp.out, by omega, HRow.out⟩
    · have f0 : ((x : Int) == 0) = false := by rw [beq_eq_false_iff_ne]; omega
      by_cases hx1 : x = 12
      · subst hx1
        have f1 : ((((12 : Nat) : Int)) == 12) = true := by simp
        go_wp2
        go_ret2
        exact ⟨p, 2, by simp, HPp.out, by omega, HRow.out⟩
      · have f1 : ((x : Int) == 12) = false := by rw [beq_eq_false_iff_ne]; omega
        clear hx0 hx1
        go_wp2
        go_ret2
        exact ⟨p, 0, by simp, HPp.out, by omega, HRow.out⟩
  · have e2 : decide ((l : Int) ≥ 50) = false := by simp; omega
    have e2' : decide (50 ≤ (l : Int)) = false := by simp; omega
    have e2n : decide (50 ≤ l) = false := by simpa using h50
    have HC4 := Lib.hid (HMd.out W1 0 i0 j0 k0 H1.out (by omega) (by have := HNb.out; omega) (by have := HNb.out; omega) (by have := HNb.out; omega))
    clear HP h50
    go_upto_region 12 with (go_at_call 71; refine HC4.out.mono ?_; rintro e w4 ⟨p, rfl, hp, hw4⟩; replace hp := Lib.hid hp; replace hw4 := Lib.hid hw4)
    obtain ⟨hrow, x, hc⟩ := HEnd.out w4 _ hw4.out
    have HRow := Lib.hid hrow
    have HPp : Hid (a ≤ p ∧ p < b) := Lib.hid (by have := HB.out; have := hp.out; omega)
    clear hrow
    by_cases hx0 : x = 0
    · subst hx0
      have f0 : ((((0 : Nat) : Int)) == 0) = true := by simp
      go_wp2
      go_ret2
      exact ⟨p, 1, by simp, HPp.out, by omega, HRow.out⟩
    · have f0 : ((x : Int) == 0) = false := by rw [beq_eq_false_iff_ne]; omega
      by_cases hx1 : x = 12
      · subst hx1
        have f1 : ((((12 : Nat) : Int)) == 12) = true := by simp
        go_wp2
        go_ret2
        exact ⟨p, 2, by simp, HPp.out, by omega, HRow.out⟩
      · have f1 : ((x : Int) == 12) = false := by rw [beq_eq_false_iff_ne]; omega
        clear hx0 hx1
        go_wp2
        go_ret2
        exact ⟨p, 0, by simp, HPp.out, by omega, HRow.out⟩
end Go.Proofs.Ytjbfjglomonanaa

