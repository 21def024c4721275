/-
  CONTRACTS OF slices.siftDownOrdered and slices.heapSortOrdered at numbers of 32 bits.
-/
import Derived.Test.YtloonndeojfepaaUnSort2
namespace Go.Proofs.Ytloonndeojfepaa
open Go.RowKit Go.Sort
set_option linter.unusedVariables false
set_option linter.unusedSimpArgs false

theorem wrap_nat (x : Int) (k : Nat) (h : x = (k : Int)) (hk : k ≤ 1000000000000) : IntKind.i64.wrap x = (k : Int) := by rw [h]; exact IntWalk.i64_in _ (by omega)
theorem sift_out {hi first root : Nat} (d : Array Nat) (h : 2 * root + 1 ≥ hi) : siftDown ltU hi first root d = d := by rw [siftDown, dif_pos h]
theorem sift_two {hi first root : Nat} (d : Array Nat) (h : 2 * root + 1 + 1 < hi) (hl : ltU d[first + (2 * root + 1)]! d[first + (2 * root + 1) + 1]! = true) :
    siftDown ltU hi first root d = if !ltU d[first + root]! d[first + (2 * root + 2)]! then d else siftDown ltU hi first (2 * root + 2) (swp d (first + root) (first + (2 * root + 2))) := by
  rw [siftDown, dif_neg (by omega), if_pos (by rw [hl]; simp; omega)]
  split
  · rfl
  · rfl
theorem sift_one {hi first root : Nat} (d : Array Nat) (h0 : ¬ 2 * root + 1 ≥ hi) (h : ¬ (2 * root + 1 + 1 < hi ∧ ltU d[first + (2 * root + 1)]! d[first + (2 * root + 1) + 1]! = true)) :
    siftDown ltU hi first root d = if !ltU d[first + root]! d[first + (2 * root + 1)]! then d else siftDown ltU hi first (2 * root + 1) (swp d (first + root) (first + (2 * root + 1))) := by
  rw [siftDown, dif_neg h0, if_neg]
  intro hh
  simp only [Bool.and_eq_true, decide_eq_true_eq] at hh
  exact h ⟨hh.1, by simpa using hh.2⟩
set_option maxRecDepth 100000 in
set_option maxHeartbeats 4000000 in
theorem siftU_any {W0 W : World} {blk off : Nat} {d : Array Nat} (h : SrtW W0 blk off d W) (cap lo hi first : Nat) (hb : first + hi ≤ d.size) (hlo : lo ≤ 1000000) (hn : d.size ≤ 1000000) :
    Calls Try.prog 69 #[.slice (some ⟨blk, off, none⟩) d.size cap, .int .i64 (lo : Int), .int .i64 (hi : Int), .int .i64 (first : Int)] W fun e w' => e = .returned (.tuple #[]) ∧ SrtW W0 blk off (siftDown ltU hi first lo d) w' := by
  obtain ⟨n, hnn⟩ : ∃ n, n = d.size := ⟨_, rfl⟩
  have H := Lib.hid h
  have HR : Hid (siftDown ltU hi first lo d = siftDown ltU hi first lo d) := Lib.hid rfl
  have HZ := Lib.hid hnn
  generalize hres : siftDown ltU hi first lo d = res at HR
  rw [← hnn] at hb hn ⊢
  have HR0 : Hid (siftDown ltU hi first lo d = res) := Lib.hid hres
  clear h hnn hres HR
  go_enter Try.func69, Try.ntmps69
  go_wp2
  go_loopg [8] (hi + 1 - lo) (fun g iv wr => ∃ (root : Nat) (d' : Array Nat), hi - root ≤ g ∧ root ≤ 1000000 ∧ iv = .int .i64 (root : Int) ∧ Hid (siftDown ltU hi first root d' = res) ∧ Hid (n = d'.size) ∧ SrtW W0 blk off d' wr)
  case atStart => exact ⟨lo, d, by omega, hlo, rfl, HR0, HZ, H.out⟩
  case round =>
    obtain ⟨root, d', hg, hr, rfl, hR, hZ, hW0⟩ := hrel
    have HW := Lib.hid hW0
    obtain ⟨c, hc⟩ : ∃ c, c = 2 * root + 1 := ⟨_, rfl⟩
    have hrc : root < c := by omega
    have hc2 : c ≤ 2000001 := by omega
    have v1 : IntKind.i64.wrap (2 * (root : Int)) = 2 * (root : Int) := IntWalk.i64_in _ (by omega)
    have v2 : IntKind.i64.wrap (2 * (root : Int) + 1) = 2 * (root : Int) + 1 := IntWalk.i64_in _ (by omega)
    have vc : 2 * (root : Int) + 1 = (c : Int) := by omega
    by_cases hout : c ≥ hi
    · have e1 : decide ((c : Int) ≥ (hi : Int)) = true := by simp; omega
      have e1' : decide ((hi : Int) ≤ (c : Int)) = true := by simp; omega
      have e1n : decide (hi ≤ c) = true := by simpa using hout
      have HE : Hid (d' = res) := Lib.hid ((sift_out d' (by omega)).symm.trans hR.out)
      clear hW0 hR hc
      go_upto_region 2 with fail
      clear vc v1 v2
      go_wp2
      go_end0
      exact ⟨by simp, by rw [← HE.out]; exact HW.out⟩
    · have e1 : decide ((c : Int) ≥ (hi : Int)) = false := by simp; omega
      have e1' : decide ((hi : Int) ≤ (c : Int)) = false := by simp; omega
      have e1n : decide (hi ≤ c) = false := by simp; omega
      have v3 : IntKind.i64.wrap ((c : Int) + 1) = ((c + 1 : Nat) : Int) := wrap_nat _ _ (by omega) (by omega)
      obtain ⟨fr, hfr⟩ : ∃ fr, fr = first + root := ⟨_, rfl⟩
      have v4 : IntKind.i64.wrap ((first : Int) + (root : Int)) = (fr : Int) := wrap_nat _ _ (by omega) (by omega)
      have q0 : (0 : Int) ≤ (fr : Int) := by omega
      have q1 : (fr : Int) < (n : Int) := by omega
      by_cases h2 : c + 1 < hi
      · have e3 : decide ((c : Int) + 1 < (hi : Int)) = true := by simp; omega
        have e3n : decide (c + 1 < hi) = true := by simpa using h2
        obtain ⟨f1, hf1⟩ : ∃ f1, f1 = first + c := ⟨_, rfl⟩
        obtain ⟨f2, hf2⟩ : ∃ f2, f2 = first + c + 1 := ⟨_, rfl⟩
        have v5 : IntKind.i64.wrap ((first : Int) + (c : Int)) = (f1 : Int) := wrap_nat _ _ (by omega) (by omega)
        have v6 : IntKind.i64.wrap ((f1 : Int) + 1) = (f2 : Int) := wrap_nat _ _ (by omega) (by omega)
        have q2 : (0 : Int) ≤ (f1 : Int) := by omega
        have q3 : (f1 : Int) < (n : Int) := by omega
        have q4 : (0 : Int) ≤ (f2 : Int) := by omega
        have q5 : (f2 : Int) < (n : Int) := by omega
        have b1 := hW0.cell (i := f1) (by rw [← hZ.out]; omega)
        have b2 := hW0.cell (i := f2) (by rw [← hZ.out]; omega)
        have HQ0 := Lib.hid (fun W => less_any d'[f1]! d'[f2]! W)
        cases hl0 : decide (d'[f1]! < d'[f2]!) with
        | true =>
          rw [hl0] at HQ0
          have HP : Hid ((if !ltU d'[fr]! d'[f2]! then d' else siftDown ltU hi first (c + 1) (swp d' fr f2)) = res) := Lib.hid (by
            have := sift_two (first := first) (root := root) (hi := hi) d' (by omega) (by rw [show first + (2 * root + 1) = f1 by omega, show f1 + 1 = f2 by omega]; exact hl0)
            rw [show first + (2 * root + 2) = f2 by omega, show first + root = fr by omega, show 2 * root + 2 = c + 1 by omega] at this
            rw [← this]
            exact hR.out)
          have v7 : IntKind.i64.wrap ((first : Int) + ((c : Int) + 1)) = (f2 : Int) := wrap_nat _ _ (by omega) (by omega)
          clear hW0 hR hl0 hc hfr hf1 hf2
          go_upto_region 2 with fail
          clear vc v1 v2
          go_upto_region 3 with fail
          go_quiet ((go_at_call 61; exact Calls.quiet_of_same (HQ0.out _)))
          have h5 := HW.out.drewN nq
          generalize wr.drewN nq = w5 at *
          clear b1 b2
          have HQ := Lib.hid (fun W => less_any d'[fr]! d'[f2]! W)
          have a1 := h5.cell (i := fr) (by rw [← hZ.out]; omega)
          have a2 := h5.cell (i := f2) (by rw [← hZ.out]; omega)
          have HW5 := Lib.hid h5
          clear h5
          cases hl : decide (d'[fr]! < d'[f2]!) with
          | false =>
            rw [hl] at HQ
            have HE : Hid (d' = res) := Lib.hid (by
              have := HP.out
              rw [show ltU d'[fr]! d'[f2]! = false from hl] at this
              simpa using this)
            clear hl
            go_upto_region 5 with fail
            go_quiet ((go_at_call 61; exact Calls.quiet_of_same (HQ.out _)))
            go_wp2
            refine bodyPost_ret (results_none rfl _ _ _) rfl ?_
            exact ⟨by simp, by rw [← HE.out]; exact HW5.out.drewN _⟩
          | true =>
            rw [hl] at HQ
            have HR2 : Hid (siftDown ltU hi first (c + 1) (swp d' fr f2) = res) := Lib.hid (by
              have := HP.out
              rw [show ltU d'[fr]! d'[f2]! = true from hl] at this
              simpa using this)
            clear hl
            go_upto_region 5 with fail
            go_quiet ((go_at_call 61; exact Calls.quiet_of_same (HQ.out _)))
            go_upto_region 6 with fail
            have h2 := HW5.out.drewN nq
            generalize w5.drewN nq = W2 at *
            have d1 := h2.cell (i := fr) (by rw [← hZ.out]; omega)
            have d0 := h2.cell (i := f2) (by rw [← hZ.out]; omega)
            have g1 := h2.free (i := fr) (by rw [← hZ.out]; omega)
            have g0 := h2.free (i := f2) (by rw [← hZ.out]; omega)
            have p0 := (h2.put (i := fr) (by rw [← hZ.out]; omega) d'[f2]!).cell (i := f2) (by rw [Array.size_setIfInBounds, ← hZ.out]; omega)
            have HS_ := Lib.hid (h2.drew.swap (i := fr) (j := f2) (by rw [← hZ.out]; omega) (by rw [← hZ.out]; omega))
            have HZ3 : Hid (n = (swp d' (fr) (f2)).size) := Lib.hid (by rw [SrtW.size_swp]; exact hZ.out)
            clear a1 a2
            clear h2
            generalize (Array.setIfInBounds d' (fr) d'[f2]!)[f2]! = z0 at *
            generalize swp d' (fr) (f2) = d3 at *
            generalize d'[fr]! = x1 at *
            generalize d'[f2]! = x0 at *
            go_region_with (fail)
            all_goals
              go_wp2
              go_roundg (hi - (c + 1))
              case measure => omega
              case rel => exact ⟨c + 1, d3, by omega, by omega, by go_num, HR2, HZ3, HS_.out⟩
        | false =>
          rw [hl0] at HQ0
          have HP : Hid ((if !ltU d'[fr]! d'[f1]! then d' else siftDown ltU hi first c (swp d' fr f1)) = res) := Lib.hid (by
            have := sift_one (first := first) (root := root) (hi := hi) d' (by omega) (by rw [show first + (2 * root + 1) = f1 by omega, show f1 + 1 = f2 by omega, show ltU d'[f1]! d'[f2]! = false from hl0]; simp)
            rw [show first + (2 * root + 1) = f1 by omega, show first + root = fr by omega, show 2 * root + 1 = c by omega] at this
            rw [← this]
            exact hR.out)
          clear hW0 hR hl0 hc hfr hf1 hf2
          go_upto_region 2 with fail
          clear vc v1 v2
          go_upto_region 3 with fail
          go_quiet ((go_at_call 61; exact Calls.quiet_of_same (HQ0.out _)))
          have h5 := HW.out.drewN nq
          generalize wr.drewN nq = w5 at *
          clear b1 b2
          have HQ := Lib.hid (fun W => less_any d'[fr]! d'[f1]! W)
          have a1 := h5.cell (i := fr) (by rw [← hZ.out]; omega)
          have a2 := h5.cell (i := f1) (by rw [← hZ.out]; omega)
          have HW5 := Lib.hid h5
          clear h5
          cases hl : decide (d'[fr]! < d'[f1]!) with
          | false =>
            rw [hl] at HQ
            have HE : Hid (d' = res) := Lib.hid (by
              have := HP.out
              rw [show ltU d'[fr]! d'[f1]! = false from hl] at this
              simpa using this)
            clear hl
            go_upto_region 5 with fail
            go_quiet ((go_at_call 61; exact Calls.quiet_of_same (HQ.out _)))
            go_wp2
            refine bodyPost_ret (results_none rfl _ _ _) rfl ?_
            exact ⟨by simp, by rw [← HE.out]; exact HW5.out.drewN _⟩
          | true =>
            rw [hl] at HQ
            have HR2 : Hid (siftDown ltU hi first (c) (swp d' fr f1) = res) := Lib.hid (by
              have := HP.out
              rw [show ltU d'[fr]! d'[f1]! = true from hl] at this
              simpa using this)
            clear hl
            go_upto_region 5 with fail
            go_quiet ((go_at_call 61; exact Calls.quiet_of_same (HQ.out _)))
            go_upto_region 6 with fail
            have h2 := HW5.out.drewN nq
            generalize w5.drewN nq = W2 at *
            have d1 := h2.cell (i := fr) (by rw [← hZ.out]; omega)
            have d0 := h2.cell (i := f1) (by rw [← hZ.out]; omega)
            have g1 := h2.free (i := fr) (by rw [← hZ.out]; omega)
            have g0 := h2.free (i := f1) (by rw [← hZ.out]; omega)
            have p0 := (h2.put (i := fr) (by rw [← hZ.out]; omega) d'[f1]!).cell (i := f1) (by rw [Array.size_setIfInBounds, ← hZ.out]; omega)
            have HS_ := Lib.hid (h2.drew.swap (i := fr) (j := f1) (by rw [← hZ.out]; omega) (by rw [← hZ.out]; omega))
            have HZ3 : Hid (n = (swp d' (fr) (f1)).size) := Lib.hid (by rw [SrtW.size_swp]; exact hZ.out)
            clear a1 a2
            clear h2
            generalize (Array.setIfInBounds d' (fr) d'[f1]!)[f1]! = z0 at *
            generalize swp d' (fr) (f1) = d3 at *
            generalize d'[fr]! = x1 at *
            generalize d'[f1]! = x0 at *
            go_region_with (fail)
            all_goals
              go_wp2
              go_roundg (hi - (c))
              case measure => omega
              case rel => exact ⟨c, d3, by omega, by omega, by go_num, HR2, HZ3, HS_.out⟩
      · have e3 : decide ((c : Int) + 1 < (hi : Int)) = false := by simp; omega
        have e3n : decide (c + 1 < hi) = false := by simpa using h2
        obtain ⟨f1, hf1⟩ : ∃ f1, f1 = first + c := ⟨_, rfl⟩
        have v5 : IntKind.i64.wrap ((first : Int) + (c : Int)) = (f1 : Int) := wrap_nat _ _ (by omega) (by omega)
        have q2 : (0 : Int) ≤ (f1 : Int) := by omega
        have q3 : (f1 : Int) < (n : Int) := by omega
        have HP : Hid ((if !ltU d'[fr]! d'[f1]! then d' else siftDown ltU hi first c (swp d' fr f1)) = res) := Lib.hid (by
          have := sift_one (first := first) (root := root) (hi := hi) d' (by omega) (fun h => by omega)
          rw [show first + (2 * root + 1) = f1 by omega, show first + root = fr by omega, show 2 * root + 1 = c by omega] at this
          rw [← this]
          exact hR.out)
        clear hW0 hR hc hfr hf1
        go_upto_region 2 with fail
        clear vc v1 v2
        go_upto_region 3 with fail
        go_quiet (fail)
        have h5 := HW.out.drewN nq
        generalize wr.drewN nq = w5 at *
        have HQ := Lib.hid (fun W => less_any d'[fr]! d'[f1]! W)
        have a1 := h5.cell (i := fr) (by rw [← hZ.out]; omega)
        have a2 := h5.cell (i := f1) (by rw [← hZ.out]; omega)
        have HW5 := Lib.hid h5
        clear h5
        cases hl : decide (d'[fr]! < d'[f1]!) with
        | false =>
          rw [hl] at HQ
          have HE : Hid (d' = res) := Lib.hid (by
            have := HP.out
            rw [show ltU d'[fr]! d'[f1]! = false from hl] at this
            simpa using this)
          clear hl
          go_upto_region 5 with fail
          go_quiet ((go_at_call 61; exact Calls.quiet_of_same (HQ.out _)))
          go_wp2
          refine bodyPost_ret (results_none rfl _ _ _) rfl ?_
          exact ⟨by simp, by rw [← HE.out]; exact HW5.out.drewN _⟩
        | true =>
          rw [hl] at HQ
          have HR2 : Hid (siftDown ltU hi first (c) (swp d' fr f1) = res) := Lib.hid (by
            have := HP.out
            rw [show ltU d'[fr]! d'[f1]! = true from hl] at this
            simpa using this)
          clear hl
          go_upto_region 5 with fail
          go_quiet ((go_at_call 61; exact Calls.quiet_of_same (HQ.out _)))
          go_upto_region 6 with fail
          have h2 := HW5.out.drewN nq
          generalize w5.drewN nq = W2 at *
          have d1 := h2.cell (i := fr) (by rw [← hZ.out]; omega)
          have d0 := h2.cell (i := f1) (by rw [← hZ.out]; omega)
          have g1 := h2.free (i := fr) (by rw [← hZ.out]; omega)
          have g0 := h2.free (i := f1) (by rw [← hZ.out]; omega)
          have p0 := (h2.put (i := fr) (by rw [← hZ.out]; omega) d'[f1]!).cell (i := f1) (by rw [Array.size_setIfInBounds, ← hZ.out]; omega)
          have HS_ := Lib.hid (h2.drew.swap (i := fr) (j := f1) (by rw [← hZ.out]; omega) (by rw [← hZ.out]; omega))
          have HZ3 : Hid (n = (swp d' (fr) (f1)).size) := Lib.hid (by rw [SrtW.size_swp]; exact hZ.out)
          clear a1 a2
          clear h2
          generalize (Array.setIfInBounds d' (fr) d'[f1]!)[f1]! = z0 at *
          generalize swp d' (fr) (f1) = d3 at *
          generalize d'[fr]! = x1 at *
          generalize d'[f1]! = x0 at *
          go_region_with (fail)
          all_goals
            go_wp2
            go_roundg (hi - (c))
            case measure => omega
            case rel => exact ⟨c, d3, by omega, by omega, by go_num, HR2, HZ3, HS_.out⟩
end Go.Proofs.Ytloonndeojfepaa
