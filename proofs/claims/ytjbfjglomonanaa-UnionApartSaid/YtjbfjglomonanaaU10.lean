/-
  WHAT THE PROOF STANDS ON, a part of it: UnSort5, UnSort8.
-/
import Derived.Test.YtjbfjglomonanaaU8
import Derived.Deep.DeepCutAuto
import Derived.Sort.LotC
/-
  CONTRACTS OF slices.partitionEqualOrdered and slices.partitionOrdered at numbers of 32 bits: the scans.
-/

namespace Go.Proofs.Ytjbfjglomonanaa
open Go.RowKit Go.Sort
set_option linter.unusedVariables false
set_option linter.unusedSimpArgs false

theorem up_go {p : Nat → Bool} {d : Array Nat} {i j : Nat} (h : i ≤ j) (hp : p d[i]! = true) : scanUp p d j i = scanUp p d j (i + 1) := by
  rw [scanUp, if_pos]
  rw [hp]
  simp
  exact h
theorem up_stop {p : Nat → Bool} {d : Array Nat} {i j : Nat} (h : ¬ (i ≤ j ∧ p d[i]! = true)) : scanUp p d j i = i := by
  rw [scanUp, if_neg]
  intro hh
  simp only [Bool.and_eq_true, decide_eq_true_eq] at hh
  exact h hh
theorem down_go {p : Nat → Bool} {d : Array Nat} {i j : Nat} (h0 : 0 < j) (h : i ≤ j) (hp : p d[j]! = true) : scanDown p d i j = scanDown p d i (j - 1) := by
  obtain ⟨m, rfl⟩ : ∃ m, j = m + 1 := ⟨j - 1, by omega⟩
  rw [scanDown, if_pos]
  · rfl
  · rw [hp]
    simp
    exact h
theorem down_stop {p : Nat → Bool} {d : Array Nat} {i j : Nat} (h : ¬ (i ≤ j ∧ p d[j]! = true)) : scanDown p d i j = j := by
  cases j with
  | zero => rfl
  | succ m =>
    rw [scanDown, if_neg]
    intro hh
    simp only [Bool.and_eq_true, decide_eq_true_eq] at hh
    exact h hh
theorem up_le (p : Nat → Bool) (d : Array Nat) (j : Nat) : ∀ (m i : Nat), j + 1 - i ≤ m → i ≤ j + 1 → scanUp p d j i ≤ j + 1
  | 0, i, hm, hi => by rw [up_stop (fun h => by omega)]; omega
  | m + 1, i, hm, hi => by
    by_cases h : i ≤ j ∧ p d[i]! = true
    · rw [up_go h.1 h.2]; exact up_le p d j m (i + 1) (by omega) (by omega)
    · rw [up_stop h]; omega
theorem down_ge (p : Nat → Bool) (d : Array Nat) (i : Nat) : ∀ j, i ≤ j + 1 → i ≤ scanDown p d i j + 1
  | 0, h => by rw [show scanDown p d i 0 = 0 from rfl]; exact h
  | m + 1, h => by
    by_cases hh : i ≤ m + 1 ∧ p d[m + 1]! = true
    · rw [down_go (by omega) hh.1 hh.2]; exact down_ge p d i m (by omega)
    · rw [down_stop hh]; exact h
theorem up_at (p : Nat → Bool) (d : Array Nat) (j : Nat) : ∀ (m i : Nat), j + 1 - i ≤ m → scanUp p d j i ≤ j → p d[scanUp p d j i]! = false
  | 0, i, hm, hi => by
    rw [up_stop (fun h => by omega)] at hi
    omega
  | m + 1, i, hm, hi => by
    by_cases h : i ≤ j ∧ p d[i]! = true
    · rw [up_go h.1 h.2] at hi ⊢
      exact up_at p d j m (i + 1) (by omega) hi
    · rw [up_stop h] at hi ⊢
      cases hp : p d[i]! with
      | false => rfl
      | true => exact absurd ⟨hi, hp⟩ h
theorem down_at (p : Nat → Bool) (d : Array Nat) (i : Nat) (hi : 0 < i) : ∀ j, i ≤ scanDown p d i j → p d[scanDown p d i j]! = false
  | 0, h => by rw [show scanDown p d i 0 = 0 from rfl] at h; omega
  | m + 1, h => by
    by_cases hh : i ≤ m + 1 ∧ p d[m + 1]! = true
    · rw [down_go (by omega) hh.1 hh.2] at h ⊢
      exact down_at p d i hi m h
    · rw [down_stop hh] at h ⊢
      cases hp : p d[m + 1]! with
      | false => rfl
      | true => exact absurd ⟨h, hp⟩ hh
set_option maxRecDepth 100000 in
set_option maxHeartbeats 4000000 in
theorem partEqU_any {W0 W : World} {blk off : Nat} {d : Array Nat} (h : SrtW W0 blk off d W) (cap a b p : Nat) (hb : b ≤ d.size) (hap : a ≤ p) (hpb : p < b) (hn : d.size ≤ 1000000) :
    Calls Try.prog 62 #[.slice (some ⟨blk, off, none⟩) d.size cap, .int .i64 (a : Int), .int .i64 (b : Int), .int .i64 (p : Int)] W fun e w' => e = .returned (.int .i64 ((partitionEqual ltU d a b p).1 : Int)) ∧ SrtW W0 blk off (partitionEqual ltU d a b p).2 w' := by
  obtain ⟨n, hnn⟩ : ∃ n, n = d.size := ⟨_, rfl⟩
  have HW := Lib.hid h
  have HR0 : Hid (partEqLoop ltU a (a + 1) (b - 1) (swp d a p) = partitionEqual ltU d a b p) := Lib.hid rfl
  have hZ := Lib.hid hnn
  generalize partitionEqual ltU d a b p = res at *
  rw [← hnn] at hb hn ⊢
  clear h hnn
  obtain ⟨c, rfl⟩ : ∃ c, b = c + 1 := ⟨b - 1, by omega⟩
  rw [Nat.add_sub_cancel] at HR0
  have v1 : IntKind.i64.wrap ((c : Int) + 1 - 1) = (c : Int) := wrap_nat _ _ (by omega) (by omega)
  have v2 : IntKind.i64.wrap (c : Int) = (c : Int) := IntWalk.i64_in _ (by omega)
  have va : a + 1 ≤ 1000000001 := by omega
  have q0 : (0 : Int) ≤ (a : Int) := by omega
  have q1 : (a : Int) < (n : Int) := by omega
  have q2 : (0 : Int) ≤ (p : Int) := by omega
  have q3 : (p : Int) < (n : Int) := by omega
  go_enter Try.func62, Try.ntmps62
  have HZ3 : Hid (n = (swp d (a) (p)).size) := Lib.hid (by rw [SrtW.size_swp]; exact hZ.out)
  obtain ⟨d3, hd3⟩ : ∃ d3, d3 = swp d (a) (p) := ⟨_, rfl⟩
  rw [← hd3] at HZ3
  have Hd3 := Lib.hid hd3
  clear hd3
  go_upto_region 1 with fail
  go_cut [] (fun wx => SrtW W0 blk off d3 wx)
  case first =>
    have h2 := HW.out
    have d1 := h2.cell (i := a) (by rw [← hZ.out]; omega)
    have d0 := h2.cell (i := p) (by rw [← hZ.out]; omega)
    have g1 := h2.free (i := a) (by rw [← hZ.out]; omega)
    have g0 := h2.free (i := p) (by rw [← hZ.out]; omega)
    have p0 := (h2.put (i := a) (by rw [← hZ.out]; omega) d[p]!).cell (i := p) (by rw [Array.size_setIfInBounds, ← hZ.out]; omega)
    have HS_ := h2.drew.swap (i := a) (j := p) (by rw [← hZ.out]; omega) (by rw [← hZ.out]; omega)
    rw [← Hd3.out] at HS_
    replace HS_ := Lib.hid HS_
    clear h2
    generalize (Array.setIfInBounds d (a) d[p]!)[p]! = z0 at *
    generalize d[a]! = x1 at *
    generalize d[p]! = x0 at *
    go_region_with (fail)
    all_goals
      go_wp2
      go_meet
      exact HS_.out
  case rest =>
    rename World => d3w
    have HWs := Lib.hid hcut
    clear hcut
    rw [← Hd3.out] at HR0
    clear Hd3 HW
    go_wp2
    go_loopg [9, 10] (c + 2) (fun g iv jv wr => ∃ (i j : Nat) (d' : Array Nat), j + 1 - i ≤ g ∧ a + 1 ≤ i ∧ i ≤ j + 1 ∧ j ≤ c ∧ iv = .int .i64 (i : Int) ∧ jv = .int .i64 (j : Int) ∧ Hid (partEqLoop ltU a i j d' = res) ∧ Hid (n = d'.size) ∧ SrtW W0 blk off d' wr)
    case atStart => exact ⟨a + 1, c, d3, by omega, by omega, by omega, by omega, by go_num, by go_num, HR0, HZ3, HWs.out⟩
    case round =>
      obtain ⟨i0, j, d', hg, hi, hij0, hj, rfl, rfl, hR, hZ, hW⟩ := hrel
      have HW := Lib.hid hW
      obtain ⟨i2, hi2⟩ : ∃ i2, i2 = scanUp (fun x => !ltU d'[a]! x) d' j i0 := ⟨_, rfl⟩
      obtain ⟨j2, hj2⟩ : ∃ j2, j2 = scanDown (fun x => ltU d'[a]! x) d' i2 j := ⟨_, rfl⟩
      have HU : Hid (scanUp (fun x => !ltU d'[a]! x) d' j i0 = i2) := Lib.hid hi2.symm
      have HV : Hid (scanDown (fun x => ltU d'[a]! x) d' i2 j = j2) := Lib.hid hj2.symm
      have b1 : i0 ≤ i2 := by rw [hi2]; exact scanUp_ge _ _ _ _
      have b2 : i2 ≤ j + 1 := by rw [hi2]; exact up_le _ _ _ _ _ (Nat.le_refl _) hij0
      have b3 : j2 ≤ j := by rw [hj2]; exact scanDown_le _ _ _ _
      have b4 : i2 ≤ j2 + 1 := by rw [hj2]; exact down_ge _ _ _ _ b2
      have b5 : i2 ≤ j2 → i2 < j2 := fun h => by
        have h1 := up_at (fun x => !ltU d'[a]! x) d' j _ i0 (Nat.le_refl _) (by rw [← hi2]; omega)
        have h2 := down_at (fun x => ltU d'[a]! x) d' i2 (by omega) j (by rw [← hj2]; exact h)
        rw [← hi2] at h1
        rw [← hj2] at h2
        by_cases e : i2 = j2
        · rw [e] at h1
          have h3 : (!ltU d'[a]! d'[j2]!) = false := h1
          rw [show ltU d'[a]! d'[j2]! = false from h2] at h3
          cases h3
        · omega
      have HR2 : Hid ((if i2 > j2 then (i2, d') else partEqLoop ltU a (i2 + 1) (j2 - 1) (swp d' i2 j2)) = res) := Lib.hid (by
        have := partEqLoop_eq ltU a i0 j d'
        rw [HU.out, HV.out] at this
        rw [← this]
        exact hR.out)
      clear hW hi2 hj2 hR
      rename World => wo
      go_step
      go_step
      go_cut [9] (fun sI wx => sI = .int .i64 (i2 : Int) ∧ SrtW W0 blk off d' wx)
      case first =>
        go_wp2
        go_loopg [9] (j + 2) (fun g iv wr => ∃ i' : Nat, j + 1 - i' ≤ g ∧ i0 ≤ i' ∧ i' ≤ j + 1 ∧ iv = .int .i64 (i' : Int) ∧ Hid (scanUp (fun x => !ltU d'[a]! x) d' j i' = i2) ∧ SrtW W0 blk off d' wr)
        case atStart => exact ⟨i0, by omega, Nat.le_refl _, by omega, rfl, HU, HW.out⟩
        case round =>
          obtain ⟨i', hg, h1, h2, rfl, hS, hW2⟩ := hrel
          have HW2 := Lib.hid hW2
          have w1 : i' + 1 ≤ 1000000001 := by omega
          by_cases hij : i' ≤ j
          · have e1 : decide ((i' : Int) ≤ (j : Int)) = true := by simp; omega
            have e1n : decide (i' ≤ j) = true := by simpa using hij
            have q0 : (0 : Int) ≤ (i' : Int) := by omega
            have q1 : (i' : Int) < (n : Int) := by omega
            have c1 := hW2.cell (i := i') (by rw [← hZ.out]; omega)
            have c0 := hW2.cell (i := a) (by rw [← hZ.out]; omega)
            have HQ := Lib.hid (fun W => less_any d'[a]! d'[i']! W)
            cases hl : decide (d'[a]! < d'[i']!) with
            | false =>
              rw [hl] at HQ
              have HS2 : Hid (scanUp (fun x => !ltU d'[a]! x) d' j (i' + 1) = i2) := Lib.hid (by rw [← up_go (p := fun x => !ltU d'[a]! x) hij (by show (!ltU d'[a]! d'[i']!) = true; rw [show ltU d'[a]! d'[i']! = false from hl] <;> rfl)]; exact hS.out)
              clear hW2 hS hl
              go_upto_region 3 with fail
              go_quiet ((go_at_call 61; exact Calls.quiet_of_same (HQ.out _)))
              go_wp2
              go_roundg (j + 1 - (i' + 1))
              case measure => omega
              case rel => exact ⟨i' + 1, by omega, by omega, by omega, by go_num, HS2, HW2.out.drewN _⟩
            | true =>
              rw [hl] at HQ
              have HE : Hid (i' = i2) := Lib.hid (by rw [← hS.out]; exact (up_stop (p := fun x => !ltU d'[a]! x) (fun h => by have h2 : (!ltU d'[a]! d'[i']!) = true := h.2; rw [show ltU d'[a]! d'[i']! = true from hl] at h2; cases h2)).symm)
              clear hW2 hS hl
              go_upto_region 3 with fail
              go_quiet ((go_at_call 61; exact Calls.quiet_of_same (HQ.out _)))
              go_wp2
              go_meet
              exact ⟨by rw [HE.out], HW2.out.drewN _⟩
          · have e1 : decide ((i' : Int) ≤ (j : Int)) = false := by simp; omega
            have e1n : decide (i' ≤ j) = false := by simpa using hij
            have HE : Hid (i' = i2) := Lib.hid (by rw [← hS.out]; exact (up_stop (p := fun x => !ltU d'[a]! x) (fun h => hij h.1)).symm)
            clear hW2 hS
            go_upto_region 3 with fail
            go_quiet (fail)
            go_wp2
            go_meet
            exact ⟨by rw [HE.out], HW2.out.drewN _⟩
      case rest =>
        obtain ⟨rfl, hcut⟩ := hcut
        have HWu := Lib.hid hcut
        clear hcut
        go_step
        go_step
        go_cut [10] (fun sJ wx => sJ = .int .i64 (j2 : Int) ∧ SrtW W0 blk off d' wx)
        case first =>
          go_wp2
          go_loopg [10] (j + 2) (fun g jv wr => ∃ j' : Nat, j' ≤ g ∧ j' ≤ j ∧ i2 ≤ j' + 1 ∧ jv = .int .i64 (j' : Int) ∧ Hid (scanDown (fun x => ltU d'[a]! x) d' i2 j' = j2) ∧ SrtW W0 blk off d' wr)
          case atStart => exact ⟨j, by omega, Nat.le_refl _, by omega, rfl, HV, HWu.out⟩
          case round =>
            obtain ⟨j', hg, h1, h2, rfl, hS, hW2⟩ := hrel
            have HW2 := Lib.hid hW2
            by_cases hij : i2 ≤ j'
            · have e1 : decide ((i2 : Int) ≤ (j' : Int)) = true := by simp; omega
              have e1n : decide (i2 ≤ j') = true := by simpa using hij
              have q0 : (0 : Int) ≤ (j' : Int) := by omega
              have q1 : (j' : Int) < (n : Int) := by omega
              have w1 : IntKind.i64.wrap ((j' : Int) - 1) = ((j' - 1 : Nat) : Int) := wrap_nat _ _ (by omega) (by omega)
              have c1 := hW2.cell (i := j') (by rw [← hZ.out]; omega)
              have c0 := hW2.cell (i := a) (by rw [← hZ.out]; omega)
              have HQ := Lib.hid (fun W => less_any d'[a]! d'[j']! W)
              cases hl : decide (d'[a]! < d'[j']!) with
              | true =>
                rw [hl] at HQ
                have HS2 : Hid (scanDown (fun x => ltU d'[a]! x) d' i2 (j' - 1) = j2) := Lib.hid (by rw [← down_go (p := fun x => ltU d'[a]! x) (by omega) hij (by show (ltU d'[a]! d'[j']!) = true; rw [show ltU d'[a]! d'[j']! = true from hl] <;> rfl)]; exact hS.out)
                obtain ⟨jm, hjm⟩ : ∃ jm, jm = j' - 1 := ⟨_, rfl⟩
                have hjm2 : jm + 1 = j' := by omega
                rw [← hjm] at HS2 w1
                clear hW2 hS hl hjm
                go_upto_region 5 with fail
                go_quiet ((go_at_call 61; exact Calls.quiet_of_same (HQ.out _)))
                go_wp2
                go_roundg jm
                case measure => omega
                case rel => exact ⟨jm, Nat.le_refl _, by omega, by omega, by go_num, HS2, HW2.out.drewN _⟩
              | false =>
                rw [hl] at HQ
                have HE : Hid (j' = j2) := Lib.hid (by rw [← hS.out]; exact (down_stop (p := fun x => ltU d'[a]! x) (fun h => by have h2 : (ltU d'[a]! d'[j']!) = true := h.2; rw [show ltU d'[a]! d'[j']! = false from hl] at h2; cases h2)).symm)
                clear hW2 hS hl
                go_upto_region 5 with fail
                go_quiet ((go_at_call 61; exact Calls.quiet_of_same (HQ.out _)))
                go_wp2
                go_meet
                exact ⟨by rw [HE.out], HW2.out.drewN _⟩
            · have e1 : decide ((i2 : Int) ≤ (j' : Int)) = false := by simp; omega
              have e1n : decide (i2 ≤ j') = false := by simpa using hij
              have HE : Hid (j' = j2) := Lib.hid (by rw [← hS.out]; exact (down_stop (p := fun x => ltU d'[a]! x) (fun h => hij h.1)).symm)
              clear hW2 hS
              go_upto_region 5 with fail
              go_quiet (fail)
              go_wp2
              go_meet
              exact ⟨by rw [HE.out], HW2.out.drewN _⟩
        case rest =>
          obtain ⟨rfl, hcut⟩ := hcut
          have HWd := Lib.hid hcut
          clear hcut HU HV
          by_cases hgt : j2 < i2
          · have e2 : decide ((i2 : Int) > (j2 : Int)) = true := by simp; omega
            have e2' : decide ((j2 : Int) < (i2 : Int)) = true := by simp; omega
            have e2n : decide (j2 < i2) = true := by simpa using hgt
            have HE : Hid ((i2, d') = res) := Lib.hid (by have := HR2.out; rwa [if_pos hgt] at this)
            clear HR2
            go_wp2
            go_ret
            exact ⟨by rw [← HE.out]; rfl, by rw [← HE.out]; exact HWd.out⟩
          · have e2 : decide ((i2 : Int) > (j2 : Int)) = false := by simp; omega
            have e2' : decide ((j2 : Int) < (i2 : Int)) = false := by simp; omega
            have e2n : decide (j2 < i2) = false := by simpa using hgt
            have HR3 : Hid (partEqLoop ltU a (i2 + 1) (j2 - 1) (swp d' i2 j2) = res) := Lib.hid (by have := HR2.out; rwa [if_neg hgt] at this)
            have w1 : IntKind.i64.wrap ((j2 : Int) - 1) = ((j2 - 1 : Nat) : Int) := wrap_nat _ _ (by omega) (by omega)
            obtain ⟨jm, hjm⟩ : ∃ jm, jm = j2 - 1 := ⟨_, rfl⟩
            have hjm2 : jm + 1 = j2 := by omega
            have b6 : i2 < j2 := b5 (by omega)
            rw [← hjm] at HR3 w1
            have r0 : (0 : Int) ≤ (i2 : Int) := by omega
            have r1 : (i2 : Int) < (n : Int) := by omega
            have r2 : (0 : Int) ≤ (j2 : Int) := by omega
            have r3 : (j2 : Int) < (n : Int) := by omega
            have r4 : i2 + 1 ≤ 1000000001 := by omega
            clear HR2 hjm
            have HZ3 : Hid (n = (swp d' (i2) (j2)).size) := Lib.hid (by rw [SrtW.size_swp]; exact hZ.out)
            obtain ⟨d4, hd4⟩ : ∃ d3, d3 = swp d' (i2) (j2) := ⟨_, rfl⟩
            rw [← hd4] at HZ3
            have Hd4 := Lib.hid hd4
            clear hd4
            go_upto_region 8 with fail
            go_cut [] (fun wx => SrtW W0 blk off d4 wx)
            case first =>
              have h2 := HWd.out
              have d1 := h2.cell (i := i2) (by rw [← hZ.out]; omega)
              have d0 := h2.cell (i := j2) (by rw [← hZ.out]; omega)
              have g1 := h2.free (i := i2) (by rw [← hZ.out]; omega)
              have g0 := h2.free (i := j2) (by rw [← hZ.out]; omega)
              have p0 := (h2.put (i := i2) (by rw [← hZ.out]; omega) d'[j2]!).cell (i := j2) (by rw [Array.size_setIfInBounds, ← hZ.out]; omega)
              have HS_ := h2.drew.swap (i := i2) (j := j2) (by rw [← hZ.out]; omega) (by rw [← hZ.out]; omega)
              rw [← Hd4.out] at HS_
              replace HS_ := Lib.hid HS_
              clear h2
              generalize (Array.setIfInBounds d' (i2) d'[j2]!)[j2]! = z0 at *
              generalize d'[i2]! = x1 at *
              generalize d'[j2]! = x0 at *
              go_region_with (fail)
              all_goals
                go_wp2
                go_meet
                exact HS_.out
            case rest =>
              rename World => d4w
              have HWs := Lib.hid hcut
              clear hcut
              rw [← Hd4.out] at HR3
              clear Hd4
              go_wp2
              go_roundg (jm + 1 - (i2 + 1))
              case measure => omega
              case rel => exact ⟨i2 + 1, jm, d4, by omega, by omega, by omega, by omega, by go_num, by go_num, HR3, HZ3, HWs.out⟩
end Go.Proofs.Ytjbfjglomonanaa

/-
  CONTRACT OF slices.choosePivotOrdered at numbers of 32 bits: some place of the row.
-/

namespace Go.Proofs.Ytjbfjglomonanaa
open Go.RowKit Go.Sort
set_option linter.unusedVariables false
set_option linter.unusedSimpArgs false

/-- The row, and a count beside it. -/
structure SwpW (W0 : World) (blk off : Nat) (d : Array Nat) (sp m : Nat) (W : World) : Prop where
  row : SrtW W0 blk off d W
  new : W0.heap.size ≤ sp
  ne : sp ≠ blk
  cnt : ∃ x : Nat, x ≤ m ∧ W.heap[sp]? = some (.cells #[.int .i64 (x : Int)] 3 (0, 0))
theorem SrtW.other {W0 W : World} {blk off : Nat} {d : Array Nat} (h : SrtW W0 blk off d W) {sp : Nat} (hn : W0.heap.size ≤ sp) (hne : sp ≠ blk) (i : Nat) (v : Value) : SrtW W0 blk off d (W.setCell ⟨sp, i, none⟩ v) :=
  ⟨fun j hj => ⟨(World.cell?_of_block (a := ⟨blk, off + j, none⟩) (Below.heap_setCell _ _ _ _ (show blk ≠ sp from Ne.symm hne))).trans (h.holds j hj).1, by rw [World.frozen?_setCell]; exact (h.holds j hj).2⟩,
    ⟨h.turned.os, h.turned.tape, h.turned.output, by simpa [World.setCell] using h.turned.size, fun k hk hn2 => (Below.heap_setCell _ _ _ _ (show k ≠ sp by omega)).trans (h.turned.block k hk hn2)⟩⟩
theorem SwpW.drewN {W0 W : World} {blk off : Nat} {d : Array Nat} {sp m : Nat} (h : SwpW W0 blk off d sp m W) (k : Nat) : SwpW W0 blk off d sp m (W.drewN k) := ⟨h.row.drewN k, h.new, h.ne, h.cnt⟩
theorem SwpW.le {W0 W : World} {blk off : Nat} {d : Array Nat} {sp m m' : Nat} (h : SwpW W0 blk off d sp m W) (k : m ≤ m') : SwpW W0 blk off d sp m' W := ⟨h.row, h.new, h.ne, by obtain ⟨x, h1, h2⟩ := h.cnt; exact ⟨x, by omega, h2⟩⟩
set_option maxRecDepth 100000 in
set_option maxHeartbeats 4000000 in
theorem ord2_any {W0 W : World} {blk off : Nat} {d : Array Nat} {sp m : Nat} (h : SwpW W0 blk off d sp m W) (cap a b : Nat) (ha : a < d.size) (hb : b < d.size) (hn : d.size ≤ 1000000) (hm : m ≤ 1000) :
    Calls Try.prog 73 #[.slice (some ⟨blk, off, none⟩) d.size cap, .int .i64 (a : Int), .int .i64 (b : Int), .pointer (some ⟨sp, 0, none⟩)] W fun e w' => ∃ p q : Nat, e = .returned (.tuple #[.int .i64 (p : Int), .int .i64 (q : Int)]) ∧ ((p = a ∧ q = b) ∨ (p = b ∧ q = a)) ∧ SwpW W0 blk off d sp (m + 1) w' := by
  obtain ⟨n, hnn⟩ : ∃ n, n = d.size := ⟨_, rfl⟩
  have H := Lib.hid h
  have c1 := h.row.cell hb
  have c0 := h.row.cell ha
  rw [← hnn] at ha hb hn ⊢
  have q0 : (0 : Int) ≤ (a : Int) := by omega
  have q1 : (a : Int) < (n : Int) := by omega
  have q2 : (0 : Int) ≤ (b : Int) := by omega
  have q3 : (b : Int) < (n : Int) := by omega
  have HQ := Lib.hid (fun W => less_any d[b]! d[a]! W)
  clear h hnn
  cases hl : decide (d[b]! < d[a]!) with
  | false =>
    rw [hl] at HQ
    clear hl
    go_enter Try.func73, Try.ntmps73
    go_upto_region 1 with fail
    go_quiet ((go_at_call 61; exact Calls.quiet_of_same (HQ.out _)))
    go_wp2
    go_ret2
    exact ⟨a, b, by simp, .inl ⟨rfl, rfl⟩, (H.out.drewN _).le (by omega)⟩
  | true =>
    rw [hl] at HQ
    clear hl
    go_enter Try.func73, Try.ntmps73
    go_upto_region 1 with fail
    go_quiet ((go_at_call 61; exact Calls.quiet_of_same (HQ.out _)))
    have H2 := Lib.hid (H.out.drewN nq)
    generalize W.drewN nq = W2 at *
    obtain ⟨x, hx, hc⟩ := H2.out.cnt
    have x1 : W2.cell? ⟨sp, 0, none⟩ = some (.int .i64 (x : Int)) := cell_in hc rfl
    have x2 : W2.frozen? ⟨sp, 0, none⟩ = false := free_in hc 0
    have x3 : x + 1 ≤ 1000000001 := by omega
    have HE : Hid (SwpW W0 blk off d sp (m + 1) (W2.setCell ⟨sp, 0, none⟩ (.int .i64 ((x : Int) + 1)))) := Lib.hid ⟨H2.out.row.other H2.out.new H2.out.ne 0 _, H2.out.new, H2.out.ne, x + 1, by omega, heap_setCell_same W2 sp 0 _ _ _ hc⟩
    clear hc c1 c0
    go_wp2
    go_ret2
    exact ⟨b, a, by simp, .inr ⟨rfl, rfl⟩, HE.out⟩
set_option maxRecDepth 100000 in
set_option maxHeartbeats 4000000 in
theorem med_any {W0 W : World} {blk off : Nat} {d : Array Nat} {sp m : Nat} (h : SwpW W0 blk off d sp m W) (cap a b c : Nat) (ha : a < d.size) (hb : b < d.size) (hc : c < d.size) (hn : d.size ≤ 1000000) (hm : m ≤ 900) :
    Calls Try.prog 71 #[.slice (some ⟨blk, off, none⟩) d.size cap, .int .i64 (a : Int), .int .i64 (b : Int), .int .i64 (c : Int), .pointer (some ⟨sp, 0, none⟩)] W fun e w' => ∃ p : Nat, e = .returned (.int .i64 (p : Int)) ∧ (p = a ∨ p = b ∨ p = c) ∧ SwpW W0 blk off d sp (m + 3) w' := by
  have H1 : Hid (∀ (U : World) (k p q : Nat), SwpW W0 blk off d sp k U → k ≤ 1000 → p < d.size → q < d.size → Calls Try.prog 73 #[.slice (some ⟨blk, off, none⟩) d.size cap, .int .i64 (p : Int), .int .i64 (q : Int), .pointer (some ⟨sp, 0, none⟩)] U fun e w' => ∃ x y : Nat, e = .returned (.tuple #[.int .i64 (x : Int), .int .i64 (y : Int)]) ∧ ((x = p ∧ y = q) ∨ (x = q ∧ y = p)) ∧ SwpW W0 blk off d sp (k + 1) w') := Lib.hid (fun U k p q h1 h2 h3 h4 => ord2_any h1 cap p q h3 h4 hn h2)
  have H := Lib.hid h
  have HA := Lib.hid ha
  have HB := Lib.hid hb
  have HC := Lib.hid hc
  generalize d.size = n at *
  have HO1 := Lib.hid (H1.out W m a b H.out (by omega) ha hb)
  clear h ha hb hc
  go_enter Try.func71, Try.ntmps71
  go_upto_region 2 with (go_at_call 73; refine HO1.out.mono ?_; rintro e w1 ⟨a1, b1, rfl, h1, hw1⟩; replace h1 := Lib.hid h1; replace hw1 := Lib.hid hw1)
  have hb1 : b1 < n := by rcases h1.out with ⟨_, h⟩ | ⟨_, h⟩ <;> rw [h] <;> first | exact HA.out | exact HB.out
  have ha1 : a1 < n := by rcases h1.out with ⟨h, _⟩ | ⟨h, _⟩ <;> rw [h] <;> first | exact HA.out | exact HB.out
  have HO2 := Lib.hid (H1.out w1 (m + 1) b1 c hw1.out (by omega) hb1 HC.out)
  have HA1 := Lib.hid ha1
  have HB1 := Lib.hid hb1
  clear hb1 ha1
  go_upto_region 3 with (go_at_call 73; refine HO2.out.mono ?_; rintro e w2 ⟨b2, c2, rfl, h2, hw2⟩; replace h2 := Lib.hid h2; replace hw2 := Lib.hid hw2)
  have hb2 : b2 < n := by rcases h2.out with ⟨h, _⟩ | ⟨h, _⟩ <;> rw [h] <;> first | exact HB1.out | exact HC.out
  have HO3 := Lib.hid (H1.out w2 (m + 1 + 1) a1 b2 hw2.out (by omega) HA1.out hb2)
  clear hb2
  go_wp2_with (go_at_call 73; refine HO3.out.mono ?_; rintro e w3 ⟨a3, b3, rfl, h3, hw3⟩; replace h3 := Lib.hid h3; replace hw3 := Lib.hid hw3)
  go_ret
  refine ⟨b3, by simp, ?_, hw3.out⟩
  have h1 := h1.out
  have h2 := h2.out
  have h3 := h3.out
  omega
set_option maxRecDepth 100000 in
set_option maxHeartbeats 4000000 in
theorem medAdj_any {W0 W : World} {blk off : Nat} {d : Array Nat} {sp m : Nat} (h : SwpW W0 blk off d sp m W) (cap a : Nat) (ha : 0 < a) (hb : a + 1 < d.size) (hn : d.size ≤ 1000000) (hm : m ≤ 900) :
    Calls Try.prog 70 #[.slice (some ⟨blk, off, none⟩) d.size cap, .int .i64 (a : Int), .pointer (some ⟨sp, 0, none⟩)] W fun e w' => ∃ p : Nat, e = .returned (.int .i64 (p : Int)) ∧ (a - 1 ≤ p ∧ p ≤ a + 1) ∧ SwpW W0 blk off d sp (m + 3) w' := by
  obtain ⟨am, ham⟩ : ∃ am, am = a - 1 := ⟨_, rfl⟩
  have HM := Lib.hid (med_any h cap am a (a + 1) (by omega) (by omega) (by omega) hn hm)
  have hcc : ((a + 1 : Nat) : Int) = (a : Int) + 1 := by simp
  rw [hcc] at HM
  have v1 : IntKind.i64.wrap ((a : Int) - 1) = (am : Int) := wrap_nat _ _ (by omega) (by omega)
  have v2 : a + 1 ≤ 1000000001 := by omega
  have HP : Hid (∀ p, p = am ∨ p = a ∨ p = a + 1 → a - 1 ≤ p ∧ p ≤ a + 1) := Lib.hid (fun p hp => by omega)
  clear h ham hcc
  generalize d.size = n at *
  go_enter Try.func70, Try.ntmps70
  go_wp2_with (go_at_call 71; refine HM.out.mono ?_; rintro e w1 ⟨p, rfl, hp, hw1⟩; replace hp := Lib.hid hp; replace hw1 := Lib.hid hw1)
  go_ret
  exact ⟨p, by simp, HP.out p hp.out, hw1.out⟩
end Go.Proofs.Ytjbfjglomonanaa

