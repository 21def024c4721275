/-
  CONTRACTS OF slices.partitionEqualOrdered and slices.partitionOrdered at numbers of 32 bits: the scans.
-/
import Derived.Test.YtloonndeojfepaaUnSort4
import Derived.Deep.DeepCutAuto
import Derived.Sort.LotC
namespace Go.Proofs.Ytloonndeojfepaa
open Go.RowKit Go.Sort
set_option linter.unusedVariables false
set_option linter.unusedSimpArgs false

theorem up_go {p : Nat → Bool} {d : Array Nat} {i j : Nat} (h : i ≤ j) (hp : p d[i]! = true) : scanUp p d j i = scanUp p d j (i + 1) := by
  rw [scanUp, if_pos]
  rw [hp]
  simp
  exact h
theorem up_stop {p : Nat → Bool} {d : Array Nat} {i j : Nat} (h : ¬ (i ≤ j ∧ p d[i]! = true)) : scanUp p d j i = i := by
  rw [scanUp, if_neg]
  intro hh
  simp only [Bool.and_eq_true, decide_eq_true_eq] at hh
  exact h hh
theorem down_go {p : Nat → Bool} {d : Array Nat} {i j : Nat} (h0 : 0 < j) (h : i ≤ j) (hp : p d[j]! = true) : scanDown p d i j = scanDown p d i (j - 1) := by
  obtain ⟨m, rfl⟩ : ∃ m, j = m + 1 := ⟨j - 1, by omega⟩
  rw [scanDown, if_pos]
  · rfl
  · rw [hp]
    simp
    exact h
theorem down_stop {p : Nat → Bool} {d : Array Nat} {i j : Nat} (h : ¬ (i ≤ j ∧ p d[j]! = true)) : scanDown p d i j = j := by
  cases j with
  | zero => rfl
  | succ m =>
    rw [scanDown, if_neg]
    intro hh
    simp only [Bool.and_eq_true, decide_eq_true_eq] at hh
    exact h hh
theorem up_le (p : Nat → Bool) (d : Array Nat) (j : Nat) : ∀ (m i : Nat), j + 1 - i ≤ m → i ≤ j + 1 → scanUp p d j i ≤ j + 1
  | 0, i, hm, hi => by rw [up_stop (fun h => by omega)]; omega
  | m + 1, i, hm, hi => by
    by_cases h : i ≤ j ∧ p d[i]! = true
    · rw [up_go h.1 h.2]; exact up_le p d j m (i + 1) (by omega) (by omega)
    · rw [up_stop h]; omega
theorem down_ge (p : Nat → Bool) (d : Array Nat) (i : Nat) : ∀ j, i ≤ j + 1 → i ≤ scanDown p d i j + 1
  | 0, h => by rw [show scanDown p d i 0 = 0 from rfl]; exact h
  | m + 1, h => by
    by_cases hh : i ≤ m + 1 ∧ p d[m + 1]! = true
    · rw [down_go (by omega) hh.1 hh.2]; exact down_ge p d i m (by omega)
    · rw [down_stop hh]; exact h
theorem up_at (p : Nat → Bool) (d : Array Nat) (j : Nat) : ∀ (m i : Nat), j + 1 - i ≤ m → scanUp p d j i ≤ j → p d[scanUp p d j i]! = false
  | 0, i, hm, hi => by
    rw [up_stop (fun h => by omega)] at hi
    omega
  | m + 1, i, hm, hi => by
    by_cases h : i ≤ j ∧ p d[i]! = true
    · rw [up_go h.1 h.2] at hi ⊢
      exact up_at p d j m (i + 1) (by omega) hi
    · rw [up_stop h] at hi ⊢
      cases hp : p d[i]! with
      | false => rfl
      | true => exact absurd ⟨hi, hp⟩ h
theorem down_at (p : Nat → Bool) (d : Array Nat) (i : Nat) (hi : 0 < i) : ∀ j, i ≤ scanDown p d i j → p d[scanDown p d i j]! = false
  | 0, h => by rw [show scanDown p d i 0 = 0 from rfl] at h; omega
  | m + 1, h => by
    by_cases hh : i ≤ m + 1 ∧ p d[m + 1]! = true
    · rw [down_go (by omega) hh.1 hh.2] at h ⊢
      exact down_at p d i hi m h
    · rw [down_stop hh] at h ⊢
      cases hp : p d[m + 1]! with
      | false => rfl
      | true => exact absurd ⟨h, hp⟩ hh
theorem partEq_size (a : Nat) : ∀ (m i j : Nat) (d : Array Nat), j + 1 - i ≤ m → (partEqLoop ltU a i j d).2.size = d.size
  | m, i, j, d, hm => by
    rw [partEqLoop_eq]
    split
    · rfl
    · rename_i h
      have h2 := partEqLoop_guard ltU a i j d h
      cases m with
      | zero => omega
      | succ m => rw [partEq_size a m _ _ _ (by omega), SrtW.size_swp]
theorem part_size (a : Nat) : ∀ (m i j : Nat) (d : Array Nat), j + 1 - i ≤ m → (partLoop ltU a i j d).2.size = d.size
  | m, i, j, d, hm => by
    rw [partLoop_eq]
    split
    · rfl
    · rename_i h
      have h2 := partLoop_guard ltU a i j d h
      cases m with
      | zero => omega
      | succ m => rw [part_size a m _ _ _ (by omega), SrtW.size_swp]
set_option maxRecDepth 100000 in
set_option maxHeartbeats 4000000 in
theorem partEqU_any {W0 W : World} {blk off : Nat} {d : Array Nat} (h : SrtW W0 blk off d W) (cap a b p : Nat) (hb : b ≤ d.size) (hap : a ≤ p) (hpb : p < b) (hn : d.size ≤ 1000000) :
    Calls Try.prog 62 #[.slice (some ⟨blk, off, none⟩) d.size cap, .int .i64 (a : Int), .int .i64 (b : Int), .int .i64 (p : Int)] W fun e w' => e = .returned (.int .i64 ((partitionEqual ltU d a b p).1 : Int)) ∧ SrtW W0 blk off (partitionEqual ltU d a b p).2 w' := by
  obtain ⟨n, hnn⟩ : ∃ n, n = d.size := ⟨_, rfl⟩
  have HW := Lib.hid h
  have HR0 : Hid (partEqLoop ltU a (a + 1) (b - 1) (swp d a p) = partitionEqual ltU d a b p) := Lib.hid rfl
  have hZ := Lib.hid hnn
  generalize partitionEqual ltU d a b p = res at *
  rw [← hnn] at hb hn ⊢
  clear h hnn
  obtain ⟨c, rfl⟩ : ∃ c, b = c + 1 := ⟨b - 1, by omega⟩
  rw [Nat.add_sub_cancel] at HR0
  have v1 : IntKind.i64.wrap ((c : Int) + 1 - 1) = (c : Int) := wrap_nat _ _ (by omega) (by omega)
  have v2 : IntKind.i64.wrap (c : Int) = (c : Int) := IntWalk.i64_in _ (by omega)
  have va : a + 1 ≤ 1000000001 := by omega
  have q0 : (0 : Int) ≤ (a : Int) := by omega
  have q1 : (a : Int) < (n : Int) := by omega
  have q2 : (0 : Int) ≤ (p : Int) := by omega
  have q3 : (p : Int) < (n : Int) := by omega
  go_enter Try.func62, Try.ntmps62
  have HZ3 : Hid (n = (swp d (a) (p)).size) := Lib.hid (by rw [SrtW.size_swp]; exact hZ.out)
  obtain ⟨d3, hd3⟩ : ∃ d3, d3 = swp d (a) (p) := ⟨_, rfl⟩
  rw [← hd3] at HZ3
  have Hd3 := Lib.hid hd3
  clear hd3
  go_upto_region 1 with fail
  go_cut [] (fun wx => SrtW W0 blk off d3 wx)
  case first =>
    have h2 := HW.out
    have d1 := h2.cell (i := a) (by rw [← hZ.out]; omega)
    have d0 := h2.cell (i := p) (by rw [← hZ.out]; omega)
    have g1 := h2.free (i := a) (by rw [← hZ.out]; omega)
    have g0 := h2.free (i := p) (by rw [← hZ.out]; omega)
    have p0 := (h2.put (i := a) (by rw [← hZ.out]; omega) d[p]!).cell (i := p) (by rw [Array.size_setIfInBounds, ← hZ.out]; omega)
    have HS_ := h2.drew.swap (i := a) (j := p) (by rw [← hZ.out]; omega) (by rw [← hZ.out]; omega)
    rw [← Hd3.out] at HS_
    replace HS_ := Lib.hid HS_
    clear h2
    generalize (Array.setIfInBounds d (a) d[p]!)[p]! = z0 at *
    generalize d[a]! = x1 at *
    generalize d[p]! = x0 at *
    go_region_with (fail)
    all_goals
      go_wp2
      go_meet
      exact HS_.out
  case rest =>
    rename World => d3w
    have HWs := Lib.hid hcut
    clear hcut
    rw [← Hd3.out] at HR0
    clear Hd3 HW
    go_wp2
    go_loopg [9, 10] (c + 2) (fun g iv jv wr => ∃ (i j : Nat) (d' : Array Nat), j + 1 - i ≤ g ∧ a + 1 ≤ i ∧ i ≤ j + 1 ∧ j ≤ c ∧ iv = .int .i64 (i : Int) ∧ jv = .int .i64 (j : Int) ∧ Hid (partEqLoop ltU a i j d' = res) ∧ Hid (n = d'.size) ∧ SrtW W0 blk off d' wr)
    case atStart => exact ⟨a + 1, c, d3, by omega, by omega, by omega, by omega, by go_num, by go_num, HR0, HZ3, HWs.out⟩
    case round =>
      obtain ⟨i0, j, d', hg, hi, hij0, hj, rfl, rfl, hR, hZ, hW⟩ := hrel
      have HW := Lib.hid hW
      obtain ⟨i2, hi2⟩ : ∃ i2, i2 = scanUp (fun x => !ltU d'[a]! x) d' j i0 := ⟨_, rfl⟩
      obtain ⟨j2, hj2⟩ : ∃ j2, j2 = scanDown (fun x => ltU d'[a]! x) d' i2 j := ⟨_, rfl⟩
      have HU : Hid (scanUp (fun x => !ltU d'[a]! x) d' j i0 = i2) := Lib.hid hi2.symm
      have HV : Hid (scanDown (fun x => ltU d'[a]! x) d' i2 j = j2) := Lib.hid hj2.symm
      have b1 : i0 ≤ i2 := by rw [hi2]; exact scanUp_ge _ _ _ _
      have b2 : i2 ≤ j + 1 := by rw [hi2]; exact up_le _ _ _ _ _ (Nat.le_refl _) hij0
      have b3 : j2 ≤ j := by rw [hj2]; exact scanDown_le _ _ _ _
      have b4 : i2 ≤ j2 + 1 := by rw [hj2]; exact down_ge _ _ _ _ b2
      have b5 : i2 ≤ j2 → i2 < j2 := fun h => by
        have h1 := up_at (fun x => !ltU d'[a]! x) d' j _ i0 (Nat.le_refl _) (by rw [← hi2]; omega)
        have h2 := down_at (fun x => ltU d'[a]! x) d' i2 (by omega) j (by rw [← hj2]; exact h)
        rw [← hi2] at h1
        rw [← hj2] at h2
        by_cases e : i2 = j2
        · rw [e] at h1
          have h3 : (!ltU d'[a]! d'[j2]!) = false := h1
          rw [show ltU d'[a]! d'[j2]! = false from h2] at h3
          cases h3
        · omega
      have HR2 : Hid ((if i2 > j2 then (i2, d') else partEqLoop ltU a (i2 + 1) (j2 - 1) (swp d' i2 j2)) = res) := Lib.hid (by
        have := partEqLoop_eq ltU a i0 j d'
        rw [HU.out, HV.out] at this
        rw [← this]
        exact hR.out)
      clear hW hi2 hj2 hR
      rename World => wo
      go_step
      go_step
      go_cut [9] (fun sI wx => sI = .int .i64 (i2 : Int) ∧ SrtW W0 blk off d' wx)
      case first =>
        go_wp2
        go_loopg [9] (j + 2) (fun g iv wr => ∃ i' : Nat, j + 1 - i' ≤ g ∧ i0 ≤ i' ∧ i' ≤ j + 1 ∧ iv = .int .i64 (i' : Int) ∧ Hid (scanUp (fun x => !ltU d'[a]! x) d' j i' = i2) ∧ SrtW W0 blk off d' wr)
        case atStart => exact ⟨i0, by omega, Nat.le_refl _, by omega, rfl, HU, HW.out⟩
        case round =>
          obtain ⟨i', hg, h1, h2, rfl, hS, hW2⟩ := hrel
          have HW2 := Lib.hid hW2
          have w1 : i' + 1 ≤ 1000000001 := by omega
          by_cases hij : i' ≤ j
          · have e1 : decide ((i' : Int) ≤ (j : Int)) = true := by simp; omega
            have e1n : decide (i' ≤ j) = true := by simpa using hij
            have q0 : (0 : Int) ≤ (i' : Int) := by omega
            have q1 : (i' : Int) < (n : Int) := by omega
            have c1 := hW2.cell (i := i') (by rw [← hZ.out]; omega)
            have c0 := hW2.cell (i := a) (by rw [← hZ.out]; omega)
            have HQ := Lib.hid (fun W => less_any d'[a]! d'[i']! W)
            cases hl : decide (d'[a]! < d'[i']!) with
            | false =>
              rw [hl] at HQ
              have HS2 : Hid (scanUp (fun x => !ltU d'[a]! x) d' j (i' + 1) = i2) := Lib.hid (by rw [← up_go (p := fun x => !ltU d'[a]! x) hij (by show (!ltU d'[a]! d'[i']!) = true; rw [show ltU d'[a]! d'[i']! = false from hl] <;> rfl)]; exact hS.out)
              clear hW2 hS hl
              go_upto_region 3 with fail
              go_quiet ((go_at_call 61; exact Calls.quiet_of_same (HQ.out _)))
              go_wp2
              go_roundg (j + 1 - (i' + 1))
              case measure => omega
              case rel => exact ⟨i' + 1, by omega, by omega, by omega, by go_num, HS2, HW2.out.drewN _⟩
            | true =>
              rw [hl] at HQ
              have HE : Hid (i' = i2) := Lib.hid (by rw [← hS.out]; exact (up_stop (p := fun x => !ltU d'[a]! x) (fun h => by have h2 : (!ltU d'[a]! d'[i']!) = true := h.2; rw [show ltU d'[a]! d'[i']! = true from hl] at h2; cases h2)).symm)
              clear hW2 hS hl
              go_upto_region 3 with fail
              go_quiet ((go_at_call 61; exact Calls.quiet_of_same (HQ.out _)))
              go_wp2
              go_meet
              exact ⟨by rw [HE.out], HW2.out.drewN _⟩
          · have e1 : decide ((i' : Int) ≤ (j : Int)) = false := by simp; omega
            have e1n : decide (i' ≤ j) = false := by simpa using hij
            have HE : Hid (i' = i2) := Lib.hid (by rw [← hS.out]; exact (up_stop (p := fun x => !ltU d'[a]! x) (fun h => hij h.1)).symm)
            clear hW2 hS
            go_upto_region 3 with fail
            go_quiet (fail)
            go_wp2
            go_meet
            exact ⟨by rw [HE.out], HW2.out.drewN _⟩
      case rest =>
        obtain ⟨rfl, hcut⟩ := hcut
        have HWu := Lib.hid hcut
        clear hcut
        go_step
        go_step
        go_cut [10] (fun sJ wx => sJ = .int .i64 (j2 : Int) ∧ SrtW W0 blk off d' wx)
        case first =>
          go_wp2
          go_loopg [10] (j + 2) (fun g jv wr => ∃ j' : Nat, j' ≤ g ∧ j' ≤ j ∧ i2 ≤ j' + 1 ∧ jv = .int .i64 (j' : Int) ∧ Hid (scanDown (fun x => ltU d'[a]! x) d' i2 j' = j2) ∧ SrtW W0 blk off d' wr)
          case atStart => exact ⟨j, by omega, Nat.le_refl _, by omega, rfl, HV, HWu.out⟩
          case round =>
            obtain ⟨j', hg, h1, h2, rfl, hS, hW2⟩ := hrel
            have HW2 := Lib.hid hW2
            by_cases hij : i2 ≤ j'
            · have e1 : decide ((i2 : Int) ≤ (j' : Int)) = true := by simp; omega
              have e1n : decide (i2 ≤ j') = true := by simpa using hij
              have q0 : (0 : Int) ≤ (j' : Int) := by omega
              have q1 : (j' : Int) < (n : Int) := by omega
              have w1 : IntKind.i64.wrap ((j' : Int) - 1) = ((j' - 1 : Nat) : Int) := wrap_nat _ _ (by omega) (by omega)
              have c1 := hW2.cell (i := j') (by rw [← hZ.out]; omega)
              have c0 := hW2.cell (i := a) (by rw [← hZ.out]; omega)
              have HQ := Lib.hid (fun W => less_any d'[a]! d'[j']! W)
              cases hl : decide (d'[a]! < d'[j']!) with
              | true =>
                rw [hl] at HQ
                have HS2 : Hid (scanDown (fun x => ltU d'[a]! x) d' i2 (j' - 1) = j2) := Lib.hid (by rw [← down_go (p := fun x => ltU d'[a]! x) (by omega) hij (by show (ltU d'[a]! d'[j']!) = true; rw [show ltU d'[a]! d'[j']! = true from hl] <;> rfl)]; exact hS.out)
                obtain ⟨jm, hjm⟩ : ∃ jm, jm = j' - 1 := ⟨_, rfl⟩
                have hjm2 : jm + 1 = j' := by omega
                rw [← hjm] at HS2 w1
                clear hW2 hS hl hjm
                go_upto_region 5 with fail
                go_quiet ((go_at_call 61; exact Calls.quiet_of_same (HQ.out _)))
                go_wp2
                go_roundg jm
                case measure => omega
                case rel => exact ⟨jm, Nat.le_refl _, by omega, by omega, by go_num, HS2, HW2.out.drewN _⟩
              | false =>
                rw [hl] at HQ
                have HE : Hid (j' = j2) := Lib.hid (by rw [← hS.out]; exact (down_stop (p := fun x => ltU d'[a]! x) (fun h => by have h2 : (ltU d'[a]! d'[j']!) = true := h.2; rw [show ltU d'[a]! d'[j']! = false from hl] at h2; cases h2)).symm)
                clear hW2 hS hl
                go_upto_region 5 with fail
                go_quiet ((go_at_call 61; exact Calls.quiet_of_same (HQ.out _)))
                go_wp2
                go_meet
                exact ⟨by rw [HE.out], HW2.out.drewN _⟩
            · have e1 : decide ((i2 : Int) ≤ (j' : Int)) = false := by simp; omega
              have e1n : decide (i2 ≤ j') = false := by simpa using hij
              have HE : Hid (j' = j2) := Lib.hid (by rw [← hS.out]; exact (down_stop (p := fun x => ltU d'[a]! x) (fun h => hij h.1)).symm)
              clear hW2 hS
              go_upto_region 5 with fail
              go_quiet (fail)
              go_wp2
              go_meet
              exact ⟨by rw [HE.out], HW2.out.drewN _⟩
        case rest =>
          obtain ⟨rfl, hcut⟩ := hcut
          have HWd := Lib.hid hcut
          clear hcut HU HV
          by_cases hgt : j2 < i2
          · have e2 : decide ((i2 : Int) > (j2 : Int)) = true := by simp; omega
            have e2' : decide ((j2 : Int) < (i2 : Int)) = true := by simp; omega
            have e2n : decide (j2 < i2) = true := by simpa using hgt
            have HE : Hid ((i2, d') = res) := Lib.hid (by have := HR2.out; rwa [if_pos hgt] at this)
            clear HR2
            go_wp2
            go_ret
            exact ⟨by rw [← HE.out]; rfl, by rw [← HE.out]; exact HWd.out⟩
          · have e2 : decide ((i2 : Int) > (j2 : Int)) = false := by simp; omega
            have e2' : decide ((j2 : Int) < (i2 : Int)) = false := by simp; omega
            have e2n : decide (j2 < i2) = false := by simpa using hgt
            have HR3 : Hid (partEqLoop ltU a (i2 + 1) (j2 - 1) (swp d' i2 j2) = res) := Lib.hid (by have := HR2.out; rwa [if_neg hgt] at this)
            have w1 : IntKind.i64.wrap ((j2 : Int) - 1) = ((j2 - 1 : Nat) : Int) := wrap_nat _ _ (by omega) (by omega)
            obtain ⟨jm, hjm⟩ : ∃ jm, jm = j2 - 1 := ⟨_, rfl⟩
            have hjm2 : jm + 1 = j2 := by omega
            have b6 : i2 < j2 := b5 (by omega)
            rw [← hjm] at HR3 w1
            have r0 : (0 : Int) ≤ (i2 : Int) := by omega
            have r1 : (i2 : Int) < (n : Int) := by omega
            have r2 : (0 : Int) ≤ (j2 : Int) := by omega
            have r3 : (j2 : Int) < (n : Int) := by omega
            have r4 : i2 + 1 ≤ 1000000001 := by omega
            clear HR2 hjm
            have HZ3 : Hid (n = (swp d' (i2) (j2)).size) := Lib.hid (by rw [SrtW.size_swp]; exact hZ.out)
            obtain ⟨d4, hd4⟩ : ∃ d3, d3 = swp d' (i2) (j2) := ⟨_, rfl⟩
            rw [← hd4] at HZ3
            have Hd4 := Lib.hid hd4
            clear hd4
            go_upto_region 8 with fail
            go_cut [] (fun wx => SrtW W0 blk off d4 wx)
            case first =>
              have h2 := HWd.out
              have d1 := h2.cell (i := i2) (by rw [← hZ.out]; omega)
              have d0 := h2.cell (i := j2) (by rw [← hZ.out]; omega)
              have g1 := h2.free (i := i2) (by rw [← hZ.out]; omega)
              have g0 := h2.free (i := j2) (by rw [← hZ.out]; omega)
              have p0 := (h2.put (i := i2) (by rw [← hZ.out]; omega) d'[j2]!).cell (i := j2) (by rw [Array.size_setIfInBounds, ← hZ.out]; omega)
              have HS_ := h2.drew.swap (i := i2) (j := j2) (by rw [← hZ.out]; omega) (by rw [← hZ.out]; omega)
              rw [← Hd4.out] at HS_
              replace HS_ := Lib.hid HS_
              clear h2
              generalize (Array.setIfInBounds d' (i2) d'[j2]!)[j2]! = z0 at *
              generalize d'[i2]! = x1 at *
              generalize d'[j2]! = x0 at *
              go_region_with (fail)
              all_goals
                go_wp2
                go_meet
                exact HS_.out
            case rest =>
              rename World => d4w
              have HWs := Lib.hid hcut
              clear hcut
              rw [← Hd4.out] at HR3
              clear Hd4
              go_wp2
              go_roundg (jm + 1 - (i2 + 1))
              case measure => omega
              case rel => exact ⟨i2 + 1, jm, d4, by omega, by omega, by omega, by omega, by go_num, by go_num, HR3, HZ3, HWs.out⟩
end Go.Proofs.Ytloonndeojfepaa
