/-
  WHAT THE PROOF STANDS ON, a part of it: UnSort6.
-/
import Derived.Test.YtjbfjglomonanaaU10
/-
  CONTRACT OF slices.partitionOrdered at numbers of 32 bits.
-/

namespace Go.Proofs.Ytjbfjglomonanaa
open Go.RowKit Go.Sort
set_option linter.unusedVariables false
set_option linter.unusedSimpArgs false

theorem part_eq (d : Array Nat) (a b p : Nat) (i2 j2 : Nat) (h1 : scanUp (fun x => ltU x (swp d a p)[a]!) (swp d a p) (b - 1) (a + 1) = i2) (h2 : scanDown (fun x => !ltU x (swp d a p)[a]!) (swp d a p) i2 (b - 1) = j2) :
    partition ltU d a b p = if i2 > j2 then (j2, true, swp (swp d a p) j2 a) else ((partLoop ltU a (i2 + 1) (j2 - 1) (swp (swp d a p) i2 j2)).1, false, swp (partLoop ltU a (i2 + 1) (j2 - 1) (swp (swp d a p) i2 j2)).2 (partLoop ltU a (i2 + 1) (j2 - 1) (swp (swp d a p) i2 j2)).1 a) := by
  unfold partition
  simp only [h1, h2]
set_option maxRecDepth 100000 in
set_option maxHeartbeats 4000000 in
theorem partU_any {W0 W : World} {blk off : Nat} {d : Array Nat} (h : SrtW W0 blk off d W) (cap a b p : Nat) (hb : b ≤ d.size) (hap : a ≤ p) (hpb : p < b) (hn : d.size ≤ 1000000) :
    Calls Try.prog 63 #[.slice (some ⟨blk, off, none⟩) d.size cap, .int .i64 (a : Int), .int .i64 (b : Int), .int .i64 (p : Int)] W fun e w' => e = .returned (.tuple #[.int .i64 ((partition ltU d a b p).1 : Int), .bool (partition ltU d a b p).2.1]) ∧ SrtW W0 blk off (partition ltU d a b p).2.2 w' := by
  obtain ⟨n, hnn⟩ : ∃ n, n = d.size := ⟨_, rfl⟩
  have HW := Lib.hid h
  obtain ⟨d1, hd1⟩ : ∃ d1, d1 = swp d a p := ⟨_, rfl⟩
  have HP : Hid (∀ i2 j2, scanUp (fun x => ltU x d1[a]!) d1 (b - 1) (a + 1) = i2 → scanDown (fun x => !ltU x d1[a]!) d1 i2 (b - 1) = j2 → (if i2 > j2 then (j2, true, swp d1 j2 a) else ((partLoop ltU a (i2 + 1) (j2 - 1) (swp d1 i2 j2)).1, false, swp (partLoop ltU a (i2 + 1) (j2 - 1) (swp d1 i2 j2)).2 (partLoop ltU a (i2 + 1) (j2 - 1) (swp d1 i2 j2)).1 a)) = partition ltU d a b p) := Lib.hid (fun i2 j2 h1 h2 => by
    rw [hd1] at h1 h2 ⊢
    exact (part_eq d a b p i2 j2 h1 h2).symm)
  have HD1 := Lib.hid hd1
  have hZ := Lib.hid hnn
  generalize partition ltU d a b p = res at *
  rw [← hnn] at hb hn ⊢
  clear h hnn hd1
  obtain ⟨c, rfl⟩ : ∃ c, b = c + 1 := ⟨b - 1, by omega⟩
  rw [Nat.add_sub_cancel] at HP
  have v1 : IntKind.i64.wrap ((c : Int) + 1 - 1) = (c : Int) := wrap_nat _ _ (by omega) (by omega)
  have v2 : IntKind.i64.wrap (c : Int) = (c : Int) := IntWalk.i64_in _ (by omega)
  have va : a + 1 ≤ 1000000001 := by omega
  have q0 : (0 : Int) ≤ (a : Int) := by omega
  have q1 : (a : Int) < (n : Int) := by omega
  have q2 : (0 : Int) ≤ (p : Int) := by omega
  have q3 : (p : Int) < (n : Int) := by omega
  go_enter Try.func63, Try.ntmps63
  have HZ3 : Hid (n = (swp d (a) (p)).size) := Lib.hid (by rw [SrtW.size_swp]; exact hZ.out)
  obtain ⟨d3, hd3⟩ : ∃ d3, d3 = swp d (a) (p) := ⟨_, rfl⟩
  rw [← hd3] at HZ3
  have Hd3 := Lib.hid hd3
  clear hd3
  go_upto_region 1 with fail
  go_cut [] (fun wx => SrtW W0 blk off d3 wx)
  case first =>
    have h2 := HW.out
    have d1 := h2.cell (i := a) (by rw [← hZ.out]; omega)
    have d0 := h2.cell (i := p) (by rw [← hZ.out]; omega)
    have g1 := h2.free (i := a) (by rw [← hZ.out]; omega)
    have g0 := h2.free (i := p) (by rw [← hZ.out]; omega)
    have p0 := (h2.put (i := a) (by rw [← hZ.out]; omega) d[p]!).cell (i := p) (by rw [Array.size_setIfInBounds, ← hZ.out]; omega)
    have HS_ := h2.drew.swap (i := a) (j := p) (by rw [← hZ.out]; omega) (by rw [← hZ.out]; omega)
    rw [← Hd3.out] at HS_
    replace HS_ := Lib.hid HS_
    clear h2
    generalize (Array.setIfInBounds d (a) d[p]!)[p]! = z0 at *
    generalize d[a]! = x1 at *
    generalize d[p]! = x0 at *
    go_region_with (fail)
    all_goals
      go_wp2
      go_meet
      exact HS_.out
  case rest =>
    rename World => d3w
    have HWs := Lib.hid hcut
    clear hcut
    obtain ⟨d', hd'⟩ : ∃ d', d' = d1 := ⟨_, rfl⟩
    have HDd : Hid (d3 = d') := Lib.hid (by rw [hd', HD1.out]; exact Hd3.out)
    rw [← hd'] at HP
    rw [HDd.out] at HWs HZ3
    have hZ := HZ3
    have HW := HWs
    clear Hd3 HWs HZ3 hd' HDd
    obtain ⟨i0, hi0⟩ : ∃ i0, i0 = a + 1 := ⟨_, rfl⟩
    obtain ⟨j, hj⟩ : ∃ j, j = c := ⟨_, rfl⟩
    have hij0 : i0 ≤ j + 1 := by omega
    have hi : a + 1 ≤ i0 := by omega
    have hj9 : j ≤ c := by omega
    have hji : (a : Int) + 1 = (i0 : Int) := by omega
    obtain ⟨i2, hi2⟩ : ∃ i2, i2 = scanUp (fun x => ltU x d'[a]!) d' j i0 := ⟨_, rfl⟩
    obtain ⟨j2, hj2⟩ : ∃ j2, j2 = scanDown (fun x => !ltU x d'[a]!) d' i2 j := ⟨_, rfl⟩
    have HU : Hid (scanUp (fun x => ltU x d'[a]!) d' j i0 = i2) := Lib.hid hi2.symm
    have HV : Hid (scanDown (fun x => !ltU x d'[a]!) d' i2 j = j2) := Lib.hid hj2.symm
    have b1 : i0 ≤ i2 := by rw [hi2]; exact scanUp_ge _ _ _ _
    have b2 : i2 ≤ j + 1 := by rw [hi2]; exact up_le _ _ _ _ _ (Nat.le_refl _) hij0
    have b3 : j2 ≤ j := by rw [hj2]; exact scanDown_le _ _ _ _
    have b4 : i2 ≤ j2 + 1 := by rw [hj2]; exact down_ge _ _ _ _ b2
    have b5 : i2 ≤ j2 → i2 < j2 := fun h => by
      have h1 := up_at (fun x => ltU x d'[a]!) d' j _ i0 (Nat.le_refl _) (by rw [← hi2]; omega)
      have h2 := down_at (fun x => !ltU x d'[a]!) d' i2 (by omega) j (by rw [← hj2]; exact h)
      rw [← hi2] at h1
      rw [← hj2] at h2
      by_cases e : i2 = j2
      · rw [e] at h1
        have h3 : (!ltU d'[j2]! d'[a]!) = false := h2
        rw [show ltU d'[j2]! d'[a]! = false from h1] at h3
        cases h3
      · omega
    have HP2 := Lib.hid (HP.out i2 j2 (by rw [← hi0, ← hj]; exact HU.out) (by rw [← hj]; exact HV.out))
    have HJ : Hid ((c : Int) = (j : Int) ∧ (a : Int) + 1 = (i0 : Int)) := Lib.hid ⟨by omega, by omega⟩
    have hjn : j < n := by omega
    clear HP hi2 hj2 hj hi0 hji
    go_upto_region 2 with fail
    go_cut [10, 11] (fun s10 s11 wx => s10 = .int .i64 (i0 : Int) ∧ s11 = .int .i64 (j : Int) ∧ SrtW W0 blk off d' wx)
    case first =>
      go_wp2
      go_meet
      exact ⟨by rw [← HJ.out.2], by rw [← HJ.out.1], HW.out⟩
    case rest =>
      obtain ⟨rfl, rfl, hcut⟩ := hcut
      replace HW := Lib.hid hcut
      clear hcut HJ
      go_step
      go_step
      go_cut [10] (fun sI wx => sI = .int .i64 (i2 : Int) ∧ SrtW W0 blk off d' wx)
      case first =>
        go_wp2
        go_loopg [10] (j + 2) (fun g iv wr => ∃ i' : Nat, j + 1 - i' ≤ g ∧ i0 ≤ i' ∧ i' ≤ j + 1 ∧ iv = .int .i64 (i' : Int) ∧ Hid (scanUp (fun x => ltU x d'[a]!) d' j i' = i2) ∧ SrtW W0 blk off d' wr)
        case atStart => exact ⟨i0, by omega, Nat.le_refl _, by omega, rfl, HU, HW.out⟩
        case round =>
          obtain ⟨i', hg, h1, h2, rfl, hS, hW2⟩ := hrel
          have HW2 := Lib.hid hW2
          have w1 : i' + 1 ≤ 1000000001 := by omega
          by_cases hij : i' ≤ j
          · have e1 : decide ((i' : Int) ≤ (j : Int)) = true := by simp; omega
            have e1n : decide (i' ≤ j) = true := by simpa using hij
            have q0 : (0 : Int) ≤ (i' : Int) := by omega
            have q1 : (i' : Int) < (n : Int) := by omega
            have c1 := hW2.cell (i := i') (by rw [← hZ.out]; omega)
            have c0 := hW2.cell (i := a) (by rw [← hZ.out]; omega)
            have HQ := Lib.hid (fun W => less_any d'[i']! d'[a]! W)
            cases hl : decide (d'[i']! < d'[a]!) with
            | true =>
              rw [hl] at HQ
              have HS2 : Hid (scanUp (fun x => ltU x d'[a]!) d' j (i' + 1) = i2) := Lib.hid (by rw [← up_go (p := fun x => ltU x d'[a]!) hij (by show (ltU d'[i']! d'[a]!) = true; rw [show ltU d'[i']! d'[a]! = true from hl] <;> rfl)]; exact hS.out)
              clear hW2 hS hl
              go_upto_region 3 with fail
              go_quiet ((go_at_call 61; exact Calls.quiet_of_same (HQ.out _)))
              go_wp2
              go_roundg (j + 1 - (i' + 1))
              case measure => omega
              case rel => exact ⟨i' + 1, by omega, by omega, by omega, by go_num, HS2, HW2.out.drewN _⟩
            | false =>
              rw [hl] at HQ
              have HE : Hid (i' = i2) := Lib.hid (by rw [← hS.out]; exact (up_stop (p := fun x => ltU x d'[a]!) (fun h => by have h2 : (ltU d'[i']! d'[a]!) = true := h.2; rw [show ltU d'[i']! d'[a]! = false from hl] at h2; cases h2)).symm)
              clear hW2 hS hl
              go_upto_region 3 with fail
              go_quiet ((go_at_call 61; exact Calls.quiet_of_same (HQ.out _)))
              go_wp2
              go_meet
              exact ⟨by rw [HE.out], HW2.out.drewN _⟩
          · have e1 : decide ((i' : Int) ≤ (j : Int)) = false := by simp; omega
            have e1n : decide (i' ≤ j) = false := by simpa using hij
            have HE : Hid (i' = i2) := Lib.hid (by rw [← hS.out]; exact (up_stop (p := fun x => ltU x d'[a]!) (fun h => hij h.1)).symm)
            clear hW2 hS
            go_upto_region 3 with fail
            go_quiet (fail)
            go_wp2
            go_meet
            exact ⟨by rw [HE.out], HW2.out.drewN _⟩
      case rest =>
        obtain ⟨rfl, hcut⟩ := hcut
        have HWu := Lib.hid hcut
        clear hcut
        go_step
        go_step
        go_cut [11] (fun sJ wx => sJ = .int .i64 (j2 : Int) ∧ SrtW W0 blk off d' wx)
        case first =>
          go_wp2
          go_loopg [11] (j + 2) (fun g jv wr => ∃ j' : Nat, j' ≤ g ∧ j' ≤ j ∧ i2 ≤ j' + 1 ∧ jv = .int .i64 (j' : Int) ∧ Hid (scanDown (fun x => !ltU x d'[a]!) d' i2 j' = j2) ∧ SrtW W0 blk off d' wr)
          case atStart => exact ⟨j, by omega, Nat.le_refl _, by omega, rfl, HV, HWu.out⟩
          case round =>
            obtain ⟨j', hg, h1, h2, rfl, hS, hW2⟩ := hrel
            have HW2 := Lib.hid hW2
            by_cases hij : i2 ≤ j'
            · have e1 : decide ((i2 : Int) ≤ (j' : Int)) = true := by simp; omega
              have e1n : decide (i2 ≤ j') = true := by simpa using hij
              have q0 : (0 : Int) ≤ (j' : Int) := by omega
              have q1 : (j' : Int) < (n : Int) := by omega
              have w1 : IntKind.i64.wrap ((j' : Int) - 1) = ((j' - 1 : Nat) : Int) := wrap_nat _ _ (by omega) (by omega)
              have c1 := hW2.cell (i := j') (by rw [← hZ.out]; omega)
              have c0 := hW2.cell (i := a) (by rw [← hZ.out]; omega)
              have HQ := Lib.hid (fun W => less_any d'[j']! d'[a]! W)
              cases hl : decide (d'[j']! < d'[a]!) with
              | false =>
                rw [hl] at HQ
                have HS2 : Hid (scanDown (fun x => !ltU x d'[a]!) d' i2 (j' - 1) = j2) := Lib.hid (by rw [← down_go (p := fun x => !ltU x d'[a]!) (by omega) hij (by show (!ltU d'[j']! d'[a]!) = true; rw [show ltU d'[j']! d'[a]! = false from hl] <;> rfl)]; exact hS.out)
                obtain ⟨jm, hjm⟩ : ∃ jm, jm = j' - 1 := ⟨_, rfl⟩
                have hjm2 : jm + 1 = j' := by omega
                rw [← hjm] at HS2 w1
                clear hW2 hS hl hjm
                go_upto_region 5 with fail
                go_quiet ((go_at_call 61; exact Calls.quiet_of_same (HQ.out _)))
                go_wp2
                go_roundg jm
                case measure => omega
                case rel => exact ⟨jm, Nat.le_refl _, by omega, by omega, by go_num, HS2, HW2.out.drewN _⟩
              | true =>
                rw [hl] at HQ
                have HE : Hid (j' = j2) := Lib.hid (by rw [← hS.out]; exact (down_stop (p := fun x => !ltU x d'[a]!) (fun h => by have h2 : (!ltU d'[j']! d'[a]!) = true := h.2; rw [show ltU d'[j']! d'[a]! = true from hl] at h2; cases h2)).symm)
                clear hW2 hS hl
                go_upto_region 5 with fail
                go_quiet ((go_at_call 61; exact Calls.quiet_of_same (HQ.out _)))
                go_wp2
                go_meet
                exact ⟨by rw [HE.out], HW2.out.drewN _⟩
            · have e1 : decide ((i2 : Int) ≤ (j' : Int)) = false := by simp; omega
              have e1n : decide (i2 ≤ j') = false := by simpa using hij
              have HE : Hid (j' = j2) := Lib.hid (by rw [← hS.out]; exact (down_stop (p := fun x => !ltU x d'[a]!) (fun h => hij h.1)).symm)
              clear hW2 hS
              go_upto_region 5 with fail
              go_quiet (fail)
              go_wp2
              go_meet
              exact ⟨by rw [HE.out], HW2.out.drewN _⟩
        case rest =>
          obtain ⟨rfl, hcut⟩ := hcut
          have HWd := Lib.hid hcut
          clear hcut HU HV
          have r2 : (0 : Int) ≤ (j2 : Int) := by omega
          have r3 : (j2 : Int) < (n : Int) := by omega
          by_cases hgt : j2 < i2
          · have e2 : decide ((i2 : Int) > (j2 : Int)) = true := by simp; omega
            have e2' : decide ((j2 : Int) < (i2 : Int)) = true := by simp; omega
            have e2n : decide (j2 < i2) = true := by simpa using hgt
            have HE : Hid ((j2, true, swp d' j2 a) = res) := Lib.hid (by have := HP2.out; rwa [if_pos hgt] at this)
            clear HP2
            have HZ3 : Hid (n = (swp d' (j2) (a)).size) := Lib.hid (by rw [SrtW.size_swp]; exact hZ.out)
            obtain ⟨d4, hd4⟩ : ∃ d3, d3 = swp d' (j2) (a) := ⟨_, rfl⟩
            rw [← hd4] at HZ3
            have Hd4 := Lib.hid hd4
            clear hd4
            go_upto_region 8 with fail
            go_cut [] (fun wx => SrtW W0 blk off d4 wx)
            case first =>
              have h2 := HWd.out
              have d1 := h2.cell (i := j2) (by rw [← hZ.out]; omega)
              have d0 := h2.cell (i := a) (by rw [← hZ.out]; omega)
              have g1 := h2.free (i := j2) (by rw [← hZ.out]; omega)
              have g0 := h2.free (i := a) (by rw [← hZ.out]; omega)
              have p0 := (h2.put (i := j2) (by rw [← hZ.out]; omega) d'[a]!).cell (i := a) (by rw [Array.size_setIfInBounds, ← hZ.out]; omega)
              have HS_ := h2.drew.swap (i := j2) (j := a) (by rw [← hZ.out]; omega) (by rw [← hZ.out]; omega)
              rw [← Hd4.out] at HS_
              replace HS_ := Lib.hid HS_
              clear h2
              generalize (Array.setIfInBounds d' (j2) d'[a]!)[a]! = z0 at *
              generalize d'[j2]! = x1 at *
              generalize d'[a]! = x0 at *
              go_region_with (fail)
              all_goals
                go_wp2
                go_meet
                exact HS_.out
            case rest =>
              rename World => d4w
              have HWs := Lib.hid hcut
              clear hcut
              have HE2 : Hid ((j2, true, d4) = res) := Lib.hid (by rw [Hd4.out]; exact HE.out)
              clear HE Hd4
              go_wp2
              go_ret2
              exact ⟨by rw [← HE2.out]; rfl, by rw [← HE2.out]; exact HWs.out⟩
          · have e2 : decide ((i2 : Int) > (j2 : Int)) = false := by simp; omega
            have e2' : decide ((j2 : Int) < (i2 : Int)) = false := by simp; omega
            have e2n : decide (j2 < i2) = false := by simpa using hgt
            have hres : ((partLoop ltU a (i2 + 1) (j2 - 1) (swp d' i2 j2)).1, false, swp (partLoop ltU a (i2 + 1) (j2 - 1) (swp d' i2 j2)).2 (partLoop ltU a (i2 + 1) (j2 - 1) (swp d' i2 j2)).1 a) = res := (by have := HP2.out; rwa [if_neg hgt] at this)
            have w1 : IntKind.i64.wrap ((j2 : Int) - 1) = ((j2 - 1 : Nat) : Int) := wrap_nat _ _ (by omega) (by omega)
            obtain ⟨jm, hjm⟩ : ∃ jm, jm = j2 - 1 := ⟨_, rfl⟩
            have hjm2 : jm + 1 = j2 := by omega
            have b6 : i2 < j2 := b5 (by omega)
            rw [← hjm] at hres w1
            obtain ⟨lr, hlr⟩ : ∃ lr, lr = partLoop ltU a (i2 + 1) jm (swp d' i2 j2) := ⟨_, rfl⟩
            rw [← hlr] at hres
            have HLr : Hid (partLoop ltU a (i2 + 1) jm (swp d' i2 j2) = lr) := Lib.hid hlr.symm
            have HRes := Lib.hid hres
            have r0 : (0 : Int) ≤ (i2 : Int) := by omega
            have r1 : (i2 : Int) < (n : Int) := by omega
            have r4 : i2 + 1 ≤ 1000000001 := by omega
            clear HP2 hjm hres hlr
            have HZ3 : Hid (n = (swp d' (i2) (j2)).size) := Lib.hid (by rw [SrtW.size_swp]; exact hZ.out)
            obtain ⟨d4, hd4⟩ : ∃ d3, d3 = swp d' (i2) (j2) := ⟨_, rfl⟩
            rw [← hd4] at HZ3
            have Hd4 := Lib.hid hd4
            clear hd4
            go_upto_region 10 with fail
            go_cut [] (fun wx => SrtW W0 blk off d4 wx)
            case first =>
              have h2 := HWd.out
              have d1 := h2.cell (i := i2) (by rw [← hZ.out]; omega)
              have d0 := h2.cell (i := j2) (by rw [← hZ.out]; omega)
              have g1 := h2.free (i := i2) (by rw [← hZ.out]; omega)
              have g0 := h2.free (i := j2) (by rw [← hZ.out]; omega)
              have p0 := (h2.put (i := i2) (by rw [← hZ.out]; omega) d'[j2]!).cell (i := j2) (by rw [Array.size_setIfInBounds, ← hZ.out]; omega)
              have HS_ := h2.drew.swap (i := i2) (j := j2) (by rw [← hZ.out]; omega) (by rw [← hZ.out]; omega)
              rw [← Hd4.out] at HS_
              replace HS_ := Lib.hid HS_
              clear h2
              generalize (Array.setIfInBounds d' (i2) d'[j2]!)[j2]! = z0 at *
              generalize d'[i2]! = x1 at *
              generalize d'[j2]! = x0 at *
              go_region_with (fail)
              all_goals
                go_wp2
                go_meet
                exact HS_.out
            case rest =>
              rename World => d4w
              have HWs := Lib.hid hcut
              clear hcut
              rw [← Hd4.out] at HLr
              clear Hd4
              go_wp2
              go_loopg [10, 11] (c + 2) (fun g iv jv wr => ∃ (i j : Nat) (d' : Array Nat), j + 1 - i ≤ g ∧ a + 1 ≤ i ∧ i ≤ j + 1 ∧ j ≤ c ∧ iv = .int .i64 (i : Int) ∧ jv = .int .i64 (j : Int) ∧ Hid (partLoop ltU a i j d' = lr) ∧ Hid (n = d'.size) ∧ SrtW W0 blk off d' wr)
              case atStart => exact ⟨i2 + 1, jm, d4, by omega, by omega, by omega, by omega, by go_num, by go_num, HLr, HZ3, HWs.out⟩
              case round =>
                clear e2 e2' e2n w1 r0 r1 r2 r3 r4 b1 b2 b3 b4 b5 b6 hgt hjm2 hij0 hi hj9 hjn HZ3 hZ HW HWu HWd HWs HLr
                obtain ⟨i0, j, d', hg, hi, hij0, hj, rfl, rfl, hR, hZ, hW⟩ := hrel
                have HW := Lib.hid hW
                obtain ⟨i2, hi2⟩ : ∃ i2, i2 = scanUp (fun x => ltU x d'[a]!) d' j i0 := ⟨_, rfl⟩
                obtain ⟨j2, hj2⟩ : ∃ j2, j2 = scanDown (fun x => !ltU x d'[a]!) d' i2 j := ⟨_, rfl⟩
                have HU : Hid (scanUp (fun x => ltU x d'[a]!) d' j i0 = i2) := Lib.hid hi2.symm
                have HV : Hid (scanDown (fun x => !ltU x d'[a]!) d' i2 j = j2) := Lib.hid hj2.symm
                have b1 : i0 ≤ i2 := by rw [hi2]; exact scanUp_ge _ _ _ _
                have b2 : i2 ≤ j + 1 := by rw [hi2]; exact up_le _ _ _ _ _ (Nat.le_refl _) hij0
                have b3 : j2 ≤ j := by rw [hj2]; exact scanDown_le _ _ _ _
                have b4 : i2 ≤ j2 + 1 := by rw [hj2]; exact down_ge _ _ _ _ b2
                have b5 : i2 ≤ j2 → i2 < j2 := fun h => by
                  have h1 := up_at (fun x => ltU x d'[a]!) d' j _ i0 (Nat.le_refl _) (by rw [← hi2]; omega)
                  have h2 := down_at (fun x => !ltU x d'[a]!) d' i2 (by omega) j (by rw [← hj2]; exact h)
                  rw [← hi2] at h1
                  rw [← hj2] at h2
                  by_cases e : i2 = j2
                  · rw [e] at h1
                    have h3 : (!ltU d'[j2]! d'[a]!) = false := h2
                    rw [show ltU d'[j2]! d'[a]! = false from h1] at h3
                    cases h3
                  · omega
                have HR2 : Hid ((if i2 > j2 then (j2, d') else partLoop ltU a (i2 + 1) (j2 - 1) (swp d' i2 j2)) = lr) := Lib.hid (by
                  have := partLoop_eq ltU a i0 j d'
                  rw [HU.out, HV.out] at this
                  rw [← this]
                  exact hR.out)
                clear hW hi2 hj2 hR
                rename World => wo
                go_step
                go_step
                go_cut [10] (fun sI wx => sI = .int .i64 (i2 : Int) ∧ SrtW W0 blk off d' wx)
                case first =>
                  go_wp2
                  go_loopg [10] (j + 2) (fun g iv wr => ∃ i' : Nat, j + 1 - i' ≤ g ∧ i0 ≤ i' ∧ i' ≤ j + 1 ∧ iv = .int .i64 (i' : Int) ∧ Hid (scanUp (fun x => ltU x d'[a]!) d' j i' = i2) ∧ SrtW W0 blk off d' wr)
                  case atStart => exact ⟨i0, by omega, Nat.le_refl _, by omega, rfl, HU, HW.out⟩
                  case round =>
                    obtain ⟨i', hg, h1, h2, rfl, hS, hW2⟩ := hrel
                    have HW2 := Lib.hid hW2
                    have w1 : i' + 1 ≤ 1000000001 := by omega
                    by_cases hij : i' ≤ j
                    · have e1 : decide ((i' : Int) ≤ (j : Int)) = true := by simp; omega
                      have e1n : decide (i' ≤ j) = true := by simpa using hij
                      have q0 : (0 : Int) ≤ (i' : Int) := by omega
                      have q1 : (i' : Int) < (n : Int) := by omega
                      have c1 := hW2.cell (i := i') (by rw [← hZ.out]; omega)
                      have c0 := hW2.cell (i := a) (by rw [← hZ.out]; omega)
                      have HQ := Lib.hid (fun W => less_any d'[i']! d'[a]! W)
                      cases hl : decide (d'[i']! < d'[a]!) with
                      | true =>
                        rw [hl] at HQ
                        have HS2 : Hid (scanUp (fun x => ltU x d'[a]!) d' j (i' + 1) = i2) := Lib.hid (by rw [← up_go (p := fun x => ltU x d'[a]!) hij (by show (ltU d'[i']! d'[a]!) = true; rw [show ltU d'[i']! d'[a]! = true from hl] <;> rfl)]; exact hS.out)
                        clear hW2 hS hl
                        go_upto_region 13 with fail
                        go_quiet ((go_at_call 61; exact Calls.quiet_of_same (HQ.out _)))
                        go_wp2
                        go_roundg (j + 1 - (i' + 1))
                        case measure => omega
                        case rel => exact ⟨i' + 1, by omega, by omega, by omega, by go_num, HS2, HW2.out.drewN _⟩
                      | false =>
                        rw [hl] at HQ
                        have HE : Hid (i' = i2) := Lib.hid (by rw [← hS.out]; exact (up_stop (p := fun x => ltU x d'[a]!) (fun h => by have h2 : (ltU d'[i']! d'[a]!) = true := h.2; rw [show ltU d'[i']! d'[a]! = false from hl] at h2; cases h2)).symm)
                        clear hW2 hS hl
                        go_upto_region 13 with fail
                        go_quiet ((go_at_call 61; exact Calls.quiet_of_same (HQ.out _)))
                        go_wp2
                        go_meet
                        exact ⟨by rw [HE.out], HW2.out.drewN _⟩
                    · have e1 : decide ((i' : Int) ≤ (j : Int)) = false := by simp; omega
                      have e1n : decide (i' ≤ j) = false := by simpa using hij
                      have HE : Hid (i' = i2) := Lib.hid (by rw [← hS.out]; exact (up_stop (p := fun x => ltU x d'[a]!) (fun h => hij h.1)).symm)
                      clear hW2 hS
                      go_upto_region 13 with fail
                      go_quiet (fail)
                      go_wp2
                      go_meet
                      exact ⟨by rw [HE.out], HW2.out.drewN _⟩
                case rest =>
                  obtain ⟨rfl, hcut⟩ := hcut
                  have HWu := Lib.hid hcut
                  clear hcut
                  go_step
                  go_step
                  go_cut [11] (fun sJ wx => sJ = .int .i64 (j2 : Int) ∧ SrtW W0 blk off d' wx)
                  case first =>
                    go_wp2
                    go_loopg [11] (j + 2) (fun g jv wr => ∃ j' : Nat, j' ≤ g ∧ j' ≤ j ∧ i2 ≤ j' + 1 ∧ jv = .int .i64 (j' : Int) ∧ Hid (scanDown (fun x => !ltU x d'[a]!) d' i2 j' = j2) ∧ SrtW W0 blk off d' wr)
                    case atStart => exact ⟨j, by omega, Nat.le_refl _, by omega, rfl, HV, HWu.out⟩
                    case round =>
                      obtain ⟨j', hg, h1, h2, rfl, hS, hW2⟩ := hrel
                      have HW2 := Lib.hid hW2
                      by_cases hij : i2 ≤ j'
                      · have e1 : decide ((i2 : Int) ≤ (j' : Int)) = true := by simp; omega
                        have e1n : decide (i2 ≤ j') = true := by simpa using hij
                        have q0 : (0 : Int) ≤ (j' : Int) := by omega
                        have q1 : (j' : Int) < (n : Int) := by omega
                        have w1 : IntKind.i64.wrap ((j' : Int) - 1) = ((j' - 1 : Nat) : Int) := wrap_nat _ _ (by omega) (by omega)
                        have c1 := hW2.cell (i := j') (by rw [← hZ.out]; omega)
                        have c0 := hW2.cell (i := a) (by rw [← hZ.out]; omega)
                        have HQ := Lib.hid (fun W => less_any d'[j']! d'[a]! W)
                        cases hl : decide (d'[j']! < d'[a]!) with
                        | false =>
                          rw [hl] at HQ
                          have HS2 : Hid (scanDown (fun x => !ltU x d'[a]!) d' i2 (j' - 1) = j2) := Lib.hid (by rw [← down_go (p := fun x => !ltU x d'[a]!) (by omega) hij (by show (!ltU d'[j']! d'[a]!) = true; rw [show ltU d'[j']! d'[a]! = false from hl] <;> rfl)]; exact hS.out)
                          obtain ⟨jm, hjm⟩ : ∃ jm, jm = j' - 1 := ⟨_, rfl⟩
                          have hjm2 : jm + 1 = j' := by omega
                          rw [← hjm] at HS2 w1
                          clear hW2 hS hl hjm
                          go_upto_region 15 with fail
                          go_quiet ((go_at_call 61; exact Calls.quiet_of_same (HQ.out _)))
                          go_wp2
                          go_roundg jm
                          case measure => omega
                          case rel => exact ⟨jm, Nat.le_refl _, by omega, by omega, by go_num, HS2, HW2.out.drewN _⟩
                        | true =>
                          rw [hl] at HQ
                          have HE : Hid (j' = j2) := Lib.hid (by rw [← hS.out]; exact (down_stop (p := fun x => !ltU x d'[a]!) (fun h => by have h2 : (!ltU d'[j']! d'[a]!) = true := h.2; rw [show ltU d'[j']! d'[a]! = true from hl] at h2; cases h2)).symm)
                          clear hW2 hS hl
                          go_upto_region 15 with fail
                          go_quiet ((go_at_call 61; exact Calls.quiet_of_same (HQ.out _)))
                          go_wp2
                          go_meet
                          exact ⟨by rw [HE.out], HW2.out.drewN _⟩
                      · have e1 : decide ((i2 : Int) ≤ (j' : Int)) = false := by simp; omega
                        have e1n : decide (i2 ≤ j') = false := by simpa using hij
                        have HE : Hid (j' = j2) := Lib.hid (by rw [← hS.out]; exact (down_stop (p := fun x => !ltU x d'[a]!) (fun h => hij h.1)).symm)
                        clear hW2 hS
                        go_upto_region 15 with fail
                        go_quiet (fail)
                        go_wp2
                        go_meet
                        exact ⟨by rw [HE.out], HW2.out.drewN _⟩
                  case rest =>
                    obtain ⟨rfl, hcut⟩ := hcut
                    have HWd := Lib.hid hcut
                    clear hcut HU HV
                    have r2 : (0 : Int) ≤ (j2 : Int) := by omega
                    have r3 : (j2 : Int) < (n : Int) := by omega
                    by_cases hgt : j2 < i2
                    · have e2 : decide ((i2 : Int) > (j2 : Int)) = true := by simp; omega
                      have e2' : decide ((j2 : Int) < (i2 : Int)) = true := by simp; omega
                      have e2n : decide (j2 < i2) = true := by simpa using hgt
                      have HE : Hid ((j2, false, swp d' j2 a) = res) := Lib.hid (by
                        have h9 : (j2, d') = lr := by have := HR2.out; rwa [if_pos hgt] at this
                        rw [← HRes.out, ← h9])
                      clear HR2 HRes
                      have HZ3 : Hid (n = (swp d' (j2) (a)).size) := Lib.hid (by rw [SrtW.size_swp]; exact hZ.out)
                      obtain ⟨d4, hd4⟩ : ∃ d3, d3 = swp d' (j2) (a) := ⟨_, rfl⟩
                      rw [← hd4] at HZ3
                      have Hd4 := Lib.hid hd4
                      clear hd4
                      go_upto_region 21 with fail
                      go_cut [] (fun wx => SrtW W0 blk off d4 wx)
                      case first =>
                        have h2 := HWd.out
                        have d1 := h2.cell (i := j2) (by rw [← hZ.out]; omega)
                        have d0 := h2.cell (i := a) (by rw [← hZ.out]; omega)
                        have g1 := h2.free (i := j2) (by rw [← hZ.out]; omega)
                        have g0 := h2.free (i := a) (by rw [← hZ.out]; omega)
                        have p0 := (h2.put (i := j2) (by rw [← hZ.out]; omega) d'[a]!).cell (i := a) (by rw [Array.size_setIfInBounds, ← hZ.out]; omega)
                        have HS_ := h2.drew.swap (i := j2) (j := a) (by rw [← hZ.out]; omega) (by rw [← hZ.out]; omega)
                        rw [← Hd4.out] at HS_
                        replace HS_ := Lib.hid HS_
                        clear h2
                        generalize (Array.setIfInBounds d' (j2) d'[a]!)[a]! = z0 at *
                        generalize d'[j2]! = x1 at *
                        generalize d'[a]! = x0 at *
                        go_region_with (fail)
                        all_goals
                          go_wp2
                          go_meet
                          exact HS_.out
                      case rest =>
                        rename World => d4w
                        have HWs := Lib.hid hcut
                        clear hcut
                        have HE2 : Hid ((j2, false, d4) = res) := Lib.hid (by rw [Hd4.out]; exact HE.out)
                        clear HE Hd4
                        go_wp2
                        go_ret2
                        exact ⟨by rw [← HE2.out]; rfl, by rw [← HE2.out]; exact HWs.out⟩
                    · have e2 : decide ((i2 : Int) > (j2 : Int)) = false := by simp; omega
                      have e2' : decide ((j2 : Int) < (i2 : Int)) = false := by simp; omega
                      have e2n : decide (j2 < i2) = false := by simpa using hgt
                      have HR3 : Hid (partLoop ltU a (i2 + 1) (j2 - 1) (swp d' i2 j2) = lr) := Lib.hid (by have := HR2.out; rwa [if_neg hgt] at this)
                      have w1 : IntKind.i64.wrap ((j2 : Int) - 1) = ((j2 - 1 : Nat) : Int) := wrap_nat _ _ (by omega) (by omega)
                      obtain ⟨jm, hjm⟩ : ∃ jm, jm = j2 - 1 := ⟨_, rfl⟩
                      have hjm2 : jm + 1 = j2 := by omega
                      have b6 : i2 < j2 := b5 (by omega)
                      rw [← hjm] at HR3 w1
                      have r0 : (0 : Int) ≤ (i2 : Int) := by omega
                      have r1 : (i2 : Int) < (n : Int) := by omega
                      have r4 : i2 + 1 ≤ 1000000001 := by omega
                      clear HR2 hjm
                      have HZ3 : Hid (n = (swp d' (i2) (j2)).size) := Lib.hid (by rw [SrtW.size_swp]; exact hZ.out)
                      obtain ⟨d4, hd4⟩ : ∃ d3, d3 = swp d' (i2) (j2) := ⟨_, rfl⟩
                      rw [← hd4] at HZ3
                      have Hd4 := Lib.hid hd4
                      clear hd4
                      go_upto_region 18 with fail
                      go_cut [] (fun wx => SrtW W0 blk off d4 wx)
                      case first =>
                        have h2 := HWd.out
                        have d1 := h2.cell (i := i2) (by rw [← hZ.out]; omega)
                        have d0 := h2.cell (i := j2) (by rw [← hZ.out]; omega)
                        have g1 := h2.free (i := i2) (by rw [← hZ.out]; omega)
                        have g0 := h2.free (i := j2) (by rw [← hZ.out]; omega)
                        have p0 := (h2.put (i := i2) (by rw [← hZ.out]; omega) d'[j2]!).cell (i := j2) (by rw [Array.size_setIfInBounds, ← hZ.out]; omega)
                        have HS_ := h2.drew.swap (i := i2) (j := j2) (by rw [← hZ.out]; omega) (by rw [← hZ.out]; omega)
                        rw [← Hd4.out] at HS_
                        replace HS_ := Lib.hid HS_
                        clear h2
                        generalize (Array.setIfInBounds d' (i2) d'[j2]!)[j2]! = z0 at *
                        generalize d'[i2]! = x1 at *
                        generalize d'[j2]! = x0 at *
                        go_region_with (fail)
                        all_goals
                          go_wp2
                          go_meet
                          exact HS_.out
                      case rest =>
                        rename World => d4w
                        have HWs := Lib.hid hcut
                        clear hcut
                        rw [← Hd4.out] at HR3
                        clear Hd4
                        go_wp2
                        go_roundg (jm + 1 - (i2 + 1))
                        case measure => omega
                        case rel => exact ⟨i2 + 1, jm, d4, by omega, by omega, by omega, by omega, by go_num, by go_num, HR3, HZ3, HWs.out⟩
end Go.Proofs.Ytjbfjglomonanaa

