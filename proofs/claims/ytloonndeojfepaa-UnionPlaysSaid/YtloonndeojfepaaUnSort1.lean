/-
  CONTRACT OF slices.insertionSortOrdered at numbers of 32 bits.
-/
import Derived.Test.YtloonndeojfepaaUnSort0
namespace Go.Proofs.Ytloonndeojfepaa
open Go.RowKit Go.Sort
set_option linter.unusedVariables false
set_option linter.unusedSimpArgs false

theorem ins_low {a j : Nat} (h : j ≤ a) (d : Array Nat) : insInner ltU a j d = d := by
  cases j with
  | zero => rfl
  | succ m =>
    rw [insInner, if_neg]
    simp
    omega
theorem ins_stop {a m : Nat} {d : Array Nat} (h : ltU d[m + 1]! d[m]! = false) : insInner ltU a (m + 1) d = d := by
  rw [insInner, if_neg]
  rw [h]
  simp
theorem ins_go {a m : Nat} {d : Array Nat} (ha : a < m + 1) (h : ltU d[m + 1]! d[m]! = true) : insInner ltU a (m + 1) d = insInner ltU a m (swp d (m + 1) m) := by
  rw [insInner, if_pos]
  rw [h]
  simp
  omega
theorem outer_go {a b i : Nat} (d : Array Nat) (h : i < b) : insOuter ltU a b i d = insOuter ltU a b (i + 1) (insInner ltU a i d) := by rw [insOuter, if_pos h]
theorem outer_stop {a b i : Nat} (d : Array Nat) (h : ¬ i < b) : insOuter ltU a b i d = d := by rw [insOuter, if_neg h]
set_option maxRecDepth 100000 in
set_option maxHeartbeats 4000000 in
theorem insU_any {W0 W : World} {blk off : Nat} {d : Array Nat} (h : SrtW W0 blk off d W) (cap a b : Nat) (hb : b ≤ d.size) (ha : a ≤ 1000000) (hn : d.size ≤ 1000000) :
    Calls Try.prog 55 #[.slice (some ⟨blk, off, none⟩) d.size cap, .int .i64 (a : Int), .int .i64 (b : Int)] W fun e w' => e = .returned (.tuple #[]) ∧ SrtW W0 blk off (insertionSort ltU d a b) w' := by
  obtain ⟨n, hnn⟩ : ∃ n, n = d.size := ⟨_, rfl⟩
  have H := Lib.hid h
  have HR : Hid (insOuter ltU a b (a + 1) d = insertionSort ltU d a b) := Lib.hid rfl
  have HZ := Lib.hid hnn
  have HL := Lib.hid less_any
  generalize insertionSort ltU d a b = res at *
  rw [← hnn] at hb hn ⊢
  clear h hnn
  go_enter Try.func55, Try.ntmps55
  go_wp2
  go_loopg [6] (b + 1) (fun g i wr => ∃ (k : Nat) (d' : Array Nat), b - k ≤ g ∧ k ≤ a + 1 + b ∧ i = .int .i64 (k : Int) ∧ Hid (insOuter ltU a b k d' = res) ∧ Hid (n = d'.size) ∧ SrtW W0 blk off d' wr)
  case atStart => exact ⟨a + 1, d, by omega, by omega, by go_num, HR, HZ, H.out⟩
  case round =>
    obtain ⟨k, d', hg, hk, rfl, hR, hZ, hW⟩ := hrel
    have HW := Lib.hid hW
    clear hW
    by_cases hlt : k < b
    · have e1 : decide ((k : Int) < (b : Int)) = true := by simp; omega
      have e1n : decide (k < b) = true := by simpa using hlt
      have HR2 : Hid (insOuter ltU a b (k + 1) (insInner ltU a k d') = res) := Lib.hid (by rw [← outer_go d' hlt]; exact hR.out)
      have i2 : k + 1 ≤ 1000000001 := by omega
      go_wp2
      rename World => wo
      go_loopg [7] (k + 1) (fun g i wr => ∃ (j : Nat) (d2 : Array Nat), j ≤ g ∧ j ≤ k ∧ i = .int .i64 (j : Int) ∧ Hid (insInner ltU a j d2 = insInner ltU a k d') ∧ Hid (n = d2.size) ∧ SrtW W0 blk off d2 wr)
      case atStart => exact ⟨k, d', by omega, by omega, rfl, Lib.hid rfl, hZ, HW.out⟩
      case round =>
        obtain ⟨j, d2, hg2, hj, rfl, hI, hZ2, hW2⟩ := hrel
        have HW2 := Lib.hid hW2
        by_cases hja : a < j
        · obtain ⟨m, rfl⟩ : ∃ m, j = m + 1 := ⟨j - 1, by omega⟩
          have c1 := hW2.cell (i := m + 1) (by rw [← hZ2.out]; omega)
          have c0 := hW2.cell (i := m) (by rw [← hZ2.out]; omega)
          have f1 := hW2.free (i := m + 1) (by rw [← hZ2.out]; omega)
          have f0 := hW2.free (i := m) (by rw [← hZ2.out]; omega)
          have e2' : decide ((a : Int) < (m : Int) + 1) = true := by simp; omega
          have e2n : decide (a < m + 1) = true := by simpa using hja
          have i0 : (0 : Int) ≤ (m : Int) + 1 := by omega
          have i1 : (m : Int) + 1 < (n : Int) := by omega
          have i3 : (0 : Int) ≤ (m : Int) := by omega
          have i4 : (m : Int) < (n : Int) := by omega
          have i5 : IntKind.i64.wrap ((m : Int) + 1 - 1) = (m : Int) := by rw [show (m : Int) + 1 - 1 = (m : Int) by omega]; exact IntWalk.i64_in _ (by omega)
          have i6 : IntKind.i64.wrap (m : Int) = (m : Int) := IntWalk.i64_in _ (by omega)
          have HQ := Lib.hid (fun W => less_any d2[m + 1]! d2[m]! W)
          cases hl : decide (d2[m + 1]! < d2[m]!) with
          | true =>
            rw [hl] at HQ
            have HI2 : Hid (insInner ltU a m (swp d2 (m + 1) m) = insInner ltU a k d') := Lib.hid (by rw [← ins_go hja hl]; exact hI.out)
            have HZ3 : Hid (n = (swp d2 (m + 1) m).size) := Lib.hid (by rw [SrtW.size_swp]; exact hZ2.out)
            clear hW2 hI hl
            go_upto_region 4 with fail
            go_quiet ((go_at_call 61; exact Calls.quiet_of_same (HQ.out _)))
            go_upto_region 6 with fail
            have h2 := HW2.out.drewN nq
            generalize wr.drewN nq = W2 at *
            have d1 := h2.cell (i := m + 1) (by rw [← hZ2.out]; omega)
            have d0 := h2.cell (i := m) (by rw [← hZ2.out]; omega)
            have g1 := h2.free (i := m + 1) (by rw [← hZ2.out]; omega)
            have g0 := h2.free (i := m) (by rw [← hZ2.out]; omega)
            have HS := Lib.hid (h2.drew.swap (i := m + 1) (j := m) (by rw [← hZ2.out]; omega) (by rw [← hZ2.out]; omega))
            clear h2 c1 c0 f1 f0
            generalize swp d2 (m + 1) m = d3 at *
            generalize d2[m + 1]! = x1 at *
            generalize d2[m]! = x0 at *
            go_region_with (fail)
            all_goals
              go_wp2
              go_roundg m
              case measure => omega
              case rel => exact ⟨m, d3, by omega, by omega, by go_num, HI2, HZ3, HS.out⟩
          | false =>
            rw [hl] at HQ
            have HE : Hid (d2 = insInner ltU a k d') := Lib.hid ((ins_stop (a := a) hl).symm.trans hI.out)
            clear hW2 hI hl
            go_upto_region 4 with fail
            go_quiet ((go_at_call 61; exact Calls.quiet_of_same (HQ.out _)))
            go_wp2
            go_roundg (b - (k + 1))
            case measure => omega
            case rel => exact ⟨k + 1, d2, by omega, by omega, by go_num, by rw [HE.out]; exact HR2, hZ2, HW2.out.drewN _⟩
        · have e2' : decide ((a : Int) < (j : Int)) = false := by simp; omega
          have e2n : decide (a < j) = false := by simpa using hja
          have HE : Hid (d2 = insInner ltU a k d') := Lib.hid ((ins_low (a := a) (by omega) d2).symm.trans hI.out)
          clear hW2 hI
          go_upto_region 4 with fail
          go_quiet (fail)
          go_wp2
          go_roundg (b - (k + 1))
          case measure => omega
          case rel => exact ⟨k + 1, d2, by omega, by omega, by go_num, by rw [HE.out]; exact HR2, hZ2, HW2.out.drewN _⟩
    · have e1 : decide ((k : Int) < (b : Int)) = false := by simp; omega
      have e1n : decide (k < b) = false := by simpa using hlt
      have HE : Hid (d' = res) := Lib.hid ((outer_stop d' hlt).symm.trans hR.out)
      go_wp2
      go_end0
      exact ⟨by simp, by rw [← HE.out]; exact HW.out⟩
end Go.Proofs.Ytloonndeojfepaa
