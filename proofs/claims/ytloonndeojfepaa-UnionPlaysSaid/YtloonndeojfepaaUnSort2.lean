/-
  CONTRACT OF slices.reverseRangeOrdered at numbers of 32 bits.
-/
import Derived.Test.YtloonndeojfepaaUnSort1
namespace Go.Proofs.Ytloonndeojfepaa
open Go.RowKit Go.Sort
set_option linter.unusedVariables false
set_option linter.unusedSimpArgs false

theorem rev_go {i j : Nat} (d : Array Nat) (h : i < j) : reverseLoop i j d = reverseLoop (i + 1) (j - 1) (swp d i j) := by rw [reverseLoop, if_pos h]
theorem rev_stop {i j : Nat} (d : Array Nat) (h : ¬ i < j) : reverseLoop i j d = d := by rw [reverseLoop, if_neg h]
set_option maxRecDepth 100000 in
set_option maxHeartbeats 4000000 in
theorem revU_any {W0 W : World} {blk off : Nat} {d : Array Nat} (h : SrtW W0 blk off d W) (cap a b : Nat) (hb : b ≤ d.size) (hb0 : 0 < b) (ha : a ≤ b) (hn : d.size ≤ 1000000) :
    Calls Try.prog 59 #[.slice (some ⟨blk, off, none⟩) d.size cap, .int .i64 (a : Int), .int .i64 (b : Int)] W fun e w' => e = .returned (.tuple #[]) ∧ SrtW W0 blk off (reverseRange d a b) w' := by
  obtain ⟨n, hnn⟩ : ∃ n, n = d.size := ⟨_, rfl⟩
  have H := Lib.hid h
  have HR : Hid (reverseLoop a (b - 1) d = reverseRange d a b) := Lib.hid rfl
  have HZ := Lib.hid hnn
  generalize reverseRange d a b = res at *
  rw [← hnn] at hb hn ⊢
  clear h hnn
  obtain ⟨c, rfl⟩ : ∃ c, b = c + 1 := ⟨b - 1, by omega⟩
  rw [Nat.add_sub_cancel] at HR
  have v1 : IntKind.i64.wrap (c : Int) = (c : Int) := IntWalk.i64_in _ (by omega)
  have v2 : IntKind.i64.wrap ((c : Int) + 1 - 1) = (c : Int) := by rw [show (c : Int) + 1 - 1 = (c : Int) by omega]; exact IntWalk.i64_in _ (by omega)
  go_enter Try.func59, Try.ntmps59
  go_wp2
  go_loopg [6, 7] (c + 1) (fun g iv jv wr => ∃ (i j : Nat) (d' : Array Nat), j + 1 - i ≤ g ∧ j ≤ c ∧ i ≤ c + 1 ∧ iv = .int .i64 (i : Int) ∧ jv = .int .i64 (j : Int) ∧ Hid (reverseLoop i j d' = res) ∧ Hid (n = d'.size) ∧ SrtW W0 blk off d' wr)
  case atStart => exact ⟨a, c, d, by omega, by omega, by omega, rfl, by go_num, HR, HZ, H.out⟩
  case round =>
    obtain ⟨i, j, d', hg, hj, hi, rfl, rfl, hR, hZ, hW⟩ := hrel
    have HW := Lib.hid hW
    clear hW
    by_cases hlt : i < j
    · obtain ⟨m, rfl⟩ : ∃ m, j = m + 1 := ⟨j - 1, by omega⟩
      have e1 : decide ((i : Int) < (m : Int) + 1) = true := by simp; omega
      have e1n : decide (i < m + 1) = true := by simpa using hlt
      have HR2 : Hid (reverseLoop (i + 1) m (swp d' i (m + 1)) = res) := Lib.hid (by have := rev_go d' hlt; rw [Nat.add_sub_cancel] at this; rw [← this]; exact hR.out)
      have i0 : (0 : Int) ≤ (m : Int) + 1 := by omega
      have i1 : (m : Int) + 1 < (n : Int) := by omega
      have i2 : (0 : Int) ≤ (i : Int) := by omega
      have i3 : (i : Int) < (n : Int) := by omega
      have i5 : IntKind.i64.wrap ((m : Int) + 1 - 1) = (m : Int) := by rw [show (m : Int) + 1 - 1 = (m : Int) by omega]; exact IntWalk.i64_in _ (by omega)
      have i6 : IntKind.i64.wrap (m : Int) = (m : Int) := IntWalk.i64_in _ (by omega)
      have i7 : i + 1 ≤ 1000000001 := by omega
      go_upto_region 3 with fail
      have h2 := HW.out
      have d1 := h2.cell (i := i) (by rw [← hZ.out]; omega)
      have d0 := h2.cell (i := m + 1) (by rw [← hZ.out]; omega)
      have g1 := h2.free (i := i) (by rw [← hZ.out]; omega)
      have g0 := h2.free (i := m + 1) (by rw [← hZ.out]; omega)
      have p0 := (h2.put (i := i) (by rw [← hZ.out]; omega) d'[m + 1]!).cell (i := m + 1) (by rw [Array.size_setIfInBounds, ← hZ.out]; omega)
      have HS_ := Lib.hid (h2.drew.swap (i := i) (j := m + 1) (by rw [← hZ.out]; omega) (by rw [← hZ.out]; omega))
      have HZ3 : Hid (n = (swp d' (i) (m + 1)).size) := Lib.hid (by rw [SrtW.size_swp]; exact hZ.out)
      clear hR
      clear h2
      generalize (Array.setIfInBounds d' (i) d'[m + 1]!)[m + 1]! = z0 at *
      generalize swp d' (i) (m + 1) = d3 at *
      generalize d'[i]! = x1 at *
      generalize d'[m + 1]! = x0 at *
      go_region_with (fail)
      all_goals
        go_wp2
        go_roundg (m + 1 - (i + 1))
        case measure => omega
        case rel => exact ⟨i + 1, m, d3, by omega, by omega, by omega, by go_num, by go_num, HR2, HZ3, HS_.out⟩
    · have e1 : decide ((i : Int) < (j : Int)) = false := by simp; omega
      have e1n : decide (i < j) = false := by simpa using hlt
      have HE : Hid (d' = res) := Lib.hid ((rev_stop d' hlt).symm.trans hR.out)
      go_wp2
      go_end0
      exact ⟨by simp, by rw [← HE.out]; exact HW.out⟩
end Go.Proofs.Ytloonndeojfepaa
