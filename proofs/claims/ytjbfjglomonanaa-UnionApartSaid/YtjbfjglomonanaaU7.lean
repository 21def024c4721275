/-
  WHAT THE PROOF STANDS ON, a part of it: UnSort0, UnSort1, UnSort2, UnSort3.
-/
import Derived.Test.YtjbfjglomonanaaU1
import Derived.Test.YtjbfjglomonanaaChecked
import Derived.Sort.Row
import Derived.Sort.LotD3
import Derived.Deep.RegionHeld3
import Derived.Deep.LoopGhost
import Derived.Deep.RegionWith
import Derived.BigQuiet
import Derived.Deep.QuietTactic
import Derived.Deep.Cut
import Derived.IntWalk
import Derived.Lib.Hide
import Derived.Great.Walk
/-
  SORTING A ROW OF NUMBERS OF 32 BITS: what stays, cmp.Less.
-/

namespace Go.Proofs.Ytjbfjglomonanaa
open Go.RowKit Go.Sort
set_option linter.unusedVariables false
set_option linter.unusedSimpArgs false

abbrev encU (n : Nat) : Value := .int .u32 (n : Int)
abbrev ltU (a b : Nat) : Bool := decide (a < b)
theorem swoU : SWO ltU where
  irrefl := fun x => by simp
  trans := fun x y z h1 h2 => by simp at *; omega
  ntrans := fun x y z h1 h2 => by simp at *; omega
/-- A row holds d; all blocks but its own lie as in W0. -/
structure SrtW (W0 : World) (blk off : Nat) (d : Array Nat) (W : World) : Prop where
  holds : Holds encU W blk off d
  turned : Turned (fun j => j = blk) W0 W
section
variable {W0 W : World} {blk off : Nat} {d : Array Nat}
theorem SrtW.cell (h : SrtW W0 blk off d W) {i : Nat} (hi : i < d.size) : W.cell? ⟨blk, off + i, none⟩ = some (.int .u32 (d[i]! : Int)) := (h.holds i hi).1
theorem SrtW.free (h : SrtW W0 blk off d W) {i : Nat} (hi : i < d.size) : W.frozen? ⟨blk, off + i, none⟩ = false := (h.holds i hi).2
theorem SrtW.drew (h : SrtW W0 blk off d W) : SrtW W0 blk off d W.drew := ⟨fun j hj => h.holds j hj, h.turned.drew⟩
theorem SrtW.drewN (h : SrtW W0 blk off d W) (k : Nat) : SrtW W0 blk off d (W.drewN k) := ⟨fun j hj => h.holds j hj, ⟨h.turned.os, h.turned.tape, h.turned.output, h.turned.size, h.turned.block⟩⟩
theorem SrtW.put (h : SrtW W0 blk off d W) {i : Nat} (hi : i < d.size) (x : Nat) : SrtW W0 blk off (d.setIfInBounds i x) (W.setCell ⟨blk, off + i, none⟩ (encU x)) := by
  refine ⟨fun j hj => ⟨?_, by rw [World.frozen?_setCell]; exact (h.holds j (by simpa using hj)).2⟩, h.turned.trans (Turned.set (S := fun j => j = blk) (a := ⟨blk, off + i, none⟩) rfl _)⟩
  rw [Array.size_setIfInBounds] at hj
  by_cases e : j = i
  · subst e
    rw [getElem!_set_same d j x hi]
    exact World.cell?_setCell_same' W ⟨blk, off + j, none⟩ _ (by rw [(h.holds j hi).1]; rfl)
  · rw [getElem!_set_other d i j x e]
    exact (World.cell?_setCell_other W ⟨blk, off + i, none⟩ ⟨blk, off + j, none⟩ _ (fun e2 => e (by injection e2 with _ e3; omega))).trans (h.holds j hj).1
/-- Two numbers change places. -/
theorem SrtW.swap (h : SrtW W0 blk off d W) {i j : Nat} (hi : i < d.size) (hj : j < d.size) : SrtW W0 blk off (swp d i j) ((W.setCell ⟨blk, off + i, none⟩ (.int .u32 (d[j]! : Int))).setCell ⟨blk, off + j, none⟩ (.int .u32 (d[i]! : Int))) :=
  (h.put hi d[j]!).put (by simpa using hj) d[i]!
theorem SrtW.size_swp (i j : Nat) : (swp d i j).size = d.size := by simp [swp]
end
set_option maxRecDepth 100000 in
theorem isNaN_any (n : Nat) (w : World) : Calls Try.prog 42 #[.int .u32 (n : Int)] w fun e w' => e = .returned (.bool false) ∧ w' = w := by
  have e : ((n : Int) != (n : Int)) = false := by simp
  go_enter Try.func42, Try.ntmps42
  go_wp2
  go_ret
  exact ⟨by simp, rfl⟩
set_option maxRecDepth 100000 in
theorem less_any (a b : Nat) (w : World) : Calls Try.prog 61 #[.int .u32 (a : Int), .int .u32 (b : Int)] w fun e w' => e = .returned (.bool (decide (a < b))) ∧ w' = w := by
  have HN := Lib.hid isNaN_any
  go_enter Try.func61, Try.ntmps61
  go_wp2_with (go_at_call 42; refine (HN.out _ _).mono ?_; rintro e w' ⟨rfl, rfl⟩)
  go_ret
  exact ⟨by simp, rfl⟩
end Go.Proofs.Ytjbfjglomonanaa

/-
  CONTRACT OF slices.insertionSortOrdered at numbers of 32 bits.
-/

namespace Go.Proofs.Ytjbfjglomonanaa
open Go.RowKit Go.Sort
set_option linter.unusedVariables false
set_option linter.unusedSimpArgs false

theorem ins_low {a j : Nat} (h : j ≤ a) (d : Array Nat) : insInner ltU a j d = d := by
  cases j with
  | zero => rfl
  | succ m =>
    rw [insInner, if_neg]
    simp
    omega
theorem ins_stop {a m : Nat} {d : Array Nat} (h : ltU d[m + 1]! d[m]! = false) : insInner ltU a (m + 1) d = d := by
  rw [insInner, if_neg]
  rw [h]
  simp
theorem ins_go {a m : Nat} {d : Array Nat} (ha : a < m + 1) (h : ltU d[m + 1]! d[m]! = true) : insInner ltU a (m + 1) d = insInner ltU a m (swp d (m + 1) m) := by
  rw [insInner, if_pos]
  rw [h]
  simp
  omega
theorem outer_go {a b i : Nat} (d : Array Nat) (h : i < b) : insOuter ltU a b i d = insOuter ltU a b (i + 1) (insInner ltU a i d) := by rw [insOuter, if_pos h]
theorem outer_stop {a b i : Nat} (d : Array Nat) (h : ¬ i < b) : insOuter ltU a b i d = d := by rw [insOuter, if_neg h]
set_option maxRecDepth 100000 in
set_option maxHeartbeats 4000000 in
theorem insU_any {W0 W : World} {blk off : Nat} {d : Array Nat} (h : SrtW W0 blk off d W) (cap a b : Nat) (hb : b ≤ d.size) (ha : a ≤ 1000000) (hn : d.size ≤ 1000000) :
    Calls Try.prog 55 #[.slice (some ⟨blk, off, none⟩) d.size cap, .int .i64 (a : Int), .int .i64 (b : Int)] W fun e w' => e = .returned (.tuple #[]) ∧ SrtW W0 blk off (insertionSort ltU d a b) w' := by
  obtain ⟨n, hnn⟩ : ∃ n, n = d.size := ⟨_, rfl⟩
  have H := Lib.hid h
  have HR : Hid (insOuter ltU a b (a + 1) d = insertionSort ltU d a b) := Lib.hid rfl
  have HZ := Lib.hid hnn
  have HL := Lib.hid less_any
  generalize insertionSort ltU d a b = res at *
  rw [← hnn] at hb hn ⊢
  clear h hnn
  go_enter Try.func55, Try.ntmps55
  go_wp2
  go_loopg [6] (b + 1) (fun g i wr => ∃ (k : Nat) (d' : Array Nat), b - k ≤ g ∧ k ≤ a + 1 + b ∧ i = .int .i64 (k : Int) ∧ Hid (insOuter ltU a b k d' = res) ∧ Hid (n = d'.size) ∧ SrtW W0 blk off d' wr)
  case atStart => exact ⟨a + 1, d, by omega, by omega, by go_num, HR, HZ, H.out⟩
  case round =>
    obtain ⟨k, d', hg, hk, rfl, hR, hZ, hW⟩ := hrel
    have HW := Lib.hid hW
    clear hW
    by_cases hlt : k < b
    · have e1 : decide ((k : Int) < (b : Int)) = true := by simp; omega
      have e1n : decide (k < b) = true := by simpa using hlt
      have HR2 : Hid (insOuter ltU a b (k + 1) (insInner ltU a k d') = res) := Lib.hid (by rw [← outer_go d' hlt]; exact hR.out)
      have i2 : k + 1 ≤ 1000000001 := by omega
      go_wp2
      rename World => wo
      go_loopg [7] (k + 1) (fun g i wr => ∃ (j : Nat) (d2 : Array Nat), j ≤ g ∧ j ≤ k ∧ i = .int .i64 (j : Int) ∧ Hid (insInner ltU a j d2 = insInner ltU a k d') ∧ Hid (n = d2.size) ∧ SrtW W0 blk off d2 wr)
      case atStart => exact ⟨k, d', by omega, by omega, rfl, Lib.hid rfl, hZ, HW.out⟩
      case round =>
        obtain ⟨j, d2, hg2, hj, rfl, hI, hZ2, hW2⟩ := hrel
        have HW2 := Lib.hid hW2
        by_cases hja : a < j
        · obtain ⟨m, rfl⟩ : ∃ m, j = m + 1 := ⟨j - 1, by omega⟩
          have c1 := hW2.cell (i := m + 1) (by rw [← hZ2.out]; omega)
          have c0 := hW2.cell (i := m) (by rw [← hZ2.out]; omega)
          have f1 := hW2.free (i := m + 1) (by rw [← hZ2.out]; omega)
          have f0 := hW2.free (i := m) (by rw [← hZ2.out]; omega)
          have e2' : decide ((a : Int) < (m : Int) + 1) = true := by simp; omega
          have e2n : decide (a < m + 1) = true := by simpa using hja
          have i0 : (0 : Int) ≤ (m : Int) + 1 := by omega
          have i1 : (m : Int) + 1 < (n : Int) := by omega
          have i3 : (0 : Int) ≤ (m : Int) := by omega
          have i4 : (m : Int) < (n : Int) := by omega
          have i5 : IntKind.i64.wrap ((m : Int) + 1 - 1) = (m : Int) := by rw [show (m : Int) + 1 - 1 = (m : Int) by omega]; exact IntWalk.i64_in _ (by omega)
          have i6 : IntKind.i64.wrap (m : Int) = (m : Int) := IntWalk.i64_in _ (by omega)
          have HQ := Lib.hid (fun W => less_any d2[m + 1]! d2[m]! W)
          cases hl : decide (d2[m + 1]! < d2[m]!) with
          | true =>
            rw [hl] at HQ
            have HI2 : Hid (insInner ltU a m (swp d2 (m + 1) m) = insInner ltU a k d') := Lib.hid (by rw [← ins_go hja hl]; exact hI.out)
            have HZ3 : Hid (n = (swp d2 (m + 1) m).size) := Lib.hid (by rw [SrtW.size_swp]; exact hZ2.out)
            clear hW2 hI hl
            go_upto_region 4 with fail
            go_quiet ((go_at_call 61; exact Calls.quiet_of_same (HQ.out _)))
            go_upto_region 6 with fail
            have h2 := HW2.out.drewN nq
            generalize wr.drewN nq = W2 at *
            have d1 := h2.cell (i := m + 1) (by rw [← hZ2.out]; omega)
            have d0 := h2.cell (i := m) (by rw [← hZ2.out]; omega)
            have g1 := h2.free (i := m + 1) (by rw [← hZ2.out]; omega)
            have g0 := h2.free (i := m) (by rw [← hZ2.out]; omega)
            have HS := Lib.hid (h2.drew.swap (i := m + 1) (j := m) (by rw [← hZ2.out]; omega) (by rw [← hZ2.out]; omega))
            clear h2 c1 c0 f1 f0
            generalize swp d2 (m + 1) m = d3 at *
            generalize d2[m + 1]! = x1 at *
            generalize d2[m]! = x0 at *
            go_region_with (fail)
            all_goals
              go_wp2
              go_roundg m
              case measure => omega
              case rel => exact ⟨m, d3, by omega, by omega, by go_num, HI2, HZ3, HS.out⟩
          | false =>
            rw [hl] at HQ
            have HE : Hid (d2 = insInner ltU a k d') := Lib.hid ((ins_stop (a := a) hl).symm.trans hI.out)
            clear hW2 hI hl
            go_upto_region 4 with fail
            go_quiet ((go_at_call 61; exact Calls.quiet_of_same (HQ.out _)))
            go_wp2
            go_roundg (b - (k + 1))
            case measure => omega
            case rel => exact ⟨k + 1, d2, by omega, by omega, by go_num, by rw [HE.out]; exact HR2, hZ2, HW2.out.drewN _⟩
        · have e2' : decide ((a : Int) < (j : Int)) = false := by simp; omega
          have e2n : decide (a < j) = false := by simpa using hja
          have HE : Hid (d2 = insInner ltU a k d') := Lib.hid ((ins_low (a := a) (by omega) d2).symm.trans hI.out)
          clear hW2 hI
          go_upto_region 4 with fail
          go_quiet (fail)
          go_wp2
          go_roundg (b - (k + 1))
          case measure => omega
          case rel => exact ⟨k + 1, d2, by omega, by omega, by go_num, by rw [HE.out]; exact HR2, hZ2, HW2.out.drewN _⟩
    · have e1 : decide ((k : Int) < (b : Int)) = false := by simp; omega
      have e1n : decide (k < b) = false := by simpa using hlt
      have HE : Hid (d' = res) := Lib.hid ((outer_stop d' hlt).symm.trans hR.out)
      go_wp2
      go_end0
      exact ⟨by simp, by rw [← HE.out]; exact HW.out⟩
end Go.Proofs.Ytjbfjglomonanaa

/-
  CONTRACT OF slices.reverseRangeOrdered at numbers of 32 bits.
-/

namespace Go.Proofs.Ytjbfjglomonanaa
open Go.RowKit Go.Sort
set_option linter.unusedVariables false
set_option linter.unusedSimpArgs false

theorem rev_go {i j : Nat} (d : Array Nat) (h : i < j) : reverseLoop i j d = reverseLoop (i + 1) (j - 1) (swp d i j) := by rw [reverseLoop, if_pos h]
theorem rev_stop {i j : Nat} (d : Array Nat) (h : ¬ i < j) : reverseLoop i j d = d := by rw [reverseLoop, if_neg h]
set_option maxRecDepth 100000 in
set_option maxHeartbeats 4000000 in
theorem revU_any {W0 W : World} {blk off : Nat} {d : Array Nat} (h : SrtW W0 blk off d W) (cap a b : Nat) (hb : b ≤ d.size) (hb0 : 0 < b) (ha : a ≤ b) (hn : d.size ≤ 1000000) :
    Calls Try.prog 59 #[.slice (some ⟨blk, off, none⟩) d.size cap, .int .i64 (a : Int), .int .i64 (b : Int)] W fun e w' => e = .returned (.tuple #[]) ∧ SrtW W0 blk off (reverseRange d a b) w' := by
  obtain ⟨n, hnn⟩ : ∃ n, n = d.size := ⟨_, rfl⟩
  have H := Lib.hid h
  have HR : Hid (reverseLoop a (b - 1) d = reverseRange d a b) := Lib.hid rfl
  have HZ := Lib.hid hnn
  generalize reverseRange d a b = res at *
  rw [← hnn] at hb hn ⊢
  clear h hnn
  obtain ⟨c, rfl⟩ : ∃ c, b = c + 1 := ⟨b - 1, by omega⟩
  rw [Nat.add_sub_cancel] at HR
  have v1 : IntKind.i64.wrap (c : Int) = (c : Int) := IntWalk.i64_in _ (by omega)
  have v2 : IntKind.i64.wrap ((c : Int) + 1 - 1) = (c : Int) := by rw [show (c : Int) + 1 - 1 = (c : Int) by omega]; exact IntWalk.i64_in _ (by omega)
  go_enter Try.func59, Try.ntmps59
  go_wp2
  go_loopg [6, 7] (c + 1) (fun g iv jv wr => ∃ (i j : Nat) (d' : Array Nat), j + 1 - i ≤ g ∧ j ≤ c ∧ i ≤ c + 1 ∧ iv = .int .i64 (i : Int) ∧ jv = .int .i64 (j : Int) ∧ Hid (reverseLoop i j d' = res) ∧ Hid (n = d'.size) ∧ SrtW W0 blk off d' wr)
  case atStart => exact ⟨a, c, d, by omega, by omega, by omega, rfl, by go_num, HR, HZ, H.out⟩
  case round =>
    obtain ⟨i, j, d', hg, hj, hi, rfl, rfl, hR, hZ, hW⟩ := hrel
    have HW := Lib.hid hW
    clear hW
    by_cases hlt : i < j
    · obtain ⟨m, rfl⟩ : ∃ m, j = m + 1 := ⟨j - 1, by omega⟩
      have e1 : decide ((i : Int) < (m : Int) + 1) = true := by simp; omega
      have e1n : decide (i < m + 1) = true := by simpa using hlt
      have HR2 : Hid (reverseLoop (i + 1) m (swp d' i (m + 1)) = res) := Lib.hid (by have := rev_go d' hlt; rw [Nat.add_sub_cancel] at this; rw [← this]; exact hR.out)
      have i0 : (0 : Int) ≤ (m : Int) + 1 := by omega
      have i1 : (m : Int) + 1 < (n : Int) := by omega
      have i2 : (0 : Int) ≤ (i : Int) := by omega
      have i3 : (i : Int) < (n : Int) := by omega
      have i5 : IntKind.i64.wrap ((m : Int) + 1 - 1) = (m : Int) := by rw [show (m : Int) + 1 - 1 = (m : Int) by omega]; exact IntWalk.i64_in _ (by omega)
      have i6 : IntKind.i64.wrap (m : Int) = (m : Int) := IntWalk.i64_in _ (by omega)
      have i7 : i + 1 ≤ 1000000001 := by omega
      go_upto_region 3 with fail
      have h2 := HW.out
      have d1 := h2.cell (i := i) (by rw [← hZ.out]; omega)
      have d0 := h2.cell (i := m + 1) (by rw [← hZ.out]; omega)
      have g1 := h2.free (i := i) (by rw [← hZ.out]; omega)
      have g0 := h2.free (i := m + 1) (by rw [← hZ.out]; omega)
      have p0 := (h2.put (i := i) (by rw [← hZ.out]; omega) d'[m + 1]!).cell (i := m + 1) (by rw [Array.size_setIfInBounds, ← hZ.out]; omega)
      have HS_ := Lib.hid (h2.drew.swap (i := i) (j := m + 1) (by rw [← hZ.out]; omega) (by rw [← hZ.out]; omega))
      have HZ3 : Hid (n = (swp d' (i) (m + 1)).size) := Lib.hid (by rw [SrtW.size_swp]; exact hZ.out)
      clear hR
      clear h2
      generalize (Array.setIfInBounds d' (i) d'[m + 1]!)[m + 1]! = z0 at *
      generalize swp d' (i) (m + 1) = d3 at *
      generalize d'[i]! = x1 at *
      generalize d'[m + 1]! = x0 at *
      go_region_with (fail)
      all_goals
        go_wp2
        go_roundg (m + 1 - (i + 1))
        case measure => omega
        case rel => exact ⟨i + 1, m, d3, by omega, by omega, by omega, by go_num, by go_num, HR2, HZ3, HS_.out⟩
    · have e1 : decide ((i : Int) < (j : Int)) = false := by simp; omega
      have e1n : decide (i < j) = false := by simpa using hlt
      have HE : Hid (d' = res) := Lib.hid ((rev_stop d' hlt).symm.trans hR.out)
      go_wp2
      go_end0
      exact ⟨by simp, by rw [← HE.out]; exact HW.out⟩
end Go.Proofs.Ytjbfjglomonanaa

/-
  CONTRACTS OF slices.siftDownOrdered and slices.heapSortOrdered at numbers of 32 bits.
-/

namespace Go.Proofs.Ytjbfjglomonanaa
open Go.RowKit Go.Sort
set_option linter.unusedVariables false
set_option linter.unusedSimpArgs false

theorem wrap_nat (x : Int) (k : Nat) (h : x = (k : Int)) (hk : k ≤ 1000000000000) : IntKind.i64.wrap x = (k : Int) := by rw [h]; exact IntWalk.i64_in _ (by omega)
theorem sift_out {hi first root : Nat} (d : Array Nat) (h : 2 * root + 1 ≥ hi) : siftDown ltU hi first root d = d := by rw [siftDown, dif_pos h]
theorem sift_two {hi first root : Nat} (d : Array Nat) (h : 2 * root + 1 + 1 < hi) (hl : ltU d[first + (2 * root + 1)]! d[first + (2 * root + 1) + 1]! = true) :
    siftDown ltU hi first root d = if !ltU d[first + root]! d[first + (2 * root + 2)]! then d else siftDown ltU hi first (2 * root + 2) (swp d (first + root) (first + (2 * root + 2))) := by
  rw [siftDown, dif_neg (by omega), if_pos (by rw [hl]; simp; omega)]
  split
  · rfl
  · rfl
theorem sift_one {hi first root : Nat} (d : Array Nat) (h0 : ¬ 2 * root + 1 ≥ hi) (h : ¬ (2 * root + 1 + 1 < hi ∧ ltU d[first + (2 * root + 1)]! d[first + (2 * root + 1) + 1]! = true)) :
    siftDown ltU hi first root d = if !ltU d[first + root]! d[first + (2 * root + 1)]! then d else siftDown ltU hi first (2 * root + 1) (swp d (first + root) (first + (2 * root + 1))) := by
  rw [siftDown, dif_neg h0, if_neg]
  intro hh
  simp only [Bool.and_eq_true, decide_eq_true_eq] at hh
  exact h ⟨hh.1, by simpa using hh.2⟩
set_option maxRecDepth 100000 in
set_option maxHeartbeats 4000000 in
theorem siftU_any {W0 W : World} {blk off : Nat} {d : Array Nat} (h : SrtW W0 blk off d W) (cap lo hi first : Nat) (hb : first + hi ≤ d.size) (hlo : lo ≤ 1000000) (hn : d.size ≤ 1000000) :
    Calls Try.prog 69 #[.slice (some ⟨blk, off, none⟩) d.size cap, .int .i64 (lo : Int), .int .i64 (hi : Int), .int .i64 (first : Int)] W fun e w' => e = .returned (.tuple #[]) ∧ SrtW W0 blk off (siftDown ltU hi first lo d) w' := by
  obtain ⟨n, hnn⟩ : ∃ n, n = d.size := ⟨_, rfl⟩
  have H := Lib.hid h
  have HR : Hid (siftDown ltU hi first lo d = siftDown ltU hi first lo d) := Lib.hid rfl
  have HZ := Lib.hid hnn
  generalize hres : siftDown ltU hi first lo d = res at HR
  rw [← hnn] at hb hn ⊢
  have HR0 : Hid (siftDown ltU hi first lo d = res) := Lib.hid hres
  clear h hnn hres HR
  go_enter Try.func69, Try.ntmps69
  go_wp2
  go_loopg [8] (hi + 1 - lo) (fun g iv wr => ∃ (root : Nat) (d' : Array Nat), hi - root ≤ g ∧ root ≤ 1000000 ∧ iv = .int .i64 (root : Int) ∧ Hid (siftDown ltU hi first root d' = res) ∧ Hid (n = d'.size) ∧ SrtW W0 blk off d' wr)
  case atStart => exact ⟨lo, d, by omega, hlo, rfl, HR0, HZ, H.out⟩
  case round =>
    obtain ⟨root, d', hg, hr, rfl, hR, hZ, hW0⟩ := hrel
    have HW := Lib.hid hW0
    obtain ⟨c, hc⟩ : ∃ c, c = 2 * root + 1 := ⟨_, rfl⟩
    have hrc : root < c := by omega
    have hc2 : c ≤ 2000001 := by omega
    have v1 : IntKind.i64.wrap (2 * (root : Int)) = 2 * (root : Int) := IntWalk.i64_in _ (by omega)
    have v2 : IntKind.i64.wrap (2 * (root : Int) + 1) = 2 * (root : Int) + 1 := IntWalk.i64_in _ (by omega)
    have vc : 2 * (root : Int) + 1 = (c : Int) := by omega
    by_cases hout : c ≥ hi
    · have e1 : decide ((c : Int) ≥ (hi : Int)) = true := by simp; omega
      have e1' : decide ((hi : Int) ≤ (c : Int)) = true := by simp; omega
      have e1n : decide (hi ≤ c) = true := by simpa using hout
      have HE : Hid (d' = res) := Lib.hid ((sift_out d' (by omega)).symm.trans hR.out)
      clear hW0 hR hc
      go_upto_region 2 with fail
      clear vc v1 v2
      go_wp2
      go_end0
      exact ⟨by simp, by rw [← HE.out]; exact HW.out⟩
    · have e1 : decide ((c : Int) ≥ (hi : Int)) = false := by simp; omega
      have e1' : decide ((hi : Int) ≤ (c : Int)) = false := by simp; omega
      have e1n : decide (hi ≤ c) = false := by simp; omega
      have v3 : IntKind.i64.wrap ((c : Int) + 1) = ((c + 1 : Nat) : Int) := wrap_nat _ _ (by omega) (by omega)
      obtain ⟨fr, hfr⟩ : ∃ fr, fr = first + root := ⟨_, rfl⟩
      have v4 : IntKind.i64.wrap ((first : Int) + (root : Int)) = (fr : Int) := wrap_nat _ _ (by omega) (by omega)
      have q0 : (0 : Int) ≤ (fr : Int) := by omega
      have q1 : (fr : Int) < (n : Int) := by omega
      by_cases h2 : c + 1 < hi
      · have e3 : decide ((c : Int) + 1 < (hi : Int)) = true := by simp; omega
        have e3n : decide (c + 1 < hi) = true := by simpa using h2
        obtain ⟨f1, hf1⟩ : ∃ f1, f1 = first + c := ⟨_, rfl⟩
        obtain ⟨f2, hf2⟩ : ∃ f2, f2 = first + c + 1 := ⟨_, rfl⟩
        have v5 : IntKind.i64.wrap ((first : Int) + (c : Int)) = (f1 : Int) := wrap_nat _ _ (by omega) (by omega)
        have v6 : IntKind.i64.wrap ((f1 : Int) + 1) = (f2 : Int) := wrap_nat _ _ (by omega) (by omega)
        have q2 : (0 : Int) ≤ (f1 : Int) := by omega
        have q3 : (f1 : Int) < (n : Int) := by omega
        have q4 : (0 : Int) ≤ (f2 : Int) := by omega
        have q5 : (f2 : Int) < (n : Int) := by omega
        have b1 := hW0.cell (i := f1) (by rw [← hZ.out]; omega)
        have b2 := hW0.cell (i := f2) (by rw [← hZ.out]; omega)
        have HQ0 := Lib.hid (fun W => less_any d'[f1]! d'[f2]! W)
        cases hl0 : decide (d'[f1]! < d'[f2]!) with
        | true =>
          rw [hl0] at HQ0
          have HP : Hid ((if !ltU d'[fr]! d'[f2]! then d' else siftDown ltU hi first (c + 1) (swp d' fr f2)) = res) := Lib.hid (by
            have := sift_two (first := first) (root := root) (hi := hi) d' (by omega) (by rw [show first + (2 * root + 1) = f1 by omega, show f1 + 1 = f2 by omega]; exact hl0)
            rw [show first + (2 * root + 2) = f2 by omega, show first + root = fr by omega, show 2 * root + 2 = c + 1 by omega] at this
            rw [← this]
            exact hR.out)
          have v7 : IntKind.i64.wrap ((first : Int) + ((c : Int) + 1)) = (f2 : Int) := wrap_nat _ _ (by omega) (by omega)
          clear hW0 hR hl0 hc hfr hf1 hf2
          go_upto_region 2 with fail
          clear vc v1 v2
          go_upto_region 3 with fail
          go_quiet ((go_at_call 61; exact Calls.quiet_of_same (HQ0.out _)))
          have h5 := HW.out.drewN nq
          generalize wr.drewN nq = w5 at *
          clear b1 b2
          have HQ := Lib.hid (fun W => less_any d'[fr]! d'[f2]! W)
          have a1 := h5.cell (i := fr) (by rw [← hZ.out]; omega)
          have a2 := h5.cell (i := f2) (by rw [← hZ.out]; omega)
          have HW5 := Lib.hid h5
          clear h5
          cases hl : decide (d'[fr]! < d'[f2]!) with
          | false =>
            rw [hl] at HQ
            have HE : Hid (d' = res) := Lib.hid (by
              have := HP.out
              rw [show ltU d'[fr]! d'[f2]! = false from hl] at this
              simpa using this)
            clear hl
            go_upto_region 5 with fail
            go_quiet ((go_at_call 61; exact Calls.quiet_of_same (HQ.out _)))
            go_wp2
            refine bodyPost_ret (results_none rfl _ _ _) rfl ?_
            exact ⟨by simp, by rw [← HE.out]; exact HW5.out.drewN _⟩
          | true =>
            rw [hl] at HQ
            have HR2 : Hid (siftDown ltU hi first (c + 1) (swp d' fr f2) = res) := Lib.hid (by
              have := HP.out
              rw [show ltU d'[fr]! d'[f2]! = true from hl] at this
              simpa using this)
            clear hl
            go_upto_region 5 with fail
            go_quiet ((go_at_call 61; exact Calls.quiet_of_same (HQ.out _)))
            go_upto_region 6 with fail
            have h2 := HW5.out.drewN nq
            generalize w5.drewN nq = W2 at *
            have d1 := h2.cell (i := fr) (by rw [← hZ.out]; omega)
            have d0 := h2.cell (i := f2) (by rw [← hZ.out]; omega)
            have g1 := h2.free (i := fr) (by rw [← hZ.out]; omega)
            have g0 := h2.free (i := f2) (by rw [← hZ.out]; omega)
            have p0 := (h2.put (i := fr) (by rw [← hZ.out]; omega) d'[f2]!).cell (i := f2) (by rw [Array.size_setIfInBounds, ← hZ.out]; omega)
            have HS_ := Lib.hid (h2.drew.swap (i := fr) (j := f2) (by rw [← hZ.out]; omega) (by rw [← hZ.out]; omega))
            have HZ3 : Hid (n = (swp d' (fr) (f2)).size) := Lib.hid (by rw [SrtW.size_swp]; exact hZ.out)
            clear a1 a2
            clear h2
            generalize (Array.setIfInBounds d' (fr) d'[f2]!)[f2]! = z0 at *
            generalize swp d' (fr) (f2) = d3 at *
            generalize d'[fr]! = x1 at *
            generalize d'[f2]! = x0 at *
            go_region_with (fail)
            all_goals
              go_wp2
              go_roundg (hi - (c + 1))
              case measure => omega
              case rel => exact ⟨c + 1, d3, by omega, by omega, by go_num, HR2, HZ3, HS_.out⟩
        | false =>
          rw [hl0] at HQ0
          have HP : Hid ((if !ltU d'[fr]! d'[f1]! then d' else siftDown ltU hi first c (swp d' fr f1)) = res) := Lib.hid (by
            have := sift_one (first := first) (root := root) (hi := hi) d' (by omega) (by rw [show first + (2 * root + 1) = f1 by omega, show f1 + 1 = f2 by omega, show ltU d'[f1]! d'[f2]! = false from hl0]; simp)
            rw [show first + (2 * root + 1) = f1 by omega, show first + root = fr by omega, show 2 * root + 1 = c by omega] at this
            rw [← this]
            exact hR.out)
          clear hW0 hR hl0 hc hfr hf1 hf2
          go_upto_region 2 with fail
          clear vc v1 v2
          go_upto_region 3 with fail
          go_quiet ((go_at_call 61; exact Calls.quiet_of_same (HQ0.out _)))
          have h5 := HW.out.drewN nq
          generalize wr.drewN nq = w5 at *
          clear b1 b2
          have HQ := Lib.hid (fun W => less_any d'[fr]! d'[f1]! W)
          have a1 := h5.cell (i := fr) (by rw [← hZ.out]; omega)
          have a2 := h5.cell (i := f1) (by rw [← hZ.out]; omega)
          have HW5 := Lib.hid h5
          clear h5
          cases hl : decide (d'[fr]! < d'[f1]!) with
          | false =>
            rw [hl] at HQ
            have HE : Hid (d' = res) := Lib.hid (by
              have := HP.out
              rw [show ltU d'[fr]! d'[f1]! = false from hl] at this
              simpa using this)
            clear hl
            go_upto_region 5 with fail
            go_quiet ((go_at_call 61; exact Calls.quiet_of_same (HQ.out _)))
            go_wp2
            refine bodyPost_ret (results_none rfl _ _ _) rfl ?_
            exact ⟨by simp, by rw [← HE.out]; exact HW5.out.drewN _⟩
          | true =>
            rw [hl] at HQ
            have HR2 : Hid (siftDown ltU hi first (c) (swp d' fr f1) = res) := Lib.hid (by
              have := HP.out
              rw [show ltU d'[fr]! d'[f1]! = true from hl] at this
              simpa using this)
            clear hl
            go_upto_region 5 with fail
            go_quiet ((go_at_call 61; exact Calls.quiet_of_same (HQ.out _)))
            go_upto_region 6 with fail
            have h2 := HW5.out.drewN nq
            generalize w5.drewN nq = W2 at *
            have d1 := h2.cell (i := fr) (by rw [← hZ.out]; omega)
            have d0 := h2.cell (i := f1) (by rw [← hZ.out]; omega)
            have g1 := h2.free (i := fr) (by rw [← hZ.out]; omega)
            have g0 := h2.free (i := f1) (by rw [← hZ.out]; omega)
            have p0 := (h2.put (i := fr) (by rw [← hZ.out]; omega) d'[f1]!).cell (i := f1) (by rw [Array.size_setIfInBounds, ← hZ.out]; omega)
            have HS_ := Lib.hid (h2.drew.swap (i := fr) (j := f1) (by rw [← hZ.out]; omega) (by rw [← hZ.out]; omega))
            have HZ3 : Hid (n = (swp d' (fr) (f1)).size) := Lib.hid (by rw [SrtW.size_swp]; exact hZ.out)
            clear a1 a2
            clear h2
            generalize (Array.setIfInBounds d' (fr) d'[f1]!)[f1]! = z0 at *
            generalize swp d' (fr) (f1) = d3 at *
            generalize d'[fr]! = x1 at *
            generalize d'[f1]! = x0 at *
            go_region_with (fail)
            all_goals
              go_wp2
              go_roundg (hi - (c))
              case measure => omega
              case rel => exact ⟨c, d3, by omega, by omega, by go_num, HR2, HZ3, HS_.out⟩
      · have e3 : decide ((c : Int) + 1 < (hi : Int)) = false := by simp; omega
        have e3n : decide (c + 1 < hi) = false := by simpa using h2
        obtain ⟨f1, hf1⟩ : ∃ f1, f1 = first + c := ⟨_, rfl⟩
        have v5 : IntKind.i64.wrap ((first : Int) + (c : Int)) = (f1 : Int) := wrap_nat _ _ (by omega) (by omega)
        have q2 : (0 : Int) ≤ (f1 : Int) := by omega
        have q3 : (f1 : Int) < (n : Int) := by omega
        have HP : Hid ((if !ltU d'[fr]! d'[f1]! then d' else siftDown ltU hi first c (swp d' fr f1)) = res) := Lib.hid (by
          have := sift_one (first := first) (root := root) (hi := hi) d' (by omega) (fun h => by omega)
          rw [show first + (2 * root + 1) = f1 by omega, show first + root = fr by omega, show 2 * root + 1 = c by omega] at this
          rw [← this]
          exact hR.out)
        clear hW0 hR hc hfr hf1
        go_upto_region 2 with fail
        clear vc v1 v2
        go_upto_region 3 with fail
        go_quiet (fail)
        have h5 := HW.out.drewN nq
        generalize wr.drewN nq = w5 at *
        have HQ := Lib.hid (fun W => less_any d'[fr]! d'[f1]! W)
        have a1 := h5.cell (i := fr) (by rw [← hZ.out]; omega)
        have a2 := h5.cell (i := f1) (by rw [← hZ.out]; omega)
        have HW5 := Lib.hid h5
        clear h5
        cases hl : decide (d'[fr]! < d'[f1]!) with
        | false =>
          rw [hl] at HQ
          have HE : Hid (d' = res) := Lib.hid (by
            have := HP.out
            rw [show ltU d'[fr]! d'[f1]! = false from hl] at this
            simpa using this)
          clear hl
          go_upto_region 5 with fail
          go_quiet ((go_at_call 61; exact Calls.quiet_of_same (HQ.out _)))
          go_wp2
          refine bodyPost_ret (results_none rfl _ _ _) rfl ?_
          exact ⟨by simp, by rw [← HE.out]; exact HW5.out.drewN _⟩
        | true =>
          rw [hl] at HQ
          have HR2 : Hid (siftDown ltU hi first (c) (swp d' fr f1) = res) := Lib.hid (by
            have := HP.out
            rw [show ltU d'[fr]! d'[f1]! = true from hl] at this
            simpa using this)
          clear hl
          go_upto_region 5 with fail
          go_quiet ((go_at_call 61; exact Calls.quiet_of_same (HQ.out _)))
          go_upto_region 6 with fail
          have h2 := HW5.out.drewN nq
          generalize w5.drewN nq = W2 at *
          have d1 := h2.cell (i := fr) (by rw [← hZ.out]; omega)
          have d0 := h2.cell (i := f1) (by rw [← hZ.out]; omega)
          have g1 := h2.free (i := fr) (by rw [← hZ.out]; omega)
          have g0 := h2.free (i := f1) (by rw [← hZ.out]; omega)
          have p0 := (h2.put (i := fr) (by rw [← hZ.out]; omega) d'[f1]!).cell (i := f1) (by rw [Array.size_setIfInBounds, ← hZ.out]; omega)
          have HS_ := Lib.hid (h2.drew.swap (i := fr) (j := f1) (by rw [← hZ.out]; omega) (by rw [← hZ.out]; omega))
          have HZ3 : Hid (n = (swp d' (fr) (f1)).size) := Lib.hid (by rw [SrtW.size_swp]; exact hZ.out)
          clear a1 a2
          clear h2
          generalize (Array.setIfInBounds d' (fr) d'[f1]!)[f1]! = z0 at *
          generalize swp d' (fr) (f1) = d3 at *
          generalize d'[fr]! = x1 at *
          generalize d'[f1]! = x0 at *
          go_region_with (fail)
          all_goals
            go_wp2
            go_roundg (hi - (c))
            case measure => omega
            case rel => exact ⟨c, d3, by omega, by omega, by go_num, HR2, HZ3, HS_.out⟩
end Go.Proofs.Ytjbfjglomonanaa

