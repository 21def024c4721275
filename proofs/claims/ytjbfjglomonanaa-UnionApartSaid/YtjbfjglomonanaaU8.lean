/-
  WHAT THE PROOF STANDS ON, a part of it: UnSort4.
-/
import Derived.Test.YtjbfjglomonanaaU7
/-
  CONTRACT OF slices.heapSortOrdered at numbers of 32 bits.
-/

namespace Go.Proofs.Ytjbfjglomonanaa
open Go.RowKit Go.Sort
set_option linter.unusedVariables false
set_option linter.unusedSimpArgs false

theorem sift_size (hi first : Nat) : ∀ (m root : Nat) (d : Array Nat), hi - root ≤ m → (siftDown ltU hi first root d).size = d.size
  | m, root, d, hm => by
    by_cases h : 2 * root + 1 ≥ hi
    · rw [sift_out d h]
    · cases m with
      | zero => omega
      | succ m =>
        by_cases h2 : 2 * root + 1 + 1 < hi ∧ ltU d[first + (2 * root + 1)]! d[first + (2 * root + 1) + 1]! = true
        · rw [sift_two d h2.1 h2.2]
          split
          · rfl
          · rw [sift_size hi first m _ _ (by omega), SrtW.size_swp]
        · rw [sift_one d h h2]
          split
          · rfl
          · rw [sift_size hi first m _ _ (by omega), SrtW.size_swp]
theorem siftSize (hi first root : Nat) (d : Array Nat) : (siftDown ltU hi first root d).size = d.size := sift_size hi first _ root d (Nat.le_refl _)
set_option maxRecDepth 100000 in
set_option maxHeartbeats 4000000 in
theorem heapU_any {W0 W : World} {blk off : Nat} {d : Array Nat} (h : SrtW W0 blk off d W) (cap a b : Nat) (hb : b ≤ d.size) (ha : a < b) (hn : d.size ≤ 1000000) :
    Calls Try.prog 56 #[.slice (some ⟨blk, off, none⟩) d.size cap, .int .i64 (a : Int), .int .i64 (b : Int)] W fun e w' => e = .returned (.tuple #[]) ∧ SrtW W0 blk off (heapSort ltU d a b) w' := by
  obtain ⟨n, hnn⟩ : ∃ n, n = d.size := ⟨_, rfl⟩
  obtain ⟨hi, hhi⟩ : ∃ hi, hi = b - a := ⟨_, rfl⟩
  have H := Lib.hid h
  have HR0 : Hid (heapPop ltU a hi (heapBuild ltU hi a ((hi - 1) / 2 + 1) d) = heapSort ltU d a b) := Lib.hid (by rw [hhi]; rfl)
  have HZ := Lib.hid hnn
  generalize heapSort ltU d a b = res at *
  rw [← hnn] at hb hn ⊢
  have hab : a + hi ≤ n := by omega
  have hi1 : 1 ≤ hi := by omega
  obtain ⟨hm, hhm⟩ : ∃ hm, hm = hi - 1 := ⟨_, rfl⟩
  obtain ⟨hh, hhh⟩ : ∃ hh, hh = hm / 2 := ⟨_, rfl⟩
  rw [← hhm, ← hhh] at HR0
  have v1 : IntKind.i64.wrap ((b : Int) - (a : Int)) = (hi : Int) := wrap_nat _ _ (by omega) (by omega)
  have v2 : IntKind.i64.wrap ((hi : Int) - 1) = (hm : Int) := wrap_nat _ _ (by omega) (by omega)
  have v3 : ((hm : Int)).tdiv 2 = (hh : Int) := by rw [Int.tdiv_eq_ediv_of_nonneg (by omega)]; omega
  have v4 : IntKind.i64.wrap (hh : Int) = (hh : Int) := IntWalk.i64_in _ (by omega)
  have HS : Hid (∀ (W : World) (d' : Array Nat) (lo k : Nat), SrtW W0 blk off d' W → n = d'.size → k ≤ hi → lo ≤ 1000000 → Calls Try.prog 69 #[.slice (some ⟨blk, off, none⟩) n cap, .int .i64 (lo : Int), .int .i64 (k : Int), .int .i64 (a : Int)] W fun e w' => e = .returned (.tuple #[]) ∧ SrtW W0 blk off (siftDown ltU k a lo d') w') := Lib.hid (fun W d' lo k h1 h2 h3 h4 => by
    have := siftU_any h1 cap lo k a (by omega) h4 (by omega)
    rw [← h2] at this
    exact this)
  have hh6 : hh ≤ 1000000 := by omega
  have hm6 : hm < hi ∧ hm + 1 = hi := by omega
  clear h hnn hhi hhm hhh
  go_enter Try.func56, Try.ntmps56
  go_wp2
  go_loopg [9] (hh + 2) (fun g iv wr => ∃ (k : Nat) (z : Int) (d' : Array Nat), k ≤ g ∧ k ≤ hh + 1 ∧ z = (k : Int) - 1 ∧ iv = .int .i64 z ∧ Hid (heapPop ltU a hi (heapBuild ltU hi a k d') = res) ∧ Hid (n = d'.size) ∧ SrtW W0 blk off d' wr)
  case atStart => exact ⟨hh + 1, (hh : Int), d, by omega, by omega, by omega, rfl, HR0, HZ, H.out⟩
  case round =>
    obtain ⟨k, z, d', hg, hk, hz, rfl, hR, hZ, hW⟩ := hrel
    have HW := Lib.hid hW
    clear hW
    by_cases h0 : 0 ≤ z
    · obtain ⟨m, rfl⟩ : ∃ m : Nat, z = (m : Int) := ⟨z.toNat, by omega⟩
      obtain rfl : k = m + 1 := by omega
      have e1 : decide ((m : Int) ≥ 0) = true := by simp
      have HC := Lib.hid (HS.out wr d' m hi HW.out hZ.out (Nat.le_refl _) (by omega))
      have HZ2 : Hid (n = (siftDown ltU hi a m d').size) := Lib.hid (by rw [siftSize]; exact hZ.out)
      have HR2 : Hid (heapPop ltU a hi (heapBuild ltU hi a m (siftDown ltU hi a m d')) = res) := hR
      have w1 : IntKind.i64.wrap ((m : Int) - 1) = (m : Int) - 1 := IntWalk.i64_in _ (by omega)
      generalize siftDown ltU hi a m d' = d2 at *
      clear hR hz h0
      go_wp2_with (go_at_call 69; refine HC.out.mono ?_; rintro e w2 ⟨rfl, hW2⟩; replace hW2 := Lib.hid hW2)
      go_roundg m
      case measure => omega
      case rel => exact ⟨m, (m : Int) - 1, d2, by omega, by omega, rfl, by go_num, HR2, HZ2, hW2.out⟩
    · obtain rfl : k = 0 := by omega
      obtain rfl : z = -1 := by omega
      have HR2 : Hid (heapPop ltU a hi d' = res) := hR
      clear hR hz h0
      go_wp2
      rename World => wo
      go_loopg [10] (hi + 1) (fun g iv wr => ∃ (k : Nat) (z : Int) (d' : Array Nat), k ≤ g ∧ k ≤ hi ∧ z = (k : Int) - 1 ∧ iv = .int .i64 z ∧ Hid (heapPop ltU a k d' = res) ∧ Hid (n = d'.size) ∧ SrtW W0 blk off d' wr)
      case atStart => exact ⟨hi, (hm : Int), d', by omega, by omega, by omega, by go_num, HR2, hZ, HW.out⟩
      case round =>
        obtain ⟨k, z, d2, hg, hk, hz, rfl, hR, hZ, hW⟩ := hrel
        have HW2 := Lib.hid hW
        clear hW
        by_cases h0 : 0 ≤ z
        · obtain ⟨m, rfl⟩ : ∃ m : Nat, z = (m : Int) := ⟨z.toNat, by omega⟩
          obtain rfl : k = m + 1 := by omega
          have e1 : decide ((m : Int) ≥ 0) = true := by simp
          obtain ⟨f, hf⟩ : ∃ f, f = a + m := ⟨_, rfl⟩
          have w0 : IntKind.i64.wrap ((a : Int) + (m : Int)) = (f : Int) := wrap_nat _ _ (by omega) (by omega)
          have q0 : (0 : Int) ≤ (f : Int) := by omega
          have q1 : (f : Int) < (n : Int) := by omega
          have q2 : (0 : Int) ≤ (a : Int) := by omega
          have q3 : (a : Int) < (n : Int) := by omega
          have HR3 : Hid (heapPop ltU a m (siftDown ltU m a 0 (swp d2 a f)) = res) := Lib.hid (by rw [hf]; exact hR.out)
          have w1 : IntKind.i64.wrap ((m : Int) - 1) = (m : Int) - 1 := IntWalk.i64_in _ (by omega)
          clear hf hR hz h0
          go_upto_region 10 with fail
          have h2 := HW2.out
          have d1 := h2.cell (i := a) (by rw [← hZ.out]; omega)
          have d0 := h2.cell (i := f) (by rw [← hZ.out]; omega)
          have g1 := h2.free (i := a) (by rw [← hZ.out]; omega)
          have g0 := h2.free (i := f) (by rw [← hZ.out]; omega)
          have p0 := (h2.put (i := a) (by rw [← hZ.out]; omega) d2[f]!).cell (i := f) (by rw [Array.size_setIfInBounds, ← hZ.out]; omega)
          have HS_ := Lib.hid (h2.drew.swap (i := a) (j := f) (by rw [← hZ.out]; omega) (by rw [← hZ.out]; omega))
          have HZ3 : Hid (n = (swp d2 (a) (f)).size) := Lib.hid (by rw [SrtW.size_swp]; exact hZ.out)
          clear h2
          generalize (Array.setIfInBounds d2 (a) d2[f]!)[f]! = z0 at *
          generalize swp d2 (a) (f) = d3 at *
          generalize d2[a]! = x1 at *
          generalize d2[f]! = x0 at *
          have HC : Hid (∀ W, SrtW W0 blk off d3 W → Calls Try.prog 69 #[.slice (some ⟨blk, off, none⟩) n cap, .int .i64 0, .int .i64 (m : Int), .int .i64 (a : Int)] W fun e w' => e = .returned (.tuple #[]) ∧ SrtW W0 blk off (siftDown ltU m a 0 d3) w') := Lib.hid (fun W h => HS.out W d3 0 m h HZ3.out (by omega) (by omega))
          have HZ4 : Hid (n = (siftDown ltU m a 0 d3).size) := Lib.hid (by rw [siftSize]; exact HZ3.out)
          generalize siftDown ltU m a 0 d3 = d4 at *
          go_region_with (fail)
          all_goals
            go_wp2_with (go_at_call 69; refine (HC.out _ HS_.out).mono ?_; rintro e w2 ⟨rfl, hW4⟩; replace hW4 := Lib.hid hW4)
            go_roundg m
            case measure => omega
            case rel => exact ⟨m, (m : Int) - 1, d4, by omega, by omega, rfl, by go_num, HR3, HZ4, hW4.out⟩
        · obtain rfl : k = 0 := by omega
          obtain rfl : z = -1 := by omega
          have HE : Hid (d2 = res) := hR
          clear hR hz h0
          go_wp2
          go_end0
          exact ⟨by simp, by rw [← HE.out]; exact HW2.out⟩
end Go.Proofs.Ytjbfjglomonanaa

