/-
  CONTRACT OF slices.Sort at numbers of 32 bits: the sorted list; of no numbers, nil or not: nothing.
-/
import Derived.Test.YtloonndeojfepaaUnSort13
namespace Go.Proofs.Ytloonndeojfepaa
open Go.RowKit Go.Sort
set_option linter.unusedVariables false
set_option linter.unusedSimpArgs false

theorem blen_le (n : Nat) (h : n ≤ 1000000) : Lib.bitLen n ≤ 64 := by
  by_cases h0 : n = 0
  · subst h0
    show Lib.bitLenAux 64 0 ≤ 64
    rw [Lib.bitLenAux_zero]
    omega
  · obtain ⟨h1, h2, h3⟩ := Lib.bitLenAux_bounds 64 n (Nat.lt_of_le_of_lt h (by decide)) h0
    obtain ⟨L, hL⟩ : ∃ L, L = Lib.bitLen n := ⟨_, rfl⟩
    rw [show Lib.bitLenAux 64 n = L from hL.symm] at h1 h2 h3
    rw [← hL]
    by_cases hk : L ≤ 64
    · exact hk
    · have := Nat.pow_le_pow_right (n := 2) (by omega) (show 64 ≤ L - 1 by omega)
      omega
theorem sort_unique {d d2 : Array Nat} (hP : PermIn 0 d.size d d2) (hS : SortedIn ltU 0 d.size d2) : d2.toList = d.toList.mergeSort (fun x y => decide (x ≤ y)) := by
  have h := sorted_unique_holds (lt := ltU) swoU (fun x y h1 h2 => by simp at h1 h2; omega) d d2 hP hS
  rw [h]
  congr 1
  funext x y
  by_cases hxy : x ≤ y
  · simp [hxy, Nat.not_lt.mpr hxy]
  · simp [hxy, Nat.lt_of_not_le hxy]
set_option maxRecDepth 100000 in
set_option maxHeartbeats 4000000 in
theorem sortU_any {W0 W : World} {blk off : Nat} {d : Array Nat} (h : SrtW W0 blk off d W) (cap : Nat) (hn : d.size ≤ 1000000) :
    Calls Try.prog 37 #[.slice (some ⟨blk, off, none⟩) d.size cap] W fun e w' => ∃ d2 : Array Nat, e = .returned (.tuple #[]) ∧ d2.toList = d.toList.mergeSort (fun x y => decide (x ≤ y)) ∧ SrtW W0 blk off d2 w' := by
  obtain ⟨n, hnn⟩ : ∃ n, n = d.size := ⟨_, rfl⟩
  have HL := Lib.hid (Try.bits_Len (n : Int) W (by omega) (by omega))
  rw [Int.toNat_natCast] at HL
  have hbl := blen_le n (by omega)
  have HC := pdqU_any (W0 := W0) (blk := blk) (off := off) cap (n := n) (by omega) (n + 1) W d 0 n (Lib.bitLen n) (by omega) h hnn (by omega) (Nat.le_refl _) hbl (Or.inl rfl)
  generalize Lib.bitLen n = L at *
  rw [show (((0 : Nat)) : Int) = 0 from rfl] at HC
  replace HC := Lib.hid HC
  have HN := Lib.hid hnn
  rw [← hnn]
  have v1 : IntKind.u64.wrap (n : Int) = (n : Int) := IntWalk.u64_in _ (by omega)
  clear h hnn
  go_enter Try.func37, Try.ntmps37
  go_wp2_with (first
    | (go_at_call 41; refine HL.out.mono ?_; rintro e w' ⟨rfl, rfl⟩)
    | (go_at_call 44; refine HC.out.mono ?_; rintro e w2 ⟨d2, rfl, hd2, hW2⟩; replace hW2 := Lib.hid hW2; replace hd2 := Lib.hid hd2))
  go_end0
  refine ⟨d2, by simp, ?_, hW2.out⟩
  have h1 := hd2.out.1
  have h2 := hd2.out.2
  rw [HN.out] at h1 h2
  exact sort_unique h1 h2
set_option maxRecDepth 100000 in
set_option maxHeartbeats 4000000 in
theorem insNil_any (p : Option Addr) (cap : Nat) (W : World) :
    Calls Try.prog 55 #[.slice p 0 cap, .int .i64 0, .int .i64 0] W fun e w' => e = .returned (.tuple #[]) ∧ w' = W := by
  go_enter Try.func55, Try.ntmps55
  go_wp2
  go_loopg [6] 1 (fun g i wr => i = .int .i64 1 ∧ wr = W)
  case atStart => exact ⟨by go_num, rfl⟩
  case round =>
    obtain ⟨rfl, rfl⟩ := hrel
    go_wp2
    go_end0
    exact ⟨by simp, rfl⟩
set_option maxRecDepth 100000 in
set_option maxHeartbeats 4000000 in
theorem pdqNil_any (p : Option Addr) (cap : Nat) (limit : Int) (W : World) :
    Calls Try.prog 44 #[.slice p 0 cap, .int .i64 0, .int .i64 0, .int .i64 limit] W fun e w' => e = .returned (.tuple #[]) ∧ w' = W := by
  have HC := Lib.hid (insNil_any p cap W)
  go_enter Try.func44, Try.ntmps44
  go_wp2
  go_loopg [1, 2, 3, 8, 9] 1 (fun g av bv lv xv yv wr => av = .int .i64 0 ∧ bv = .int .i64 0 ∧ wr = W)
  case atStart => exact ⟨rfl, rfl, rfl⟩
  case round =>
    obtain ⟨rfl, rfl, rfl⟩ := hrel
    go_wp2_with (go_at_call 55; refine HC.out.mono ?_; rintro e w2 ⟨rfl, rfl⟩)
    refine bodyPost_ret (results_none rfl _ _ _) rfl ?_
    exact ⟨by simp, rfl⟩
set_option maxRecDepth 100000 in
set_option maxHeartbeats 4000000 in
theorem sortNil_any (p : Option Addr) (cap : Nat) (W : World) :
    Calls Try.prog 37 #[.slice p 0 cap] W fun e w' => e = .returned (.tuple #[]) ∧ w' = W := by
  have HL := Lib.hid (Try.bits_Len 0 W (by omega) (by omega))
  have HC := Lib.hid (fun L => pdqNil_any p cap L W)
  generalize (Lib.bitLen (0 : Int).toNat) = L at *
  go_enter Try.func37, Try.ntmps37
  go_wp2_with (first
    | (go_at_call 41; refine HL.out.mono ?_; rintro e w' ⟨rfl, rfl⟩)
    | (go_at_call 44; refine (HC.out _).mono ?_; rintro e w2 ⟨rfl, rfl⟩))
  go_end0
  exact ⟨by simp, rfl⟩
end Go.Proofs.Ytloonndeojfepaa
