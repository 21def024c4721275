/-
  CONTRACTS OF the library's xorshift, nextPowerOfTwo, and slices.breakPatternsOrdered at numbers of 32 bits: a permutation.
-/
import Derived.Test.YtloonndeojfepaaUnSort9
import Derived.Test.YtloonndeojfepaaShelf
import Derived.Lib.ItoaNum
import Derived.Sort.Lot0
import Derived.Laws.Bits64b
namespace Go.Proofs.Ytloonndeojfepaa
open Go.RowKit Go.Sort
set_option linter.unusedVariables false
set_option linter.unusedSimpArgs false

theorem u64_of_nat (n : Nat) : 0 ≤ IntKind.u64.wrap (n : Int) ∧ IntKind.u64.wrap (n : Int) < 18446744073709551616 := by
  rw [IntKind.wrap_u64]
  omega
theorem xor_u64 (a b : Int) : 0 ≤ bits .xor .u64 a b ∧ bits .xor .u64 a b < 18446744073709551616 := by
  unfold bits
  exact u64_of_nat _
set_option maxRecDepth 100000 in
set_option maxHeartbeats 4000000 in
theorem pow2_any (l : Nat) (h8 : 8 ≤ l) (hl : l ≤ 1000000) (w : World) : Calls Try.prog 65 #[.int .i64 (l : Int)] w fun e w' => ∃ m : Nat, e = .returned (.int .u64 (m : Int)) ∧ l < m ∧ m ≤ 2 * l ∧ w' = w := by
  have HL := Lib.hid (Try.bits_Len (l : Int) w (by omega) (by omega))
  have v1 : IntKind.u64.wrap (l : Int) = (l : Int) := IntWalk.u64_in _ (by omega)
  go_enter Try.func65, Try.ntmps65
  go_wp2_with (go_at_call 41; refine HL.out.mono ?_; rintro e w' ⟨rfl, rfl⟩)
  go_ret
  obtain ⟨h1, h2, h3⟩ := Lib.bitLenAux_bounds 64 l (Nat.lt_of_le_of_lt hl (by decide)) (by omega)
  obtain ⟨L, hL⟩ : ∃ L, L = Lib.bitLen l := ⟨_, rfl⟩
  rw [show Lib.bitLenAux 64 l = L from hL.symm] at h1 h2 h3
  obtain ⟨k, rfl⟩ : ∃ k, L = k + 1 := ⟨L - 1, by omega⟩
  rw [Nat.add_sub_cancel] at h2
  have hk : k < 20 := by
    by_cases hk : k < 20
    · exact hk
    · have := Nat.pow_le_pow_right (n := 2) (by omega) (show 20 ≤ k by omega)
      omega
  rw [Nat.pow_succ] at h3
  refine ⟨2 ^ (k + 1), ?_, by rw [Nat.pow_succ]; omega, by rw [Nat.pow_succ]; omega, rfl⟩
  have e : IntKind.u64.wrap (2 ^ min (Lib.bitLen l) 64) = ((2 ^ (k + 1) : Nat) : Int) := by
    rw [← hL, Nat.min_eq_left (by omega), show ((2 : Int) ^ (k + 1)) = ((2 ^ (k + 1) : Nat) : Int) by simp]
    refine IntWalk.u64_in _ ⟨by omega, ?_⟩
    have : 2 ^ (k + 1) ≤ 2 * l := by rw [Nat.pow_succ]; omega
    omega
  simp [e]
def XorI (rp : Nat) (W U : World) : Prop := ∃ y : Int, (0 ≤ y ∧ y < 18446744073709551616) ∧ U.heap[rp]? = some (.cells #[.int .u64 y] 99 (0, 0)) ∧ Turned (fun j => j = rp) W U
theorem XorI.set {rp : Nat} {W U : World} (h : XorI rp W U) (y : Int) (hy : 0 ≤ y ∧ y < 18446744073709551616) : XorI rp W (U.setCell ⟨rp, 0, none⟩ (.int .u64 y)).drew := by
  obtain ⟨x, _, hx, hT⟩ := h
  exact ⟨y, hy, heap_setCell_same U rp 0 _ _ (.int .u64 y) hx, (hT.trans (Turned.set (S := fun j => j = rp) (a := ⟨rp, 0, none⟩) rfl _)).drew⟩
set_option maxRecDepth 100000 in
set_option maxHeartbeats 4000000 in
theorem xor_any {W : World} {rp : Nat} (h : XorI rp W W) : Calls Try.prog 66 #[.pointer (some ⟨rp, 0, none⟩)] W fun e w' => ∃ y : Nat, e = .returned (.int .u64 (y : Int)) ∧ y < 18446744073709551616 ∧ XorI rp W w' := by
  have H1 := Lib.hid h
  clear h
  go_enter Try.func66, Try.ntmps66
  obtain ⟨x1, hx, hc, hT⟩ := H1.out
  have x1 : W.cell? ⟨rp, 0, none⟩ = some (.int .u64 x1) := cell_in hc rfl
  have x2 : W.frozen? ⟨rp, 0, none⟩ = false := free_in hc 0
  have HX := Lib.hid (fun y hy => H1.out.set y hy)
  clear hx hc hT
  go_upto_region 1 with fail
  go_cut [] (fun wx => XorI rp W wx)
  case first =>
    go_region_with (fail)
    all_goals
      go_wp2
      go_meet
      exact HX.out _ (xor_u64 _ _)
  case rest =>
    have H2 := Lib.hid hcut
    clear hcut x1 x2 HX
    rename World => y2
    obtain ⟨x2, hx, hc, hT⟩ := H2.out
    have x1 : y2.cell? ⟨rp, 0, none⟩ = some (.int .u64 x2) := cell_in hc rfl
    have x2 : y2.frozen? ⟨rp, 0, none⟩ = false := free_in hc 0
    have HX := Lib.hid (fun y hy => H2.out.set y hy)
    clear hx hc hT
    go_upto_region 2 with fail
    go_cut [] (fun wx => XorI rp W wx)
    case first =>
      go_region_with (fail)
      all_goals
        go_wp2
        go_meet
        exact HX.out _ (xor_u64 _ _)
    case rest =>
      have H3 := Lib.hid hcut
      clear hcut x1 x2 HX
      rename World => y3
      obtain ⟨x3, hx, hc, hT⟩ := H3.out
      have x1 : y3.cell? ⟨rp, 0, none⟩ = some (.int .u64 x3) := cell_in hc rfl
      have x2 : y3.frozen? ⟨rp, 0, none⟩ = false := free_in hc 0
      have HX := Lib.hid (fun y hy => H3.out.set y hy)
      clear hx hc hT
      go_upto_region 3 with fail
      go_cut [] (fun wx => XorI rp W wx)
      case first =>
        go_region_with (fail)
        all_goals
          go_wp2
          go_meet
          exact HX.out _ (xor_u64 _ _)
      case rest =>
        have H4 := Lib.hid hcut
        clear hcut x1 x2 HX
        rename World => y4
        obtain ⟨x4, hx, hc, hT⟩ := H4.out
        have x1 : y4.cell? ⟨rp, 0, none⟩ = some (.int .u64 x4) := cell_in hc rfl
        have HX4 := Lib.hid hx
        clear hx hc hT
        go_wp2
        go_ret
        exact ⟨x4.toNat, by simp [Int.toNat_of_nonneg HX4.out.1], by have := HX4.out; omega, H4.out⟩
end Go.Proofs.Ytloonndeojfepaa
