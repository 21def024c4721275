/-
  THE CONTRACT OF the law's known.
-/
import Derived.Test.YtjpppfcbhkbbpaaDoorTermText
namespace Go.Proofs.YtjpppfcbhkbbpaaDoor
open Go.RowKit
open Utf Term
set_option linter.unusedVariables false

theorem num2_any (n : Int) (w : World) : Calls Tryd.prog 33 #[.int .i64 n] w fun e w' => e = .returned (.int .i64 n) ∧ w = w' := by
  go_enter Tryd.func33, Tryd.ntmps33
  go_wp2
  go_ret
  exact ⟨rfl, rfl⟩

theorem known_a : mayS 4 ⟨#[97, 34, 98]⟩ ⟨#[101, 110]⟩ = true := by decide +kernel
theorem known_b : mayS 5 ⟨#[49]⟩ ⟨#[104, 116, 116, 112, 58, 47, 47, 120]⟩ = true := by decide +kernel
theorem known_ta : strOfNums (textL 4 ⟨#[97, 34, 98]⟩ ⟨#[101, 110]⟩) = ⟨#[34, 97, 92, 34, 98, 34, 64, 101, 110]⟩ := by decide +kernel
theorem known_tb : strOfNums (textL 5 ⟨#[49]⟩ ⟨#[104, 116, 116, 112, 58, 47, 47, 120]⟩) = ⟨#[34, 49, 34, 94, 94, 60, 104, 116, 116, 112, 58, 47, 47, 120, 62]⟩ := by decide +kernel

set_option maxRecDepth 100000 in
set_option maxHeartbeats 1000000 in
theorem known2_any (m : Int) (w : World) (hm : w.cell? ⟨0, 0, none⟩ = some (.int .i64 m)) : Calls Tryd.prog 8 #[] w fun e w' => e = .returned (.bool true) ∧ Below w.heap.size w w' := by
  have hz := World.block_lt_of_cell? _ _ hm
  go_enter Tryd.func8, Tryd.ntmps8
  go_wp2_with fail
  go_outline
  refine (text_any 4 ⟨#[97, 34, 98]⟩ ⟨#[101, 110]⟩ (by decide) (by decide) m _ hm).mono ?_
  unfold TextDone
  rw [known_a, known_ta]
  rintro e w1 ⟨rfl, hB1⟩
  go_wp2_with fail
  refine (text_any 5 ⟨#[49]⟩ ⟨#[104, 116, 116, 112, 58, 47, 47, 120]⟩ (by decide) (by decide) m _ ((hB1.cell (p := ⟨0, 0, none⟩) hz).trans hm)).mono ?_
  unfold TextDone
  rw [known_b, known_tb]
  rintro e w2 ⟨rfl, hB2⟩
  go_wp2_with (go_at_call 33; refine (num2_any _ _).mono ?_; rintro e w' ⟨rfl, rfl⟩)
  go_outline
  go_ret
  exact ⟨rfl, hB1.trans (hB2.mono hB1.size)⟩
end Go.Proofs.YtjpppfcbhkbbpaaDoor
