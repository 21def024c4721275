/-
  THE WALK OF TermMeans. Written by tools/gentermmeans.py.
-/
import Derived.Test.YtdcfjopijblndaaDoorTermMays
import Derived.Test.YtdcfjopijblndaaDoorMuch
import Derived.Test.YtdcfjopijblndaaDoorEq
import Derived.BigQuiet
namespace Go.Proofs.YtdcfjopijblndaaDoor
open Go.RowKit
open Utf Term
set_option linter.unusedVariables false
set_option linter.unusedSimpArgs false

theorem box3_start (m : Int) (w : World) (a0 a1 a2 b0 b1 b2 c0 c1 c2 : TermD) (hm : w.cell? ⟨0, 0, none⟩ = some (.int .i64 m)) : (fun W' => W'.cell? ⟨0, 0, none⟩ = some (.int .i64 m) ∧ W'.cell? ⟨w.heap.size, 0, none⟩ = some (.int .i64 a0.1) ∧ W'.cell? ⟨w.heap.size, 1, none⟩ = some (.string a0.2.1) ∧ W'.cell? ⟨w.heap.size, 2, none⟩ = some (.string a0.2.2) ∧ W'.cell? ⟨w.heap.size, 3, none⟩ = some (.int .i64 a1.1) ∧ W'.cell? ⟨w.heap.size, 4, none⟩ = some (.string a1.2.1) ∧ W'.cell? ⟨w.heap.size, 5, none⟩ = some (.string a1.2.2) ∧ W'.cell? ⟨w.heap.size, 6, none⟩ = some (.int .i64 a2.1) ∧ W'.cell? ⟨w.heap.size, 7, none⟩ = some (.string a2.2.1) ∧ W'.cell? ⟨w.heap.size, 8, none⟩ = some (.string a2.2.2) ∧ W'.cell? ⟨w.heap.size + 1, 0, none⟩ = some (.int .i64 b0.1) ∧ W'.cell? ⟨w.heap.size + 1, 1, none⟩ = some (.string b0.2.1) ∧ W'.cell? ⟨w.heap.size + 1, 2, none⟩ = some (.string b0.2.2) ∧ W'.cell? ⟨w.heap.size + 1, 3, none⟩ = some (.int .i64 b1.1) ∧ W'.cell? ⟨w.heap.size + 1, 4, none⟩ = some (.string b1.2.1) ∧ W'.cell? ⟨w.heap.size + 1, 5, none⟩ = some (.string b1.2.2) ∧ W'.cell? ⟨w.heap.size + 1, 6, none⟩ = some (.int .i64 b2.1) ∧ W'.cell? ⟨w.heap.size + 1, 7, none⟩ = some (.string b2.2.1) ∧ W'.cell? ⟨w.heap.size + 1, 8, none⟩ = some (.string b2.2.2) ∧ W'.cell? ⟨w.heap.size + 2, 0, none⟩ = some (.int .i64 c0.1) ∧ W'.cell? ⟨w.heap.size + 2, 1, none⟩ = some (.string c0.2.1) ∧ W'.cell? ⟨w.heap.size + 2, 2, none⟩ = some (.string c0.2.2) ∧ W'.cell? ⟨w.heap.size + 2, 3, none⟩ = some (.int .i64 c1.1) ∧ W'.cell? ⟨w.heap.size + 2, 4, none⟩ = some (.string c1.2.1) ∧ W'.cell? ⟨w.heap.size + 2, 5, none⟩ = some (.string c1.2.2) ∧ W'.cell? ⟨w.heap.size + 2, 6, none⟩ = some (.int .i64 c2.1) ∧ W'.cell? ⟨w.heap.size + 2, 7, none⟩ = some (.string c2.2.1) ∧ W'.cell? ⟨w.heap.size + 2, 8, none⟩ = some (.string c2.2.2) ∧ Below w.heap.size w W') (((w.alloc (.cells #[.int .i64 a0.1, .string a0.2.1, .string a0.2.2, .int .i64 a1.1, .string a1.2.1, .string a1.2.2, .int .i64 a2.1, .string a2.2.1, .string a2.2.2] 26)).alloc (.cells #[.int .i64 b0.1, .string b0.2.1, .string b0.2.2, .int .i64 b1.1, .string b1.2.1, .string b1.2.2, .int .i64 b2.1, .string b2.2.1, .string b2.2.2] 26)).alloc (.cells #[.int .i64 c0.1, .string c0.2.1, .string c0.2.2, .int .i64 c1.1, .string c1.2.1, .string c1.2.2, .int .i64 c2.1, .string c2.2.1, .string c2.2.2] 26)) := by
  have k1 : Below w.heap.size w (w.alloc (.cells #[.int .i64 a0.1, .string a0.2.1, .string a0.2.2, .int .i64 a1.1, .string a1.2.1, .string a1.2.2, .int .i64 a2.1, .string a2.2.1, .string a2.2.2] 26)) := below_new _ _
  have k2 : Below (w.alloc (.cells #[.int .i64 a0.1, .string a0.2.1, .string a0.2.2, .int .i64 a1.1, .string a1.2.1, .string a1.2.2, .int .i64 a2.1, .string a2.2.1, .string a2.2.2] 26)).heap.size (w.alloc (.cells #[.int .i64 a0.1, .string a0.2.1, .string a0.2.2, .int .i64 a1.1, .string a1.2.1, .string a1.2.2, .int .i64 a2.1, .string a2.2.1, .string a2.2.2] 26)) ((w.alloc (.cells #[.int .i64 a0.1, .string a0.2.1, .string a0.2.2, .int .i64 a1.1, .string a1.2.1, .string a1.2.2, .int .i64 a2.1, .string a2.2.1, .string a2.2.2] 26)).alloc (.cells #[.int .i64 b0.1, .string b0.2.1, .string b0.2.2, .int .i64 b1.1, .string b1.2.1, .string b1.2.2, .int .i64 b2.1, .string b2.2.1, .string b2.2.2] 26)) := below_new _ _
  have k3 : Below ((w.alloc (.cells #[.int .i64 a0.1, .string a0.2.1, .string a0.2.2, .int .i64 a1.1, .string a1.2.1, .string a1.2.2, .int .i64 a2.1, .string a2.2.1, .string a2.2.2] 26)).alloc (.cells #[.int .i64 b0.1, .string b0.2.1, .string b0.2.2, .int .i64 b1.1, .string b1.2.1, .string b1.2.2, .int .i64 b2.1, .string b2.2.1, .string b2.2.2] 26)).heap.size ((w.alloc (.cells #[.int .i64 a0.1, .string a0.2.1, .string a0.2.2, .int .i64 a1.1, .string a1.2.1, .string a1.2.2, .int .i64 a2.1, .string a2.2.1, .string a2.2.2] 26)).alloc (.cells #[.int .i64 b0.1, .string b0.2.1, .string b0.2.2, .int .i64 b1.1, .string b1.2.1, .string b1.2.2, .int .i64 b2.1, .string b2.2.1, .string b2.2.2] 26)) (((w.alloc (.cells #[.int .i64 a0.1, .string a0.2.1, .string a0.2.2, .int .i64 a1.1, .string a1.2.1, .string a1.2.2, .int .i64 a2.1, .string a2.2.1, .string a2.2.2] 26)).alloc (.cells #[.int .i64 b0.1, .string b0.2.1, .string b0.2.2, .int .i64 b1.1, .string b1.2.1, .string b1.2.2, .int .i64 b2.1, .string b2.2.1, .string b2.2.2] 26)).alloc (.cells #[.int .i64 c0.1, .string c0.2.1, .string c0.2.2, .int .i64 c1.1, .string c1.2.1, .string c1.2.2, .int .i64 c2.1, .string c2.2.1, .string c2.2.2] 26)) := below_new _ _
  have hB : Below w.heap.size w (((w.alloc (.cells #[.int .i64 a0.1, .string a0.2.1, .string a0.2.2, .int .i64 a1.1, .string a1.2.1, .string a1.2.2, .int .i64 a2.1, .string a2.2.1, .string a2.2.2] 26)).alloc (.cells #[.int .i64 b0.1, .string b0.2.1, .string b0.2.2, .int .i64 b1.1, .string b1.2.1, .string b1.2.2, .int .i64 b2.1, .string b2.2.1, .string b2.2.2] 26)).alloc (.cells #[.int .i64 c0.1, .string c0.2.1, .string c0.2.2, .int .i64 c1.1, .string c1.2.1, .string c1.2.2, .int .i64 c2.1, .string c2.2.1, .string c2.2.2] 26)) := below_step (below_step k1 k2) k3
  have z1 : (w.alloc (.cells #[.int .i64 a0.1, .string a0.2.1, .string a0.2.2, .int .i64 a1.1, .string a1.2.1, .string a1.2.2, .int .i64 a2.1, .string a2.2.1, .string a2.2.2] 26)).heap.size = w.heap.size + 1 := by simp
  have z2 : ((w.alloc (.cells #[.int .i64 a0.1, .string a0.2.1, .string a0.2.2, .int .i64 a1.1, .string a1.2.1, .string a1.2.2, .int .i64 a2.1, .string a2.2.1, .string a2.2.2] 26)).alloc (.cells #[.int .i64 b0.1, .string b0.2.1, .string b0.2.2, .int .i64 b1.1, .string b1.2.1, .string b1.2.2, .int .i64 b2.1, .string b2.2.1, .string b2.2.2] 26)).heap.size = w.heap.size + 2 := by simp
  have n1 : ∀ o v, (w.alloc (.cells #[.int .i64 a0.1, .string a0.2.1, .string a0.2.2, .int .i64 a1.1, .string a1.2.1, .string a1.2.2, .int .i64 a2.1, .string a2.2.1, .string a2.2.2] 26)).cell? ⟨w.heap.size, o, none⟩ = some v → (((w.alloc (.cells #[.int .i64 a0.1, .string a0.2.1, .string a0.2.2, .int .i64 a1.1, .string a1.2.1, .string a1.2.2, .int .i64 a2.1, .string a2.2.1, .string a2.2.2] 26)).alloc (.cells #[.int .i64 b0.1, .string b0.2.1, .string b0.2.2, .int .i64 b1.1, .string b1.2.1, .string b1.2.2, .int .i64 b2.1, .string b2.2.1, .string b2.2.2] 26)).alloc (.cells #[.int .i64 c0.1, .string c0.2.1, .string c0.2.2, .int .i64 c1.1, .string c1.2.1, .string c1.2.2, .int .i64 c2.1, .string c2.2.1, .string c2.2.2] 26)).cell? ⟨w.heap.size, o, none⟩ = some v := fun o v e => cell_below k3 (cell_below k2 e)
  have n2 : ∀ o v, ((w.alloc (.cells #[.int .i64 a0.1, .string a0.2.1, .string a0.2.2, .int .i64 a1.1, .string a1.2.1, .string a1.2.2, .int .i64 a2.1, .string a2.2.1, .string a2.2.2] 26)).alloc (.cells #[.int .i64 b0.1, .string b0.2.1, .string b0.2.2, .int .i64 b1.1, .string b1.2.1, .string b1.2.2, .int .i64 b2.1, .string b2.2.1, .string b2.2.2] 26)).cell? ⟨w.heap.size + 1, o, none⟩ = some v → (((w.alloc (.cells #[.int .i64 a0.1, .string a0.2.1, .string a0.2.2, .int .i64 a1.1, .string a1.2.1, .string a1.2.2, .int .i64 a2.1, .string a2.2.1, .string a2.2.2] 26)).alloc (.cells #[.int .i64 b0.1, .string b0.2.1, .string b0.2.2, .int .i64 b1.1, .string b1.2.1, .string b1.2.2, .int .i64 b2.1, .string b2.2.1, .string b2.2.2] 26)).alloc (.cells #[.int .i64 c0.1, .string c0.2.1, .string c0.2.2, .int .i64 c1.1, .string c1.2.1, .string c1.2.2, .int .i64 c2.1, .string c2.2.1, .string c2.2.2] 26)).cell? ⟨w.heap.size + 1, o, none⟩ = some v := fun o v e => cell_below k3 e
  refine ⟨cell_below hB hm, n1 _ _ ?_, n1 _ _ ?_, n1 _ _ ?_, n1 _ _ ?_, n1 _ _ ?_, n1 _ _ ?_, n1 _ _ ?_, n1 _ _ ?_, n1 _ _ ?_, n2 _ _ ?_, n2 _ _ ?_, n2 _ _ ?_, n2 _ _ ?_, n2 _ _ ?_, n2 _ _ ?_, n2 _ _ ?_, n2 _ _ ?_, n2 _ _ ?_, ?_, ?_, ?_, ?_, ?_, ?_, ?_, ?_, ?_, hB⟩
  all_goals
    first | (rw [World.cell?_alloc_at _ _ _ _ rfl]; rfl) | (rw [World.cell?_alloc_at _ _ _ _ z1.symm]; rfl) | (rw [World.cell?_alloc_at _ _ _ _ z2.symm]; rfl)
theorem box3_step {m : Int} {w u v : World} {a0 a1 a2 b0 b1 b2 c0 c1 c2 : TermD} (h : (fun W' => W'.cell? ⟨0, 0, none⟩ = some (.int .i64 m) ∧ W'.cell? ⟨w.heap.size, 0, none⟩ = some (.int .i64 a0.1) ∧ W'.cell? ⟨w.heap.size, 1, none⟩ = some (.string a0.2.1) ∧ W'.cell? ⟨w.heap.size, 2, none⟩ = some (.string a0.2.2) ∧ W'.cell? ⟨w.heap.size, 3, none⟩ = some (.int .i64 a1.1) ∧ W'.cell? ⟨w.heap.size, 4, none⟩ = some (.string a1.2.1) ∧ W'.cell? ⟨w.heap.size, 5, none⟩ = some (.string a1.2.2) ∧ W'.cell? ⟨w.heap.size, 6, none⟩ = some (.int .i64 a2.1) ∧ W'.cell? ⟨w.heap.size, 7, none⟩ = some (.string a2.2.1) ∧ W'.cell? ⟨w.heap.size, 8, none⟩ = some (.string a2.2.2) ∧ W'.cell? ⟨w.heap.size + 1, 0, none⟩ = some (.int .i64 b0.1) ∧ W'.cell? ⟨w.heap.size + 1, 1, none⟩ = some (.string b0.2.1) ∧ W'.cell? ⟨w.heap.size + 1, 2, none⟩ = some (.string b0.2.2) ∧ W'.cell? ⟨w.heap.size + 1, 3, none⟩ = some (.int .i64 b1.1) ∧ W'.cell? ⟨w.heap.size + 1, 4, none⟩ = some (.string b1.2.1) ∧ W'.cell? ⟨w.heap.size + 1, 5, none⟩ = some (.string b1.2.2) ∧ W'.cell? ⟨w.heap.size + 1, 6, none⟩ = some (.int .i64 b2.1) ∧ W'.cell? ⟨w.heap.size + 1, 7, none⟩ = some (.string b2.2.1) ∧ W'.cell? ⟨w.heap.size + 1, 8, none⟩ = some (.string b2.2.2) ∧ W'.cell? ⟨w.heap.size + 2, 0, none⟩ = some (.int .i64 c0.1) ∧ W'.cell? ⟨w.heap.size + 2, 1, none⟩ = some (.string c0.2.1) ∧ W'.cell? ⟨w.heap.size + 2, 2, none⟩ = some (.string c0.2.2) ∧ W'.cell? ⟨w.heap.size + 2, 3, none⟩ = some (.int .i64 c1.1) ∧ W'.cell? ⟨w.heap.size + 2, 4, none⟩ = some (.string c1.2.1) ∧ W'.cell? ⟨w.heap.size + 2, 5, none⟩ = some (.string c1.2.2) ∧ W'.cell? ⟨w.heap.size + 2, 6, none⟩ = some (.int .i64 c2.1) ∧ W'.cell? ⟨w.heap.size + 2, 7, none⟩ = some (.string c2.2.1) ∧ W'.cell? ⟨w.heap.size + 2, 8, none⟩ = some (.string c2.2.2) ∧ Below w.heap.size w W') u) (k : Below u.heap.size u v) : (fun W' => W'.cell? ⟨0, 0, none⟩ = some (.int .i64 m) ∧ W'.cell? ⟨w.heap.size, 0, none⟩ = some (.int .i64 a0.1) ∧ W'.cell? ⟨w.heap.size, 1, none⟩ = some (.string a0.2.1) ∧ W'.cell? ⟨w.heap.size, 2, none⟩ = some (.string a0.2.2) ∧ W'.cell? ⟨w.heap.size, 3, none⟩ = some (.int .i64 a1.1) ∧ W'.cell? ⟨w.heap.size, 4, none⟩ = some (.string a1.2.1) ∧ W'.cell? ⟨w.heap.size, 5, none⟩ = some (.string a1.2.2) ∧ W'.cell? ⟨w.heap.size, 6, none⟩ = some (.int .i64 a2.1) ∧ W'.cell? ⟨w.heap.size, 7, none⟩ = some (.string a2.2.1) ∧ W'.cell? ⟨w.heap.size, 8, none⟩ = some (.string a2.2.2) ∧ W'.cell? ⟨w.heap.size + 1, 0, none⟩ = some (.int .i64 b0.1) ∧ W'.cell? ⟨w.heap.size + 1, 1, none⟩ = some (.string b0.2.1) ∧ W'.cell? ⟨w.heap.size + 1, 2, none⟩ = some (.string b0.2.2) ∧ W'.cell? ⟨w.heap.size + 1, 3, none⟩ = some (.int .i64 b1.1) ∧ W'.cell? ⟨w.heap.size + 1, 4, none⟩ = some (.string b1.2.1) ∧ W'.cell? ⟨w.heap.size + 1, 5, none⟩ = some (.string b1.2.2) ∧ W'.cell? ⟨w.heap.size + 1, 6, none⟩ = some (.int .i64 b2.1) ∧ W'.cell? ⟨w.heap.size + 1, 7, none⟩ = some (.string b2.2.1) ∧ W'.cell? ⟨w.heap.size + 1, 8, none⟩ = some (.string b2.2.2) ∧ W'.cell? ⟨w.heap.size + 2, 0, none⟩ = some (.int .i64 c0.1) ∧ W'.cell? ⟨w.heap.size + 2, 1, none⟩ = some (.string c0.2.1) ∧ W'.cell? ⟨w.heap.size + 2, 2, none⟩ = some (.string c0.2.2) ∧ W'.cell? ⟨w.heap.size + 2, 3, none⟩ = some (.int .i64 c1.1) ∧ W'.cell? ⟨w.heap.size + 2, 4, none⟩ = some (.string c1.2.1) ∧ W'.cell? ⟨w.heap.size + 2, 5, none⟩ = some (.string c1.2.2) ∧ W'.cell? ⟨w.heap.size + 2, 6, none⟩ = some (.int .i64 c2.1) ∧ W'.cell? ⟨w.heap.size + 2, 7, none⟩ = some (.string c2.2.1) ∧ W'.cell? ⟨w.heap.size + 2, 8, none⟩ = some (.string c2.2.2) ∧ Below w.heap.size w W') v := by
  obtain ⟨hm, h0, h1, h2, h3, h4, h5, h6, h7, h8, h9, h10, h11, h12, h13, h14, h15, h16, h17, h18, h19, h20, h21, h22, h23, h24, h25, h26, hB⟩ := h
  exact ⟨cell_below k hm, cell_below k h0, cell_below k h1, cell_below k h2, cell_below k h3, cell_below k h4, cell_below k h5, cell_below k h6, cell_below k h7, cell_below k h8, cell_below k h9, cell_below k h10, cell_below k h11, cell_below k h12, cell_below k h13, cell_below k h14, cell_below k h15, cell_below k h16, cell_below k h17, cell_below k h18, cell_below k h19, cell_below k h20, cell_below k h21, cell_below k h22, cell_below k h23, cell_below k h24, cell_below k h25, cell_below k h26, below_step hB k⟩
theorem box3_drew {m : Int} {w u : World} {a0 a1 a2 b0 b1 b2 c0 c1 c2 : TermD} (h : (fun W' => W'.cell? ⟨0, 0, none⟩ = some (.int .i64 m) ∧ W'.cell? ⟨w.heap.size, 0, none⟩ = some (.int .i64 a0.1) ∧ W'.cell? ⟨w.heap.size, 1, none⟩ = some (.string a0.2.1) ∧ W'.cell? ⟨w.heap.size, 2, none⟩ = some (.string a0.2.2) ∧ W'.cell? ⟨w.heap.size, 3, none⟩ = some (.int .i64 a1.1) ∧ W'.cell? ⟨w.heap.size, 4, none⟩ = some (.string a1.2.1) ∧ W'.cell? ⟨w.heap.size, 5, none⟩ = some (.string a1.2.2) ∧ W'.cell? ⟨w.heap.size, 6, none⟩ = some (.int .i64 a2.1) ∧ W'.cell? ⟨w.heap.size, 7, none⟩ = some (.string a2.2.1) ∧ W'.cell? ⟨w.heap.size, 8, none⟩ = some (.string a2.2.2) ∧ W'.cell? ⟨w.heap.size + 1, 0, none⟩ = some (.int .i64 b0.1) ∧ W'.cell? ⟨w.heap.size + 1, 1, none⟩ = some (.string b0.2.1) ∧ W'.cell? ⟨w.heap.size + 1, 2, none⟩ = some (.string b0.2.2) ∧ W'.cell? ⟨w.heap.size + 1, 3, none⟩ = some (.int .i64 b1.1) ∧ W'.cell? ⟨w.heap.size + 1, 4, none⟩ = some (.string b1.2.1) ∧ W'.cell? ⟨w.heap.size + 1, 5, none⟩ = some (.string b1.2.2) ∧ W'.cell? ⟨w.heap.size + 1, 6, none⟩ = some (.int .i64 b2.1) ∧ W'.cell? ⟨w.heap.size + 1, 7, none⟩ = some (.string b2.2.1) ∧ W'.cell? ⟨w.heap.size + 1, 8, none⟩ = some (.string b2.2.2) ∧ W'.cell? ⟨w.heap.size + 2, 0, none⟩ = some (.int .i64 c0.1) ∧ W'.cell? ⟨w.heap.size + 2, 1, none⟩ = some (.string c0.2.1) ∧ W'.cell? ⟨w.heap.size + 2, 2, none⟩ = some (.string c0.2.2) ∧ W'.cell? ⟨w.heap.size + 2, 3, none⟩ = some (.int .i64 c1.1) ∧ W'.cell? ⟨w.heap.size + 2, 4, none⟩ = some (.string c1.2.1) ∧ W'.cell? ⟨w.heap.size + 2, 5, none⟩ = some (.string c1.2.2) ∧ W'.cell? ⟨w.heap.size + 2, 6, none⟩ = some (.int .i64 c2.1) ∧ W'.cell? ⟨w.heap.size + 2, 7, none⟩ = some (.string c2.2.1) ∧ W'.cell? ⟨w.heap.size + 2, 8, none⟩ = some (.string c2.2.2) ∧ Below w.heap.size w W') u) : (fun W' => W'.cell? ⟨0, 0, none⟩ = some (.int .i64 m) ∧ W'.cell? ⟨w.heap.size, 0, none⟩ = some (.int .i64 a0.1) ∧ W'.cell? ⟨w.heap.size, 1, none⟩ = some (.string a0.2.1) ∧ W'.cell? ⟨w.heap.size, 2, none⟩ = some (.string a0.2.2) ∧ W'.cell? ⟨w.heap.size, 3, none⟩ = some (.int .i64 a1.1) ∧ W'.cell? ⟨w.heap.size, 4, none⟩ = some (.string a1.2.1) ∧ W'.cell? ⟨w.heap.size, 5, none⟩ = some (.string a1.2.2) ∧ W'.cell? ⟨w.heap.size, 6, none⟩ = some (.int .i64 a2.1) ∧ W'.cell? ⟨w.heap.size, 7, none⟩ = some (.string a2.2.1) ∧ W'.cell? ⟨w.heap.size, 8, none⟩ = some (.string a2.2.2) ∧ W'.cell? ⟨w.heap.size + 1, 0, none⟩ = some (.int .i64 b0.1) ∧ W'.cell? ⟨w.heap.size + 1, 1, none⟩ = some (.string b0.2.1) ∧ W'.cell? ⟨w.heap.size + 1, 2, none⟩ = some (.string b0.2.2) ∧ W'.cell? ⟨w.heap.size + 1, 3, none⟩ = some (.int .i64 b1.1) ∧ W'.cell? ⟨w.heap.size + 1, 4, none⟩ = some (.string b1.2.1) ∧ W'.cell? ⟨w.heap.size + 1, 5, none⟩ = some (.string b1.2.2) ∧ W'.cell? ⟨w.heap.size + 1, 6, none⟩ = some (.int .i64 b2.1) ∧ W'.cell? ⟨w.heap.size + 1, 7, none⟩ = some (.string b2.2.1) ∧ W'.cell? ⟨w.heap.size + 1, 8, none⟩ = some (.string b2.2.2) ∧ W'.cell? ⟨w.heap.size + 2, 0, none⟩ = some (.int .i64 c0.1) ∧ W'.cell? ⟨w.heap.size + 2, 1, none⟩ = some (.string c0.2.1) ∧ W'.cell? ⟨w.heap.size + 2, 2, none⟩ = some (.string c0.2.2) ∧ W'.cell? ⟨w.heap.size + 2, 3, none⟩ = some (.int .i64 c1.1) ∧ W'.cell? ⟨w.heap.size + 2, 4, none⟩ = some (.string c1.2.1) ∧ W'.cell? ⟨w.heap.size + 2, 5, none⟩ = some (.string c1.2.2) ∧ W'.cell? ⟨w.heap.size + 2, 6, none⟩ = some (.int .i64 c2.1) ∧ W'.cell? ⟨w.heap.size + 2, 7, none⟩ = some (.string c2.2.1) ∧ W'.cell? ⟨w.heap.size + 2, 8, none⟩ = some (.string c2.2.2) ∧ Below w.heap.size w W') u.drew := by
  obtain ⟨hm, h0, h1, h2, h3, h4, h5, h6, h7, h8, h9, h10, h11, h12, h13, h14, h15, h16, h17, h18, h19, h20, h21, h22, h23, h24, h25, h26, hB⟩ := h
  exact ⟨hm, h0, h1, h2, h3, h4, h5, h6, h7, h8, h9, h10, h11, h12, h13, h14, h15, h16, h17, h18, h19, h20, h21, h22, h23, h24, h25, h26, hB.drew⟩
theorem box3_below {m : Int} {w u : World} {a0 a1 a2 b0 b1 b2 c0 c1 c2 : TermD} (h : (fun W' => W'.cell? ⟨0, 0, none⟩ = some (.int .i64 m) ∧ W'.cell? ⟨w.heap.size, 0, none⟩ = some (.int .i64 a0.1) ∧ W'.cell? ⟨w.heap.size, 1, none⟩ = some (.string a0.2.1) ∧ W'.cell? ⟨w.heap.size, 2, none⟩ = some (.string a0.2.2) ∧ W'.cell? ⟨w.heap.size, 3, none⟩ = some (.int .i64 a1.1) ∧ W'.cell? ⟨w.heap.size, 4, none⟩ = some (.string a1.2.1) ∧ W'.cell? ⟨w.heap.size, 5, none⟩ = some (.string a1.2.2) ∧ W'.cell? ⟨w.heap.size, 6, none⟩ = some (.int .i64 a2.1) ∧ W'.cell? ⟨w.heap.size, 7, none⟩ = some (.string a2.2.1) ∧ W'.cell? ⟨w.heap.size, 8, none⟩ = some (.string a2.2.2) ∧ W'.cell? ⟨w.heap.size + 1, 0, none⟩ = some (.int .i64 b0.1) ∧ W'.cell? ⟨w.heap.size + 1, 1, none⟩ = some (.string b0.2.1) ∧ W'.cell? ⟨w.heap.size + 1, 2, none⟩ = some (.string b0.2.2) ∧ W'.cell? ⟨w.heap.size + 1, 3, none⟩ = some (.int .i64 b1.1) ∧ W'.cell? ⟨w.heap.size + 1, 4, none⟩ = some (.string b1.2.1) ∧ W'.cell? ⟨w.heap.size + 1, 5, none⟩ = some (.string b1.2.2) ∧ W'.cell? ⟨w.heap.size + 1, 6, none⟩ = some (.int .i64 b2.1) ∧ W'.cell? ⟨w.heap.size + 1, 7, none⟩ = some (.string b2.2.1) ∧ W'.cell? ⟨w.heap.size + 1, 8, none⟩ = some (.string b2.2.2) ∧ W'.cell? ⟨w.heap.size + 2, 0, none⟩ = some (.int .i64 c0.1) ∧ W'.cell? ⟨w.heap.size + 2, 1, none⟩ = some (.string c0.2.1) ∧ W'.cell? ⟨w.heap.size + 2, 2, none⟩ = some (.string c0.2.2) ∧ W'.cell? ⟨w.heap.size + 2, 3, none⟩ = some (.int .i64 c1.1) ∧ W'.cell? ⟨w.heap.size + 2, 4, none⟩ = some (.string c1.2.1) ∧ W'.cell? ⟨w.heap.size + 2, 5, none⟩ = some (.string c1.2.2) ∧ W'.cell? ⟨w.heap.size + 2, 6, none⟩ = some (.int .i64 c2.1) ∧ W'.cell? ⟨w.heap.size + 2, 7, none⟩ = some (.string c2.2.1) ∧ W'.cell? ⟨w.heap.size + 2, 8, none⟩ = some (.string c2.2.2) ∧ Below w.heap.size w W') u) : Below w.heap.size w u := h.2.2.2.2.2.2.2.2.2.2.2.2.2.2.2.2.2.2.2.2.2.2.2.2.2.2.2.2

theorem rowT_new (W : World) (ty : TypeId) (a0 a1 a2 b0 b1 b2 c0 c1 c2 : TermD) : RowT (W.alloc (.cells #[.int .i64 a0.1, .string a0.2.1, .string a0.2.2, .int .i64 a1.1, .string a1.2.1, .string a1.2.2, .int .i64 a2.1, .string a2.2.1, .string a2.2.2, .int .i64 b0.1, .string b0.2.1, .string b0.2.2, .int .i64 b1.1, .string b1.2.1, .string b1.2.2, .int .i64 b2.1, .string b2.2.1, .string b2.2.2, .int .i64 c0.1, .string c0.2.1, .string c0.2.2, .int .i64 c1.1, .string c1.2.1, .string c1.2.2, .int .i64 c2.1, .string c2.2.1, .string c2.2.2] ty)) W.heap.size 0 [a0, a1, a2, b0, b1, b2, c0, c1, c2] := by
  intro p q e
  have hp : p < 9 := (List.getElem?_eq_some_iff.1 e).1
  obtain rfl | rfl | rfl | rfl | rfl | rfl | rfl | rfl | rfl : p = 0 ∨ p = 1 ∨ p = 2 ∨ p = 3 ∨ p = 4 ∨ p = 5 ∨ p = 6 ∨ p = 7 ∨ p = 8 := by omega
  all_goals
    cases e
    refine ⟨?_, ?_, ?_⟩ <;> (rw [World.cell?_alloc_at _ _ _ _ rfl]; rfl)

theorem text_tuple {a : TermD} (hf : Fits a) (m : Int) : ∃ X n, (∀ W : World, W.cell? ⟨0, 0, none⟩ = some (.int .i64 m) → Calls Tryd.prog 10 #[termD a] W fun e w' => e = .returned (.tuple #[.string X, .int .i64 n]) ∧ Below W.heap.size W w') ∧ (mayD a = true → X = strOfNums (textD a) ∧ n = 0) ∧ (mayD a = false → X = ⟨#[]⟩ ∧ n = 2) := by
  cases h : mayD a with
  | true => exact ⟨_, _, fun W hW => by have := textD_any (v := true) hf h m W hW; rw [if_pos rfl] at this; exact this, fun _ => ⟨rfl, rfl⟩, (fun h => by cases h)⟩
  | false => exact ⟨_, _, fun W hW => by have := textD_any (v := false) hf h m W hW; rw [if_neg (by decide)] at this; exact this, (fun h => by cases h), fun _ => ⟨rfl, rfl⟩⟩
theorem tripleText_tuple {a b c : TermD} (sa : Fits a) (sb : Fits b) (sc : Fits c) (m : Int) : ∃ Y n, (∀ W : World, W.cell? ⟨0, 0, none⟩ = some (.int .i64 m) → Calls Tryd.prog 11 #[tripleV a b c] W fun e w' => e = .returned (.tuple #[.string Y, .int .i64 n]) ∧ Below W.heap.size W w') ∧ (followD a b c = true → Y = strOfNums (tripleL a b c) ∧ n = 0) ∧ (followD a b c = false → Y = ⟨#[]⟩ ∧ n = 2) := by
  have hT := fun (W : World) (hW : W.cell? ⟨0, 0, none⟩ = some (.int .i64 m)) => tripleText_any a b c sa sb sc m W hW
  have hF : (mayD a && mayD b && mayD c) = followD a b c := rfl
  rw [hF] at hT
  cases h : followD a b c with
  | true => rw [h] at hT; exact ⟨_, _, fun W hW => by have := hT W hW; rw [if_pos rfl] at this; exact this, fun _ => ⟨rfl, rfl⟩, (fun h => by cases h)⟩
  | false => rw [h] at hT; exact ⟨_, _, fun W hW => by have := hT W hW; rw [if_neg (by decide)] at this; exact this, (fun h => by cases h), fun _ => ⟨rfl, rfl⟩⟩

theorem quiet_num (n : Int) {w : World} {k : Nat} : Calls Tryd.prog 18 #[.int .i64 n] (w.drewN k) fun e w'' => e = .returned (.int .i64 n) ∧ ∃ j, w'' = w.drewN j := (num2_any n _).mono fun _ _ ⟨he, hw⟩ => ⟨he, _, hw.symm⟩
theorem quiet_num2 (n : Int) {w : World} {a k : Nat} : Calls Tryd.prog 18 #[.int .i64 n] (w.drewN (a + k)) fun e w'' => e = .returned (.int .i64 n) ∧ ∃ j, w'' = w.drewN (a + j) := (num2_any n _).mono fun _ _ ⟨he, hw⟩ => ⟨he, _, hw.symm⟩
theorem Small.fits {a : TermD} (h : Small a) : Fits a := ⟨by have := h.1; omega, by have := h.2; omega⟩
theorem str_inj {l k : List Int} (hl : AllB l) (hk : AllB k) : strOfNums l = strOfNums k ↔ l = k := by
  constructor
  · intro h
    rw [← bs_strOfNums hl, ← bs_strOfNums hk, h]
  · rintro rfl; rfl
theorem tripleL_byte (a b c : TermD) : AllB (tripleL a b c) := by
  have h := fun x : TermD => textL_byte x.1 x.2.1 x.2.2
  exact .app (h a) (.cons (by decide) (.app (h b) (.cons (by decide) (.app (h c) (.cons (by decide) (.cons (by decide) .nil))))))
theorem beq_str {s t : ByteArray} {v : Bool} (h : s = t ↔ v = true) : (s.toList == t.toList) = v := by
  rw [Bool.eq_iff_iff, beq_iff_eq, bytes_toList, h]

/-- How three numbers of a total order hang together. -/
theorem ord_facts {α : Type} {f : α → α → Int} (h : Ord f) (x y z : α) : (f x y ≤ 0 → f y z ≤ 0 → f x z ≤ 0) ∧ (f x y < 0 → f y z < 0 → f x z < 0) ∧ f y x = - f x y := ⟨h.trans x y z, fun h1 h2 => h.lt_le h1 (by omega), h.anti x y⟩


set_option maxRecDepth 100000 in
set_option maxHeartbeats 8000000 in
theorem termMeans_walk (a0 a1 a2 b0 b1 b2 c0 c1 c2 : TermD) (m : Int) (w : World) (hm : w.cell? ⟨0, 0, none⟩ = some (.int .i64 m)) :
    Calls Tryd.prog 5 #[tripleV a0 a1 a2, tripleV b0 b1 b2, tripleV c0 c1 c2] w fun e w' => e = .returned (.bool true) ∧ Below w.heap.size w w' := by
  have HK := known2_any m
  have H0 := Lib.hid (box3_start m w a0 a1 a2 b0 b1 b2 c0 c1 c2 hm)
  clear hm
  go_enter Tryd.func5, Tryd.ntmps5
  go_wp2_with fail
  refine (HK _ H0.out.1).mono ?_
  rintro e w1 ⟨rfl, hB1⟩
  have H1 := Lib.hid (box3_step H0.out hB1)
  clear H0 hB1
  obtain ⟨_, p0, p1, p2, p3, p4, p5, p6, p7, p8, q0, q1, q2, q3, q4, q5, q6, q7, q8, r0, r1, r2, r3, r4, r5, r6, r7, r8, _⟩ := H1.out
  go_wp2_with fail
  clear p0 p1 p2 p3 p4 p5 p6 p7 p8 q0 q1 q2 q3 q4 q5 q6 q7 q8 r0 r1 r2 r3 r4 r5 r6 r7 r8
  have H2 := Lib.hid (box3_step H1.out (below_new _ (.cells #[.int .i64 a0.1, .string a0.2.1, .string a0.2.2, .int .i64 a1.1, .string a1.2.1, .string a1.2.2, .int .i64 a2.1, .string a2.2.1, .string a2.2.2, .int .i64 b0.1, .string b0.2.1, .string b0.2.2, .int .i64 b1.1, .string b1.2.1, .string b1.2.2, .int .i64 b2.1, .string b2.2.1, .string b2.2.2, .int .i64 c0.1, .string c0.2.1, .string c0.2.2, .int .i64 c1.1, .string c1.2.1, .string c1.2.2, .int .i64 c2.1, .string c2.2.1, .string c2.2.2] 26)))
  refine (much_any w1.heap.size 0 3 3 3 [a0, a1, a2, b0, b1, b2, c0, c1, c2] rfl (by decide) (by decide) _ (rowT_new w1 _ a0 a1 a2 b0 b1 b2 c0 c1 c2)).mono ?_
  rintro e w2 ⟨v, rfl, hB2, hS⟩
  have H3 := Lib.hid (box3_step H2.out hB2)
  clear H1 H2 hB2
  cases v with
  | true =>
    go_wp2_with fail
    go_ret
    exact ⟨rfl, box3_below H3.out⟩
  | false =>
    have hS := (hS rfl).2
    have fa0 := (hS a0 (by simp)).fits
    have fa1 := (hS a1 (by simp)).fits
    have fa2 := (hS a2 (by simp)).fits
    have fb0 := (hS b0 (by simp)).fits
    have fb1 := (hS b1 (by simp)).fits
    have fb2 := (hS b2 (by simp)).fits
    clear hS
    have HX := text_tuple fa0 m
    have HY := text_tuple fb0 m
    obtain ⟨X0, n0, MX, x1, x2⟩ := HX
    obtain ⟨X1, n1, MY, y1, y2⟩ := HY
    obtain ⟨Z0, k0, MZ, z1, z2⟩ := tripleText_tuple fa0 fa1 fa2 m
    obtain ⟨Z1, k1, MU, u1, u2⟩ := tripleText_tuple fb0 fb1 fb2 m
    have sX : mayD a0 = true → X0.size ≤ 7000000000010 := fun h => by rw [(x1 h).1, strOfNums_size]; exact textD_len fa0
    have sY : mayD b0 = true → X1.size ≤ 7000000000010 := fun h => by rw [(y1 h).1, strOfNums_size]; exact textD_len fb0
    have HE : ∃ E : Bool, E = decide (a0 = b0) := ⟨_, rfl⟩
    obtain ⟨E, hE⟩ := HE
    have HE' : ∃ E : Bool, E = decide (a0 = b0 ∧ a1 = b1 ∧ a2 = b2) := ⟨_, rfl⟩
    obtain ⟨E6, hE6⟩ := HE'
    have qE : ∀ W : World, (binOp .eql 24 (.agg #[.int .i64 a0.1, .string a0.2.1, .string a0.2.2]) (.agg #[.int .i64 b0.1, .string b0.2.1, .string b0.2.2])).run Tryd.prog W = .ok (.bool E) W := fun W => by rw [hE]; exact term_eql a0 b0 W
    have qE6 : ∀ W : World, (binOp .eql 26 (.agg #[.int .i64 a0.1, .string a0.2.1, .string a0.2.2, .int .i64 a1.1, .string a1.2.1, .string a1.2.2, .int .i64 a2.1, .string a2.2.1, .string a2.2.2]) (.agg #[.int .i64 b0.1, .string b0.2.1, .string b0.2.2, .int .i64 b1.1, .string b1.2.1, .string b1.2.2, .int .i64 b2.1, .string b2.2.1, .string b2.2.2])).run Tryd.prog W = .ok (.bool E6) W := fun W => by rw [hE6]; exact triple_eql a0 a1 a2 b0 b1 b2 W
    have T1 : mayD a0 = true → mayD b0 = true → (bs (X0 ++ ⟨#[32]⟩) <+: bs (X1 ++ ⟨#[32]⟩) ↔ E = true) ∧ (X0.toList == X1.toList) = E := fun h h' => by
      have b0' : AllB (textD a0) := textL_byte _ _ _
      have b1' : AllB (textD b0) := textL_byte _ _ _
      refine ⟨?_, beq_str ?_⟩
      · rw [(x1 h).1, (y1 h').1, bs_app, bs_app, bs_strOfNums b0', bs_strOfNums b1', hE, decide_eq_true_eq]
        exact text_begins h h'
      · rw [(x1 h).1, (y1 h').1, str_inj b0' b1', hE, decide_eq_true_eq]
        exact text_inj h h'
    have T2 : followD a0 a1 a2 = true → followD b0 b1 b2 = true → (Z0.toList == Z1.toList) = E6 := fun h h' => beq_str (by
      rw [(z1 h).1, (u1 h').1, str_inj (tripleL_byte _ _ _) (tripleL_byte _ _ _), hE6, decide_eq_true_eq]
      exact triple_inj h h')
    have CT := fun x0 x1 x2 y0 y1 y2 W => compareTriples_any x0 x1 x2 y0 y1 y2 W
    have CD := fun x y W => compare_any x y W
    have CL := fun W => less_any a0 b0 W
    have o1 := ord_facts ord_triple (a0, a1, a2) (b0, b1, b2) (c0, c1, c2)
    have o2 := ord_triple.range (a0, a1, a2) (b0, b1, b2)
    have o3 := ord_triple.range (b0, b1, b2) (c0, c1, c2)
    have o4 : cmpT (a0, a1, a2) (b0, b1, b2) = 0 ↔ E6 = true := by rw [ord_triple.zero, hE6, decide_eq_true_eq]; simp
    have d1 := ord_facts ord_term a0 b0 c0
    have d2 := ord_term.range a0 b0
    have d3 := ord_term.range b0 c0
    have d4 : cmpD a0 b0 = 0 ↔ E = true := by rw [ord_term.zero, hE, decide_eq_true_eq]
    clear hE hE6 fa0 fa1 fa2 fb0 fb1 fb2
    generalize cmpT = F at *
    generalize cmpD = G at *
    obtain ⟨p, hp⟩ : ∃ p, F (a0, a1, a2) (b0, b1, b2) = p := ⟨_, rfl⟩
    obtain ⟨q, hq⟩ : ∃ q, F (b0, b1, b2) (c0, c1, c2) = q := ⟨_, rfl⟩
    obtain ⟨r, hr⟩ : ∃ r, F (a0, a1, a2) (c0, c1, c2) = r := ⟨_, rfl⟩
    obtain ⟨p', hp'⟩ : ∃ r, F (b0, b1, b2) (a0, a1, a2) = r := ⟨_, rfl⟩
    obtain ⟨g, hg⟩ : ∃ p, G a0 b0 = p := ⟨_, rfl⟩
    obtain ⟨n, hn⟩ : ∃ q, G b0 c0 = q := ⟨_, rfl⟩
    obtain ⟨o, ho⟩ : ∃ r, G a0 c0 = r := ⟨_, rfl⟩
    obtain ⟨g', hg'⟩ : ∃ r, G b0 a0 = r := ⟨_, rfl⟩
    rw [hp, hq, hr, hp'] at o1
    rw [hp] at o2 o4
    rw [hq] at o3
    rw [hg, hn, ho, hg'] at d1
    rw [hg] at d2 d4 CL
    rw [hn] at d3
    obtain ⟨o11, o12, rfl⟩ := o1
    obtain ⟨d11, d12, rfl⟩ := d1
    have O11 := Lib.hid o11
    have O12 := Lib.hid o12
    have O2 := Lib.hid o2
    have O3 := Lib.hid o3
    have O4 := Lib.hid o4
    have D11 := Lib.hid d11
    have D2 := Lib.hid d2
    have D3 := Lib.hid d3
    have D4 := Lib.hid d4
    have X1' := Lib.hid x1
    have X2' := Lib.hid x2
    have Y1' := Lib.hid y1
    have Y2' := Lib.hid y2
    have Z1' := Lib.hid z1
    have Z2' := Lib.hid z2
    have U1' := Lib.hid u1
    have U2' := Lib.hid u2
    have TT1 := Lib.hid T1
    have TT2 := Lib.hid T2
    have SX := Lib.hid sX
    have SY := Lib.hid sY
    have HP := Lib.hid hp
    have HQ := Lib.hid hq
    have HR := Lib.hid hr
    have HP' := Lib.hid hp'
    have HG := Lib.hid hg
    have HN := Lib.hid hn
    have HO := Lib.hid ho
    have HG' := Lib.hid hg'
    clear o11 o12 o2 o3 o4 d11 d12 d2 d3 d4 x1 x2 y1 y2 z1 z2 u1 u2 T1 T2 sX sY hp hq hr hp' hg hn ho hg'
    generalize mayD a0 = va at *
    generalize mayD b0 = vb at *
    generalize followD a0 a1 a2 = fa at *
    generalize followD b0 b1 b2 = fb at *
    generalize strOfNums (textD a0) = tX at *
    generalize strOfNums (textD b0) = tY at *
    generalize strOfNums (tripleL a0 a1 a2) = tZ at *
    generalize strOfNums (tripleL b0 b1 b2) = tU at *
    obtain ⟨_, p0, p1, p2, _, _, _, _, _, _, _, _, _, _, _, _, _, _, _, _, _, _, _, _, _, _, _, _, _⟩ := H3.out
    go_wp2_with fail
    refine (MX _ H3.out.1).mono ?_
    rintro e w3 ⟨rfl, hB3⟩
    have H4 := Lib.hid (box3_step H3.out hB3)
    clear H3 hB3 p0 p1 p2
    obtain ⟨_, _, _, _, _, _, _, _, _, _, q0, q1, q2, _, _, _, _, _, _, _, _, _, _, _, _, _, _, _, _⟩ := H4.out
    go_wp2_with fail
    refine (MY _ H4.out.1).mono ?_
    rintro e w4 ⟨rfl, hB4⟩
    have H5 := Lib.hid (box3_step H4.out hB4)
    clear H4 hB4 q0 q1 q2
    go_upto_region 7 with fail
    go_cut [65] (fun s65 wx => s65 = .bool false ∧ wx.cell? ⟨0, 0, none⟩ = some (.int .i64 m) ∧ wx.cell? ⟨w.heap.size, 0, none⟩ = some (.int .i64 a0.1) ∧ wx.cell? ⟨w.heap.size, 1, none⟩ = some (.string a0.2.1) ∧ wx.cell? ⟨w.heap.size, 2, none⟩ = some (.string a0.2.2) ∧ wx.cell? ⟨w.heap.size, 3, none⟩ = some (.int .i64 a1.1) ∧ wx.cell? ⟨w.heap.size, 4, none⟩ = some (.string a1.2.1) ∧ wx.cell? ⟨w.heap.size, 5, none⟩ = some (.string a1.2.2) ∧ wx.cell? ⟨w.heap.size, 6, none⟩ = some (.int .i64 a2.1) ∧ wx.cell? ⟨w.heap.size, 7, none⟩ = some (.string a2.2.1) ∧ wx.cell? ⟨w.heap.size, 8, none⟩ = some (.string a2.2.2) ∧ wx.cell? ⟨w.heap.size + 1, 0, none⟩ = some (.int .i64 b0.1) ∧ wx.cell? ⟨w.heap.size + 1, 1, none⟩ = some (.string b0.2.1) ∧ wx.cell? ⟨w.heap.size + 1, 2, none⟩ = some (.string b0.2.2) ∧ wx.cell? ⟨w.heap.size + 1, 3, none⟩ = some (.int .i64 b1.1) ∧ wx.cell? ⟨w.heap.size + 1, 4, none⟩ = some (.string b1.2.1) ∧ wx.cell? ⟨w.heap.size + 1, 5, none⟩ = some (.string b1.2.2) ∧ wx.cell? ⟨w.heap.size + 1, 6, none⟩ = some (.int .i64 b2.1) ∧ wx.cell? ⟨w.heap.size + 1, 7, none⟩ = some (.string b2.2.1) ∧ wx.cell? ⟨w.heap.size + 1, 8, none⟩ = some (.string b2.2.2) ∧ wx.cell? ⟨w.heap.size + 2, 0, none⟩ = some (.int .i64 c0.1) ∧ wx.cell? ⟨w.heap.size + 2, 1, none⟩ = some (.string c0.2.1) ∧ wx.cell? ⟨w.heap.size + 2, 2, none⟩ = some (.string c0.2.2) ∧ wx.cell? ⟨w.heap.size + 2, 3, none⟩ = some (.int .i64 c1.1) ∧ wx.cell? ⟨w.heap.size + 2, 4, none⟩ = some (.string c1.2.1) ∧ wx.cell? ⟨w.heap.size + 2, 5, none⟩ = some (.string c1.2.2) ∧ wx.cell? ⟨w.heap.size + 2, 6, none⟩ = some (.int .i64 c2.1) ∧ wx.cell? ⟨w.heap.size + 2, 7, none⟩ = some (.string c2.2.1) ∧ wx.cell? ⟨w.heap.size + 2, 8, none⟩ = some (.string c2.2.2) ∧ Below w.heap.size w wx)
    case first => as_aux_lemma =>
      have H6 := Lib.hid (box3_drew H5.out)
      cases va with
      | false =>
        obtain ⟨rfl, rfl⟩ := X2'.out rfl
        obtain ⟨n, rfl, hn1⟩ : ∃ n : Int, n1 = n ∧ (n = 0 ∨ n = 2) := ⟨_, rfl, by
          cases vb with
          | false => exact .inr (Y2'.out rfl).2
          | true => exact .inl (Y1'.out rfl).2⟩
        rcases hn1 with rfl | rfl
        all_goals
          go_quiet ((go_at_call 18; first | exact quiet_num _ | exact quiet_num2 _))
          go_wp2_with fail
          go_meet
          exact ⟨rfl, box3_step H5.out (below_drewN _ _ _)⟩
      | true =>
        obtain ⟨eX, rfl⟩ := X1'.out rfl
        cases vb with
        | false =>
          obtain ⟨rfl, rfl⟩ := Y2'.out rfl
          clear eX
          go_quiet ((go_at_call 18; first | exact quiet_num _ | exact quiet_num2 _))
          go_wp2_with fail
          go_meet
          exact ⟨rfl, box3_step H5.out (below_drewN _ _ _)⟩
        | true =>
          obtain ⟨eY, rfl⟩ := Y1'.out rfl
          obtain ⟨t1, t2⟩ := TT1.out rfl rfl
          have s1 : ¬ 9223372036854775807 < X0.size + 1 := by have := SX.out rfl; omega
          have s2 : ¬ 9223372036854775807 < X1.size + 1 := by have := SY.out rfl; omega
          have BG := fun W => begins_any (X0 ++ ⟨#[32]⟩) (X1 ++ ⟨#[32]⟩) E t1 W
          clear eX eY t1
          go_region_held3 (fun W' => W'.cell? ⟨0, 0, none⟩ = some (.int .i64 m) ∧ W'.cell? ⟨w.heap.size, 0, none⟩ = some (.int .i64 a0.1) ∧ W'.cell? ⟨w.heap.size, 1, none⟩ = some (.string a0.2.1) ∧ W'.cell? ⟨w.heap.size, 2, none⟩ = some (.string a0.2.2) ∧ W'.cell? ⟨w.heap.size, 3, none⟩ = some (.int .i64 a1.1) ∧ W'.cell? ⟨w.heap.size, 4, none⟩ = some (.string a1.2.1) ∧ W'.cell? ⟨w.heap.size, 5, none⟩ = some (.string a1.2.2) ∧ W'.cell? ⟨w.heap.size, 6, none⟩ = some (.int .i64 a2.1) ∧ W'.cell? ⟨w.heap.size, 7, none⟩ = some (.string a2.2.1) ∧ W'.cell? ⟨w.heap.size, 8, none⟩ = some (.string a2.2.2) ∧ W'.cell? ⟨w.heap.size + 1, 0, none⟩ = some (.int .i64 b0.1) ∧ W'.cell? ⟨w.heap.size + 1, 1, none⟩ = some (.string b0.2.1) ∧ W'.cell? ⟨w.heap.size + 1, 2, none⟩ = some (.string b0.2.2) ∧ W'.cell? ⟨w.heap.size + 1, 3, none⟩ = some (.int .i64 b1.1) ∧ W'.cell? ⟨w.heap.size + 1, 4, none⟩ = some (.string b1.2.1) ∧ W'.cell? ⟨w.heap.size + 1, 5, none⟩ = some (.string b1.2.2) ∧ W'.cell? ⟨w.heap.size + 1, 6, none⟩ = some (.int .i64 b2.1) ∧ W'.cell? ⟨w.heap.size + 1, 7, none⟩ = some (.string b2.2.1) ∧ W'.cell? ⟨w.heap.size + 1, 8, none⟩ = some (.string b2.2.2) ∧ W'.cell? ⟨w.heap.size + 2, 0, none⟩ = some (.int .i64 c0.1) ∧ W'.cell? ⟨w.heap.size + 2, 1, none⟩ = some (.string c0.2.1) ∧ W'.cell? ⟨w.heap.size + 2, 2, none⟩ = some (.string c0.2.2) ∧ W'.cell? ⟨w.heap.size + 2, 3, none⟩ = some (.int .i64 c1.1) ∧ W'.cell? ⟨w.heap.size + 2, 4, none⟩ = some (.string c1.2.1) ∧ W'.cell? ⟨w.heap.size + 2, 5, none⟩ = some (.string c1.2.2) ∧ W'.cell? ⟨w.heap.size + 2, 6, none⟩ = some (.int .i64 c2.1) ∧ W'.cell? ⟨w.heap.size + 2, 7, none⟩ = some (.string c2.2.1) ∧ W'.cell? ⟨w.heap.size + 2, 8, none⟩ = some (.string c2.2.2) ∧ Below w.heap.size w W') ((first | assumption | exact H6.out)) ((first | (go_at_call 18; refine (num2_any _ _).mono ?_; rintro e w' ⟨rfl, rfl⟩) | (go_at_call 30; refine (BG _).mono ?_; rintro e w' ⟨rfl, rfl⟩)))
          all_goals
            rename_i hHeld
            go_wp2_with fail
            go_meet
            exact ⟨rfl, hHeld⟩
    case rest =>
    rename_i w5
    obtain ⟨rfl, hS6⟩ := hcut
    have H6 := Lib.hid hS6
    clear H5 hS6
    obtain ⟨_, p0, p1, p2, p3, p4, p5, p6, p7, p8, _, _, _, _, _, _, _, _, _, _, _, _, _, _, _, _, _, _, _⟩ := H6.out
    go_wp2_with fail
    refine (MZ _ H6.out.1).mono ?_
    rintro e w6 ⟨rfl, hB6⟩
    have H7 := Lib.hid (box3_step H6.out hB6)
    clear H6 hB6 p0 p1 p2 p3 p4 p5 p6 p7 p8
    obtain ⟨_, _, _, _, _, _, _, _, _, _, q0, q1, q2, q3, q4, q5, q6, q7, q8, _, _, _, _, _, _, _, _, _, _⟩ := H7.out
    go_wp2_with fail
    refine (MU _ H7.out.1).mono ?_
    rintro e w7 ⟨rfl, hB7⟩
    have H8 := Lib.hid (box3_step H7.out hB7)
    clear H7 hB7 q0 q1 q2 q3 q4 q5 q6 q7 q8
    have qE2 := Lib.hid qE
    clear qE MX MY MZ MU HK
    go_upto_region 11 with fail
    go_cut [90] (fun s90 wx => s90 = .bool false ∧ wx.cell? ⟨0, 0, none⟩ = some (.int .i64 m) ∧ wx.cell? ⟨w.heap.size, 0, none⟩ = some (.int .i64 a0.1) ∧ wx.cell? ⟨w.heap.size, 1, none⟩ = some (.string a0.2.1) ∧ wx.cell? ⟨w.heap.size, 2, none⟩ = some (.string a0.2.2) ∧ wx.cell? ⟨w.heap.size, 3, none⟩ = some (.int .i64 a1.1) ∧ wx.cell? ⟨w.heap.size, 4, none⟩ = some (.string a1.2.1) ∧ wx.cell? ⟨w.heap.size, 5, none⟩ = some (.string a1.2.2) ∧ wx.cell? ⟨w.heap.size, 6, none⟩ = some (.int .i64 a2.1) ∧ wx.cell? ⟨w.heap.size, 7, none⟩ = some (.string a2.2.1) ∧ wx.cell? ⟨w.heap.size, 8, none⟩ = some (.string a2.2.2) ∧ wx.cell? ⟨w.heap.size + 1, 0, none⟩ = some (.int .i64 b0.1) ∧ wx.cell? ⟨w.heap.size + 1, 1, none⟩ = some (.string b0.2.1) ∧ wx.cell? ⟨w.heap.size + 1, 2, none⟩ = some (.string b0.2.2) ∧ wx.cell? ⟨w.heap.size + 1, 3, none⟩ = some (.int .i64 b1.1) ∧ wx.cell? ⟨w.heap.size + 1, 4, none⟩ = some (.string b1.2.1) ∧ wx.cell? ⟨w.heap.size + 1, 5, none⟩ = some (.string b1.2.2) ∧ wx.cell? ⟨w.heap.size + 1, 6, none⟩ = some (.int .i64 b2.1) ∧ wx.cell? ⟨w.heap.size + 1, 7, none⟩ = some (.string b2.2.1) ∧ wx.cell? ⟨w.heap.size + 1, 8, none⟩ = some (.string b2.2.2) ∧ wx.cell? ⟨w.heap.size + 2, 0, none⟩ = some (.int .i64 c0.1) ∧ wx.cell? ⟨w.heap.size + 2, 1, none⟩ = some (.string c0.2.1) ∧ wx.cell? ⟨w.heap.size + 2, 2, none⟩ = some (.string c0.2.2) ∧ wx.cell? ⟨w.heap.size + 2, 3, none⟩ = some (.int .i64 c1.1) ∧ wx.cell? ⟨w.heap.size + 2, 4, none⟩ = some (.string c1.2.1) ∧ wx.cell? ⟨w.heap.size + 2, 5, none⟩ = some (.string c1.2.2) ∧ wx.cell? ⟨w.heap.size + 2, 6, none⟩ = some (.int .i64 c2.1) ∧ wx.cell? ⟨w.heap.size + 2, 7, none⟩ = some (.string c2.2.1) ∧ wx.cell? ⟨w.heap.size + 2, 8, none⟩ = some (.string c2.2.2) ∧ Below w.heap.size w wx)
    case first => as_aux_lemma =>
      obtain ⟨_, p0, p1, p2, p3, p4, p5, p6, p7, p8, q0, q1, q2, q3, q4, q5, q6, q7, q8, _, _, _, _, _, _, _, _, _, _⟩ := H8.out
      cases fa with
      | false =>
        obtain ⟨rfl, rfl⟩ := Z2'.out rfl
        obtain ⟨n, rfl, hn1⟩ : ∃ n : Int, k1 = n ∧ (n = 0 ∨ n = 2) := ⟨_, rfl, by
          cases fb with
          | false => exact .inr (U2'.out rfl).2
          | true => exact .inl (U1'.out rfl).2⟩
        rcases hn1 with rfl | rfl
        all_goals
          go_wp2_with (go_at_call 18; refine (num2_any _ _).mono ?_; rintro e w' ⟨rfl, rfl⟩)
          go_meet
          exact ⟨rfl, H8.out⟩
      | true =>
        obtain ⟨eX, rfl⟩ := Z1'.out rfl
        cases fb with
        | false =>
          obtain ⟨rfl, rfl⟩ := U2'.out rfl
          clear eX
          go_wp2_with (go_at_call 18; refine (num2_any _ _).mono ?_; rintro e w' ⟨rfl, rfl⟩)
          go_meet
          exact ⟨rfl, H8.out⟩
        | true =>
          obtain ⟨eY, rfl⟩ := U1'.out rfl
          have t2 := TT2.out rfl rfl
          clear eX eY
          go_wp2_with (go_at_call 18; refine (num2_any _ _).mono ?_; rintro e w' ⟨rfl, rfl⟩)
          go_meet
          exact ⟨rfl, H8.out⟩
    case rest =>
    rename_i w8
    obtain ⟨rfl, hS9⟩ := hcut
    have H9 := Lib.hid hS9
    clear H8 hS9 Z1' Z2' U1' U2' X1' X2' Y1' Y2' TT1 TT2 SX SY
    go_upto_region 13 with fail
    go_cut [11, 12, 13] (fun s11 s12 s13 wx => s11 = .int .i64 p ∧ s12 = .int .i64 q ∧ s13 = .int .i64 r ∧ wx.cell? ⟨0, 0, none⟩ = some (.int .i64 m) ∧ wx.cell? ⟨w.heap.size, 0, none⟩ = some (.int .i64 a0.1) ∧ wx.cell? ⟨w.heap.size, 1, none⟩ = some (.string a0.2.1) ∧ wx.cell? ⟨w.heap.size, 2, none⟩ = some (.string a0.2.2) ∧ wx.cell? ⟨w.heap.size, 3, none⟩ = some (.int .i64 a1.1) ∧ wx.cell? ⟨w.heap.size, 4, none⟩ = some (.string a1.2.1) ∧ wx.cell? ⟨w.heap.size, 5, none⟩ = some (.string a1.2.2) ∧ wx.cell? ⟨w.heap.size, 6, none⟩ = some (.int .i64 a2.1) ∧ wx.cell? ⟨w.heap.size, 7, none⟩ = some (.string a2.2.1) ∧ wx.cell? ⟨w.heap.size, 8, none⟩ = some (.string a2.2.2) ∧ wx.cell? ⟨w.heap.size + 1, 0, none⟩ = some (.int .i64 b0.1) ∧ wx.cell? ⟨w.heap.size + 1, 1, none⟩ = some (.string b0.2.1) ∧ wx.cell? ⟨w.heap.size + 1, 2, none⟩ = some (.string b0.2.2) ∧ wx.cell? ⟨w.heap.size + 1, 3, none⟩ = some (.int .i64 b1.1) ∧ wx.cell? ⟨w.heap.size + 1, 4, none⟩ = some (.string b1.2.1) ∧ wx.cell? ⟨w.heap.size + 1, 5, none⟩ = some (.string b1.2.2) ∧ wx.cell? ⟨w.heap.size + 1, 6, none⟩ = some (.int .i64 b2.1) ∧ wx.cell? ⟨w.heap.size + 1, 7, none⟩ = some (.string b2.2.1) ∧ wx.cell? ⟨w.heap.size + 1, 8, none⟩ = some (.string b2.2.2) ∧ wx.cell? ⟨w.heap.size + 2, 0, none⟩ = some (.int .i64 c0.1) ∧ wx.cell? ⟨w.heap.size + 2, 1, none⟩ = some (.string c0.2.1) ∧ wx.cell? ⟨w.heap.size + 2, 2, none⟩ = some (.string c0.2.2) ∧ wx.cell? ⟨w.heap.size + 2, 3, none⟩ = some (.int .i64 c1.1) ∧ wx.cell? ⟨w.heap.size + 2, 4, none⟩ = some (.string c1.2.1) ∧ wx.cell? ⟨w.heap.size + 2, 5, none⟩ = some (.string c1.2.2) ∧ wx.cell? ⟨w.heap.size + 2, 6, none⟩ = some (.int .i64 c2.1) ∧ wx.cell? ⟨w.heap.size + 2, 7, none⟩ = some (.string c2.2.1) ∧ wx.cell? ⟨w.heap.size + 2, 8, none⟩ = some (.string c2.2.2) ∧ Below w.heap.size w wx)
    case first => as_aux_lemma =>
      have H10 := Lib.hid (box3_drew H9.out)
      go_region_held3 (fun W' => W'.cell? ⟨0, 0, none⟩ = some (.int .i64 m) ∧ W'.cell? ⟨w.heap.size, 0, none⟩ = some (.int .i64 a0.1) ∧ W'.cell? ⟨w.heap.size, 1, none⟩ = some (.string a0.2.1) ∧ W'.cell? ⟨w.heap.size, 2, none⟩ = some (.string a0.2.2) ∧ W'.cell? ⟨w.heap.size, 3, none⟩ = some (.int .i64 a1.1) ∧ W'.cell? ⟨w.heap.size, 4, none⟩ = some (.string a1.2.1) ∧ W'.cell? ⟨w.heap.size, 5, none⟩ = some (.string a1.2.2) ∧ W'.cell? ⟨w.heap.size, 6, none⟩ = some (.int .i64 a2.1) ∧ W'.cell? ⟨w.heap.size, 7, none⟩ = some (.string a2.2.1) ∧ W'.cell? ⟨w.heap.size, 8, none⟩ = some (.string a2.2.2) ∧ W'.cell? ⟨w.heap.size + 1, 0, none⟩ = some (.int .i64 b0.1) ∧ W'.cell? ⟨w.heap.size + 1, 1, none⟩ = some (.string b0.2.1) ∧ W'.cell? ⟨w.heap.size + 1, 2, none⟩ = some (.string b0.2.2) ∧ W'.cell? ⟨w.heap.size + 1, 3, none⟩ = some (.int .i64 b1.1) ∧ W'.cell? ⟨w.heap.size + 1, 4, none⟩ = some (.string b1.2.1) ∧ W'.cell? ⟨w.heap.size + 1, 5, none⟩ = some (.string b1.2.2) ∧ W'.cell? ⟨w.heap.size + 1, 6, none⟩ = some (.int .i64 b2.1) ∧ W'.cell? ⟨w.heap.size + 1, 7, none⟩ = some (.string b2.2.1) ∧ W'.cell? ⟨w.heap.size + 1, 8, none⟩ = some (.string b2.2.2) ∧ W'.cell? ⟨w.heap.size + 2, 0, none⟩ = some (.int .i64 c0.1) ∧ W'.cell? ⟨w.heap.size + 2, 1, none⟩ = some (.string c0.2.1) ∧ W'.cell? ⟨w.heap.size + 2, 2, none⟩ = some (.string c0.2.2) ∧ W'.cell? ⟨w.heap.size + 2, 3, none⟩ = some (.int .i64 c1.1) ∧ W'.cell? ⟨w.heap.size + 2, 4, none⟩ = some (.string c1.2.1) ∧ W'.cell? ⟨w.heap.size + 2, 5, none⟩ = some (.string c1.2.2) ∧ W'.cell? ⟨w.heap.size + 2, 6, none⟩ = some (.int .i64 c2.1) ∧ W'.cell? ⟨w.heap.size + 2, 7, none⟩ = some (.string c2.2.1) ∧ W'.cell? ⟨w.heap.size + 2, 8, none⟩ = some (.string c2.2.2) ∧ Below w.heap.size w W') ((first | assumption | exact H10.out | exact box3_step (by assumption) (by assumption))) ((go_at_call 28; refine (CT _ _ _ _ _ _ _).mono ?_; rintro e w9 ⟨rfl, hB9⟩))
      all_goals
        rename_i hHeld
        go_wp2_with fail
        go_meet
        exact ⟨by rw [HP.out], by rw [HQ.out], by rw [HR.out], hHeld⟩
    case rest =>
    rename_i w9
    obtain ⟨rfl, rfl, rfl, hS10⟩ := hcut
    have H10 := Lib.hid hS10
    clear H9 hS10
    go_upto_region 14 with fail
    go_cut [137] (fun s137 wx => s137 = .bool false ∧ wx.cell? ⟨0, 0, none⟩ = some (.int .i64 m) ∧ wx.cell? ⟨w.heap.size, 0, none⟩ = some (.int .i64 a0.1) ∧ wx.cell? ⟨w.heap.size, 1, none⟩ = some (.string a0.2.1) ∧ wx.cell? ⟨w.heap.size, 2, none⟩ = some (.string a0.2.2) ∧ wx.cell? ⟨w.heap.size, 3, none⟩ = some (.int .i64 a1.1) ∧ wx.cell? ⟨w.heap.size, 4, none⟩ = some (.string a1.2.1) ∧ wx.cell? ⟨w.heap.size, 5, none⟩ = some (.string a1.2.2) ∧ wx.cell? ⟨w.heap.size, 6, none⟩ = some (.int .i64 a2.1) ∧ wx.cell? ⟨w.heap.size, 7, none⟩ = some (.string a2.2.1) ∧ wx.cell? ⟨w.heap.size, 8, none⟩ = some (.string a2.2.2) ∧ wx.cell? ⟨w.heap.size + 1, 0, none⟩ = some (.int .i64 b0.1) ∧ wx.cell? ⟨w.heap.size + 1, 1, none⟩ = some (.string b0.2.1) ∧ wx.cell? ⟨w.heap.size + 1, 2, none⟩ = some (.string b0.2.2) ∧ wx.cell? ⟨w.heap.size + 1, 3, none⟩ = some (.int .i64 b1.1) ∧ wx.cell? ⟨w.heap.size + 1, 4, none⟩ = some (.string b1.2.1) ∧ wx.cell? ⟨w.heap.size + 1, 5, none⟩ = some (.string b1.2.2) ∧ wx.cell? ⟨w.heap.size + 1, 6, none⟩ = some (.int .i64 b2.1) ∧ wx.cell? ⟨w.heap.size + 1, 7, none⟩ = some (.string b2.2.1) ∧ wx.cell? ⟨w.heap.size + 1, 8, none⟩ = some (.string b2.2.2) ∧ wx.cell? ⟨w.heap.size + 2, 0, none⟩ = some (.int .i64 c0.1) ∧ wx.cell? ⟨w.heap.size + 2, 1, none⟩ = some (.string c0.2.1) ∧ wx.cell? ⟨w.heap.size + 2, 2, none⟩ = some (.string c0.2.2) ∧ wx.cell? ⟨w.heap.size + 2, 3, none⟩ = some (.int .i64 c1.1) ∧ wx.cell? ⟨w.heap.size + 2, 4, none⟩ = some (.string c1.2.1) ∧ wx.cell? ⟨w.heap.size + 2, 5, none⟩ = some (.string c1.2.2) ∧ wx.cell? ⟨w.heap.size + 2, 6, none⟩ = some (.int .i64 c2.1) ∧ wx.cell? ⟨w.heap.size + 2, 7, none⟩ = some (.string c2.2.1) ∧ wx.cell? ⟨w.heap.size + 2, 8, none⟩ = some (.string c2.2.2) ∧ Below w.heap.size w wx)
    case first => as_aux_lemma =>
      obtain ⟨_, p0, p1, p2, p3, p4, p5, p6, p7, p8, q0, q1, q2, q3, q4, q5, q6, q7, q8, _, _, _, _, _, _, _, _, _, _⟩ := H10.out
      rcases O2.out with rfl | rfl | rfl
      · obtain rfl : E6 = false := by
          cases E6 with
          | false => rfl
          | true => exact absurd (O4.out.2 rfl) (by decide)
        rcases O3.out with rfl | rfl | rfl
        · have e1 : decide (0 < r) = false := by have := O11.out (by decide) (by decide); simp; omega
          have e2 : decide (0 ≤ r) = false := by have := O12.out (by decide) (by decide); simp; omega
          go_wp2_with fail
          refine (CT _ _ _ _ _ _ _).mono ?_
          rw [HP'.out]
          rintro e w10 ⟨rfl, hB10⟩
          go_wp2_with fail
          go_meet
          exact ⟨rfl, box3_step H10.out hB10⟩
        · have e1 : decide (0 < r) = false := by have := O11.out (by decide) (by decide); simp; omega
          go_wp2_with fail
          refine (CT _ _ _ _ _ _ _).mono ?_
          rw [HP'.out]
          rintro e w10 ⟨rfl, hB10⟩
          go_wp2_with fail
          go_meet
          exact ⟨rfl, box3_step H10.out hB10⟩
        · skip
          go_wp2_with fail
          refine (CT _ _ _ _ _ _ _).mono ?_
          rw [HP'.out]
          rintro e w10 ⟨rfl, hB10⟩
          go_wp2_with fail
          go_meet
          exact ⟨rfl, box3_step H10.out hB10⟩
      · obtain rfl : E6 = true := O4.out.1 rfl
        rcases O3.out with rfl | rfl | rfl
        · have e1 : decide (0 < r) = false := by have := O11.out (by decide) (by decide); simp; omega
          go_wp2_with fail
          refine (CT _ _ _ _ _ _ _).mono ?_
          rw [HP'.out]
          rintro e w10 ⟨rfl, hB10⟩
          go_wp2_with fail
          go_meet
          exact ⟨rfl, box3_step H10.out hB10⟩
        · have e1 : decide (0 < r) = false := by have := O11.out (by decide) (by decide); simp; omega
          go_wp2_with fail
          refine (CT _ _ _ _ _ _ _).mono ?_
          rw [HP'.out]
          rintro e w10 ⟨rfl, hB10⟩
          go_wp2_with fail
          go_meet
          exact ⟨rfl, box3_step H10.out hB10⟩
        · skip
          go_wp2_with fail
          refine (CT _ _ _ _ _ _ _).mono ?_
          rw [HP'.out]
          rintro e w10 ⟨rfl, hB10⟩
          go_wp2_with fail
          go_meet
          exact ⟨rfl, box3_step H10.out hB10⟩
      · obtain rfl : E6 = false := by
          cases E6 with
          | false => rfl
          | true => exact absurd (O4.out.2 rfl) (by decide)
        go_wp2_with fail
        refine (CT _ _ _ _ _ _ _).mono ?_
        rw [HP'.out]
        rintro e w10 ⟨rfl, hB10⟩
        go_wp2_with fail
        go_meet
        exact ⟨rfl, box3_step H10.out hB10⟩
    case rest =>
    rename_i w10
    obtain ⟨rfl, hS11⟩ := hcut
    have H11 := Lib.hid hS11
    clear H10 hS11 O11 O12 O2 O3 O4 HP HQ HR HP' CT
    have qE := qE2.out
    go_upto_region 16 with fail
    go_cut [14, 15, 16] (fun s14 s15 s16 wx => s14 = .int .i64 g ∧ s15 = .int .i64 n ∧ s16 = .int .i64 o ∧ wx.cell? ⟨0, 0, none⟩ = some (.int .i64 m) ∧ wx.cell? ⟨w.heap.size, 0, none⟩ = some (.int .i64 a0.1) ∧ wx.cell? ⟨w.heap.size, 1, none⟩ = some (.string a0.2.1) ∧ wx.cell? ⟨w.heap.size, 2, none⟩ = some (.string a0.2.2) ∧ wx.cell? ⟨w.heap.size, 3, none⟩ = some (.int .i64 a1.1) ∧ wx.cell? ⟨w.heap.size, 4, none⟩ = some (.string a1.2.1) ∧ wx.cell? ⟨w.heap.size, 5, none⟩ = some (.string a1.2.2) ∧ wx.cell? ⟨w.heap.size, 6, none⟩ = some (.int .i64 a2.1) ∧ wx.cell? ⟨w.heap.size, 7, none⟩ = some (.string a2.2.1) ∧ wx.cell? ⟨w.heap.size, 8, none⟩ = some (.string a2.2.2) ∧ wx.cell? ⟨w.heap.size + 1, 0, none⟩ = some (.int .i64 b0.1) ∧ wx.cell? ⟨w.heap.size + 1, 1, none⟩ = some (.string b0.2.1) ∧ wx.cell? ⟨w.heap.size + 1, 2, none⟩ = some (.string b0.2.2) ∧ wx.cell? ⟨w.heap.size + 1, 3, none⟩ = some (.int .i64 b1.1) ∧ wx.cell? ⟨w.heap.size + 1, 4, none⟩ = some (.string b1.2.1) ∧ wx.cell? ⟨w.heap.size + 1, 5, none⟩ = some (.string b1.2.2) ∧ wx.cell? ⟨w.heap.size + 1, 6, none⟩ = some (.int .i64 b2.1) ∧ wx.cell? ⟨w.heap.size + 1, 7, none⟩ = some (.string b2.2.1) ∧ wx.cell? ⟨w.heap.size + 1, 8, none⟩ = some (.string b2.2.2) ∧ wx.cell? ⟨w.heap.size + 2, 0, none⟩ = some (.int .i64 c0.1) ∧ wx.cell? ⟨w.heap.size + 2, 1, none⟩ = some (.string c0.2.1) ∧ wx.cell? ⟨w.heap.size + 2, 2, none⟩ = some (.string c0.2.2) ∧ wx.cell? ⟨w.heap.size + 2, 3, none⟩ = some (.int .i64 c1.1) ∧ wx.cell? ⟨w.heap.size + 2, 4, none⟩ = some (.string c1.2.1) ∧ wx.cell? ⟨w.heap.size + 2, 5, none⟩ = some (.string c1.2.2) ∧ wx.cell? ⟨w.heap.size + 2, 6, none⟩ = some (.int .i64 c2.1) ∧ wx.cell? ⟨w.heap.size + 2, 7, none⟩ = some (.string c2.2.1) ∧ wx.cell? ⟨w.heap.size + 2, 8, none⟩ = some (.string c2.2.2) ∧ Below w.heap.size w wx)
    case first => as_aux_lemma =>
      have H12 := Lib.hid (box3_drew H11.out)
      go_region_held3 (fun W' => W'.cell? ⟨0, 0, none⟩ = some (.int .i64 m) ∧ W'.cell? ⟨w.heap.size, 0, none⟩ = some (.int .i64 a0.1) ∧ W'.cell? ⟨w.heap.size, 1, none⟩ = some (.string a0.2.1) ∧ W'.cell? ⟨w.heap.size, 2, none⟩ = some (.string a0.2.2) ∧ W'.cell? ⟨w.heap.size, 3, none⟩ = some (.int .i64 a1.1) ∧ W'.cell? ⟨w.heap.size, 4, none⟩ = some (.string a1.2.1) ∧ W'.cell? ⟨w.heap.size, 5, none⟩ = some (.string a1.2.2) ∧ W'.cell? ⟨w.heap.size, 6, none⟩ = some (.int .i64 a2.1) ∧ W'.cell? ⟨w.heap.size, 7, none⟩ = some (.string a2.2.1) ∧ W'.cell? ⟨w.heap.size, 8, none⟩ = some (.string a2.2.2) ∧ W'.cell? ⟨w.heap.size + 1, 0, none⟩ = some (.int .i64 b0.1) ∧ W'.cell? ⟨w.heap.size + 1, 1, none⟩ = some (.string b0.2.1) ∧ W'.cell? ⟨w.heap.size + 1, 2, none⟩ = some (.string b0.2.2) ∧ W'.cell? ⟨w.heap.size + 1, 3, none⟩ = some (.int .i64 b1.1) ∧ W'.cell? ⟨w.heap.size + 1, 4, none⟩ = some (.string b1.2.1) ∧ W'.cell? ⟨w.heap.size + 1, 5, none⟩ = some (.string b1.2.2) ∧ W'.cell? ⟨w.heap.size + 1, 6, none⟩ = some (.int .i64 b2.1) ∧ W'.cell? ⟨w.heap.size + 1, 7, none⟩ = some (.string b2.2.1) ∧ W'.cell? ⟨w.heap.size + 1, 8, none⟩ = some (.string b2.2.2) ∧ W'.cell? ⟨w.heap.size + 2, 0, none⟩ = some (.int .i64 c0.1) ∧ W'.cell? ⟨w.heap.size + 2, 1, none⟩ = some (.string c0.2.1) ∧ W'.cell? ⟨w.heap.size + 2, 2, none⟩ = some (.string c0.2.2) ∧ W'.cell? ⟨w.heap.size + 2, 3, none⟩ = some (.int .i64 c1.1) ∧ W'.cell? ⟨w.heap.size + 2, 4, none⟩ = some (.string c1.2.1) ∧ W'.cell? ⟨w.heap.size + 2, 5, none⟩ = some (.string c1.2.2) ∧ W'.cell? ⟨w.heap.size + 2, 6, none⟩ = some (.int .i64 c2.1) ∧ W'.cell? ⟨w.heap.size + 2, 7, none⟩ = some (.string c2.2.1) ∧ W'.cell? ⟨w.heap.size + 2, 8, none⟩ = some (.string c2.2.2) ∧ Below w.heap.size w W') ((first | assumption | exact H12.out | exact box3_step (by assumption) (by assumption))) ((go_at_call 24; refine (CD _ _ _).mono ?_; rintro e w9 ⟨rfl, hB9⟩))
      all_goals
        rename_i hHeld
        go_wp2_with fail
        go_meet
        exact ⟨by rw [HG.out], by rw [HN.out], by rw [HO.out], hHeld⟩
    case rest =>
    rename_i w12
    obtain ⟨rfl, rfl, rfl, hS13⟩ := hcut
    have H13 := Lib.hid hS13
    clear H11 hS13
    obtain ⟨_, p0, p1, p2, _, _, _, _, _, _, q0, q1, q2, _, _, _, _, _, _, _, _, _, _, _, _, _, _, _, _⟩ := H13.out
    as_aux_lemma =>
      rcases D2.out with rfl | rfl | rfl
      · obtain rfl : E = false := by
          cases E with
          | false => rfl
          | true => exact absurd (D4.out.2 rfl) (by decide)
        rcases D3.out with rfl | rfl | rfl
        · have e1 : decide (o ≤ 0) = true := by have := D11.out (by decide) (by decide); simp; omega
          go_wp2_with fail
          refine (CD _ _ _).mono ?_
          rw [HG'.out]
          rintro e w13 ⟨rfl, hB13⟩
          have H14 := Lib.hid (box3_step H13.out hB13)
          obtain ⟨_, p0, p1, p2, _, _, _, _, _, _, q0, q1, q2, _, _, _, _, _, _, _, _, _, _, _, _, _, _, _, _⟩ := H14.out
          go_wp2_with fail
          refine (CL _).mono ?_
          rintro e w14 ⟨rfl, hB14⟩
          have H15 := Lib.hid (box3_step H14.out hB14)
          clear p0 p1 p2 q0 q1 q2
          go_wp2_with fail
          go_ret
          exact ⟨rfl, box3_below H15.out⟩
        · have e1 : decide (o ≤ 0) = true := by have := D11.out (by decide) (by decide); simp; omega
          go_wp2_with fail
          refine (CD _ _ _).mono ?_
          rw [HG'.out]
          rintro e w13 ⟨rfl, hB13⟩
          have H14 := Lib.hid (box3_step H13.out hB13)
          obtain ⟨_, p0, p1, p2, _, _, _, _, _, _, q0, q1, q2, _, _, _, _, _, _, _, _, _, _, _, _, _, _, _, _⟩ := H14.out
          go_wp2_with fail
          refine (CL _).mono ?_
          rintro e w14 ⟨rfl, hB14⟩
          have H15 := Lib.hid (box3_step H14.out hB14)
          clear p0 p1 p2 q0 q1 q2
          go_wp2_with fail
          go_ret
          exact ⟨rfl, box3_below H15.out⟩
        · skip
          go_wp2_with fail
          refine (CD _ _ _).mono ?_
          rw [HG'.out]
          rintro e w13 ⟨rfl, hB13⟩
          have H14 := Lib.hid (box3_step H13.out hB13)
          obtain ⟨_, p0, p1, p2, _, _, _, _, _, _, q0, q1, q2, _, _, _, _, _, _, _, _, _, _, _, _, _, _, _, _⟩ := H14.out
          go_wp2_with fail
          refine (CL _).mono ?_
          rintro e w14 ⟨rfl, hB14⟩
          have H15 := Lib.hid (box3_step H14.out hB14)
          clear p0 p1 p2 q0 q1 q2
          go_wp2_with fail
          go_ret
          exact ⟨rfl, box3_below H15.out⟩
      · obtain rfl : E = true := D4.out.1 rfl
        rcases D3.out with rfl | rfl | rfl
        · have e1 : decide (o ≤ 0) = true := by have := D11.out (by decide) (by decide); simp; omega
          go_wp2_with fail
          refine (CD _ _ _).mono ?_
          rw [HG'.out]
          rintro e w13 ⟨rfl, hB13⟩
          have H14 := Lib.hid (box3_step H13.out hB13)
          obtain ⟨_, p0, p1, p2, _, _, _, _, _, _, q0, q1, q2, _, _, _, _, _, _, _, _, _, _, _, _, _, _, _, _⟩ := H14.out
          go_wp2_with fail
          refine (CL _).mono ?_
          rintro e w14 ⟨rfl, hB14⟩
          have H15 := Lib.hid (box3_step H14.out hB14)
          clear p0 p1 p2 q0 q1 q2
          go_wp2_with fail
          go_ret
          exact ⟨rfl, box3_below H15.out⟩
        · have e1 : decide (o ≤ 0) = true := by have := D11.out (by decide) (by decide); simp; omega
          go_wp2_with fail
          refine (CD _ _ _).mono ?_
          rw [HG'.out]
          rintro e w13 ⟨rfl, hB13⟩
          have H14 := Lib.hid (box3_step H13.out hB13)
          obtain ⟨_, p0, p1, p2, _, _, _, _, _, _, q0, q1, q2, _, _, _, _, _, _, _, _, _, _, _, _, _, _, _, _⟩ := H14.out
          go_wp2_with fail
          refine (CL _).mono ?_
          rintro e w14 ⟨rfl, hB14⟩
          have H15 := Lib.hid (box3_step H14.out hB14)
          clear p0 p1 p2 q0 q1 q2
          go_wp2_with fail
          go_ret
          exact ⟨rfl, box3_below H15.out⟩
        · skip
          go_wp2_with fail
          refine (CD _ _ _).mono ?_
          rw [HG'.out]
          rintro e w13 ⟨rfl, hB13⟩
          have H14 := Lib.hid (box3_step H13.out hB13)
          obtain ⟨_, p0, p1, p2, _, _, _, _, _, _, q0, q1, q2, _, _, _, _, _, _, _, _, _, _, _, _, _, _, _, _⟩ := H14.out
          go_wp2_with fail
          refine (CL _).mono ?_
          rintro e w14 ⟨rfl, hB14⟩
          have H15 := Lib.hid (box3_step H14.out hB14)
          clear p0 p1 p2 q0 q1 q2
          go_wp2_with fail
          go_ret
          exact ⟨rfl, box3_below H15.out⟩
      · obtain rfl : E = false := by
          cases E with
          | false => rfl
          | true => exact absurd (D4.out.2 rfl) (by decide)
        go_wp2_with fail
        refine (CD _ _ _).mono ?_
        rw [HG'.out]
        rintro e w13 ⟨rfl, hB13⟩
        have H14 := Lib.hid (box3_step H13.out hB13)
        obtain ⟨_, p0, p1, p2, _, _, _, _, _, _, q0, q1, q2, _, _, _, _, _, _, _, _, _, _, _, _, _, _, _, _⟩ := H14.out
        go_wp2_with fail
        refine (CL _).mono ?_
        rintro e w14 ⟨rfl, hB14⟩
        have H15 := Lib.hid (box3_step H14.out hB14)
        clear p0 p1 p2 q0 q1 q2
        go_wp2_with fail
        go_ret
        exact ⟨rfl, box3_below H15.out⟩
end Go.Proofs.YtdcfjopijblndaaDoor
