/-
  CONTRACT OF New.
-/
import Derived.Test.YtlamdhklfibjmaaDoorDictSmall
import Derived.Laws.MakeOwn
namespace Go.Proofs.YtlamdhklfibjmaaDoor
open Go.RowKit
open Utf Term
set_option linter.unusedVariables false
set_option linter.unusedSimpArgs false

set_option maxRecDepth 100000 in
theorem new_no (q : Int) (h : ¬ (0 ≤ q ∧ q ≤ 2147483647)) (w : World) : Calls Tryd.prog 7 #[.int .i64 q] w fun e w' => e = .returned (.pointer none) ∧ w = w' := by
  have M := Lib.hid (isLimit_any q w)
  rw [decide_eq_false h] at M
  clear h
  go_enter Tryd.func7, Tryd.ntmps7
  go_wp2_with (go_at_call 19; refine M.out.mono ?_; rintro e w' ⟨rfl, rfl⟩)
  go_ret
  exact ⟨rfl, rfl⟩

theorem info_parts3u {e : TypeId} {z : Value} {s b : Nat} (h : (Tryd.prog.info? e).map (fun i => (i.zero, i.size, i.bytes)) = some (some z, s, b)) : ∃ i, Tryd.prog.info? e = some i ∧ i.zero = some z ∧ i.size = s ∧ i.bytes = b := by
  cases hq : Tryd.prog.info? e with
  | none => rw [hq] at h; cases h
  | some i =>
    rw [hq] at h
    simp at h
    exact ⟨i, rfl, h.1, h.2.1, h.2.2⟩
theorem info_u32 : (Tryd.prog.info? 28).map (fun i => (i.zero, i.size, i.bytes)) = some (some (.int .u32 0), 1, 4) := by kernel_rfl

set_option maxRecDepth 100000 in
set_option maxHeartbeats 2000000 in
theorem new_yes (q : Int) (h : 0 ≤ q ∧ q ≤ 2147483647) (w : World) : Calls Tryd.prog 7 #[.int .i64 q] w fun e w' => ∃ dp tg, e = .returned (.pointer (some ⟨dp, 0, none⟩)) ∧ DictAt w' dp q [] (List.replicate 8 0) none none 0 0 tg ∧ w.heap.size ≤ tg ∧ tg < dp ∧ dp < w'.heap.size ∧ Below w.heap.size w w' := by
  have M := Lib.hid (isLimit_any q w)
  rw [decide_eq_true h] at M
  clear h
  obtain ⟨i0, hi, hz0, hz1, hz2⟩ := info_parts3u info_u32
  have hmk : (Instr.makeSlice 48 (.int .i64 8) (.int .i64 8)).run Tryd.prog w = .ok (.slice (some ⟨w.heap.size, 0, none⟩) 8 8) (w.alloc (.cells #[.int .u32 0, .int .u32 0, .int .u32 0, .int .u32 0, .int .u32 0, .int .u32 0, .int .u32 0, .int .u32 0] 28)) := by
    have h := run_makeSlice (P := Tryd.prog) w 48 28 i0 _ Tryd.underlying48 hi hz0 .i64 .i64 8 8 (by omega) (by omega) (by rw [hz1]; decide) (by rw [hz2]; decide) (by omega)
    rw [hz1] at h
    have e : madeCells (Value.int .u32 0).cells (Int.toNat 8 * 1) = #[.int .u32 0, .int .u32 0, .int .u32 0, .int .u32 0, .int .u32 0, .int .u32 0, .int .u32 0, .int .u32 0] := by kernel_rfl
    rw [e] at h
    exact h
  go_enter Tryd.func7, Tryd.ntmps7
  go_wp2_with (go_at_call 19; refine M.out.mono ?_; rintro e w' ⟨rfl, rfl⟩)
  go_ret
  have hB1 := below_new w (.cells #[.int .u32 0, .int .u32 0, .int .u32 0, .int .u32 0, .int .u32 0, .int .u32 0, .int .u32 0, .int .u32 0] 28)
  have hB2 := below_step hB1 (below_new _ (.cells #[.int .i64 q, .slice none 0 0, .slice none 0 0, .slice (some ⟨w.heap.size, 0, none⟩) 8 8] 50))
  have hs1 : (w.alloc (.cells #[.int .u32 0, .int .u32 0, .int .u32 0, .int .u32 0, .int .u32 0, .int .u32 0, .int .u32 0, .int .u32 0] 28)).heap.size = w.heap.size + 1 := by simp
  have hT : RowC (w.alloc (.cells #[.int .u32 0, .int .u32 0, .int .u32 0, .int .u32 0, .int .u32 0, .int .u32 0, .int .u32 0, .int .u32 0] 28)) w.heap.size 0 ((List.replicate 8 0).map fun v : Nat => Value.int .u32 v) := fun j u hu => by
    rw [Nat.zero_add, World.cell?_alloc_at _ _ _ _ rfl]
    have hj : j < 8 := by have := (List.getElem?_eq_some_iff.1 hu).1; simpa using this
    match j, hj with
    | 0, _ | 1, _ | 2, _ | 3, _ | 4, _ | 5, _ | 6, _ | 7, _ => exact hu
  refine ⟨w.heap.size + 1, w.heap.size, rfl, ⟨?_, ?_, ?_, ?_, ⟨fun h => absurd h (by simp), fun h => absurd h (by simp), by simp, by simp, by simp, by simp, fun p h => by cases h⟩, hT.below (below_new _ _), fun p h => by cases h⟩, Nat.le_refl _, Nat.lt_succ_self _, by simp, hB2⟩
  all_goals (rw [World.cell?_alloc_at _ _ _ _ hs1.symm]; rfl)
end Go.Proofs.YtlamdhklfibjmaaDoor
