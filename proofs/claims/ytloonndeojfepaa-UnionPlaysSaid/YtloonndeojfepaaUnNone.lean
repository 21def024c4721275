/-
  CONTRACTS OF isNone AND New.
-/
import Derived.Test.YtloonndeojfepaaOn
import Derived.Test.YtloonndeojfepaaChecked
import Derived.Lib.Hide
import Derived.Great.Walk
import Derived.Below
import Derived.WideMake
namespace Go.Proofs.Ytloonndeojfepaa
open Go.RowKit
open Go.WideMaps
set_option linter.unusedVariables false
set_option linter.unusedSimpArgs false

set_option maxRecDepth 100000 in
theorem isNone_nil (w : World) : Calls Try.prog 18 #[.pointer none] w fun e w' => e = .returned (.bool true) ∧ w' = w := by
  go_enter Try.func18, Try.ntmps18
  go_wp2
  go_ret
  exact ⟨rfl, rfl⟩
theorem run_map_none (w : World) : (binOp .eql 46 (.map none) (.map none)).run Try.prog w = .ok (.bool true) w := by kernel_rfl
theorem run_map_some (b : Nat) (w : World) : (binOp .eql 46 (.map (some b)) (.map none)).run Try.prog w = .ok (.bool false) w := by kernel_rfl
set_option maxRecDepth 100000 in
theorem isNone_zero {w : World} {pb : Nat} (h : w.cell? ⟨pb, 1, none⟩ = some (.map none)) : Calls Try.prog 18 #[.pointer (some ⟨pb, 0, none⟩)] w fun e w' => e = .returned (.bool true) ∧ w' = w := by
  have hm := run_map_none
  go_enter Try.func18, Try.ntmps18
  go_wp2
  go_ret
  exact ⟨rfl, rfl⟩
set_option maxRecDepth 100000 in
theorem isNone_some {w : World} {pb cb : Nat} (h : w.cell? ⟨pb, 1, none⟩ = some (.map (some cb))) : Calls Try.prog 18 #[.pointer (some ⟨pb, 0, none⟩)] w fun e w' => e = .returned (.bool false) ∧ w' = w := by
  have hm := run_map_some
  go_enter Try.func18, Try.ntmps18
  go_wp2
  go_ret
  exact ⟨rfl, rfl⟩
set_option maxRecDepth 100000 in
/-- New: two maps of nothing, and a struct of them. -/
theorem new_any (w : World) : Calls Try.prog 7 #[] w fun e w' => e = .returned (.pointer (some ⟨w.heap.size + 2, 0, none⟩)) ∧ Below w.heap.size w w' ∧ w'.heap.size = w.heap.size + 3 ∧
    w'.heap[w.heap.size]? = some (.map #[] 0) ∧ w'.heap[w.heap.size + 1]? = some (.map #[] 0) ∧ w'.heap[w.heap.size + 2]? = some (.cells #[.map (some w.heap.size), .map (some (w.heap.size + 1))] 48 (0, 0)) := by
  have hmm := @run_makeMap_plain Try.prog
  have s1 : (w.alloc (.map #[] 0)).heap.size = w.heap.size + 1 := World.size_alloc _ _
  have s2 : ((w.alloc (.map #[] 0)).alloc (.map #[] 0)).heap.size = w.heap.size + 1 + 1 := by rw [World.size_alloc, s1]
  have HEnd : Hid (∀ U : World, U = ((w.alloc (.map #[] 0)).alloc (.map #[] 0)).alloc (.cells #[.map (some w.heap.size), .map (some (w.heap.size + 1))] 48) → Below w.heap.size w U ∧ U.heap.size = w.heap.size + 3 ∧
      U.heap[w.heap.size]? = some (.map #[] 0) ∧ U.heap[w.heap.size + 1]? = some (.map #[] 0) ∧ U.heap[w.heap.size + 2]? = some (.cells #[.map (some w.heap.size), .map (some (w.heap.size + 1))] 48 (0, 0))) := Lib.hid (by
    rintro U rfl
    have a1 := heap_alloc_new w (.map #[] 0)
    have a2 := heap_alloc_new (w.alloc (.map #[] 0)) (.map #[] 0)
    have a3 := heap_alloc_new ((w.alloc (.map #[] 0)).alloc (.map #[] 0)) (.cells #[.map (some w.heap.size), .map (some (w.heap.size + 1))] 48)
    rw [s1] at a2
    rw [s2] at a3
    refine ⟨(((Below.refl w.heap.size w).alloc (Nat.le_refl _) (.map #[] 0)).alloc (by rw [s1]; omega) (.map #[] 0)).alloc (by rw [s2]; omega) _, by rw [World.size_alloc, s2], ?_, ?_, a3⟩
    · exact ((Below.heap_alloc _ _ _ (by rw [s2]; omega)).trans (Below.heap_alloc _ _ _ (by rw [s1]; omega))).trans a1
    · exact (Below.heap_alloc _ _ _ (by rw [s2]; omega)).trans a2)
  clear s1 s2
  go_enter Try.func7, Try.ntmps7
  go_wp2
  go_ret
  exact ⟨by simp, HEnd.out _ rfl⟩
end Go.Proofs.Ytloonndeojfepaa
