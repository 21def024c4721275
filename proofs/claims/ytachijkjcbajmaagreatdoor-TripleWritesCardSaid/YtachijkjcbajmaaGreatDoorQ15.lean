/-
  WHAT THE PROOF STANDS ON, a part of it: TermMay2.
-/
import Derived.Test.YtachijkjcbajmaaGreatDoorQ12
import Derived.Deep.RegionWith
/-
  THE CONTRACT OF May.
-/

namespace Go.Proofs.YtachijkjcbajmaaGreatDoor
open Go.RowKit
open Utf Term
set_option linter.unusedVariables false

theorem zero_func (w : World) : (zeroValue 75).run Tryz.prog w = .ok .nilFunc w := by kernel_rfl

theorem look_1 {w : World} {b c1 c2 c3 c4 c5 : Nat} (h : w.heap[b]? = some (.map (entriesOf c1 c2 c3 c4 c5) 5)) : (Instr.lookup 138 (.map (some b)) (.int .i64 1) true).run Tryz.prog w = .ok (.tuple #[cloA c1, .bool true]) w :=
  run_look_hit w Tryz.underlying138 Tryz.underlying29 h 1 0 _ rfl
theorem look_2 {w : World} {b c1 c2 c3 c4 c5 : Nat} (h : w.heap[b]? = some (.map (entriesOf c1 c2 c3 c4 c5) 5)) : (Instr.lookup 138 (.map (some b)) (.int .i64 2) true).run Tryz.prog w = .ok (.tuple #[cloA c2, .bool true]) w :=
  run_look_hit w Tryz.underlying138 Tryz.underlying29 h 2 1 _ rfl
theorem look_3 {w : World} {b c1 c2 c3 c4 c5 : Nat} (h : w.heap[b]? = some (.map (entriesOf c1 c2 c3 c4 c5) 5)) : (Instr.lookup 138 (.map (some b)) (.int .i64 3) true).run Tryz.prog w = .ok (.tuple #[cloA c3, .bool true]) w :=
  run_look_hit w Tryz.underlying138 Tryz.underlying29 h 3 2 _ rfl
theorem look_4 {w : World} {b c1 c2 c3 c4 c5 : Nat} (h : w.heap[b]? = some (.map (entriesOf c1 c2 c3 c4 c5) 5)) : (Instr.lookup 138 (.map (some b)) (.int .i64 4) true).run Tryz.prog w = .ok (.tuple #[cloB c4, .bool true]) w :=
  run_look_hit w Tryz.underlying138 Tryz.underlying29 h 4 3 _ rfl
theorem look_5 {w : World} {b c1 c2 c3 c4 c5 : Nat} (h : w.heap[b]? = some (.map (entriesOf c1 c2 c3 c4 c5) 5)) : (Instr.lookup 138 (.map (some b)) (.int .i64 5) true).run Tryz.prog w = .ok (.tuple #[cloB c5, .bool true]) w :=
  run_look_hit w Tryz.underlying138 Tryz.underlying29 h 5 4 _ rfl
theorem look_no {w : World} {b c1 c2 c3 c4 c5 : Nat} (h : w.heap[b]? = some (.map (entriesOf c1 c2 c3 c4 c5) 5)) (k : Int) (hk : k < 1 ∨ 5 < k) : (Instr.lookup 138 (.map (some b)) (.int .i64 k) true).run Tryz.prog w = .ok (.tuple #[.nilFunc, .bool false]) w :=
  run_look_miss w Tryz.underlying138 Tryz.underlying29 h k _ (zero_func w) (by
    intro y hy
    simp at hy
    rcases hy with rfl | rfl | rfl | rfl | rfl <;> exact ⟨_, rfl, by omega⟩)

theorem box_cells {w w2 : World} {k : Int} {t x : ByteArray} (hB : Below (w.alloc (.cells #[.int .i64 k, .string t, .string x] 31)).drew.heap.size (w.alloc (.cells #[.int .i64 k, .string t, .string x] 31)).drew w2) :
    w2.cell? ⟨w.heap.size, 0, none⟩ = some (.int .i64 k) ∧ w2.cell? ⟨w.heap.size, 1, none⟩ = some (.string t) ∧ w2.cell? ⟨w.heap.size, 2, none⟩ = some (.string x) := by
  have h : ∀ o v, (w.alloc (.cells #[.int .i64 k, .string t, .string x] 31)).cell? ⟨w.heap.size, o, none⟩ = v → w2.cell? ⟨w.heap.size, o, none⟩ = v := fun o v e =>
    (hB.cell (p := ⟨w.heap.size, o, none⟩) (by show w.heap.size < (w.alloc _).heap.size; simp)).trans e
  refine ⟨h 0 _ ?_, h 1 _ ?_, h 2 _ ?_⟩
  all_goals
    rw [World.cell?_alloc_at _ _ _ _ rfl]
    rfl

theorem may_below {w w2 w3 : World} {o : Obj} (hB : Below (w.alloc o).drew.heap.size (w.alloc o).drew w2) (hB3 : Below w2.heap.size w2 w3) : Below w.heap.size w w3 := by
  have h1 : Below w.heap.size w (w.alloc o).drew := ((Below.refl _ w).alloc (Nat.le_refl _) _).drew
  have h2 := h1.trans (hB.mono h1.size)
  exact h2.trans (hB3.mono h2.size)

set_option maxRecDepth 100000 in
set_option maxHeartbeats 2000000 in
theorem may_1 (t x : ByteArray) (ht : t.size ≤ 1000000000000) (hx : x.size ≤ 1000000000000) (m : Int) (w : World) (hm : w.cell? ⟨1, 0, none⟩ = some (.int .i64 m)) :
    Calls Tryz.prog 61 #[termV 1 t x] w fun e w' => e = .returned (.bool (noExtra x && isIRIB (bs t))) ∧ Below w.heap.size w w' := by
  have hBb : ∀ o, Below w.heap.size w (w.alloc o) := fun o => (Below.refl _ w).alloc (Nat.le_refl _) _
  go_enter Tryz.func61, Tryz.ntmps61
  go_wp2
  go_region_with (go_at_call 90; refine (requirements_any _).mono ?_; rintro e w2 ⟨b, c1, c2, c3, c4, c5, rfl, hmap, ⟨g1, g2, g3, g4, g5⟩, hB⟩; have hl := look_1 hmap; obtain ⟨hc0, hc1, hc2⟩ := box_cells hB)
  all_goals
    have hA : Answers w2 113 t (isIRIB (bs t)) := ⟨enters_of Tryz.func113 (by kernel_rfl) rfl, fun W hW => isIRI_any t ht W⟩
    go_wp2_with (go_at_call 109; refine (aloneClo_any 1 t x c1 113 _ _ g1 hA).mono ?_; rintro e w3 ⟨rfl, hB3⟩)
    go_ret
    exact ⟨rfl, may_below hB hB3⟩
set_option maxRecDepth 100000 in
set_option maxHeartbeats 2000000 in
theorem may_2 (t x : ByteArray) (ht : t.size ≤ 1000000000000) (hx : x.size ≤ 1000000000000) (m : Int) (w : World) (hm : w.cell? ⟨1, 0, none⟩ = some (.int .i64 m)) :
    Calls Tryz.prog 61 #[termV 2 t x] w fun e w' => e = .returned (.bool (noExtra x && isBlankB (bs t))) ∧ Below w.heap.size w w' := by
  have hBb : ∀ o, Below w.heap.size w (w.alloc o) := fun o => (Below.refl _ w).alloc (Nat.le_refl _) _
  go_enter Tryz.func61, Tryz.ntmps61
  go_wp2
  go_region_with (go_at_call 90; refine (requirements_any _).mono ?_; rintro e w2 ⟨b, c1, c2, c3, c4, c5, rfl, hmap, ⟨g1, g2, g3, g4, g5⟩, hB⟩; have hl := look_2 hmap; obtain ⟨hc0, hc1, hc2⟩ := box_cells hB)
  all_goals
    have hA : Answers w2 114 t (isBlankB (bs t)) := ⟨enters_of Tryz.func114 (by kernel_rfl) rfl, fun W hW => isBlank_any t ht W⟩
    go_wp2_with (go_at_call 109; refine (aloneClo_any 2 t x c2 114 _ _ g2 hA).mono ?_; rintro e w3 ⟨rfl, hB3⟩)
    go_ret
    exact ⟨rfl, may_below hB hB3⟩
set_option maxRecDepth 100000 in
set_option maxHeartbeats 2000000 in
theorem may_3 (t x : ByteArray) (ht : t.size ≤ 1000000000000) (hx : x.size ≤ 1000000000000) (m : Int) (w : World) (hm : w.cell? ⟨1, 0, none⟩ = some (.int .i64 m)) :
    Calls Tryz.prog 61 #[termV 3 t x] w fun e w' => e = .returned (.bool (noExtra x && isValueB (bs t))) ∧ Below w.heap.size w w' := by
  have hBb : ∀ o, Below w.heap.size w (w.alloc o) := fun o => (Below.refl _ w).alloc (Nat.le_refl _) _
  go_enter Tryz.func61, Tryz.ntmps61
  go_wp2
  go_region_with (go_at_call 90; refine (requirements_any _).mono ?_; rintro e w2 ⟨b, c1, c2, c3, c4, c5, rfl, hmap, ⟨g1, g2, g3, g4, g5⟩, hB⟩; have hl := look_3 hmap; obtain ⟨hc0, hc1, hc2⟩ := box_cells hB)
  all_goals
    have hA : Answers w2 112 t (isValueB (bs t)) := ⟨enters_of Tryz.func112 (by kernel_rfl) rfl, fun W hW => isValue_any t ht W⟩
    go_wp2_with (go_at_call 109; refine (aloneClo_any 3 t x c3 112 _ _ g3 hA).mono ?_; rintro e w3 ⟨rfl, hB3⟩)
    go_ret
    exact ⟨rfl, may_below hB hB3⟩
set_option maxRecDepth 100000 in
set_option maxHeartbeats 2000000 in
theorem may_4 (t x : ByteArray) (ht : t.size ≤ 1000000000000) (hx : x.size ≤ 1000000000000) (m : Int) (w : World) (hm : w.cell? ⟨1, 0, none⟩ = some (.int .i64 m)) :
    Calls Tryz.prog 61 #[termV 4 t x] w fun e w' => e = .returned (.bool (isTagS x && isValueB (bs t))) ∧ Below w.heap.size w w' := by
  have hBb : ∀ o, Below w.heap.size w (w.alloc o) := fun o => (Below.refl _ w).alloc (Nat.le_refl _) _
  have hz0 : 1 < w.heap.size := World.block_lt_of_cell? _ _ hm
  go_enter Tryz.func61, Tryz.ntmps61
  go_wp2
  go_region_with (go_at_call 90; refine (requirements_any _).mono ?_; rintro e w2 ⟨b, c1, c2, c3, c4, c5, rfl, hmap, ⟨g1, g2, g3, g4, g5⟩, hB⟩; have hl := look_4 hmap; obtain ⟨hc0, hc1, hc2⟩ := box_cells hB)
  all_goals
    have hz2 : 1 < w2.heap.size := by have := hB.size; simp at this; omega
    have hm2 : w2.cell? ⟨1, 0, none⟩ = some (.int .i64 m) := (hB.cell (p := ⟨1, 0, none⟩) (by simp; omega)).trans ((hBb (.cells #[.int .i64 4, .string t, .string x] 31)).cell (p := ⟨1, 0, none⟩) hz0 |>.trans hm)
    have hA : Answers w2 115 x (isTagS x) := ⟨enters_of Tryz.func115 (by kernel_rfl) rfl, fun W hW => isTag_any x hx m W ((hW.cell (p := ⟨1, 0, none⟩) hz2).trans hm2)⟩
    go_wp2_with (go_at_call 111; refine (besideClo_any 4 t x c4 115 _ _ ht g4 hA).mono ?_; rintro e w3 ⟨rfl, hB3⟩)
    go_ret
    exact ⟨rfl, may_below hB hB3⟩
set_option maxRecDepth 100000 in
set_option maxHeartbeats 2000000 in
theorem may_5 (t x : ByteArray) (ht : t.size ≤ 1000000000000) (hx : x.size ≤ 1000000000000) (m : Int) (w : World) (hm : w.cell? ⟨1, 0, none⟩ = some (.int .i64 m)) :
    Calls Tryz.prog 61 #[termV 5 t x] w fun e w' => e = .returned (.bool (isTypeB (bs x) && isValueB (bs t))) ∧ Below w.heap.size w w' := by
  have hBb : ∀ o, Below w.heap.size w (w.alloc o) := fun o => (Below.refl _ w).alloc (Nat.le_refl _) _
  go_enter Tryz.func61, Tryz.ntmps61
  go_wp2
  go_region_with (go_at_call 90; refine (requirements_any _).mono ?_; rintro e w2 ⟨b, c1, c2, c3, c4, c5, rfl, hmap, ⟨g1, g2, g3, g4, g5⟩, hB⟩; have hl := look_5 hmap; obtain ⟨hc0, hc1, hc2⟩ := box_cells hB)
  all_goals
    have hA : Answers w2 116 x (isTypeB (bs x)) := ⟨enters_of Tryz.func116 (by kernel_rfl) rfl, fun W hW => isType_any x hx W⟩
    go_wp2_with (go_at_call 111; refine (besideClo_any 5 t x c5 116 _ _ ht g5 hA).mono ?_; rintro e w3 ⟨rfl, hB3⟩)
    go_ret
    exact ⟨rfl, may_below hB hB3⟩
set_option maxRecDepth 100000 in
set_option maxHeartbeats 2000000 in
theorem may_other (k : Int) (hk : k < 1 ∨ 5 < k) (t x : ByteArray) (w : World) :
    Calls Tryz.prog 61 #[termV k t x] w fun e w' => e = .returned (.bool false) ∧ Below w.heap.size w w' := by
  have HK := Lib.hid hk
  clear hk
  go_enter Tryz.func61, Tryz.ntmps61
  go_wp2
  go_region_with (go_at_call 90; refine (requirements_any _).mono ?_; rintro e w2 ⟨b, c1, c2, c3, c4, c5, rfl, hmap, ⟨g1, g2, g3, g4, g5⟩, hB⟩; have hl := look_no hmap k HK.out; obtain ⟨hc0, hc1, hc2⟩ := box_cells hB)
  all_goals
    go_wp2
    go_ret
    exact ⟨rfl, may_below hB (Below.refl _ _)⟩

namespace Term
/-- Is a term valid? -/
def mayS (k : Int) (t x : ByteArray) : Bool :=
  if k = 1 then noExtra x && isIRIB (bs t) else if k = 2 then noExtra x && isBlankB (bs t) else if k = 3 then noExtra x && isValueB (bs t)
  else if k = 4 then isTagS x && isValueB (bs t) else if k = 5 then isTypeB (bs x) && isValueB (bs t) else false
end Term

theorem may_term (k : Int) (t x : ByteArray) (ht : t.size ≤ 1000000000000) (hx : x.size ≤ 1000000000000) (m : Int) (w : World) (hm : w.cell? ⟨1, 0, none⟩ = some (.int .i64 m)) :
    Calls Tryz.prog 61 #[termV k t x] w fun e w' => e = .returned (.bool (mayS k t x)) ∧ Below w.heap.size w w' := by
  unfold mayS
  by_cases h1 : k = 1
  · subst h1; exact may_1 t x ht hx m w hm
  · rw [if_neg h1]
    by_cases h2 : k = 2
    · subst h2; exact may_2 t x ht hx m w hm
    · rw [if_neg h2]
      by_cases h3 : k = 3
      · subst h3; exact may_3 t x ht hx m w hm
      · rw [if_neg h3]
        by_cases h4 : k = 4
        · subst h4; exact may_4 t x ht hx m w hm
        · rw [if_neg h4]
          by_cases h5 : k = 5
          · subst h5; exact may_5 t x ht hx m w hm
          · rw [if_neg h5]
            exact may_other k (by omega) t x w
end Go.Proofs.YtachijkjcbajmaaGreatDoor
