/-
  SORTING A ROW OF NUMBERS OF 32 BITS: what stays, cmp.Less.
-/
import Derived.Test.YtloonndeojfepaaOn
import Derived.Test.YtloonndeojfepaaChecked
import Derived.Sort.Row
import Derived.Sort.LotD3
import Derived.Deep.RegionHeld3
import Derived.Deep.LoopGhost
import Derived.Deep.RegionWith
import Derived.BigQuiet
import Derived.Deep.QuietTactic
import Derived.Deep.Cut
import Derived.IntWalk
import Derived.Lib.Hide
import Derived.Great.Walk
namespace Go.Proofs.Ytloonndeojfepaa
open Go.RowKit Go.Sort
set_option linter.unusedVariables false
set_option linter.unusedSimpArgs false

abbrev encU (n : Nat) : Value := .int .u32 (n : Int)
abbrev ltU (a b : Nat) : Bool := decide (a < b)
theorem swoU : SWO ltU where
  irrefl := fun x => by simp
  trans := fun x y z h1 h2 => by simp at *; omega
  ntrans := fun x y z h1 h2 => by simp at *; omega
/-- A row holds d; all blocks but its own lie as in W0. -/
structure SrtW (W0 : World) (blk off : Nat) (d : Array Nat) (W : World) : Prop where
  holds : Holds encU W blk off d
  turned : Turned (fun j => j = blk) W0 W
section
variable {W0 W : World} {blk off : Nat} {d : Array Nat}
theorem SrtW.cell (h : SrtW W0 blk off d W) {i : Nat} (hi : i < d.size) : W.cell? ⟨blk, off + i, none⟩ = some (.int .u32 (d[i]! : Int)) := (h.holds i hi).1
theorem SrtW.free (h : SrtW W0 blk off d W) {i : Nat} (hi : i < d.size) : W.frozen? ⟨blk, off + i, none⟩ = false := (h.holds i hi).2
theorem SrtW.drew (h : SrtW W0 blk off d W) : SrtW W0 blk off d W.drew := ⟨fun j hj => h.holds j hj, h.turned.drew⟩
theorem SrtW.drewN (h : SrtW W0 blk off d W) (k : Nat) : SrtW W0 blk off d (W.drewN k) := ⟨fun j hj => h.holds j hj, ⟨h.turned.os, h.turned.tape, h.turned.output, h.turned.size, h.turned.block⟩⟩
theorem SrtW.put (h : SrtW W0 blk off d W) {i : Nat} (hi : i < d.size) (x : Nat) : SrtW W0 blk off (d.setIfInBounds i x) (W.setCell ⟨blk, off + i, none⟩ (encU x)) := by
  refine ⟨fun j hj => ⟨?_, by rw [World.frozen?_setCell]; exact (h.holds j (by simpa using hj)).2⟩, h.turned.trans (Turned.set (S := fun j => j = blk) (a := ⟨blk, off + i, none⟩) rfl _)⟩
  rw [Array.size_setIfInBounds] at hj
  by_cases e : j = i
  · subst e
    rw [getElem!_set_same d j x hi]
    exact World.cell?_setCell_same' W ⟨blk, off + j, none⟩ _ (by rw [(h.holds j hi).1]; rfl)
  · rw [getElem!_set_other d i j x e]
    exact (World.cell?_setCell_other W ⟨blk, off + i, none⟩ ⟨blk, off + j, none⟩ _ (fun e2 => e (by injection e2 with _ e3; omega))).trans (h.holds j hj).1
/-- Two numbers change places. -/
theorem SrtW.swap (h : SrtW W0 blk off d W) {i j : Nat} (hi : i < d.size) (hj : j < d.size) : SrtW W0 blk off (swp d i j) ((W.setCell ⟨blk, off + i, none⟩ (.int .u32 (d[j]! : Int))).setCell ⟨blk, off + j, none⟩ (.int .u32 (d[i]! : Int))) :=
  (h.put hi d[j]!).put (by simpa using hj) d[i]!
theorem SrtW.size_swp (i j : Nat) : (swp d i j).size = d.size := by simp [swp]
end
set_option maxRecDepth 100000 in
theorem isNaN_any (n : Nat) (w : World) : Calls Try.prog 42 #[.int .u32 (n : Int)] w fun e w' => e = .returned (.bool false) ∧ w' = w := by
  have e : ((n : Int) != (n : Int)) = false := by simp
  go_enter Try.func42, Try.ntmps42
  go_wp2
  go_ret
  exact ⟨by simp, rfl⟩
set_option maxRecDepth 100000 in
theorem less_any (a b : Nat) (w : World) : Calls Try.prog 61 #[.int .u32 (a : Int), .int .u32 (b : Int)] w fun e w' => e = .returned (.bool (decide (a < b))) ∧ w' = w := by
  have HN := Lib.hid isNaN_any
  go_enter Try.func61, Try.ntmps61
  go_wp2_with (go_at_call 42; refine (HN.out _ _).mono ?_; rintro e w' ⟨rfl, rfl⟩)
  go_ret
  exact ⟨by simp, rfl⟩
end Go.Proofs.Ytloonndeojfepaa
