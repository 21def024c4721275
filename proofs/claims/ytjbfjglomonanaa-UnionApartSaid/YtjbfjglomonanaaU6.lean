/-
  WHAT THE PROOF STANDS ON, a part of it: UnNone, UnFind.
-/
import Derived.Test.YtjbfjglomonanaaU1
import Derived.Test.YtjbfjglomonanaaChecked
import Derived.Lib.Hide
import Derived.Great.Walk
import Derived.Below
import Derived.WideMake
import Derived.Test.YtjbfjglomonanaaU5
/-
  CONTRACTS OF isNone AND New.
-/

namespace Go.Proofs.Ytjbfjglomonanaa
open Go.RowKit
open Go.WideMaps
set_option linter.unusedVariables false
set_option linter.unusedSimpArgs false

theorem run_map_some (b : Nat) (w : World) : (binOp .eql 46 (.map (some b)) (.map none)).run Try.prog w = .ok (.bool false) w := by kernel_rfl
set_option maxRecDepth 100000 in
theorem isNone_some {w : World} {pb cb : Nat} (h : w.cell? ⟨pb, 1, none⟩ = some (.map (some cb))) : Calls Try.prog 18 #[.pointer (some ⟨pb, 0, none⟩)] w fun e w' => e = .returned (.bool false) ∧ w' = w := by
  have hm := run_map_some
  go_enter Try.func18, Try.ntmps18
  go_wp2
  go_ret
  exact ⟨rfl, rfl⟩
set_option maxRecDepth 100000 in
/-- New: two maps of nothing, and a struct of them. -/
theorem new_any (w : World) : Calls Try.prog 7 #[] w fun e w' => e = .returned (.pointer (some ⟨w.heap.size + 2, 0, none⟩)) ∧ Below w.heap.size w w' ∧ w'.heap.size = w.heap.size + 3 ∧
    w'.heap[w.heap.size]? = some (.map #[] 0) ∧ w'.heap[w.heap.size + 1]? = some (.map #[] 0) ∧ w'.heap[w.heap.size + 2]? = some (.cells #[.map (some w.heap.size), .map (some (w.heap.size + 1))] 48 (0, 0)) := by
  have hmm := @run_makeMap_plain Try.prog
  have s1 : (w.alloc (.map #[] 0)).heap.size = w.heap.size + 1 := World.size_alloc _ _
  have s2 : ((w.alloc (.map #[] 0)).alloc (.map #[] 0)).heap.size = w.heap.size + 1 + 1 := by rw [World.size_alloc, s1]
  have HEnd : Hid (∀ U : World, U = ((w.alloc (.map #[] 0)).alloc (.map #[] 0)).alloc (.cells #[.map (some w.heap.size), .map (some (w.heap.size + 1))] 48) → Below w.heap.size w U ∧ U.heap.size = w.heap.size + 3 ∧
      U.heap[w.heap.size]? = some (.map #[] 0) ∧ U.heap[w.heap.size + 1]? = some (.map #[] 0) ∧ U.heap[w.heap.size + 2]? = some (.cells #[.map (some w.heap.size), .map (some (w.heap.size + 1))] 48 (0, 0))) := Lib.hid (by
    rintro U rfl
    have a1 := heap_alloc_new w (.map #[] 0)
    have a2 := heap_alloc_new (w.alloc (.map #[] 0)) (.map #[] 0)
    have a3 := heap_alloc_new ((w.alloc (.map #[] 0)).alloc (.map #[] 0)) (.cells #[.map (some w.heap.size), .map (some (w.heap.size + 1))] 48)
    rw [s1] at a2
    rw [s2] at a3
    refine ⟨(((Below.refl w.heap.size w).alloc (Nat.le_refl _) (.map #[] 0)).alloc (by rw [s1]; omega) (.map #[] 0)).alloc (by rw [s2]; omega) _, by rw [World.size_alloc, s2], ?_, ?_, a3⟩
    · exact ((Below.heap_alloc _ _ _ (by rw [s2]; omega)).trans (Below.heap_alloc _ _ _ (by rw [s1]; omega))).trans a1
    · exact (Below.heap_alloc _ _ _ (by rw [s2]; omega)).trans a2)
  clear s1 s2
  go_enter Try.func7, Try.ntmps7
  go_wp2
  go_ret
  exact ⟨by simp, HEnd.out _ rfl⟩
end Go.Proofs.Ytjbfjglomonanaa

/-
  A PARTITION'S BLOCKS IN MEMORY (its struct, its two maps); CONTRACTS OF Find AND Len.
-/

namespace Go.Proofs.Ytjbfjglomonanaa
open Go.RowKit
set_option linter.unusedVariables false
set_option linter.unusedSimpArgs false

/-- A clique as it lies: the least of it, and its list's header. -/
structure ClD where
  least : Nat
  ao : Option Addr
  len : Nat
  cap : Nat
abbrev clV (c : ClD) : Value := .agg #[.int .u32 (c.least : Int), .slice c.ao c.len c.cap]
abbrev clZ : Value := .agg #[.int .u32 0, .slice none 0 0]
/-- The struct of a partition, and the two maps. -/
structure PartM (W : World) (pb nb cb : Nat) (nm : Nat → Option Nat) (cl : Nat → Option ClD) : Prop where
  blk : W.heap[pb]? = some (.cells #[.map (some nb), .map (some cb)] 48 (0, 0))
  names : MapU keyU W nb nm
  cliques : MapU clV W cb cl
theorem zero_u32 (W : World) : (zeroValue 23).run Try.prog W = .ok (.int .u32 0) W := by kernel_rfl
theorem zero_cl (W : World) : (zeroValue 50).run Try.prog W = .ok clZ W := by kernel_rfl
theorem run_least (l : Int) (ao : Option Addr) (len cap : Nat) (W : World) : (Instr.field 50 (.agg #[.int .u32 l, .slice ao len cap]) 0).run Try.prog W = .ok (.int .u32 l) W := by kernel_rfl
section
variable {W : World} {pb nb cb : Nat} {nm : Nat → Option Nat} {cl : Nat → Option ClD}
theorem PartM.lookName (h : PartM W pb nb cb nm cl) (a : Nat) : (Instr.lookup 45 (.map (some nb)) (keyU a) true).run Try.prog W = .ok (.tuple #[((nm a).map keyU).getD (.int .u32 0), .bool (nm a).isSome]) W :=
  h.names.look Try.underlying45 Try.underlying23 (zero_u32 W) a
theorem PartM.lookClique (h : PartM W pb nb cb nm cl) (a : Nat) : (Instr.lookup 46 (.map (some cb)) (keyU a) false).run Try.prog W = .ok (((cl a).map clV).getD clZ) W :=
  h.cliques.look1 Try.underlying46 Try.underlying23 (zero_cl W) a
/-- What Find tells. -/
def findF (nm : Nat → Option Nat) (cl : Nat → Option ClD) (a : Nat) : Nat := match nm a with
  | none => a
  | some n => ((cl n).map (·.least)).getD 0
set_option maxRecDepth 100000 in
theorem find_any (h : PartM W pb nb cb nm cl) (a : Nat) : Calls Try.prog 14 #[.pointer (some ⟨pb, 0, none⟩), .int .u32 (a : Int)] W fun e w' => e = .returned (.int .u32 (findF nm cl a : Int)) ∧ w' = W := by
  have c0 : W.cell? ⟨pb, 0, none⟩ = some (.map (some nb)) := cell_in h.blk rfl
  have c1 : W.cell? ⟨pb, 1, none⟩ = some (.map (some cb)) := cell_in h.blk rfl
  have HI := Lib.hid (isNone_some c1)
  have hl := h.lookName a
  have hfl := run_least
  unfold findF
  cases hn : nm a with
  | none =>
    rw [hn] at hl
    simp only [Option.map_none, Option.getD_none, Option.isSome_none] at hl
    clear h
    go_enter Try.func14, Try.ntmps14
    go_wp2_with (go_at_call 18; refine HI.out.mono ?_; rintro e w' ⟨rfl, rfl⟩)
    go_ret
    exact ⟨rfl, rfl⟩
  | some n =>
    rw [hn] at hl
    simp only [Option.map_some, Option.getD_some, Option.isSome_some] at hl
    have hc := h.lookClique n
    dsimp only
    cases hx : cl n with
    | none =>
      rw [hx] at hc
      simp only [Option.map_none, Option.getD_none] at hc
      change _ = Result.ok (Value.agg #[.int .u32 0, .slice none 0 0]) _ at hc
      clear h
      go_enter Try.func14, Try.ntmps14
      go_wp2_with (go_at_call 18; refine HI.out.mono ?_; rintro e w' ⟨rfl, rfl⟩)
      go_ret
      exact ⟨rfl, rfl⟩
    | some c =>
      rw [hx] at hc
      simp only [Option.map_some, Option.getD_some] at hc
      change _ = Result.ok (Value.agg #[.int .u32 (c.least : Int), .slice c.ao c.len c.cap]) _ at hc
      clear h
      go_enter Try.func14, Try.ntmps14
      go_wp2_with (go_at_call 18; refine HI.out.mono ?_; rintro e w' ⟨rfl, rfl⟩)
      go_ret
      exact ⟨rfl, rfl⟩
end
end Go.Proofs.Ytjbfjglomonanaa

