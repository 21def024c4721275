/-
  WHAT THE PROOF STANDS ON, a part of it: LexRefMayS.
-/
import Derived.Test.YtbcoklbfebmpoaaGreatDoorV19
import Derived.Test.YtbcoklbfebmpoaaGreatDoorV22
import Derived.Deep.DeepCutAuto
/-
  CONTRACT OF THE REFERENCE's may: a symbol whose term must be one that may be.
-/

namespace Go.Proofs.YtbcoklbfebmpoaaGreatDoor
open Go.RowKit
open Utf Term Lex
set_option linter.unusedVariables false
set_option linter.unusedSimpArgs false

set_option maxRecDepth 100000 in
set_option maxHeartbeats 4000000 in
theorem refMaySym_any (k : Int) (t : ByteArray) (tk : Int) (tt te : ByteArray) (p d : Int) (ht : tt.size ≤ 40000) (hx : te.size ≤ 40000) (w : World) :
    Calls Tryz.prog 38 #[.agg (symC k t tk tt te p), .int .i64 d] w fun e w' =>
      e = .returned (.tuple #[.agg (symC k t tk tt te p), .int .i64 (if 0 ≤ d ∧ mayS tk tt te = true then d else -1)]) ∧ Below w.heap.size w w' := by
  have hB : Below w.heap.size w ((w.alloc (.cells (symC k t tk tt te p) 64)).alloc (.cells zeroC 64)) := below_next (below_lex _ _) (below_lex _ _)
  have hX : BlockAt ((w.alloc (.cells (symC k t tk tt te p) 64)).alloc (.cells zeroC 64)) w.heap.size (symC k t tk tt te p) 64 := (block_new w _ _).kept (below_lex _ _)
  have hZ : BlockAt ((w.alloc (.cells (symC k t tk tt te p) 64)).alloc (.cells zeroC 64)) (w.heap.size + 1) zeroC 64 := by
    have := block_new (w.alloc (.cells (symC k t tk tt te p) 64)) zeroC 64
    rwa [World.size_alloc] at this
  obtain ⟨W0, hW0⟩ : ∃ W0, W0 = ((w.alloc (.cells (symC k t tk tt te p) 64)).alloc (.cells zeroC 64)) := ⟨_, rfl⟩
  rw [← hW0] at hB hX hZ
  have HM := Lib.hid (refmay_any tk tt te ht hx W0)
  have HB := Lib.hid hB
  have HX := Lib.hid hX
  have HZ := Lib.hid hZ
  have HW0 := Lib.hid hW0
  clear hB hX hZ hW0
  by_cases hd : 0 ≤ d
  · have d0 : decide (d < (0 : Int)) = false := by simp; omega
    cases hm : mayS tk tt te with
    | true =>
      rw [hm] at HM
      rw [if_pos ⟨hd, rfl⟩]
      clear hm
      go_enter Tryz.func38, Tryz.ntmps38
      go_upto_region 1 with fail
      rw [← HW0.out]
      have x2 := HX.out.cell (j := 2) rfl
      have x3 := HX.out.cell (j := 3) rfl
      have x4 := HX.out.cell (j := 4) rfl
      go_upto_region 3 with (go_at_call 42; refine HM.out.mono ?_; rintro e y ⟨rfl, hY⟩)
      have HB1 := Lib.hid (HB.out.trans (hY.mono HB.out.size))
      have HX1 := Lib.hid (HX.out.kept hY)
      have HZ1 := Lib.hid (HZ.out.kept hY)
      clear hY x2 x3 x4
      have x0 := HX1.out.cell (j := 0) rfl
      have x1 := HX1.out.cell (j := 1) rfl
      have x2 := HX1.out.cell (j := 2) rfl
      have x3 := HX1.out.cell (j := 3) rfl
      have x4 := HX1.out.cell (j := 4) rfl
      have x5 := HX1.out.cell (j := 5) rfl
      have k0 := HZ1.out.cell (j := 0) rfl
      have k1 := HZ1.out.cell (j := 1) rfl
      have k2 := HZ1.out.cell (j := 2) rfl
      have k3 := HZ1.out.cell (j := 3) rfl
      have k4 := HZ1.out.cell (j := 4) rfl
      have k5 := HZ1.out.cell (j := 5) rfl
      have kf : ∀ j, y.frozen? ⟨w.heap.size + 1, j, none⟩ = false := fun j => HZ1.out.free j
      go_wp2_with fail
      refine bodyPost_ret (results_lex rfl _ _ _ (w.heap.size + 1) 64 _ (0, 0) _ rfl (HZ1.out.set6 _ _ _ _ _ _) Tryz.underlying64 (by kernel_rfl)) rfl ⟨rfl, below_set6 HB1.out (Nat.le_succ _) _ _ _ _ _ _⟩
    | false =>
      rw [hm] at HM
      rw [if_neg (by simp)]
      clear hm
      go_enter Tryz.func38, Tryz.ntmps38
      go_upto_region 1 with fail
      rw [← HW0.out]
      have x2 := HX.out.cell (j := 2) rfl
      have x3 := HX.out.cell (j := 3) rfl
      have x4 := HX.out.cell (j := 4) rfl
      go_upto_region 2 with (go_at_call 42; refine HM.out.mono ?_; rintro e y ⟨rfl, hY⟩)
      have HB1 := Lib.hid (HB.out.trans (hY.mono HB.out.size))
      have HX1 := Lib.hid (HX.out.kept hY)
      have HZ1 := Lib.hid (HZ.out.kept hY)
      clear hY x2 x3 x4
      have x0 := HX1.out.cell (j := 0) rfl
      have x1 := HX1.out.cell (j := 1) rfl
      have x2 := HX1.out.cell (j := 2) rfl
      have x3 := HX1.out.cell (j := 3) rfl
      have x4 := HX1.out.cell (j := 4) rfl
      have x5 := HX1.out.cell (j := 5) rfl
      have k0 := HZ1.out.cell (j := 0) rfl
      have k1 := HZ1.out.cell (j := 1) rfl
      have k2 := HZ1.out.cell (j := 2) rfl
      have k3 := HZ1.out.cell (j := 3) rfl
      have k4 := HZ1.out.cell (j := 4) rfl
      have k5 := HZ1.out.cell (j := 5) rfl
      have kf : ∀ j, y.frozen? ⟨w.heap.size + 1, j, none⟩ = false := fun j => HZ1.out.free j
      go_wp2_with fail
      refine bodyPost_ret (results_lex rfl _ _ _ (w.heap.size + 1) 64 _ (0, 0) _ rfl (HZ1.out.set6 _ _ _ _ _ _) Tryz.underlying64 (by kernel_rfl)) rfl ⟨rfl, below_set6 HB1.out (Nat.le_succ _) _ _ _ _ _ _⟩
  · have d0 : decide (d < (0 : Int)) = true := by simp; omega
    rw [if_neg (fun h => hd h.1)]
    go_enter Tryz.func38, Tryz.ntmps38
    go_upto_region 1 with fail
    rw [← HW0.out]
    have x0 := HX.out.cell (j := 0) rfl
    have x1 := HX.out.cell (j := 1) rfl
    have x2 := HX.out.cell (j := 2) rfl
    have x3 := HX.out.cell (j := 3) rfl
    have x4 := HX.out.cell (j := 4) rfl
    have x5 := HX.out.cell (j := 5) rfl
    have k0 := HZ.out.cell (j := 0) rfl
    have k1 := HZ.out.cell (j := 1) rfl
    have k2 := HZ.out.cell (j := 2) rfl
    have k3 := HZ.out.cell (j := 3) rfl
    have k4 := HZ.out.cell (j := 4) rfl
    have k5 := HZ.out.cell (j := 5) rfl
    have kf : ∀ j, W0.frozen? ⟨w.heap.size + 1, j, none⟩ = false := fun j => HZ.out.free j
    go_wp2_with fail
    refine bodyPost_ret (results_lex rfl _ _ _ (w.heap.size + 1) 64 _ (0, 0) _ rfl (HZ.out.set6 _ _ _ _ _ _) Tryz.underlying64 (by kernel_rfl)) rfl ⟨rfl, below_set6 HB.out (Nat.le_succ _) _ _ _ _ _ _⟩
end Go.Proofs.YtbcoklbfebmpoaaGreatDoor

