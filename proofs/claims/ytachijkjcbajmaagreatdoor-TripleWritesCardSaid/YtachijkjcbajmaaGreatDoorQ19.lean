/-
  WHAT THE PROOF STANDS ON, a part of it: Triple.
-/
import Derived.Test.YtachijkjcbajmaaGreatDoorQ16
import Derived.Test.YtachijkjcbajmaaGreatDoorQ18
/-
  CONTRACT OF MayFollow.
-/

namespace Go.Proofs.YtachijkjcbajmaaGreatDoor
open Go.RowKit
open Utf Term
set_option linter.unusedVariables false

set_option maxRecDepth 100000 in
set_option maxHeartbeats 2000000 in
theorem mayFollow_any (a b c : TermD) (ha : Fits a) (hb : Fits b) (hc : Fits c) (m : Int) (w : World) (hm : w.cell? ⟨1, 0, none⟩ = some (.int .i64 m)) :
    Calls Tryz.prog 69 #[tripleV a b c] w fun e w' => e = .returned (.bool (mayD a && mayD b && mayD c)) ∧ Below w.heap.size w w' := by
  have i0 := idx0 a b c
  have i1 := idx1 a b c
  have i2 := idx2 a b c
  have HM := Lib.hid hm
  have MA := fun v h => mayD_any (v := v) ha h m
  have MB := fun v h => mayD_any (v := v) hb h m
  have MC := fun v h => mayD_any (v := v) hc h m
  generalize mayD a = va at *
  generalize mayD b = vb at *
  generalize mayD c = vc at *
  clear hm ha hb hc
  go_enter Tryz.func69, Tryz.ntmps69
  go_wp2
  refine wp_loop_rounds 4 ?_
  rw [rounds_succ]
  go_wp2_with fail
  have B0 : Hid (Below w.heap.size w ((w.alloc (.cells #[.int .i64 a.1, .string a.2.1, .string a.2.2, .int .i64 b.1, .string b.2.1, .string b.2.2, .int .i64 c.1, .string c.2.1, .string c.2.2] 51)).alloc (.cells #[.int .i64 a.1, .string a.2.1, .string a.2.2] 31))) :=
    Lib.hid (below_step (below_new _ _) (below_new _ _))
  refine (MA va rfl _ (cell_below B0.out HM.out)).mono ?_
  rintro e w1 ⟨rfl, hB1⟩
  have B1 := Lib.hid (below_step B0.out hB1)
  clear B0 hB1
  cases va with
  | false =>
    go_wp2_with fail
    go_ret
    exact ⟨rfl, B1.out⟩
  | true =>
    go_wp2_with fail
    rw [rounds_succ]
    go_wp2_with fail
    have B2 := Lib.hid (below_step B1.out (below_new w1 (.cells #[.int .i64 b.1, .string b.2.1, .string b.2.2] 31)))
    refine (MB vb rfl _ (cell_below B2.out HM.out)).mono ?_
    rintro e w2 ⟨rfl, hB2⟩
    have B3 := Lib.hid (below_step B2.out hB2)
    clear B1 B2 hB2
    cases vb with
    | false =>
      go_wp2_with fail
      go_ret
      exact ⟨rfl, B3.out⟩
    | true =>
      go_wp2_with fail
      rw [rounds_succ]
      go_wp2_with fail
      have B4 := Lib.hid (below_step B3.out (below_new w2 (.cells #[.int .i64 c.1, .string c.2.1, .string c.2.2] 31)))
      refine (MC vc rfl _ (cell_below B4.out HM.out)).mono ?_
      rintro e w3 ⟨rfl, hB3⟩
      have B5 := Lib.hid (below_step B4.out hB3)
      clear B3 B4 hB3
      cases vc with
      | false =>
        go_wp2_with fail
        go_ret
        exact ⟨rfl, B5.out⟩
      | true =>
        go_wp2_with fail
        rw [rounds_succ]
        go_wp2_with fail
        go_ret
        exact ⟨rfl, B5.out⟩
end Go.Proofs.YtachijkjcbajmaaGreatDoor
