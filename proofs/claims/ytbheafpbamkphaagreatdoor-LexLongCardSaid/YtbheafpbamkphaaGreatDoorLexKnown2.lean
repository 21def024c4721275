/-
  THE CONTRACT OF the law's known.
-/
import Derived.Test.YtbheafpbamkphaaGreatDoorLexKnown
namespace Go.Proofs.YtbheafpbamkphaaGreatDoor
open Go.RowKit
open Utf Term Lex
set_option linter.unusedVariables false
set_option linter.unusedSimpArgs false

set_option maxRecDepth 100000 in
set_option maxHeartbeats 8000000 in
theorem known4_any (w : World) (hv : LexEnv w) (hrp : 0 < w.heap.size ∧ 1 < w.heap.size ∧ 2 < w.heap.size) :
    Calls Tryz.prog 7 #[] w fun e w' => e = .returned (.bool true) ∧ Below w.heap.size w w' := by
  have HA := Lib.hid (all_a w hv hrp)
  have Hv := Lib.hid hv
  have Hrp := Lib.hid hrp
  clear hv hrp
  go_enter Tryz.func7, Tryz.ntmps7
  go_wp2_with fail
  refine HA.out.mono ?_
  rintro e w1 ⟨g, cg, rfl, hr1, hB1⟩
  have HB := Lib.hid (all_b w1 (Hv.out.below hB1) ⟨Nat.lt_of_lt_of_le Hrp.out.1 hB1.size, Nat.lt_of_lt_of_le Hrp.out.2.1 hB1.size, Nat.lt_of_lt_of_le Hrp.out.2.2 hB1.size⟩)
  have HR1 := Lib.hid hr1
  have HB1 := Lib.hid hB1
  clear hr1 hB1 HA
  go_wp2_with fail
  refine HB.out.mono ?_
  rintro e w2 ⟨h, ch, rfl, hr2, hB2⟩
  have HA2 := Lib.hid (HR1.out.below hB2)
  have HR2 := Lib.hid hr2
  have HB2 := Lib.hid (below_next HB1.out hB2)
  clear hr2 hB2 HB HR1
  have a0 := HA2.out 0 (.int .i64 1) (by kernel_rfl)
  have a6 := HA2.out 6 (.int .i64 8) (by kernel_rfl)
  have a7 := HA2.out 7 (.string ⟨#[58, 45]⟩) (by kernel_rfl)
  have a8 := HA2.out 8 (.int .i64 0) (by kernel_rfl)
  have a9 := HA2.out 9 (.string ⟨#[]⟩) (by kernel_rfl)
  have a10 := HA2.out 10 (.string ⟨#[]⟩) (by kernel_rfl)
  have a11 := HA2.out 11 (.int .i64 3) (by kernel_rfl)
  have a13 := HA2.out 13 (.string ⟨#[120]⟩) (by kernel_rfl)
  have a18 := HA2.out 18 (.int .i64 8) (by kernel_rfl)
  have a19 := HA2.out 19 (.string ⟨#[33, 61]⟩) (by kernel_rfl)
  have a20 := HA2.out 20 (.int .i64 0) (by kernel_rfl)
  have a21 := HA2.out 21 (.string ⟨#[]⟩) (by kernel_rfl)
  have a22 := HA2.out 22 (.string ⟨#[]⟩) (by kernel_rfl)
  have a23 := HA2.out 23 (.int .i64 8) (by kernel_rfl)
  have a25 := HA2.out 25 (.string ⟨#[98]⟩) (by kernel_rfl)
  have a31 := HA2.out 31 (.string ⟨#[101, 110]⟩) (by kernel_rfl)
  have a36 := HA2.out 36 (.int .i64 8) (by kernel_rfl)
  have a37 := HA2.out 37 (.string ⟨#[46]⟩) (by kernel_rfl)
  have a38 := HA2.out 38 (.int .i64 0) (by kernel_rfl)
  have a39 := HA2.out 39 (.string ⟨#[]⟩) (by kernel_rfl)
  have a40 := HA2.out 40 (.string ⟨#[]⟩) (by kernel_rfl)
  have a41 := HA2.out 41 (.int .i64 18) (by kernel_rfl)
  have b0 := HR2.out 0 (.int .i64 7) (by kernel_rfl)
  have b1 := HR2.out 1 (.string ⟨#[97, 58, 98, 45, 99]⟩) (by kernel_rfl)
  have b6 := HR2.out 6 (.int .i64 6) (by kernel_rfl)
  have b7 := HR2.out 7 (.string ⟨#[97]⟩) (by kernel_rfl)
  have b8 := HR2.out 8 (.int .i64 0) (by kernel_rfl)
  have b9 := HR2.out 9 (.string ⟨#[]⟩) (by kernel_rfl)
  have b10 := HR2.out 10 (.string ⟨#[]⟩) (by kernel_rfl)
  have b11 := HR2.out 11 (.int .i64 6) (by kernel_rfl)
  have b13 := HR2.out 13 (.string ⟨#[58]⟩) (by kernel_rfl)
  go_wp2_with (go_at_call 11; refine (num4_any _ _).mono ?_; rintro e w' ⟨rfl, rfl⟩)
  refine (markIs_at _ _ _ _ _ _ _ true (by decide +kernel) _).mono ?_
  rintro e w3 ⟨rfl, hB3⟩
  clear a0 a6 a7 a8 a9 a10 a11 a13 a18 a19 a20 a21 a22 a23 a25 a31 a36 a37 a38 a39 a40 a41 b0 b1 b6 b7 b8 b9 b10 b11 b13
  have HA3 := Lib.hid (HA2.out.below hB3)
  have HR3 := Lib.hid (HR2.out.below hB3)
  have HB3 := Lib.hid (below_next HB2.out hB3)
  clear hB3
  have a13 := HA3.out 13 (.string ⟨#[120]⟩) (by kernel_rfl)
  have a18 := HA3.out 18 (.int .i64 8) (by kernel_rfl)
  have a19 := HA3.out 19 (.string ⟨#[33, 61]⟩) (by kernel_rfl)
  have a20 := HA3.out 20 (.int .i64 0) (by kernel_rfl)
  have a21 := HA3.out 21 (.string ⟨#[]⟩) (by kernel_rfl)
  have a22 := HA3.out 22 (.string ⟨#[]⟩) (by kernel_rfl)
  have a23 := HA3.out 23 (.int .i64 8) (by kernel_rfl)
  have a25 := HA3.out 25 (.string ⟨#[98]⟩) (by kernel_rfl)
  have a31 := HA3.out 31 (.string ⟨#[101, 110]⟩) (by kernel_rfl)
  have a36 := HA3.out 36 (.int .i64 8) (by kernel_rfl)
  have a37 := HA3.out 37 (.string ⟨#[46]⟩) (by kernel_rfl)
  have a38 := HA3.out 38 (.int .i64 0) (by kernel_rfl)
  have a39 := HA3.out 39 (.string ⟨#[]⟩) (by kernel_rfl)
  have a40 := HA3.out 40 (.string ⟨#[]⟩) (by kernel_rfl)
  have a41 := HA3.out 41 (.int .i64 18) (by kernel_rfl)
  have b0 := HR3.out 0 (.int .i64 7) (by kernel_rfl)
  have b1 := HR3.out 1 (.string ⟨#[97, 58, 98, 45, 99]⟩) (by kernel_rfl)
  have b6 := HR3.out 6 (.int .i64 6) (by kernel_rfl)
  have b7 := HR3.out 7 (.string ⟨#[97]⟩) (by kernel_rfl)
  have b8 := HR3.out 8 (.int .i64 0) (by kernel_rfl)
  have b9 := HR3.out 9 (.string ⟨#[]⟩) (by kernel_rfl)
  have b10 := HR3.out 10 (.string ⟨#[]⟩) (by kernel_rfl)
  have b11 := HR3.out 11 (.int .i64 6) (by kernel_rfl)
  have b13 := HR3.out 13 (.string ⟨#[58]⟩) (by kernel_rfl)
  go_wp2_with fail
  refine (markIs_at _ _ _ _ _ _ _ true (by decide +kernel) _).mono ?_
  rintro e w4 ⟨rfl, hB4⟩
  clear a13 a18 a19 a20 a21 a22 a23 a25 a31 a36 a37 a38 a39 a40 a41 b0 b1 b6 b7 b8 b9 b10 b11 b13
  have HA4 := Lib.hid (HA3.out.below hB4)
  have HR4 := Lib.hid (HR3.out.below hB4)
  have HB4 := Lib.hid (below_next HB3.out hB4)
  clear hB4
  have a25 := HA4.out 25 (.string ⟨#[98]⟩) (by kernel_rfl)
  have a31 := HA4.out 31 (.string ⟨#[101, 110]⟩) (by kernel_rfl)
  have a36 := HA4.out 36 (.int .i64 8) (by kernel_rfl)
  have a37 := HA4.out 37 (.string ⟨#[46]⟩) (by kernel_rfl)
  have a38 := HA4.out 38 (.int .i64 0) (by kernel_rfl)
  have a39 := HA4.out 39 (.string ⟨#[]⟩) (by kernel_rfl)
  have a40 := HA4.out 40 (.string ⟨#[]⟩) (by kernel_rfl)
  have a41 := HA4.out 41 (.int .i64 18) (by kernel_rfl)
  have b0 := HR4.out 0 (.int .i64 7) (by kernel_rfl)
  have b1 := HR4.out 1 (.string ⟨#[97, 58, 98, 45, 99]⟩) (by kernel_rfl)
  have b6 := HR4.out 6 (.int .i64 6) (by kernel_rfl)
  have b7 := HR4.out 7 (.string ⟨#[97]⟩) (by kernel_rfl)
  have b8 := HR4.out 8 (.int .i64 0) (by kernel_rfl)
  have b9 := HR4.out 9 (.string ⟨#[]⟩) (by kernel_rfl)
  have b10 := HR4.out 10 (.string ⟨#[]⟩) (by kernel_rfl)
  have b11 := HR4.out 11 (.int .i64 6) (by kernel_rfl)
  have b13 := HR4.out 13 (.string ⟨#[58]⟩) (by kernel_rfl)
  go_wp2_with fail
  refine (markIs_at _ _ _ _ _ _ _ true (by decide +kernel) _).mono ?_
  rintro e w5 ⟨rfl, hB5⟩
  clear a25 a31 a36 a37 a38 a39 a40 a41 b0 b1 b6 b7 b8 b9 b10 b11 b13
  have HR5 := Lib.hid (HR4.out.below hB5)
  have HB5 := Lib.hid (below_next HB4.out hB5)
  clear hB5
  have b0 := HR5.out 0 (.int .i64 7) (by kernel_rfl)
  have b1 := HR5.out 1 (.string ⟨#[97, 58, 98, 45, 99]⟩) (by kernel_rfl)
  have b6 := HR5.out 6 (.int .i64 6) (by kernel_rfl)
  have b7 := HR5.out 7 (.string ⟨#[97]⟩) (by kernel_rfl)
  have b8 := HR5.out 8 (.int .i64 0) (by kernel_rfl)
  have b9 := HR5.out 9 (.string ⟨#[]⟩) (by kernel_rfl)
  have b10 := HR5.out 10 (.string ⟨#[]⟩) (by kernel_rfl)
  have b11 := HR5.out 11 (.int .i64 6) (by kernel_rfl)
  have b13 := HR5.out 13 (.string ⟨#[58]⟩) (by kernel_rfl)
  go_wp2_with fail
  refine (wordIs_at _ _ (by decide) _ _ _ _ _ true (by decide +kernel) _).mono ?_
  rintro e w6 ⟨rfl, hB6⟩
  clear b0 b1 b6 b7 b8 b9 b10 b11 b13
  have HR6 := Lib.hid (HR5.out.below hB6)
  have HB6 := Lib.hid (below_next HB5.out hB6)
  clear hB6
  have b13 := HR6.out 13 (.string ⟨#[58]⟩) (by kernel_rfl)
  go_wp2
  go_ret
  exact ⟨rfl, HB6.out⟩
end Go.Proofs.YtbheafpbamkphaaGreatDoor
